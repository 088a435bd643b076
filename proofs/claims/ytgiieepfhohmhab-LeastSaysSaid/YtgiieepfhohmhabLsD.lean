/- The law LeastSays: its walk. -/
import Derived.Test.YtgiieepfhohmhabLsC
namespace Go.Proofs.Ytgiieepfhohmhab
open Go.RowKit

theorem hv_id : ∀ (n m : Nat), m ≤ n → hv m ≤ m
  | 0, m, h => by rw [hv_small (by omega)]; exact Nat.zero_le _
  | n + 1, m, h => by
    by_cases hm : m ≤ 1
    · rw [hv_small hm]; exact Nat.zero_le _
    · rw [hv_big hm]
      have := hv_id n ((m + 1) / 2) (by omega)
      omega
theorem four_boxes (w : World) (a b c d : Obj) : ((((w.alloc a).alloc b).alloc c).alloc d).heap[w.heap.size]? = some a ∧ ((((w.alloc a).alloc b).alloc c).alloc d).heap[w.heap.size + 1]? = some b ∧ ((((w.alloc a).alloc b).alloc c).alloc d).heap[w.heap.size + 1 + 1]? = some c ∧ ((((w.alloc a).alloc b).alloc c).alloc d).heap[w.heap.size + 1 + 1 + 1]? = some d := by
  have s1 : (w.alloc a).heap.size = w.heap.size + 1 := by simp [go_sem]
  have s2 : ((w.alloc a).alloc b).heap.size = w.heap.size + 1 + 1 := by simp [go_sem]
  have s3 : (((w.alloc a).alloc b).alloc c).heap.size = w.heap.size + 1 + 1 + 1 := by simp [go_sem]
  refine ⟨?_, ?_, ?_, ?_⟩
  · rw [heap_alloc_old _ _ (by omega), heap_alloc_old _ _ (by omega), heap_alloc_old _ _ (by omega)]
    exact heap_alloc_new w _
  · rw [heap_alloc_old _ _ (by omega), heap_alloc_old _ _ (by omega), ← s1]
    exact heap_alloc_new _ _
  · rw [heap_alloc_old _ _ (by omega), ← s2]
    exact heap_alloc_new _ _
  · rw [← s3]
    exact heap_alloc_new _ _

set_option maxRecDepth 100000 in
set_option maxHeartbeats 4000000 in
theorem least_long (l : List Bool) (xs ys : List Int) (la xa ya : Option Addr) (lc xc yc : Nat) (w : World) (h : 300 < l.length ∨ 100 < xs.length ∨ 100 < ys.length) :
    Calls Try.prog 3 #[.slice la l.length lc, .slice xa xs.length xc, .slice ya ys.length yc] w fun e w' => e = .returned (.bool true) ∧ Below w.heap.size w w' := by
  have ways : ((300 : Int) < (l.length : Int)) ∨ (¬ ((300 : Int) < (l.length : Int)) ∧ (100 : Int) < (xs.length : Int)) ∨ (¬ ((300 : Int) < (l.length : Int)) ∧ ¬ (100 : Int) < (xs.length : Int) ∧ (100 : Int) < (ys.length : Int)) := by omega
  have hb : Below w.heap.size w (w.alloc (.cells #[.slice la l.length lc] 22)) := (Below.refl _ w).alloc (Nat.le_refl _) _
  have HB := hidL hb
  clear hb h
  rcases ways with h | ⟨h, h'⟩ | ⟨h, h', h''⟩
  all_goals
    go_enter Try.func3, Try.ntmps3
    go_wp2_with fail
    refine (finds_calls _).mono ?_
    rintro e w1 ⟨rfl, rfl⟩
    go_wp2
    go_ret
    exact ⟨rfl, HB.out⟩

set_option maxRecDepth 100000 in
set_option maxHeartbeats 4000000 in
theorem least_calls (l : List Bool) (xs ys : List Int) (la xa ya : Option Addr) (lc xc yc : Nat) (w : World) (hl : l.length ≤ 300) (hx : xs.length ≤ 100) (hy : ys.length ≤ 100) (hL : Bools w la l) (hX : Marks w xa xs) (hY : Marks w ya ys) :
    Calls Try.prog 3 #[.slice la l.length lc, .slice xa xs.length xc, .slice ya ys.length yc] w fun e w' => e = .returned (.bool true) ∧ Below w.heap.size w w' := by
  have HX := hidL hX
  have HY := hidL hY
  have h1 : ¬ (300 : Int) < (l.length : Int) := by omega
  have h2 : ¬ (100 : Int) < (xs.length : Int) := by omega
  have h3 : ¬ (100 : Int) < (ys.length : Int) := by omega
  obtain ⟨W, hW⟩ : ∃ W, (((w.alloc (.cells #[.slice la l.length lc] 22)).alloc (.cells #[.int .i64 l.length] 3)).alloc (.cells #[.bool false] 4)).alloc (.cells #[.int .i64 0] 3) = W := ⟨_, rfl⟩
  have hA : Asked w la lc l w.heap.size (w.heap.size + 1) (w.heap.size + 1 + 1) (w.heap.size + 1 + 1 + 1) 0 W := by
    rw [← hW]
    obtain ⟨b0, b1, b2, b3⟩ := four_boxes w (.cells #[.slice la l.length lc] 22) (.cells #[.int .i64 l.length] 3) (.cells #[.bool false] 4) (.cells #[.int .i64 0] 3)
    exact ⟨b3, b2, b1, b0, (((((Below.refl _ w).alloc (Nat.le_refl _) _).alloc (by simp [go_sem]) _).alloc (by simp [go_sem]; omega) _).alloc (by simp [go_sem]; omega) _)⟩
  have eg : ∀ args w, (callFunc 7 args).run Try.prog w = .ok (.enter 7 args) w := enters_of Try.func7 (by kernel_rfl) rfl
  have HC := hidL (find_calls 7 #[.pointer (some ⟨w.heap.size + 1 + 1 + 1, 0, none⟩), .pointer (some ⟨w.heap.size + 1, 0, none⟩), .pointer (some ⟨w.heap.size + 1 + 1, 0, none⟩), .pointer (some ⟨w.heap.size, 0, none⟩)] eg l.length (fun i => bAt l i.toNat) (Asked w la lc l w.heap.size (w.heap.size + 1) (w.heap.size + 1 + 1) (w.heap.size + 1 + 1 + 1)) W (by omega) hA
    (fun k V i hk hi0 hi1 hI => least1_calls w la lc l _ _ _ _ hL (by omega) (by omega) (by omega) (by omega) k V i hk hi0 hi1 hI))
  have HL := hidL hL
  have HWW := hidL hW
  clear hL hX hY eg hA hW
  go_enter Try.func3, Try.ntmps3
  go_wp2_with fail
  refine (finds_calls _).mono ?_
  rintro e w1 ⟨rfl, rfl⟩
  go_wp2_with fail
  rw [HWW.out]
  refine HC.out.mono ?_
  clear HC HWW
  rintro e V ⟨a, k, f, rfl, hF, hI⟩
  have HF := hidL hF
  have HI := hidL hI
  have c1 : V.cell? ⟨w.heap.size + 1, 0, none⟩ = some (.int .i64 l.length) := cell_of_row V _ 0 _ _ _ hI.num
  have c2 : V.cell? ⟨w.heap.size + 1 + 1, 0, none⟩ = some (.bool false) := cell_of_row V _ 0 _ _ _ hI.out
  have c3 : V.cell? ⟨w.heap.size + 1 + 1 + 1, 0, none⟩ = some (.int .i64 k) := cell_of_row V _ 0 _ _ _ hI.times
  have c0 : V.cell? ⟨w.heap.size, 0, none⟩ = some (.slice la l.length lc) := cell_of_row V _ 0 _ _ _ hI.box
  clear hF hI
  go_wp2
  go_loopw [14, 15] (fun s14 s15 wr => ∃ h kk : Nat, s14 = .int .i64 h ∧ s15 = .int .i64 kk ∧ kk ≤ 300 ∧ Hid (wr = V) ∧ Hid (hv kk + h = hv l.length)) (fun _ s15 _ => (intOf s15).toNat)
  case atStart => exact ⟨0, l.length, rfl, rfl, hl, hidL rfl, hidL (Nat.add_zero _)⟩
  case round =>
    obtain ⟨h, kk, rfl, rfl, hkk, HVV, HH⟩ := hrel
    obtain rfl : wr = V := HVV.out
    clear HVV
    have hh := hv_id l.length l.length (Nat.le_refl _)
    have hhb : h ≤ 300 := by have := HH.out; omega
    by_cases hk : 1 < kk
    · have hkz : (1 : Int) < (kk : Int) := by omega
      have w1 : IntKind.i64.wrap ((h : Int) + 1) = ((h + 1 : Nat) : Int) := by rw [wrapI _ (by omega)]; omega
      have w2 : IntKind.i64.wrap ((kk : Int) + 1) = (kk : Int) + 1 := wrapI _ (by omega)
      have w3 : ((kk : Int) + 1).tdiv 2 = (((kk + 1) / 2 : Nat) : Int) := by rw [Int.tdiv_eq_ediv_of_nonneg (by omega)]; omega
      have w4 : IntKind.i64.wrap (((kk + 1) / 2 : Nat) : Int) = (((kk + 1) / 2 : Nat) : Int) := wrapI _ (by omega)
      have HN : Hid (hv ((kk + 1) / 2) + (h + 1) = hv l.length) := by
        show _ = _
        have := HH.out
        rw [hv_big (show ¬ kk ≤ 1 by omega)] at this
        omega
      clear HH hh
      go_wp2
      go_roundw
      case rel => exact ⟨h + 1, (kk + 1) / 2, by go_num, by go_num, by omega, by first | exact hidL rfl | trivial, HN⟩
      case measure => simp [intOf]; omega
    · have hkz : ¬ (1 : Int) < (kk : Int) := by omega
      have hhe : h = hv l.length := by have := HH.out; rw [hv_small (by omega)] at this; omega
      have w5 : IntKind.i64.wrap ((h : Int) + 2) = (h : Int) + 2 := wrapI _ (by omega)
      have hkh : ¬ (h : Int) + 2 < (k : Int) := by
        have hb : k ≤ hv l.length + 1 := by
          by_cases h0 : l.length = 0
          · have := (HF.out.none (by omega)).2.1; omega
          · cases hq : bAt l ((l.length : Int) - 1).toNat with
            | false => have := (HF.out.last (by omega) hq).2.1; omega
            | true =>
              have := (HF.out.hit (by omega) hq).2.2.2.2.2
              simpa using this
        omega
      have HBV := hidL HI.out.below
      have hfin : Hid (∀ xa', Marks w xa' xs → Marks wr xa' xs) := fun xa' h => h.below HBV.out
      have ways : (l.length = 0 ∧ a = 0 ∧ k = 0 ∧ f = false) ∨ (0 < l.length ∧ bAt l (l.length - 1) = false ∧ a = 0 ∧ k = 1 ∧ f = false) ∨ (0 < l.length ∧ bAt l (l.length - 1) = true ∧ f = true ∧ ∃ j : Nat, a = j ∧ j < l.length ∧ bAt l j = true ∧ (j = 0 ∨ ∃ i, j = i + 1 ∧ bAt l i = false)) := by
        by_cases h0 : l.length = 0
        · exact Or.inl ⟨h0, HF.out.none (by omega)⟩
        · have e1 : ((l.length : Int) - 1).toNat = l.length - 1 := by omega
          cases hq : bAt l (l.length - 1) with
          | false => exact Or.inr (Or.inl ⟨by omega, rfl, HF.out.last (by omega) (by rw [e1]; exact hq)⟩)
          | true =>
            obtain ⟨hf, ⟨ha0, ha1⟩, hLa, hLb, _, _⟩ := HF.out.hit (by omega) (by rw [e1]; exact hq)
            obtain ⟨j, rfl⟩ := Int.eq_ofNat_of_zero_le ha0
            refine Or.inr (Or.inr ⟨by omega, rfl, hf, j, rfl, by omega, by simpa using hLa, ?_⟩)
            cases j with
            | zero => exact Or.inl rfl
            | succ i =>
              have := hLb (by omega)
              rw [show (((i + 1 : Nat) : Int) - 1).toNat = i by omega] at this
              exact Or.inr ⟨i, rfl, this⟩
      have HC1 := hidL c1
      have HHH := hidL hhe
      clear HF HH hhe hh hfin
      have HFI := hidL (first_calls xs ys xa ya xc yc wr (by omega) (by omega) (HX.out.below HBV.out) (HY.out.below HBV.out))
      have hrow : 0 < l.length → ∃ b o, la = some ⟨b, o, none⟩ ∧ ∀ i, i < l.length → wr.cell? ⟨b, o + i, none⟩ = some (.bool (bAt l i)) := fun h0 => by
        rcases HL.out.below HBV.out with h | h
        · rw [h] at h0; cases h0
        · exact h
      have ways2 : ((¬ (0 : Int) < (l.length : Int)) ∧ ((l.length : Int) == 0) = true ∧ (a = 0) ∧ (¬ (1 : Int) < (k : Int)) ∧ ((k : Int) != 0) = false ∧ f = false)
          ∨ (∃ (b o m : Nat), la = some ⟨b, o, none⟩ ∧ (0 : Int) < (l.length : Int) ∧ IntKind.i64.wrap ((l.length : Int) - 1) = (m : Int) ∧ ((m : Int) < (l.length : Int)) ∧ wr.cell? ⟨b, o + m, none⟩ = some (.bool false) ∧ ((l.length : Int) == 0) = false ∧ (a = 0) ∧ (¬ (1 : Int) < (k : Int)) ∧ f = false)
          ∨ (∃ (b o m j : Nat), la = some ⟨b, o, none⟩ ∧ (0 : Int) < (l.length : Int) ∧ IntKind.i64.wrap ((l.length : Int) - 1) = (m : Int) ∧ ((m : Int) < (l.length : Int)) ∧ wr.cell? ⟨b, o + m, none⟩ = some (.bool true) ∧ f = true ∧ a = (j : Int) ∧ (¬ (l.length : Int) ≤ (j : Int)) ∧ ((j : Int) < (l.length : Int)) ∧ wr.cell? ⟨b, o + j, none⟩ = some (.bool true) ∧ ¬ (0 : Int) < (j : Int))
          ∨ (∃ (b o m j i : Nat), la = some ⟨b, o, none⟩ ∧ (0 : Int) < (l.length : Int) ∧ IntKind.i64.wrap ((l.length : Int) - 1) = (m : Int) ∧ ((m : Int) < (l.length : Int)) ∧ wr.cell? ⟨b, o + m, none⟩ = some (.bool true) ∧ f = true ∧ a = (j : Int) ∧ (¬ (l.length : Int) ≤ (j : Int)) ∧ ((j : Int) < (l.length : Int)) ∧ wr.cell? ⟨b, o + j, none⟩ = some (.bool true) ∧ (0 : Int) < (j : Int) ∧ IntKind.i64.wrap ((j : Int) - 1) = (i : Int) ∧ ((i : Int) < (l.length : Int)) ∧ wr.cell? ⟨b, o + i, none⟩ = some (.bool false)) := by
        rcases ways with ⟨e0, rfl, e2, rfl⟩ | ⟨e0, e1, rfl, e2, rfl⟩ | ⟨e0, e1, rfl, j, rfl, hj, ej, hij⟩
        · exact Or.inl ⟨by omega, by rw [e0]; rfl, rfl, by omega, by rw [e2]; rfl, rfl⟩
        · obtain ⟨b, o, hla, hc⟩ := hrow e0
          exact Or.inr (Or.inl ⟨b, o, l.length - 1, hla, by omega, by rw [wrapI _ (by omega)]; omega, by omega, by rw [hc _ (by omega), e1], by rw [beq_eq_false_iff_ne]; omega, rfl, by omega, rfl⟩)
        · obtain ⟨b, o, hla, hc⟩ := hrow e0
          rcases hij with hj0 | ⟨i, hj1, hi⟩
          · exact Or.inr (Or.inr (Or.inl ⟨b, o, l.length - 1, j, hla, by omega, by rw [wrapI _ (by omega)]; omega, by omega, by rw [hc _ (by omega), e1], rfl, rfl, by omega, by omega, by rw [hc _ hj, ej], by omega⟩))
          · exact Or.inr (Or.inr (Or.inr ⟨b, o, l.length - 1, j, i, hla, by omega, by rw [wrapI _ (by omega)]; omega, by omega, by rw [hc _ (by omega), e1], rfl, rfl, by omega, by omega, by rw [hc _ hj, ej], by omega, by rw [wrapI _ (by omega)]; omega, by omega, by rw [hc _ (by omega), hi]⟩))
      clear ways hrow HHH HI HL
      rcases ways2 with ⟨p1, p2, rfl, p3, p4, rfl⟩ | ⟨b, o, m, rfl, p1, p2, p3, p4, p5, rfl, p6, rfl⟩ | ⟨b, o, m, j, rfl, p1, p2, p3, p4, rfl, rfl, p5, p6, p7, p8⟩ | ⟨b, o, m, j, i, rfl, p1, p2, p3, p4, rfl, rfl, p5, p6, p7, p8, p9, pa, pb⟩
      all_goals
        go_wp2_with fail
        cases hs : someK xs ys
        all_goals
          rw [hs] at HFI
          have HS := hidL hs
          refine HFI.out.mono ?_
          rintro e V2 ⟨rfl, hb2⟩
          have HB2 : Hid (Below w.heap.size w V2) := HBV.out.trans (hb2.mono HBV.out.size)
          clear hb2 hs HFI c0 c1 c2 c3 HC1 HBV
          go_wp2
          go_loopw [18] (fun s18 wr => ∃ q : Nat, (q ≤ xs.length ∧ q ≤ ys.length) ∧ s18 = .int .i64 q ∧ Hid (∀ j, j < q → zAt xs j = zAt ys j) ∧ Hid (Below w.heap.size w wr)) (fun s18 _ => xs.length - (intOf s18).toNat)
          case atStart => exact ⟨0, ⟨Nat.zero_le _, Nat.zero_le _⟩, rfl, fun j hj => absurd hj (Nat.not_lt_zero _), HB2⟩
          case round =>
            clear HB2
            obtain ⟨q, ⟨hq1, hq2⟩, rfl, HE, HB⟩ := hrel
            by_cases hqx : q < xs.length
            · have zx : (q : Int) < (xs.length : Int) := by omega
              by_cases hqy : q < ys.length
              · have zy : (q : Int) < (ys.length : Int) := by omega
                obtain ⟨bx, ox, rfl, lx⟩ := (HX.out.below HB.out).at hqx
                obtain ⟨by', oy, rfl, ly⟩ := (HY.out.below HB.out).at hqy
                by_cases he : zAt xs q = zAt ys q
                · have hbe : (zAt xs q == zAt ys q) = true := by rw [he]; simp
                  have HN : Hid (∀ j, j < q + 1 → zAt xs j = zAt ys j) := fun j hj => by
                    by_cases e : j = q
                    · rw [e]; exact he
                    · exact HE.out j (by omega)
                  clear he
                  go_wp2_with fail
                  go_quiet (fail)
                  go_wp2
                  go_roundw
                  case rel => exact ⟨q + 1, ⟨by omega, by omega⟩, by go_num, HN, belowL_drewN HB.out _⟩
                  case measure => simp [intOf]; omega
                · have hbe : (zAt xs q == zAt ys q) = false := by simpa using he
                  have HF := hidL (fstK_is xs ys q hq1 hq2 HE.out (fun _ _ => he))
                  have hse : someK xs ys = true := by
                    unfold someK
                    rw [HF.out]
                    exact decide_eq_true (Or.inl hqx)
                  have hfe : ((fstK xs ys : Int) == (q : Int)) = true := by rw [HF.out]; simp
                  first
                    | (exfalso; have := HS.out; rw [hse] at this; cases this; done)
                    | (clear he hse
                       go_wp2_with fail
                       go_quiet (fail)
                       go_wp2
                       go_ret
                       exact ⟨rfl, belowL_drewN HB.out _⟩)
              · have zy : ¬ (q : Int) < (ys.length : Int) := by omega
                have HF := hidL (fstK_is xs ys q hq1 hq2 HE.out (fun _ b => absurd b hqy))
                have hse : someK xs ys = true := by
                  unfold someK
                  rw [HF.out]
                  exact decide_eq_true (Or.inl hqx)
                have hfe : ((fstK xs ys : Int) == (q : Int)) = true := by rw [HF.out]; simp
                have dy : decide ((q : Int) < (ys.length : Int)) = false := decide_eq_false zy
                first
                  | (exfalso; have := HS.out; rw [hse] at this; cases this; done)
                  | (clear hse zy
                     go_wp2_with fail
                     go_quiet (fail)
                     go_wp2
                     go_ret
                     exact ⟨rfl, belowL_drewN HB.out _⟩)
            · have zx : ¬ (q : Int) < (xs.length : Int) := by omega
              have dx : decide ((q : Int) < (xs.length : Int)) = false := decide_eq_false zx
              have HF := hidL (fstK_is xs ys q hq1 hq2 HE.out (fun b _ => absurd b hqx))
              have hfe : ((fstK xs ys : Int) == (q : Int)) = true := by rw [HF.out]; simp
              have hse : someK xs ys = decide (q < ys.length) := by
                unfold someK
                rw [HF.out]
                exact decide_eq_decide.2 ⟨fun h => h.elim (fun h => absurd h hqx) id, Or.inr⟩
              rw [HS.out] at hse
              by_cases hqy : q < ys.length
              · have zy : (q : Int) < (ys.length : Int) := by omega
                rw [decide_eq_true hqy] at hse
                first
                  | (cases hse; done)
                  | (clear hse zx
                     go_wp2_with fail
                     go_quiet (fail)
                     go_wp2
                     go_ret
                     exact ⟨rfl, belowL_drewN HB.out _⟩)
              · have zy : ¬ (q : Int) < (ys.length : Int) := by omega
                have dy : decide ((q : Int) < (ys.length : Int)) = false := decide_eq_false zy
                rw [decide_eq_false hqy] at hse
                first
                  | (cases hse; done)
                  | (clear hse zx zy
                     go_wp2_with fail
                     go_quiet (fail)
                     go_wp2
                     go_ret
                     exact ⟨rfl, belowL_drewN HB.out _⟩)
end Go.Proofs.Ytgiieepfhohmhab
