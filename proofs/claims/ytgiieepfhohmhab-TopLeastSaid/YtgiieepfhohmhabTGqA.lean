/- A tick under way: one is dropped. -/
import Derived.Deep.RegionHeld3
import Derived.Test.YtgiieepfhohmhabTGiA
import Derived.Test.YtgiieepfhohmhabTInvZ
namespace Go.Proofs.Ytgiieepfhohmhab
open Go.RowKit Go.Maps
theorem row_pop {w : World} {base g m c : Nat} {es : List (List Int)} (h : Row base w (.slice (some ⟨g, 0, none⟩) es.length c) es) (hm : es.length = m + 1) : Row base w (.slice (some ⟨g, 0, none⟩) m c) (es.take m) := by
  have hl : (es.take m).length = m := by rw [List.length_take]; omega
  have e : flat 10 es = flat 10 (es.take m) ++ flat 10 (es.drop m) := by rw [← flat_append, List.take_append_drop]
  unfold Row at h ⊢
  rw [hm, e] at h
  rw [hl]
  exact ownsRow_pop (by rw [flat_length, hl]) h
theorem drop_moved {es : List (List Int)} {i m : Nat} (hi : i < es.length) (hm : m + i + 1 = es.length) :
    (es.take i ++ (es.drop (i + 1)).take m ++ es.drop (i + m)).length = es.length ∧ (es.take i ++ (es.drop (i + 1)).take m ++ es.drop (i + m)).take (es.length - 1) = es.eraseIdx i := by
  have e1 : (es.drop (i + 1)).take m = es.drop (i + 1) := List.take_of_length_le (by rw [List.length_drop]; omega)
  rw [e1]
  refine ⟨by simp only [List.length_append, List.length_take, List.length_drop]; omega, ?_⟩
  rw [List.take_append_of_le_length (by simp only [List.length_append, List.length_take, List.length_drop]; omega), List.take_of_length_le (by simp only [List.length_append, List.length_take, List.length_drop]; omega), List.eraseIdx_eq_take_drop_succ]
set_option maxRecDepth 100000 in
set_option maxHeartbeats 8000000 in
theorem drop_calls (base p : Nat) (s : St) (was : Int → Int) (i : Nat) (w : World) (hi : i < s.es.length) (hn : s.es.length ≤ 100) (h : GmE base w p s was) :
    Calls Try.prog 61 #[.pointer (some ⟨p, 0, none⟩), .int .i64 i] w fun e w' => e = .returned (.tuple #[]) ∧ GmE base w' p { s with es := s.es.eraseIdx i } was ∧ Below base w w' := by
  obtain ⟨ev, fv, bv, B, hG⟩ := h
  obtain ⟨ea, c, rfl, hcap, _, hg0⟩ := hG.er.open
  obtain ⟨g, rfl, hbg, hgl⟩ := hg0 (by omega)
  have hbp := hG.bp
  have hlt := hG.lt
  obtain ⟨m, hm⟩ : ∃ m, m + i + 1 = s.es.length := ⟨s.es.length - i - 1, by omega⟩
  obtain ⟨hl1, hset⟩ := drop_moved hi hm
  obtain ⟨c0, c1, c2, c3, c4, c5, c6, c7⟩ := hG.eight
  have hnc : ¬ c = i := by omega
  have hiz0 : (0 : Int) ≤ (i : Int) := by omega
  have hiz1 : (i : Int) ≤ 1000 := by omega
  have hwrp : IntKind.i64.wrap ((i : Int) + 1) = (i : Int) + 1 := IntWalk.i64_in _ ⟨by omega, by omega⟩
  have h01 : (0 : Int) ≤ (i : Int) + 1 := by omega
  have htn : ((i : Int) + 1).toNat = i + 1 := by omega
  have hile : (i : Int) ≤ (s.es.length : Int) := by omega
  have hile1 : (i : Int) + 1 ≤ (s.es.length : Int) := by omega
  have hilt : (i : Int) < (s.es.length : Int) := by omega
  have HG := hid hG
  have HL1 := hid hl1
  have HSET := hid hset
  clear hG hg0 c0 c1 c2 c3 c4 c6 c7 hl1 hset
  go_enter Try.func61, Try.ntmps61
  go_wp2_with fail
  go_cut [10] (fun _ wx => Hid (Gm base wx p (.slice (some ⟨g, 0, none⟩) s.es.length c) fv bv B { s with es := s.es.take i ++ (s.es.drop (i + 1)).take m ++ s.es.drop (i + m) } was ∧ Below base w wx))
  case first =>
    by_cases hci : c = i + 1
    · have hm0 : m = 0 := by omega
      go_region_law (refine step_copies rfl (.tmp 10) (.tmp 18) rfl base g c s.es i (i + 1) (World.ownsRow.drew HG.out.er) _ _ _ _ _ _ m rfl rfl (by omega) (by omega) (by have h : Nat.min (s.es.length - (i + 1)) (s.es.length - i) = s.es.length - (i + 1) := Nat.min_eq_left (by omega); omega) (fun hp => by omega) ?_
                     intro w' hr hg
                     have HRw := hid hr
                     have HGw := hid (drew_grown hg)
                     clear hr hg)
      all_goals
        go_wp2
        go_meet
        obtain ⟨kp, kf, kb, kc⟩ := HG.out.grownE HGw.out
        exact ⟨⟨kp, by have h := HRw.out; exact h, kf, kb, kc, HG.out.bp, HG.out.bB, HG.out.fb⟩, below_grown (Below.refl _ _) HGw.out hbg (by omega)⟩
    · go_region_law (refine step_copies rfl (.tmp 10) (.tmp 18) rfl base g c s.es i (i + 1) (World.ownsRow.drew HG.out.er) _ _ _ _ _ _ m rfl rfl (by omega) (by omega) (by have h : Nat.min (s.es.length - (i + 1)) (s.es.length - i) = s.es.length - (i + 1) := Nat.min_eq_left (by omega); omega) (fun _ => ⟨rfl, rfl⟩) ?_
                     intro w' hr hg
                     have HRw := hid hr
                     have HGw := hid (drew_grown hg)
                     clear hr hg)
      all_goals
        go_wp2
        go_meet
        obtain ⟨kp, kf, kb, kc⟩ := HG.out.grownE HGw.out
        exact ⟨⟨kp, by have h := HRw.out; exact h, kf, kb, kc, HG.out.bp, HG.out.bB, HG.out.fb⟩, below_grown (Below.refl _ _) HGw.out hbg (by omega)⟩
  case rest =>
    obtain ⟨hGc, hBc⟩ := hcut.out
    have hL := HL1.out
    have hS := HSET.out
    generalize s.es.take i ++ (s.es.drop (i + 1)).take m ++ s.es.drop (i + m) = L at hGc hL hS
    obtain ⟨n, hn1⟩ : ∃ n, s.es.length = n + 1 := ⟨s.es.length - 1, by omega⟩
    rw [hn1] at hGc hL hS hcap
    rw [Nat.add_sub_cancel] at hS
    obtain ⟨c0, c1, c2, c3, c4, c5', c6, c7⟩ := hGc.eight
    have f5 := hGc.frozen 5
    have hrow : Row base wc (.slice (some ⟨g, 0, none⟩) L.length c) L := by
      have h := hGc.er
      show Row base wc (.slice (some ⟨g, 0, none⟩) L.length c) L
      rw [hL]
      exact h
    have hrow2 := row_pop hrow hL
    rw [hS] at hrow2
    have hG2 : Gm base (wc.setCell ⟨p, 5, none⟩ (.slice (some ⟨g, 0, none⟩) n c)) p (.slice (some ⟨g, 0, none⟩) n c) fv bv B { s with es := s.es.eraseIdx i } was := gm_pset hGc.hp hGc.ct hGc.bp hGc.bB 5 (.slice (some ⟨g, 0, none⟩) n c) rfl hrow2 hGc.fr hGc.br hGc.fb
    have HG2 : Hid (GmE base (wc.setCell ⟨p, 5, none⟩ (.slice (some ⟨g, 0, none⟩) n c)) p { s with es := s.es.eraseIdx i } was) := ⟨_, _, _, _, hG2⟩
    have HB2 : Hid (Below base w (wc.setCell ⟨p, 5, none⟩ (.slice (some ⟨g, 0, none⟩) n c))) := hBc.setCell (p := ⟨p, 5, none⟩) hbp _
    have hnz0 : (0 : Int) ≤ (n : Int) := by omega
    have hnz1 : (n : Int) ≤ 1000 := by omega
    have hnc2 : (n : Int) ≤ (c : Int) := by omega
    have HN1 := hid hn1
    clear hn1
    clear hcut hGc hBc hL hS hrow hrow2 hG2 c0 c1 c2 c3 c4 c6 c7 hwrp h01 htn hile hile1 hilt hiz0 hiz1 hnc hm hi c5 HL1 HSET HG
    go_wp2_with fail
    go_region
    all_goals
      go_wp2
      go_end0
      exact ⟨rfl, HG2.out.drew, HB2.out.drew⟩
end Go.Proofs.Ytgiieepfhohmhab
namespace Go.Proofs.Ytgiieepfhohmhab
open Go.RowKit Go.Maps
def isDead (r : List Int) : Bool := decide (fld r 5 ≤ 0)
theorem alive_dead (u : List Int) : aliveB u = !isDead u := by
  unfold aliveB isDead
  by_cases h : fld u 5 ≤ 0
  · rw [decide_eq_true h, decide_eq_false (by omega)]; rfl
  · rw [decide_eq_false h, decide_eq_true (by omega)]; rfl
set_option maxHeartbeats 1000000 in
theorem dead1_calls (w W : World) (r : List Int) (hb : Below w.heap.size w W) :
    Calls Try.prog 60 (#[entV r] ++ #[]) W fun e w' => e = .returned (.bool (isDead r)) ∧ Below w.heap.size w w' := by
  have HB := hid hb
  clear hb
  show Calls Try.prog 60 #[.agg #[.int .i64 (fld r 0), .int .i64 (fld r 1), .int .i64 (fld r 2), .int .i64 (fld r 3), .int .i64 (fld r 4), .int .i64 (fld r 5), .int .i64 (fld r 6), .int .i64 (fld r 7), .int .i64 (fld r 8), .int .i64 (fld r 9)]] W fun e w' => e = .returned (.bool (decide (fld r 5 ≤ 0))) ∧ Below w.heap.size w w'
  by_cases hq : fld r 5 ≤ 0
  · rw [decide_eq_true hq]
    go_enter Try.func60, Try.ntmps60
    go_wp2
    go_ret
    exact ⟨rfl, HB.out.alloc HB.out.size _⟩
  · rw [decide_eq_false hq]
    go_enter Try.func60, Try.ntmps60
    go_wp2
    go_ret
    exact ⟨rfl, HB.out.alloc HB.out.size _⟩
theorem deadIdx_calls (es : List (List Int)) (ea : Option Addr) (c : Nat) (w : World) (hn : es.length ≤ 1000) (hrow : Recs w ea 10 es) :
    Calls Try.prog 51 #[.slice ea es.length c, .func (.func 60) #[] #[]] w fun e w' => e = .returned (.int .i64 (idxZ isDead es)) ∧ Below w.heap.size w w' :=
  indexFunc_calls 60 #[] (enters_of Try.func60 (by kernel_rfl) rfl) isDead es ea c w hn hrow (fun W u hb => dead1_calls w W u hb)
theorem first_dead {es : List (List Int)} {k : Nat} (hk : k < es.length) (hi : idxZ isDead es = k) : es.filter aliveB = (es.eraseIdx k).filter aliveB ∧ es.filter (fun u => !aliveB u) = rec es k :: (es.eraseIdx k).filter (fun u => !aliveB u) := by
  obtain ⟨_, hp⟩ := idxZ_at (show 0 ≤ idxZ isDead es by omega)
  have htn : (idxZ isDead es).toNat = k := by omega
  rw [htn] at hp
  have hlow : ∀ u ∈ es.take k, isDead u = false := by
    intro u hu
    obtain ⟨i, hil, rfl⟩ := List.mem_iff_getElem.1 hu
    rw [List.length_take] at hil
    have hik : i < k := by omega
    cases hd : isDead ((es.take k)[i]) with
    | false => rfl
    | true =>
      exfalso
      unfold idxZ at hi
      cases hf : es.findIdx? isDead with
      | none => rw [hf] at hi; simp only at hi; omega
      | some m =>
        rw [hf] at hi
        simp only at hi
        rw [List.findIdx?_eq_some_iff_getElem] at hf
        obtain ⟨_, _, hall⟩ := hf
        have := hall i (by omega)
        rw [List.getElem_take] at hd
        simp [hd] at this
  have hsplit : es = es.take k ++ rec es k :: es.drop (k + 1) := by
    rw [rec_at hk, List.getElem_cons_drop, List.take_append_drop]
  have her : es.eraseIdx k = es.take k ++ es.drop (k + 1) := List.eraseIdx_eq_take_drop_succ es k
  have hda : aliveB (rec es k) = false := by rw [alive_dead, hp]; rfl
  have hnone : (es.take k).filter (fun u => !aliveB u) = [] := by
    rw [List.filter_eq_nil_iff]
    intro u hu
    rw [alive_dead, hlow u hu]
    simp
  rw [her]
  constructor
  · conv => lhs; rw [hsplit]
    rw [List.filter_append, List.filter_append, List.filter_cons_of_neg (by simp [hda])]
  · conv => lhs; rw [hsplit]
    rw [List.filter_append, List.filter_append, List.filter_cons_of_pos (by simp [hda]), hnone]
    rfl
theorem bury_step {s : St} {k : Nat} (hk : k < s.es.length) (hi : idxZ isDead s.es = k) : buryS { s with free := s.free ++ [fld (rec s.es k) 0], es := s.es.eraseIdx k } = buryS s := by
  obtain ⟨h1, h2⟩ := first_dead hk hi
  unfold buryS
  simp only
  rw [h1, h2]
  simp [idsE]
theorem bury_none {s : St} (hi : idxZ isDead s.es < 0) : buryS s = { s with es := s.es.map (idleU s.es) } := by
  have h : ∀ u ∈ s.es, aliveB u = true := by
    intro u hu
    obtain ⟨i, hil, rfl⟩ := List.mem_iff_getElem.1 hu
    have := idxZ_neg_iff.1 hi i hil
    rw [rec_at hil] at this
    rw [alive_dead, this]
    rfl
  have e1 : s.es.filter aliveB = s.es := List.filter_eq_self.2 h
  have e2 : s.es.filter (fun u => !aliveB u) = [] := by
    rw [List.filter_eq_nil_iff]
    intro u hu
    rw [h u hu]
    simp
  unfold buryS
  rw [e1, e2]
  simp [idsE]
theorem Gm.grownF {base : Nat} {w w' : World} {p : Nat} {ev fv bv : Value} {B : Nat} {s : St} {was : Int → Int} (h : Gm base w p ev fv bv B s was) (hg : w.grownBy w' fv.ownBlock) :
    w'.heap[p]? = some (.cells (gameC s fv ev bv B) 87) ∧ Row base w' ev s.es ∧ NRow base w' bv s.born ∧ Counts w' B 1000 was := by
  obtain ⟨me, mc, hm⟩ := h.ct.isMap
  have hB : B < w.heap.size := (Array.getElem?_eq_some_iff.1 hm).1
  have hbf : bv.ownBlock = none ∨ bv.ownBlock ≠ fv.ownBlock := by
    rcases h.fb with e | e
    · rw [e]
      by_cases hb : bv.ownBlock = none
      · exact Or.inl hb
      · exact Or.inr hb
    · exact Or.inr fun x => e x.symm
  refine ⟨(hg.block p h.lt (fun e => row_ne h.fr h.hp (by decide) e.symm)).trans h.hp, World.ownsRow.kept h.er hg (row_row_ne h.er h.fr (by decide)), World.ownsRow.kept h.br hg hbf, h.ct.other (hg.block B hB (fun e => row_ne_map h.fr hm e.symm))⟩
end Go.Proofs.Ytgiieepfhohmhab
namespace Go.Proofs.Ytgiieepfhohmhab
open Go.RowKit Go.Maps
def idleK (A : List (List Int)) (k : Nat) : List (List Int) := (A.take k).map (idleU A) ++ A.drop k
theorem idleU_fld (A : List (List Int)) (x : List Int) {j : Nat} (hj : j < 6) : fld (idleU A x) j = fld x j := by
  unfold idleU
  split
  · exact (turnR_fld x 0).1 j hj
  · rfl
theorem idleK_length (A : List (List Int)) {k : Nat} (hk : k ≤ A.length) : (idleK A k).length = A.length := by
  unfold idleK
  rw [List.length_append, List.length_map, List.length_take, List.length_drop]
  omega
theorem idleK_rec (A : List (List Int)) {k : Nat} (hk : k ≤ A.length) {j : Nat} (hj : j < A.length) : rec (idleK A k) j = if j < k then idleU A (rec A j) else rec A j := by
  have hl : ((A.take k).map (idleU A)).length = k := by rw [List.length_map, List.length_take]; omega
  rw [rec_at (by rw [idleK_length A hk]; exact hj), rec_at hj]
  unfold idleK
  by_cases h : j < k
  · rw [if_pos h, List.getElem_append_left (by omega), List.getElem_map, List.getElem_take]
  · rw [if_neg h, List.getElem_append_right (by omega), List.getElem_drop]
    congr 1
    omega
theorem idleK_idx (A : List (List Int)) {k : Nat} (hk : k ≤ A.length) (id : Int) : idxZ (isId id) (idleK A k) = idxZ (isId id) A := by
  refine idxZ_congr (idleK_length A hk) fun j hj => ?_
  unfold isId
  rw [idleK_rec A hk hj]
  split
  · rw [idleU_fld A _ (by omega)]
  · rfl
theorem idleK_next (A : List (List Int)) {k : Nat} (hk : k < A.length) : idleK A (k + 1) = (idleK A k).set k (idleU A (rec A k)) := by
  have hl : ((A.take k).map (idleU A)).length = k := by rw [List.length_map, List.length_take]; omega
  have e1 : A.take (k + 1) = A.take k ++ [A[k]] := by rw [List.take_add_one, List.getElem?_eq_getElem hk]; rfl
  have e2 : A.drop k = A[k] :: A.drop (k + 1) := (List.getElem_cons_drop hk).symm
  unfold idleK
  rw [e1, e2, List.map_append, List.append_assoc, List.set_append, if_neg (by omega), hl, Nat.sub_self, rec_at hk]
  rfl
theorem idleK_same (A : List (List Int)) {k : Nat} (hk : k < A.length) (h : idleU A (rec A k) = rec A k) : idleK A (k + 1) = idleK A k := by
  rw [idleK_next A hk, h]
  have hr : rec (idleK A k) k = rec A k := by rw [idleK_rec A (by omega) hk, if_neg (by omega)]
  rw [← hr, rec_at (by rw [idleK_length A (by omega)]; exact hk)]
  exact List.set_getElem_self _
theorem below_of_drew' {a w : World} (h : Below a.drew.heap.size a.drew w) : Below a.heap.size a w := ⟨h.os, h.tape, h.output, h.size, h.block⟩
def entsLen (w : World) (p : Nat) : Nat :=
  match w.cell? ⟨p, 5, none⟩ with
  | some (.slice _ n _) => n
  | _ => 0
theorem entsLen_eq {w : World} {p n c : Nat} {a : Option Addr} (h : w.cell? ⟨p, 5, none⟩ = some (.slice a n c)) : entsLen w p = n := by
  unfold entsLen
  rw [h]
set_option maxRecDepth 100000 in
set_option maxHeartbeats 8000000 in
theorem bury_calls (base p : Nat) (s : St) (was : Int → Int) (w : World) (hn : s.es.length ≤ 50) (hfl : s.free.length + s.es.length ≤ 1000) (h : GmE base w p s was) :
    Calls Try.prog 43 #[.pointer (some ⟨p, 0, none⟩)] w fun e w' => e = .returned (.tuple #[]) ∧ GmE base w' p (buryS s) was ∧ Below base w w' := by
  have hlt := h.lt
  have HG0 := hid h
  obtain ⟨ev, fv, bv, B, hG⟩ := h
  obtain ⟨ea, c, rfl, hcap, hrecs, _⟩ := hG.er.open
  obtain ⟨c0, c1, c2, c3, c4, c5, c6, c7⟩ := hG.eight
  have HC := hid (deadIdx_calls s.es ea c w (by omega) hrecs)
  clear hG hrecs hcap c0 c1 c2 c3 c4 c6 c7
  go_enter Try.func43, Try.ntmps43
  go_wp2_with fail
  refine HC.out.mono ?_
  clear HC
  rintro e w1 ⟨rfl, hb1⟩
  have HG1 := hid (HG0.out.below hb1)
  have HB1 : Hid (Below base w w1) := hb1.mono (by omega)
  clear hb1 c5 HG0
  go_wp2
  go_loopw [3] (fun i wr => ∃ s' : St, i = .int .i64 (idxZ isDead s'.es) ∧ s'.es.length ≤ s.es.length ∧ s'.free.length + s'.es.length ≤ 1000 ∧ Hid (buryS s' = buryS s) ∧ Hid (GmE base wr p s' was) ∧ Hid (Below base w wr)) (fun _ wr => entsLen wr p)
  case atStart => exact ⟨s, rfl, Nat.le_refl _, hfl, rfl, HG1, HB1⟩
  case round =>
    obtain ⟨s', rfl, hl, hfl', HE, HG, HB⟩ := hrel
    clear HG1 HB1
    by_cases hz : idxZ isDead s'.es < 0
    · have HZ : Hid (buryS s = { s' with es := s'.es.map (idleU s'.es) }) := HE.out.symm.trans (bury_none hz)
      obtain ⟨ev', fv', bv', B', hG⟩ := HG.out
      obtain ⟨ea', c', rfl, hcap', _, _⟩ := hG.er.open
      obtain ⟨c0, c1, c2, c3, c4, c5, c6, c7⟩ := hG.eight
      have hzf : ¬ (0 : Int) ≤ idxZ isDead s'.es := by omega
      have HG2 : Hid (GmE base wr p { s' with es := idleK s'.es 0 } was) := by
        have e : idleK s'.es 0 = s'.es := by unfold idleK; simp
        show GmE _ _ _ _ _
        rw [e]
        exact HG.out
      clear hG c0 c1 c2 c3 c4 c6 c7 HG hz
      go_wp2
      clear c5
      go_loopw [51] (fun i wr => ∃ k : Nat, k ≤ s'.es.length ∧ i = .int .i64 k ∧ Hid (GmE base wr p { s' with es := idleK s'.es k } was) ∧ Hid (Below base w wr)) (fun i _ => s'.es.length - (intOf i).toNat)
      case atStart => exact ⟨0, Nat.zero_le _, rfl, HG2, HB⟩
      case round =>
        clear HG2 HB
        obtain ⟨k, hk, rfl, HG, HB⟩ := hrel
        by_cases hkl : k < s'.es.length
        · have hkz : (k : Int) < (s'.es.length : Int) := by omega
          obtain ⟨ev2, fv2, bv2, B2, hG⟩ := HG.out
          have hlk : (idleK s'.es k).length = s'.es.length := idleK_length _ hk
          have hkl2 : k < ({ s' with es := idleK s'.es k } : St).es.length := by show k < (idleK s'.es k).length; omega
          obtain ⟨ea2, cc2, hev, hcap2, hrecs2, hg2⟩ := hG.er.open
          obtain ⟨g, rfl, hbg, hgl⟩ := hg2 (by show 0 < (idleK s'.es k).length; omega)
          have hev' : ev2 = .slice (some ⟨g, 0, none⟩) s'.es.length cc2 := by rw [hev]; show Value.slice _ (idleK s'.es k).length _ = _; rw [hlk]
          subst hev'
          obtain ⟨hc, hf⟩ := hG.er.ten hkl2
          have hrk : rec ({ s' with es := idleK s'.es k } : St).es k = rec s'.es k := by show rec (idleK s'.es k) k = _; rw [idleK_rec _ hk hkl, if_neg (by omega)]
          rw [hrk] at hc
          have l9 := hc 9 (by omega)
          have l6 := hc 6 (by omega)
          have l7 := hc 7 (by omega)
          have l8 := hc 8 (by omega)
          have f6 := hf (k * 10 + 6)
          have f7 := hf (k * 10 + 7)
          have f8 := hf (k * 10 + 8)
          have f9 := hf (k * 10 + 9)
          obtain ⟨c0, c1, c2, c3, c4, c5, c6, c7⟩ := hG.eight
          have hpr := hG.lt
          have HGm := hid hG
          have HRK := hid hrk
          have HLK := hid hlk
          have hrec3 : Recs wr (some ⟨g, 0, none⟩) 10 (idleK s'.es k) := hrecs2
          have HR2 := hid hrec3
          clear hG hc hf hrk hlk hrecs2 hrec3 hg2 hcap2 hev c0 c1 c2 c3 c4 c6 c7
          by_cases htg : 0 < fld (rec s'.es k) 9
          case neg =>
            have HS : Hid (idleK s'.es (k + 1) = idleK s'.es k) := idleK_same _ hkl (by unfold idleU; rw [if_neg (fun x => htg x.1)])
            have htd : decide (0 < fld (rec s'.es k) 9) = false := decide_eq_false htg
            go_wp2_with fail
            go_quiet (fail)
            go_wp2
            go_roundw
            case rel => exact ⟨k + 1, by omega, by go_num, by show GmE _ _ _ _ _; rw [HS.out]; exact HG.out.below (below_drewN (Below.refl _ _) _), below_drewN HB.out _⟩
            case measure => simp [intOf]; omega
          have HI : Hid (∀ W', Recs W' (some ⟨g, 0, none⟩) 10 (idleK s'.es k) → Calls Try.prog 37 #[.slice (some ⟨g, 0, none⟩) s'.es.length cc2, .int .i64 (fld (rec s'.es k) 9)] W' fun e w' => e = .returned (.int .i64 (idxZ (isId (fld (rec s'.es k) 9)) s'.es)) ∧ Below W'.heap.size W' w') := fun W' hW' => by
            have h := index_calls (fld (rec s'.es k) 9) (idleK s'.es k) (some ⟨g, 0, none⟩) cc2 W' (by rw [HLK.out]; omega) hW'
            rw [HLK.out, idleK_idx _ hk] at h
            exact h
          go_wp2_with fail
          have htd : decide (0 < fld (rec s'.es k) 9) = true := decide_eq_true htg
          go_cut [78] (fun r wx => r = .bool (decide (idxZ (isId (fld (rec s'.es k) 9)) s'.es < 0)) ∧ Hid (Below wr.heap.size wr wx))
          case first =>
            clear l6 l7 l8 f6 f7 f8 f9
            go_region_held3 (fun w' => w'.cell? ⟨g, k * 10 + 9, none⟩ = some (.int .i64 (fld (rec s'.es k) 9)) ∧ w'.cell? ⟨p, 5, none⟩ = some (.slice (some ⟨g, 0, none⟩) s'.es.length cc2)) (first | exact ⟨by assumption, by assumption⟩ | go_keep)
              (first | (go_at_call 37; refine (HI.out _ (HR2.out.drewN 1)).mono ?_; rintro e w2 ⟨rfl, hb2⟩; have HB2 := hid (below_of_drew' hb2); have m9 := (HB2.out.cell (p := ⟨g, k * 10 + 9, none⟩) hgl).trans l9; have m5 := (HB2.out.cell (p := ⟨p, 5, none⟩) hpr).trans c5; clear hb2))
            all_goals
              clear l9 c5
              go_wp2
              go_meet
              first
                | exact ⟨rfl, HB2⟩
                | (refine ⟨?_, HB2⟩; simp_all)
          case rest =>
            obtain ⟨rfl, HBc⟩ := hcut
            clear l6 l7 l8 l9 f6 f7 f8 f9 c5 HI HR2
            have hGc := HGm.out.below HBc.out
            have HB3 : Hid (Below base w wc) := HB.out.trans (HBc.out.mono (by omega))
            by_cases hz : idxZ (isId (fld (rec s'.es k) 9)) s'.es < 0
            · have HN : Hid (idleK s'.es (k + 1) = (idleK s'.es k).set k (turnR (rec s'.es k) 0)) := by
                show _ = _
                rw [idleK_next _ hkl]
                unfold idleU
                rw [if_pos ⟨htg, hz⟩]
              rw [decide_eq_true hz]
              obtain ⟨hc, hf⟩ := hGc.er.ten hkl2
              have l6 := hc 6 (by omega)
              have l7 := hc 7 (by omega)
              have l8 := hc 8 (by omega)
              have l9 := hc 9 (by omega)
              have f6 := hf (k * 10 + 6)
              have f7 := hf (k * 10 + 7)
              have f8 := hf (k * 10 + 8)
              have f9 := hf (k * 10 + 9)
              have hG4 := gm_turn hGc hkl2 0
              rw [HRK.out] at hG4
              have HG4 : Hid (GmE base (turnW wc g (k * 10) 0) p { s' with es := idleK s'.es (k + 1) } was) := by
                show GmE _ _ _ _ _
                rw [HN.out]
                exact ⟨_, _, _, _, hG4⟩
              have HB4 := hid (below_turnW (m := k * 10) (does := 0) HB3.out hbg)
              clear hGc hc hf hG4 hz
              go_wp2_with fail
              refine (turn_calls g (k * 10) 0 wc _ _ _ _ l6 l7 l8 l9 f6 f7 f8 f9).mono ?_
              rintro e w4 ⟨rfl, rfl⟩
              clear l6 l7 l8 l9 f6 f7 f8 f9
              generalize turnW wc g (k * 10) 0 = w4 at HG4 HB4
              go_wp2
              go_roundw
              case rel => exact ⟨k + 1, by omega, by go_num, HG4, HB4⟩
              case measure => simp [intOf]; omega
            · have HS : Hid (idleK s'.es (k + 1) = idleK s'.es k) := idleK_same _ hkl (by unfold idleU; rw [if_neg (fun x => hz x.2)])
              rw [decide_eq_false hz]
              have HG4 : Hid (GmE base wc p { s' with es := idleK s'.es (k + 1) } was) := by
                show GmE _ _ _ _ _
                rw [HS.out]
                exact ⟨_, _, _, _, hGc⟩
              clear hGc hz
              go_wp2
              go_roundw
              case rel => exact ⟨k + 1, by omega, by go_num, HG4, HB3⟩
              case measure => simp [intOf]; omega
        · have hkz : ¬ (k : Int) < (s'.es.length : Int) := by omega
          have HF : Hid (GmE base wr p (buryS s) was) := by
            have e : idleK s'.es k = s'.es.map (idleU s'.es) := by
              unfold idleK
              rw [List.take_of_length_le (by omega), List.drop_of_length_le (by omega), List.append_nil]
            have h := HG.out
            rw [e] at h
            show GmE _ _ _ _ _
            rw [HZ.out]
            exact h
          clear HG
          go_wp2
          go_end0
          exact ⟨rfl, HF.out, HB.out⟩
    · obtain ⟨k, hk⟩ : ∃ k : Nat, idxZ isDead s'.es = k := ⟨(idxZ isDead s'.es).toNat, by omega⟩
      have hkl : k < s'.es.length := by have := (idxZ_bd isDead s'.es).2; omega
      have HST := hid (bury_step hkl hk)
      rw [hk]
      clear hz hk
      obtain ⟨ev', fv', bv', B', hG⟩ := HG.out
      obtain ⟨ea', c', rfl, hcap', hrecs', hg0⟩ := hG.er.open
      obtain ⟨g, rfl, hbg, hgl⟩ := hg0 (by omega)
      obtain ⟨fa, fc, rfl, hfcap, hfn, _⟩ := hG.fr.open
      obtain ⟨hc, hf⟩ := hG.er.ten hkl
      have l0 : wr.cell? ⟨g, k * 10, none⟩ = some (.int .i64 (fld (rec s'.es k) 0)) := hc 0 (by omega)
      obtain ⟨c0, c1, c2, c3, c4, c5, c6, c7⟩ := hG.eight
      have hkz : (k : Int) < (s'.es.length : Int) := by omega
      have hkz0 : (0 : Int) ≤ (k : Int) := by omega
      have hpw : p < wr.heap.size := hG.lt
      have hbs : base ≤ wr.heap.size := by omega
      have HGm := hid hG
      obtain ⟨id, hid0⟩ : ∃ id, id = fld (rec s'.es k) 0 := ⟨_, rfl⟩
      rw [← hid0] at l0 HST
      have hms : entsLen wr p = s'.es.length := entsLen_eq c5
      have HMS := hid hms
      clear hG hc hf hg0 hrecs' hfn c0 c1 c2 c3 c6 c7 HG hid0 hms
      go_wp2_with fail
      go_cut [38] (fun _ wx => ∃ va vc, Hid (Gm base wx p (.slice (some ⟨g, 0, none⟩) s'.es.length c') (.slice va (s'.free.length + 1) vc) bv' B' { s' with free := s'.free ++ [id] } was ∧ Below base w wx))
      case first =>
        go_region_law (refine step_nums rfl (.tmp 27) (.tmp 37) rfl base (.slice fa s'.free.length fc) s'.free (by simp [Act.eval]) (World.ownsRow.alloc HGm.out.fr _) (some ⟨wr.heap.size, 0, none⟩) 1 [id] (by simp [Act.eval]) (nums_one wr id _) (by simp) (by simp; omega) (by simp [go_sem]; omega) ?_
                       intro v' w' hr hg hl
                       have hl1 : (s'.free ++ [id]).length = s'.free.length + 1 := by simp
                       have hr' := hr
                       obtain ⟨va, vc, rfl, _, _, _⟩ := hr'.open
                       rw [hl1] at hr ⊢
                       have hg' : (wr.alloc (.cells #[.int .i64 id] 3)).grownBy w' (Value.slice fa s'.free.length fc).ownBlock := ⟨hg.os, hg.tape, hg.output, hg.size, hg.block⟩
                       obtain ⟨kp, ke, kb, kc⟩ := (HGm.out.below ((Below.refl _ wr).alloc (Nat.le_refl _) _)).grownF hg'
                       have f4 := frozen_of_row w' p 4 _ _ kp
                       have d4 : w'.cell? ⟨p, 4, none⟩ = some (.slice fa s'.free.length fc) := cell_of_row w' p 4 _ _ _ kp
                       have hfb : (Value.slice va (s'.free.length + 1) vc).ownBlock = none ∨ (Value.slice va (s'.free.length + 1) vc).ownBlock ≠ bv'.ownBlock := by
                         rw [hl1] at hl
                         rcases hl with e | e
                         · rw [e]; exact HGm.out.fb
                         · refine Or.inr fun x => ?_
                           have h2 := (World.ownsRow.lt HGm.out.br _ (x.symm.trans e)).2
                           simp [go_sem] at h2
                           omega
                       have hGn := gm_pset kp kc HGm.out.bp HGm.out.bB 4 (.slice va (s'.free.length + 1) vc) (s' := { s' with free := s'.free ++ [id] }) (ev' := .slice (some ⟨g, 0, none⟩) s'.es.length c') (fv' := .slice va (s'.free.length + 1) vc) (bv' := bv') rfl ke hr kb hfb
                       have hBn : Below base w (w'.setCell ⟨p, 4, none⟩ (.slice va (s'.free.length + 1) vc)) := ((HB.out.alloc hbs _).grown hg' (by simp [go_sem]; omega) (fun k hk => (World.ownsRow.lt HGm.out.fr k hk).1)).setCell (p := ⟨p, 4, none⟩) hlt.1 _
                       have HGn := hid hGn
                       have HBn := hid hBn
                       clear hr hr' hg hl hg' kp ke kb kc hGn hBn hl1 hfb)
        all_goals
          go_wp2
          go_meet
          exact ⟨_, _, HGn.out, HBn.out⟩
      case rest =>
        obtain ⟨va, vc, HM⟩ := hcut
        have HGx : Hid (GmE base wc p { s' with free := s'.free ++ [id] } was) := ⟨_, _, _, _, HM.out.1⟩
        have HBx := hid HM.out.2
        clear HM l0 c4 c5 HGm HB
        go_wp2_with fail
        refine (drop_calls base p { s' with free := s'.free ++ [id] } was k _ hkl (show s'.es.length ≤ 100 by omega) HGx.out).mono ?_
        rintro e w3 ⟨rfl, hG3x, hb3⟩
        obtain ⟨E, hE⟩ : ∃ E, s'.es.eraseIdx k = E := ⟨_, rfl⟩
        have hG3 : GmE base w3 p { s' with free := s'.free ++ [id], es := E } was := by rw [← hE]; exact hG3x
        have hle : E.length = s'.es.length - 1 := by rw [← hE]; exact List.length_eraseIdx_of_lt hkl
        rw [hE] at HST
        have HLE := hid hle
        clear hE hG3x hle
        have HB3 := hid (HBx.out.trans hb3)
        have HG3 := hid hG3
        clear HGx HBx hb3
        obtain ⟨ev3, fv3, bv3, B3, hGm3⟩ := hG3
        obtain ⟨ea3, c3, rfl, hcap3, hrecs3, _⟩ := hGm3.er.open
        have d5 := hGm3.cell 5
        have hp3 := hGm3.lt
        have HC3 := hid (deadIdx_calls (E) ea3 c3 w3 (by rw [HLE.out]; omega) hrecs3)
        clear hGm3 hrecs3 hcap3
        go_wp2_with fail
        refine HC3.out.mono ?_
        clear HC3
        rintro e w4 ⟨rfl, hb4⟩
        have d54 : w4.cell? ⟨p, 5, none⟩ = some (.slice ea3 (E).length c3) := (hb4.cell (p := ⟨p, 5, none⟩) hp3).trans d5
        have D54 := hid d54
        have HG4 := hid (HG3.out.below hb4)
        have HB4 : Hid (Below base w w4) := HB3.out.trans (hb4.mono (by omega))
        clear hb4 d5 d54 HG3 HB3
        go_wp2
        go_roundw
        case rel => exact ⟨{ s' with free := s'.free ++ [id], es := E }, rfl, by show (E).length ≤ _; rw [HLE.out]; omega, by show (s'.free ++ [id]).length + (E).length ≤ 1000; rw [HLE.out, List.length_append]; simp only [List.length_cons, List.length_nil]; omega, HST.out.trans HE.out, HG4, HB4⟩
        case measure => rw [entsLen_eq D54.out, HMS.out, HLE.out]; omega
end Go.Proofs.Ytgiieepfhohmhab
