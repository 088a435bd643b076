/- Package view: all. -/
import Derived.Test.YtgiieepfhohmhaaVVwU
namespace Go.Proofs.Ytgiieepfhohmhaa
open Go.RowKit Go.Maps
def sawP (es : List (List Int)) (u : List Int) : List Int := seenZ u (spotZ es (fld u 9))
def AllA (es : List (List Int)) (w : World) (e : Ending) (w' : World) : Prop :=
  ∃ va vc, ∃ d : Array (List Int), e = .returned (.slice va es.length vc) ∧ Sort.PermIn 0 (es.map (sawP es)).toArray.size (es.map (sawP es)).toArray d ∧ Sort.SortedIn (ltOf rowsZ) 0 (es.map (sawP es)).toArray.size d ∧ Recs w' va 10 d.toList ∧ Below w.heap.size w w' ∧ ∀ b o, va = some ⟨b, o, none⟩ → w.heap.size ≤ b
set_option maxRecDepth 100000 in
set_option maxHeartbeats 4000000 in
theorem all_calls {ρ : Go.Shelf.Ren} (Ly : SlLaysF0.n6 Try.prog ρ) (h6 : ρ.f 6 = 169) (h24 : ρ.t 24 = 171)
    (HN0 : Hid (∀ w, Calls Try.prog 169 #[.slice none 0 0, .func (.func 170) #[] #[]] w fun e w' => e = .returned (.tuple #[]) ∧ w' = w))
    (es : List (List Int)) (ea : Option Addr) (ec : Nat) (w : World) (hr : Recs w ea 10 es) (hl : es.length ≤ 1000) :
    Calls Try.prog 114 #[.slice ea es.length ec] w (AllA es w) := by
  have HPL := hid (places_calls es ea ec w hr hl)
  have HR := hid hr
  clear hr
  go_enter Try.func114, Try.ntmps114
  go_wp2_with fail
  refine HPL.out.mono ?_
  rintro e W ⟨B, rfl, hpm, hbW⟩
  have HPM := hid hpm
  have HBW := hid hbW
  clear hpm hbW HPL
  go_wp2_with fail
  go_loopw [4, 11] (fun v i wr => ∃ k : Nat, k ≤ es.length ∧ i = .int .i64 k ∧ Hid (RowS W.heap.size wr v ((es.take k).map (sawP es)) ∧ Below W.heap.size W wr)) (fun _ i _ => es.length - (intOf i).toNat)
  case atStart => exact ⟨0, Nat.zero_le _, rfl, World.ownsRow_nil _ _ _ _, Below.refl _ _⟩
  case round =>
    obtain ⟨k, hk, rfl, HM⟩ := hrel
    have hrow := HM.out.1
    have HBr := hid HM.out.2
    obtain ⟨va, vc, rfl, _, _, hgo⟩ := hrow.open
    have HRW := hid hrow
    have HWr : Hid (Below w.heap.size w wr) := HBW.out.trans (HBr.out.mono HBW.out.size)
    clear hrow
    by_cases hlt : k < es.length
    · have hltz : (k : Int) < (es.length : Int) := by omega
      obtain ⟨b, o, rfl, hb, l0, l1, l2, l3, l4, l5, l6, l7, l8, l9⟩ := (HR.out.below HWr.out).ten hlt
      have hlen : ((es.take k).map (sawP es)).length ≤ 1000 := by rw [List.length_map, List.length_take]; omega
      have HN : Hid ((es.take k).map (sawP es) ++ [seenZ (rec es k) (spotZ es (fld (rec es k) 9))] = (es.take (k + 1)).map (sawP es)) := by
        show _ = _
        rw [take_rec hlt, List.map_append]
        rfl
      generalize rec es k = u at l0 l1 l2 l3 l4 l5 l6 l7 l8 l9 HN
      generalize (es.take k).map (sawP es) = L at HN HRW hlen hgo ⊢
      obtain ⟨X, hX⟩ : ∃ X, wr.alloc (.cells (entC u) 86) = X := ⟨_, rfl⟩
      have hbX : Below wr.heap.size wr X := by rw [← hX]; exact (Below.refl _ _).alloc (Nat.le_refl _) _
      have hrX : RowS W.heap.size X (.slice va L.length vc) L := by rw [← hX]; exact World.ownsRow.alloc HRW.out _
      have hhX : X.heap[wr.heap.size]? = some (.cells (entC u) 86) := by rw [← hX]; exact heap_alloc_new _ _
      have z0 : X.cell? ⟨wr.heap.size, 0, none⟩ = some (.int .i64 (fld u 0)) := cell_of_row X _ 0 _ _ _ hhX
      have z1 : X.cell? ⟨wr.heap.size, 1, none⟩ = some (.int .i64 (fld u 1)) := cell_of_row X _ 1 _ _ _ hhX
      have z2 : X.cell? ⟨wr.heap.size, 2, none⟩ = some (.int .i64 (fld u 2)) := cell_of_row X _ 2 _ _ _ hhX
      have z3 : X.cell? ⟨wr.heap.size, 3, none⟩ = some (.int .i64 (fld u 3)) := cell_of_row X _ 3 _ _ _ hhX
      have z4 : X.cell? ⟨wr.heap.size, 4, none⟩ = some (.int .i64 (fld u 4)) := cell_of_row X _ 4 _ _ _ hhX
      have z5 : X.cell? ⟨wr.heap.size, 5, none⟩ = some (.int .i64 (fld u 5)) := cell_of_row X _ 5 _ _ _ hhX
      have z6 : X.cell? ⟨wr.heap.size, 6, none⟩ = some (.int .i64 (fld u 6)) := cell_of_row X _ 6 _ _ _ hhX
      have z7 : X.cell? ⟨wr.heap.size, 7, none⟩ = some (.int .i64 (fld u 7)) := cell_of_row X _ 7 _ _ _ hhX
      have z8 : X.cell? ⟨wr.heap.size, 8, none⟩ = some (.int .i64 (fld u 8)) := cell_of_row X _ 8 _ _ _ hhX
      have z9 : X.cell? ⟨wr.heap.size, 9, none⟩ = some (.int .i64 (fld u 9)) := cell_of_row X _ 9 _ _ _ hhX
      have hlook := PM.look kind_places ((HPM.out.below HBr.out).below hbX) (fld u 9)
      rw [spots_at] at hlook
      have HSE := hid (seen_calls u (spotZ es (fld u 9)) X)
      generalize spotZ es (fld u 9) = pq at hlook HSE HN
      have HBX : Hid (Below W.heap.size W X) := HBr.out.trans (hbX.mono HBr.out.size)
      have HRX := hid hrX
      clear hbX hrX hhX HM hgo
      go_wp2_with fail
      refine HSE.out.mono ?_
      rintro e w5 ⟨rfl, hb5⟩
      have HR5 : Hid (RowS W.heap.size w5 (.slice va L.length vc) L) := row_below HRX.out hb5
      have HB5 : Hid (Below W.heap.size W w5) := HBX.out.trans (hb5.mono HBX.out.size)
      clear hb5 HSE hlook z0 z1 z2 z3 z4 z5 z6 z7 z8 z9 l0 l1 l2 l3 l4 l5 l6 l7 l8 l9 hX
      generalize seenZ u pq = sn at HN ⊢
      go_wp2_with (first
        | (at_builtin; refine wp_rowsS (w5.alloc (.cells (entC sn) 171)) (by rfl) (.tmp 15) (.tmp 22) (by rfl) W.heap.size (.slice va L.length vc) L (by rfl) (World.ownsRow.alloc HR5.out _) (some ⟨w5.heap.size, 0, none⟩) 1 [sn] (by rfl) (recs_one w5 sn _) (fun h => by cases h) (show L.length + 1 ≤ 100000 by omega) (by have := HB5.out.size; simp [go_sem]; omega) ?_
           intro v6 w6 hr6 hg6 hl6
           have hb6 : Below W.heap.size W w6 := (HB5.out.alloc HB5.out.size _).grown hg6 (by have := HB5.out.size; simp [go_sem]; omega) (fun k hk => (World.ownsRow.lt HR5.out k hk).1)
           rw [HN.out] at hr6
           have HR6 := hid hr6
           have HB6 := hid hb6
           clear hr6 hg6 hl6 hb6))
      go_roundw
      case rel => exact ⟨k + 1, by omega, by go_num, HR6.out, HB6.out⟩
      case measure => simp [intOf]; omega
    · have hltz : ¬ (k : Int) < (es.length : Int) := by omega
      have e : es.take k = es := List.take_of_length_le (by omega)
      rw [e] at HRW hgo ⊢
      have hlm : (es.map (sawP es)).length = es.length := List.length_map ..
      rw [hlm] at HRW hgo ⊢
      clear HM
      go_wp2_with fail
      have hrw := HRW.out
      rcases hrw.2 with ⟨hv, h0⟩ | ⟨g, cap, cur, hv, hbg, hhg, _⟩
      · simp only [Value.slice.injEq] at hv
        obtain ⟨rfl, hq, rfl⟩ := hv
        clear hq
        have hes0 : es.length = 0 := by rw [← hlm]; exact h0
        have hes : es = [] := List.eq_nil_of_length_eq_zero hes0
        have HE := hid hes
        rw [hes0]
        refine (HN0.out wr).mono ?_
        rintro e2 w2 ⟨rfl, hw2⟩
        rw [hw2]
        clear hw2 w2 hrw hes hes0 h0 hgo hlm e
        go_wp2
        go_ret
        have e3 := HE.out
        subst e3
        exact ⟨none, 0, #[], rfl, ⟨rfl, fun _ _ => rfl, List.Perm.refl _⟩, fun i j _ _ hj => absurd hj (Nat.not_lt_zero _), Or.inl rfl, HWr.out, fun b o h => by cases h⟩
      · simp only [Value.slice.injEq] at hv
        obtain ⟨rfl, hq, rfl⟩ := hv
        clear hq
        have hg : g < wr.heap.size := (Array.getElem?_eq_some_iff.1 hhg).1
        have hrw2 : RowS W.heap.size wr (.slice (some ⟨g, 0, none⟩) (es.map (sawP es)).length vc) (es.map (sawP es)) := by rw [hlm]; exact hrw
        have HSO := hid (sortS_some Ly h6 h24 W.heap.size g vc (es.map (sawP es)) wr hrw2 (by rw [hlm]; exact hl) hbg hg)
        rw [hlm] at HSO
        have HLM := hid hlm
        clear hrw hrw2 hhg hgo hlm e
        refine HSO.out.mono ?_
        rintro e2 w2 ⟨rfl, d, hp, hs, hrec, hb2⟩
        have HA : Hid (AllA es w (.returned (.slice (some ⟨g, 0, none⟩) es.length vc)) w2) := ⟨_, _, d, rfl, hp, hs, hrec, HWr.out.trans (RowKit.Below.mono hb2 HBW.out.size), fun b o h => by cases h; exact Nat.le_trans HBW.out.size hbg⟩
        clear hp hs hrec hb2 HSO
        go_wp2
        go_ret
        exact HA.out
end Go.Proofs.Ytgiieepfhohmhaa
