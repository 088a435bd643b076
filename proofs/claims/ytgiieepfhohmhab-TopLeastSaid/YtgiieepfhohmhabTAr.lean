/- A tick under way: who is where it was going to is idle. -/
import Derived.Test.YtgiieepfhohmhabTOkA
namespace Go.Proofs.Ytgiieepfhohmhab
open Go.RowKit Go.Maps
set_option maxRecDepth 100000 in
set_option maxHeartbeats 8000000 in
theorem arrive_calls (base p : Nat) (s : St) (was : Int → Int) (w : World) (hlen : s.es.length ≤ 100) (hwf : ∀ i, i < s.es.length → (Lit.int .i64 (fld (rec s.es i) 0)).wf = true) (h : GmE base w p s was) :
    Calls Try.prog 58 #[.pointer (some ⟨p, 0, none⟩)] w fun e w' => e = .returned (.tuple #[]) ∧ GmE base w' p (arriveS s was) was ∧ Below base w w' := by
  obtain ⟨ev, fv, bv, B, hGm⟩ := h
  have hlt := hGm.lt
  have hbp := hGm.bp
  obtain ⟨ea, c, rfl, hcap, hrecs, hg0⟩ := hGm.er.open
  have HE0 := hid hg0
  have HWF := hid hwf
  have d5 := hGm.cell 5
  have HG0 : Hid (Gm base w p (.slice ea s.es.length c) fv bv B { s with es := mapK (arriveU was) s.es 0 } was) := by
    show Gm _ _ _ _ _ _ _ _ _
    rw [mapK_zero]
    exact hGm
  clear hGm hrecs hg0 hwf
  go_enter Try.func58, Try.ntmps58
  go_wp2
  clear d5
  go_loopw [10] (fun i wr => ∃ k : Nat, k ≤ s.es.length ∧ i = .int .i64 k ∧ Hid (Gm base wr p (.slice ea s.es.length c) fv bv B { s with es := mapK (arriveU was) s.es k } was) ∧ Hid (Below base w wr)) (fun i _ => s.es.length - (intOf i).toNat)
  case atStart => exact ⟨0, Nat.zero_le _, rfl, HG0, Below.refl _ _⟩
  case round =>
    clear HG0
    obtain ⟨k, hk, rfl, HGk, HBk⟩ := hrel
    by_cases hkl : k < s.es.length
    · have hkz : (k : Int) < (s.es.length : Int) := by omega
      have hlk : (mapK (arriveU was) s.es k).length = s.es.length := mapK_length _ _ hk
      obtain ⟨g, rfl, hbg, hgl⟩ := HE0.out (by omega)
      have hkl2 : k < ({ s with es := mapK (arriveU was) s.es k } : St).es.length := by show k < (mapK (arriveU was) s.es k).length; omega
      obtain ⟨hc, hf⟩ := HGk.out.er.ten hkl2
      have hrk : rec ({ s with es := mapK (arriveU was) s.es k } : St).es k = rec s.es k := by show rec (mapK (arriveU was) s.es k) k = _; rw [mapK_rec _ _ hk hkl, if_neg (by omega)]
      rw [hrk] at hc
      have l0 : wr.cell? ⟨g, k * 10, none⟩ = some (.int .i64 (fld (rec s.es k) 0)) := hc 0 (by omega)
      have l3 := hc 3 (by omega)
      have l4 := hc 4 (by omega)
      have l6 := hc 6 (by omega)
      have l7 := hc 7 (by omega)
      have l8 := hc 8 (by omega)
      have l9 := hc 9 (by omega)
      have f6 := hf (k * 10 + 6)
      have f7 := hf (k * 10 + 7)
      have f8 := hf (k * 10 + 8)
      have f9 := hf (k * 10 + 9)
      have d5 := HGk.out.cell 5
      have d6 := HGk.out.cell 6
      have hpr := HGk.out.lt
      have HRK := hid hrk
      have HAU : Hid (arriveU was (rec s.es k) = if 0 < was (fld (rec s.es k) 0) ∧ fld (rec s.es k) 6 = 1 ∧ fld (rec s.es k) 3 = fld (rec s.es k) 7 ∧ fld (rec s.es k) 4 = fld (rec s.es k) 8 then turnR (rec s.es k) 0 else rec s.es k) := rfl
      have SK : ∀ n, (Instr.lookup 80 (.map (some B)) (.int .i64 (fld (rec s.es k) 0)) false).run Try.prog (wr.drewN n) = .ok (.int .i64 (was (fld (rec s.es k) 0))) (wr.drewN n) := fun n => (HGk.out.ct.drewN n).look (HWF.out k hkl)
      clear hc hf hrk
      by_cases hall : 0 < was (fld (rec s.es k) 0) ∧ fld (rec s.es k) 6 = 1 ∧ fld (rec s.es k) 3 = fld (rec s.es k) 7 ∧ fld (rec s.es k) 4 = fld (rec s.es k) 8
      · have HN : Hid (mapK (arriveU was) s.es (k + 1) = (mapK (arriveU was) s.es k).set k (turnR (rec s.es k) 0)) := by
          show _ = _
          rw [mapK_next _ _ hkl, HAU.out, if_pos hall]
        have b0 : decide (0 < was (fld (rec s.es k) 0)) = true := decide_eq_true hall.1
        have b1 : (fld (rec s.es k) 6 == 1) = true := by simpa using hall.2.1
        have b2 : (fld (rec s.es k) 3 == fld (rec s.es k) 7) = true := by simpa using hall.2.2.1
        have b3 : (fld (rec s.es k) 4 == fld (rec s.es k) 8) = true := by simpa using hall.2.2.2
        clear hall
        go_wp2_with fail
        go_quiet (fail)
        have hG4 := gm_turn (HGk.out.below (below_drewN (Below.refl _ wr) nq)) hkl2 0
        rw [HRK.out] at hG4
        have HG4 : Hid (Gm base (turnW (wr.drewN nq) g (k * 10) 0) p (.slice (some ⟨g, 0, none⟩) s.es.length c) fv bv B { s with es := mapK (arriveU was) s.es (k + 1) } was) := by
          show Gm _ _ _ _ _ _ _ _ _
          rw [HN.out]
          exact hG4
        have HB4 := hid (below_turnW (m := k * 10) (does := 0) (below_drewN HBk.out nq) hbg)
        clear hG4 l0 l3 l4 d5 d6 SK b0 b1 b2 b3
        have t6 : (wr.drewN nq).cell? ⟨g, k * 10 + 6, none⟩ = _ := l6
        have t7 : (wr.drewN nq).cell? ⟨g, k * 10 + 7, none⟩ = _ := l7
        have t8 : (wr.drewN nq).cell? ⟨g, k * 10 + 8, none⟩ = _ := l8
        have t9 : (wr.drewN nq).cell? ⟨g, k * 10 + 9, none⟩ = _ := l9
        go_wp2_with fail
        refine (turn_calls g (k * 10) 0 (wr.drewN nq) _ _ _ _ t6 t7 t8 t9 f6 f7 f8 f9).mono ?_
        rintro e w4 ⟨rfl, rfl⟩
        clear l6 l7 l8 l9 f6 f7 f8 f9 t6 t7 t8 t9
        generalize turnW (wr.drewN nq) g (k * 10) 0 = w4 at HG4 HB4
        go_wp2
        go_roundw
        case rel => exact ⟨k + 1, by omega, by go_num, HG4, HB4⟩
        case measure => simp [intOf]; omega
      · have HS : Hid (mapK (arriveU was) s.es (k + 1) = mapK (arriveU was) s.es k) := mapK_same _ _ hkl (by rw [HAU.out, if_neg hall])
        have HG4 : Hid (∀ n, Gm base (wr.drewN n) p (.slice (some ⟨g, 0, none⟩) s.es.length c) fv bv B { s with es := mapK (arriveU was) s.es (k + 1) } was) := fun n => by
          rw [HS.out]
          exact HGk.out.below (below_drewN (Below.refl _ wr) n)
        have hways : decide (0 < was (fld (rec s.es k) 0)) = false ∨ (decide (0 < was (fld (rec s.es k) 0)) = true ∧ ((fld (rec s.es k) 6 == 1) = false ∨ ((fld (rec s.es k) 6 == 1) = true ∧ ((fld (rec s.es k) 3 == fld (rec s.es k) 7) = false ∨ ((fld (rec s.es k) 3 == fld (rec s.es k) 7) = true ∧ (fld (rec s.es k) 4 == fld (rec s.es k) 8) = false))))) := by
          by_cases h0 : 0 < was (fld (rec s.es k) 0)
          · refine Or.inr ⟨decide_eq_true h0, ?_⟩
            by_cases h1 : fld (rec s.es k) 6 = 1
            · refine Or.inr ⟨by simpa using h1, ?_⟩
              by_cases h2 : fld (rec s.es k) 3 = fld (rec s.es k) 7
              · refine Or.inr ⟨by simpa using h2, ?_⟩
                rw [beq_eq_false_iff_ne]
                exact fun h3 => hall ⟨h0, h1, h2, h3⟩
              · exact Or.inl (by simpa using h2)
            · exact Or.inl (by simpa using h1)
          · exact Or.inl (decide_eq_false h0)
        clear hall HAU
        rcases hways with b0 | ⟨b0, b1 | ⟨b1, b2 | ⟨b2, b3⟩⟩⟩
        all_goals
          go_wp2_with fail
          go_quiet (fail)
          go_wp2
          go_roundw
          case rel => exact ⟨k + 1, by omega, by go_num, HG4.out _, below_drewN HBk.out _⟩
          case measure => simp [intOf]; omega
    · have hkz : ¬ (k : Int) < (s.es.length : Int) := by omega
      have HF : Hid (GmE base wr p (arriveS s was) was) := by
        have h := HGk.out
        rw [mapK_all _ _ (by omega)] at h
        exact ⟨_, _, _, _, h⟩
      clear HGk
      go_wp2
      go_end0
      exact ⟨rfl, HF.out, HBk.out⟩
end Go.Proofs.Ytgiieepfhohmhab
