/- Package newer of the program: who is where it was going to is idle. -/
import Derived.BigQuiet
import Derived.Test.YtmnddahkbmlibaaTnNwI
namespace Go.Proofs.Ytmnddahkbmlibaa
open Go.RowKit Go.Maps
def arriveP (u : List Int) : List Int := if fld u 6 = 1 ∧ fld u 3 = fld u 7 ∧ fld u 4 = fld u 8 then tellR u 0 0 0 0 else u
set_option maxRecDepth 100000 in
set_option maxHeartbeats 8000000 in
theorem arriveN_calls (base p B : Nat) (uv : Value) (s : St) (f : Int → Option Value) (o : Nat) (w : World) (hlen : s.es.length ≤ 1000) (ho : o ≤ s.es.length) (h : GmN base w p uv B s f o) :
    Calls Try.prog 108 #[.pointer (some ⟨p, 0, none⟩)] w fun e w' => e = .returned (.tuple #[]) ∧ GmN base w' p uv B { s with es := mapK arriveP s.es o } f o ∧ Below base w w' := by
  obtain ⟨ea, c, rfl, hcap, hrecs, hg0⟩ := h.er.open
  have HE0 := hid hg0
  have d4 := h.cell 4
  have d6 := h.cell 6
  have HG0 : Hid (GmN base w p (.slice ea s.es.length c) B { s with es := mapK arriveP s.es 0 } f o) := by
    show GmN _ _ _ _ _ _ _ _
    rw [mapK_zero]
    exact h
  have hoc : (o : Int) ≤ (c : Int) := by omega
  have ho0 : (0 : Int) ≤ (o : Int) := by omega
  have hoc' : o ≤ c := by omega
  clear h hrecs hg0
  go_enter Try.func108, Try.ntmps108
  go_wp2_with fail
  go_quiet (fail)
  clear d4 d6
  have HGq : Hid (GmN base (w.drewN nq) p (.slice ea s.es.length c) B { s with es := mapK arriveP s.es 0 } f o) := HG0.out.below (below_drewN (Below.refl _ w) nq)
  have HBq : Hid (Below base w (w.drewN nq)) := below_drewN (Below.refl _ w) nq
  clear HG0
  generalize w.drewN nq = wq at HGq HBq ⊢
  go_wp2
  go_loopw [15] (fun i wr => ∃ k : Nat, k ≤ o ∧ i = .int .i64 k ∧ Hid (GmN base wr p (.slice ea s.es.length c) B { s with es := mapK arriveP s.es k } f o) ∧ Hid (Below base w wr)) (fun i _ => o - (intOf i).toNat)
  case atStart => exact ⟨0, Nat.zero_le _, rfl, HGq, HBq⟩
  case round =>
    clear HGq HBq
    obtain ⟨k, hk, rfl, HGk, HBk⟩ := hrel
    by_cases hko : k < o
    · have hkz : (k : Int) < (o : Int) := by omega
      have hkl : k < s.es.length := by omega
      have hkl' : (k : Int) < (s.es.length : Int) := by omega
      have hlk : (mapK arriveP s.es k).length = s.es.length := mapK_length _ _ (by omega)
      obtain ⟨g, rfl, hbg, hgl⟩ := HE0.out (by omega)
      have hkl2 : k < ({ s with es := mapK arriveP s.es k } : St).es.length := by show k < (mapK arriveP s.es k).length; omega
      obtain ⟨hc, hf⟩ := HGk.out.er.cells hkl2
      have hrk : rec ({ s with es := mapK arriveP s.es k } : St).es k = rec s.es k := by show rec (mapK arriveP s.es k) k = _; rw [mapK_rec _ _ (by omega) hkl, if_neg (by omega)]
      rw [hrk] at hc
      have l3 := hc 3 (by omega)
      have l4 := hc 4 (by omega)
      have l6 := hc 6 (by omega)
      have l7 := hc 7 (by omega)
      have l8 := hc 8 (by omega)
      have l9 := hc 9 (by omega)
      have f6 := hf (k * 11 + 6)
      have f7 := hf (k * 11 + 7)
      have f8 := hf (k * 11 + 8)
      have f9 := hf (k * 11 + 9)
      have d4 := HGk.out.cell 4
      have hpr := HGk.out.lt
      have HRK := hid hrk
      have HAU : Hid (arriveP (rec s.es k) = if fld (rec s.es k) 6 = 1 ∧ fld (rec s.es k) 3 = fld (rec s.es k) 7 ∧ fld (rec s.es k) 4 = fld (rec s.es k) 8 then tellR (rec s.es k) 0 0 0 0 else rec s.es k) := rfl
      clear hc hf hrk
      by_cases hall : fld (rec s.es k) 6 = 1 ∧ fld (rec s.es k) 3 = fld (rec s.es k) 7 ∧ fld (rec s.es k) 4 = fld (rec s.es k) 8
      · have HN : Hid (mapK arriveP s.es (k + 1) = (mapK arriveP s.es k).set k (tellR (rec s.es k) 0 0 0 0)) := by
          show _ = _
          rw [mapK_next _ _ hkl, HAU.out, if_pos hall]
        have b1 : (fld (rec s.es k) 6 == 1) = true := by simpa using hall.1
        have b2 : (fld (rec s.es k) 3 == fld (rec s.es k) 7) = true := by simpa using hall.2.1
        have b3 : (fld (rec s.es k) 4 == fld (rec s.es k) 8) = true := by simpa using hall.2.2
        clear hall
        go_wp2_with fail
        go_quiet (fail)
        have hG4 := gmN_tell (HGk.out.below (below_drewN (Below.refl _ wr) nq)) hkl2 0 0 0 0
        rw [HRK.out] at hG4
        have HG4 : Hid (GmN base (turnW (wr.drewN nq) g (k * 11) 0) p (.slice (some ⟨g, 0, none⟩) s.es.length c) B { s with es := mapK arriveP s.es (k + 1) } f o) := by
          show GmN _ _ _ _ _ _ _ _
          rw [HN.out]
          exact hG4
        have HB4 := hid (below_turnW (m := k * 11) (does := 0) (below_drewN HBk.out nq) hbg)
        clear hG4 l3 l4 d4 b1 b2 b3
        have t6 : (wr.drewN nq).cell? ⟨g, k * 11 + 6, none⟩ = _ := l6
        have t7 : (wr.drewN nq).cell? ⟨g, k * 11 + 7, none⟩ = _ := l7
        have t8 : (wr.drewN nq).cell? ⟨g, k * 11 + 8, none⟩ = _ := l8
        have t9 : (wr.drewN nq).cell? ⟨g, k * 11 + 9, none⟩ = _ := l9
        go_wp2_with fail
        refine (turnN_calls g (k * 11) 0 (wr.drewN nq) _ _ _ _ t6 t7 t8 t9 f6 f7 f8 f9).mono ?_
        rintro e w4 ⟨rfl, rfl⟩
        clear l6 l7 l8 l9 f6 f7 f8 f9 t6 t7 t8 t9
        generalize turnW (wr.drewN nq) g (k * 11) 0 = w4 at HG4 HB4
        go_wp2
        go_roundw
        case rel => exact ⟨k + 1, by omega, by go_num, HG4, HB4⟩
        case measure => simp [intOf]; omega
      · have HS : Hid (mapK arriveP s.es (k + 1) = mapK arriveP s.es k) := mapK_same _ _ hkl (by rw [HAU.out, if_neg hall])
        have HG4 : Hid (∀ n, GmN base (wr.drewN n) p (.slice (some ⟨g, 0, none⟩) s.es.length c) B { s with es := mapK arriveP s.es (k + 1) } f o) := fun n => by
          rw [HS.out]
          exact HGk.out.below (below_drewN (Below.refl _ wr) n)
        have hways : (fld (rec s.es k) 6 == 1) = false ∨ ((fld (rec s.es k) 6 == 1) = true ∧ ((fld (rec s.es k) 3 == fld (rec s.es k) 7) = false ∨ ((fld (rec s.es k) 3 == fld (rec s.es k) 7) = true ∧ (fld (rec s.es k) 4 == fld (rec s.es k) 8) = false))) := by
          by_cases h1 : fld (rec s.es k) 6 = 1
          · refine Or.inr ⟨by simpa using h1, ?_⟩
            by_cases h2 : fld (rec s.es k) 3 = fld (rec s.es k) 7
            · refine Or.inr ⟨by simpa using h2, ?_⟩
              rw [beq_eq_false_iff_ne]
              exact fun h3 => hall ⟨h1, h2, h3⟩
            · exact Or.inl (by simpa using h2)
          · exact Or.inl (by simpa using h1)
        clear hall HAU
        rcases hways with b1 | ⟨b1, b2 | ⟨b2, b3⟩⟩
        all_goals
          go_wp2_with fail
          go_quiet (fail)
          go_wp2
          go_roundw
          case rel => exact ⟨k + 1, by omega, by go_num, HG4.out _, below_drewN HBk.out _⟩
          case measure => simp [intOf]; omega
    · have hkz : ¬ (k : Int) < (o : Int) := by omega
      have hke : k = o := by omega
      subst hke
      go_wp2
      go_end0
      exact ⟨rfl, HGk.out, HBk.out⟩
end Go.Proofs.Ytmnddahkbmlibaa
