/- Package newer of the program: one aims at another. -/
import Derived.Deep.DeepCutAuto
import Derived.Test.YtmnddahkbmlibaaNsNwI
namespace Go.Proofs.Ytmnddahkbmlibaa
open Go.RowKit Go.Maps
def aimD (t : List Int) : Int := if fld t 2 = 4 then 3 else 2
def aimP (es : List (List Int)) (i : Nat) (id : Int) (r : Option Nat) : List (List Int) :=
  match r with
  | none => es
  | some j => if mayN (aimD (rec es j)) (rec es i) (rec es j) = true then es.set i (updR 11 (tellR (rec es i) (aimD (rec es j)) 0 0 0) 9 id) else es
set_option maxRecDepth 100000 in
set_option maxHeartbeats 8000000 in
theorem aimN_calls (base p B g n c : Nat) (s : St) (f : Int → Option Value) (old : Int) (i : Nat) (id : Int) (r : Option Nat) (w : World) (hlen : s.es.length ≤ 1000) (hi : i < s.es.length) (hr : ∀ j, r = some j → j < s.es.length) (hf : f id = r.map fun j => inV j)
    (h : GmN base w p (.slice (some ⟨g, 0, none⟩) n c) B s f old) :
    Calls Try.prog 157 #[.pointer (some ⟨p, 0, none⟩), .pointer (some ⟨g, i * 11, none⟩), .int .i64 id] w fun e w' => e = .returned (.tuple #[]) ∧ GmN base w' p (.slice (some ⟨g, 0, none⟩) n c) B { s with es := aimP s.es i id r } f old ∧ Below base w w' := by
  obtain ⟨ea, c', hev, hcap, hrecs, hg0⟩ := h.er.open
  obtain ⟨g', hg', hbg, hgl⟩ := hg0 (by omega)
  cases hev
  cases hg'
  have HG := hid h
  have hlo := h.wh.lookOk id
  rw [hf] at hlo
  have d5 := h.cell 5
  have d4 := h.cell 4
  have hbw : base ≤ w.heap.size := by omega
  obtain ⟨hc, _⟩ := h.er.cells hi
  cases r with
  | none =>
    have hlo' : (Instr.lookup 141 (.map (some B)) (.int .i64 id) true).run Try.prog w = .ok (.tuple #[.int .i64 0, .bool false]) w := hlo
    clear hlo h hrecs hg0 hc d4 hf
    go_enter Try.func157, Try.ntmps157
    go_wp2
    refine bodyPost_ret (results_none rfl _ _ _) rfl ?_
    exact ⟨rfl, HG.out, Below.refl _ _⟩
  | some j =>
    have hj := hr j rfl
    have hjz : (j : Int) < (s.es.length : Int) := by omega
    have hlo' : (Instr.lookup 141 (.map (some B)) (.int .i64 id) true).run Try.prog w = .ok (.tuple #[.int .i64 j, .bool true]) w := hlo
    obtain ⟨hcj, _⟩ := h.er.cells hj
    have HU : Hid (∀ W, Calls Try.prog 169 #[unitV (rec s.es i), .int .i64 (aimD (rec s.es j)), unitV (rec s.es j)] W fun e w' => e = .returned (.bool (mayN (aimD (rec s.es j)) (rec s.es i) (rec s.es j))) ∧ Below W.heap.size W w') := fun W => mayN_calls _ _ _ W
    have l0 : w.cell? ⟨g, i * 11, none⟩ = some (.int .i64 (fld (rec s.es i) 0)) := hc 0 (by omega)
    have l1 := hc 1 (by omega)
    have l2 := hc 2 (by omega)
    have l3 := hc 3 (by omega)
    have l4 := hc 4 (by omega)
    have l5 := hc 5 (by omega)
    have l6 := hc 6 (by omega)
    have l7 := hc 7 (by omega)
    have l8 := hc 8 (by omega)
    have l9 := hc 9 (by omega)
    have l10 := hc 10 (by omega)
    have m0 : w.cell? ⟨g, j * 11, none⟩ = some (.int .i64 (fld (rec s.es j) 0)) := hcj 0 (by omega)
    have m1 := hcj 1 (by omega)
    have m2 := hcj 2 (by omega)
    have m3 := hcj 3 (by omega)
    have m4 := hcj 4 (by omega)
    have m5 := hcj 5 (by omega)
    have m6 := hcj 6 (by omega)
    have m7 := hcj 7 (by omega)
    have m8 := hcj 8 (by omega)
    have m9 := hcj 9 (by omega)
    have m10 := hcj 10 (by omega)
    have HP : Hid (aimP s.es i id (some j) = if mayN (aimD (rec s.es j)) (rec s.es i) (rec s.es j) = true then s.es.set i (updR 11 (tellR (rec s.es i) (aimD (rec s.es j)) 0 0 0) 9 id) else s.es) := rfl
    clear hlo h hrecs hg0 hc hcj hf hr
    have hk : ((fld (rec s.es j) 2 == 4) = true ∧ aimD (rec s.es j) = 3) ∨ ((fld (rec s.es j) 2 == 4) = false ∧ aimD (rec s.es j) = 2) := by
      unfold aimD
      by_cases h4 : fld (rec s.es j) 2 = 4
      · exact Or.inl ⟨by simpa using h4, if_pos h4⟩
      · exact Or.inr ⟨by simpa using h4, if_neg h4⟩
    rcases hk with ⟨b4, hd⟩ | ⟨b4, hd⟩
    · rw [hd] at HU HP
      clear hd
      go_enter Try.func157, Try.ntmps157
      go_wp2_with fail
      go_cut [42] (fun r wx => r = .bool (mayN 3 (rec s.es i) (rec s.es j)) ∧ Hid (Below w.heap.size w wx))
      case first =>
        go_region_with (go_at_call 169; refine (HU.out _).mono ?_; rintro e w2 ⟨rfl, hb2⟩)
        all_goals
          have HB2 := hid (below_of_drewN hb2)
          clear hb2 l0 l1 l2 l3 l4 l5 l6 l7 l8 l9 l10 m0 m1 m2 m3 m4 m5 m6 m7 m8 m9 m10 d4 d5
          go_wp2
          go_meet
          exact ⟨rfl, HB2⟩
      case rest =>
        obtain ⟨rfl, HB⟩ := hcut
        clear l0 l1 l2 l3 l4 l5 l6 l7 l8 l9 l10 m0 m1 m2 m3 m4 m5 m6 m7 m8 m9 m10 d4 d5 HU hlo'
        have hG := HG.out.below HB.out
        obtain ⟨hc, hf⟩ := hG.er.cells hi
        have l6 := hc 6 (by omega)
        have l7 := hc 7 (by omega)
        have l8 := hc 8 (by omega)
        have l9 := hc 9 (by omega)
        have f6 := hf (i * 11 + 6)
        have f7 := hf (i * 11 + 7)
        have f8 := hf (i * 11 + 8)
        have f9 := hf (i * 11 + 9)
        have HG2 := hid hG
        have HB2 : Hid (Below base w wc) := HB.out.mono hbw
        clear hG hc hf HG HB
        cases hb : mayN 3 (rec s.es i) (rec s.es j)
        · have HE : Hid (aimP s.es i id (some j) = s.es) := by show _ = _; rw [HP.out, hb]; rfl
          clear hb HP
          go_wp2
          go_end0
          exact ⟨rfl, by rw [HE.out]; exact HG2.out, HB2.out⟩
        · have HE : Hid (aimP s.es i id (some j) = s.es.set i (updR 11 (tellR (rec s.es i) 3 0 0 0) 9 id)) := by show _ = _; rw [HP.out, if_pos hb]
          clear hb HP
          go_wp2_with fail
          refine (turnN_calls g (i * 11) 3 _ _ _ _ _ l6 l7 l8 l9 f6 f7 f8 f9).mono ?_
          rintro e w4 ⟨rfl, rfl⟩
          have hG4 := gmN_tell HG2.out hi 3 0 0 0
          have hB4 := below_turnW (m := i * 11) (does := 3) HB2.out hbg
          rw [← turnW_tell] at hG4
          clear l6 l7 l8 l9 f6 f7 f8 f9
          generalize turnW wc g (i * 11) 3 = w4 at hG4 hB4 ⊢
          have hi4 : i < ({ s with es := s.es.set i (tellR (rec s.es i) 3 0 0 0) } : St).es.length := by show i < (s.es.set i _).length; rw [List.length_set]; exact hi
          obtain ⟨hc, hf⟩ := hG4.er.cells hi4
          have l9 := hc 9 (by omega)
          have f9 := hf (i * 11 + 9)
          have hG5 := gmN_rput hG4 hi4 (j := 9) (by omega) id
          simp only [set_set] at hG5
          rw [rec_set_same hi] at hG5
          have HG5 := hid hG5
          have HB5 := hid (hB4.setCell (p := ⟨g, i * 11 + 9, none⟩) hbg (.int .i64 id))
          clear hG4 hB4 hc hf hG5 HG2 HB2
          go_wp2
          go_end0
          exact ⟨rfl, by rw [HE.out]; exact HG5.out, HB5.out⟩
    · rw [hd] at HU HP
      clear hd
      go_enter Try.func157, Try.ntmps157
      go_wp2_with fail
      go_cut [42] (fun r wx => r = .bool (mayN 2 (rec s.es i) (rec s.es j)) ∧ Hid (Below w.heap.size w wx))
      case first =>
        go_region_with (go_at_call 169; refine (HU.out _).mono ?_; rintro e w2 ⟨rfl, hb2⟩)
        all_goals
          have HB2 := hid (below_of_drewN hb2)
          clear hb2 l0 l1 l2 l3 l4 l5 l6 l7 l8 l9 l10 m0 m1 m2 m3 m4 m5 m6 m7 m8 m9 m10 d4 d5
          go_wp2
          go_meet
          exact ⟨rfl, HB2⟩
      case rest =>
        obtain ⟨rfl, HB⟩ := hcut
        clear l0 l1 l2 l3 l4 l5 l6 l7 l8 l9 l10 m0 m1 m2 m3 m4 m5 m6 m7 m8 m9 m10 d4 d5 HU hlo'
        have hG := HG.out.below HB.out
        obtain ⟨hc, hf⟩ := hG.er.cells hi
        have l6 := hc 6 (by omega)
        have l7 := hc 7 (by omega)
        have l8 := hc 8 (by omega)
        have l9 := hc 9 (by omega)
        have f6 := hf (i * 11 + 6)
        have f7 := hf (i * 11 + 7)
        have f8 := hf (i * 11 + 8)
        have f9 := hf (i * 11 + 9)
        have HG2 := hid hG
        have HB2 : Hid (Below base w wc) := HB.out.mono hbw
        clear hG hc hf HG HB
        cases hb : mayN 2 (rec s.es i) (rec s.es j)
        · have HE : Hid (aimP s.es i id (some j) = s.es) := by show _ = _; rw [HP.out, hb]; rfl
          clear hb HP
          go_wp2
          go_end0
          exact ⟨rfl, by rw [HE.out]; exact HG2.out, HB2.out⟩
        · have HE : Hid (aimP s.es i id (some j) = s.es.set i (updR 11 (tellR (rec s.es i) 2 0 0 0) 9 id)) := by show _ = _; rw [HP.out, if_pos hb]
          clear hb HP
          go_wp2_with fail
          refine (turnN_calls g (i * 11) 2 _ _ _ _ _ l6 l7 l8 l9 f6 f7 f8 f9).mono ?_
          rintro e w4 ⟨rfl, rfl⟩
          have hG4 := gmN_tell HG2.out hi 2 0 0 0
          have hB4 := below_turnW (m := i * 11) (does := 2) HB2.out hbg
          rw [← turnW_tell] at hG4
          clear l6 l7 l8 l9 f6 f7 f8 f9
          generalize turnW wc g (i * 11) 2 = w4 at hG4 hB4 ⊢
          have hi4 : i < ({ s with es := s.es.set i (tellR (rec s.es i) 2 0 0 0) } : St).es.length := by show i < (s.es.set i _).length; rw [List.length_set]; exact hi
          obtain ⟨hc, hf⟩ := hG4.er.cells hi4
          have l9 := hc 9 (by omega)
          have f9 := hf (i * 11 + 9)
          have hG5 := gmN_rput hG4 hi4 (j := 9) (by omega) id
          simp only [set_set] at hG5
          rw [rec_set_same hi] at hG5
          have HG5 := hid hG5
          have HB5 := hid (hB4.setCell (p := ⟨g, i * 11 + 9, none⟩) hbg (.int .i64 id))
          clear hG4 hB4 hc hf hG5 HG2 HB2
          go_wp2
          go_end0
          exact ⟨rfl, by rw [HE.out]; exact HG5.out, HB5.out⟩
end Go.Proofs.Ytmnddahkbmlibaa
