/- A tick under way: one is told something else; it aims. -/
import Derived.Test.YtakmjfchhchngaaGame
namespace Go.Proofs.Ytakmjfchhchngaa
open Go.RowKit Go.Maps

def turnW (w : World) (g m : Nat) (does : Int) : World :=
  (((w.setCell ⟨g, m + 6, none⟩ (.int .i64 does)).setCell ⟨g, m + 7, none⟩ (.int .i64 0)).setCell ⟨g, m + 8, none⟩ (.int .i64 0)).setCell ⟨g, m + 9, none⟩ (.int .i64 0)
def turnR (u : List Int) (does : Int) : List Int := updR 10 (updR 10 (updR 10 (updR 10 u 6 does) 7 0) 8 0) 9 0

theorem set_set {es : List (List Int)} {i : Nat} {a b : List Int} : (es.set i a).set i b = es.set i b := by simp
theorem rec_set_same {es : List (List Int)} {i : Nat} {a : List Int} (h : i < es.length) : rec (es.set i a) i = a := by rw [rec_set h, if_pos rfl]

set_option maxRecDepth 100000 in
set_option maxHeartbeats 1000000 in
theorem turn_calls (g m : Nat) (does : Int) (w : World) (x6 x7 x8 x9 : Value) (h6 : w.cell? ⟨g, m + 6, none⟩ = some x6) (h7 : w.cell? ⟨g, m + 7, none⟩ = some x7) (h8 : w.cell? ⟨g, m + 8, none⟩ = some x8) (h9 : w.cell? ⟨g, m + 9, none⟩ = some x9)
    (f6 : w.frozen? ⟨g, m + 6, none⟩ = false) (f7 : w.frozen? ⟨g, m + 7, none⟩ = false) (f8 : w.frozen? ⟨g, m + 8, none⟩ = false) (f9 : w.frozen? ⟨g, m + 9, none⟩ = false) :
    Calls Try.prog 103 #[.pointer (some ⟨g, m, none⟩), .int .i64 does] w fun e w' => e = .returned (.tuple #[]) ∧ w' = turnW w g m does := by
  unfold turnW
  go_enter Try.func103, Try.ntmps103
  go_wp2
  go_end0
  exact ⟨rfl, rfl⟩

section
variable {base : Nat} {w : World} {p : Nat} {fv bv : Value} {B : Nat} {s : St} {was : Int → Int}

theorem gm_turn {g n c : Nat} (h : Gm base w p (.slice (some ⟨g, 0, none⟩) n c) fv bv B s was) {i : Nat} (hi : i < s.es.length) (does : Int) :
    Gm base (turnW w g (i * 10) does) p (.slice (some ⟨g, 0, none⟩) n c) fv bv B { s with es := s.es.set i (turnR (rec s.es i) does) } was := by
  have h1 := gm_rput h hi (j := 6) (by omega) does
  have h2 := gm_rput h1 (i := i) (by simpa using hi) (j := 7) (by omega) 0
  have h3 := gm_rput h2 (i := i) (by simpa using hi) (j := 8) (by omega) 0
  have h4 := gm_rput h3 (i := i) (by simpa using hi) (j := 9) (by omega) 0
  simp only [set_set] at h4
  rw [rec_set_same (by simpa using hi), rec_set_same (by simpa using hi), rec_set_same (by simpa using hi)] at h4
  exact h4
end

theorem below_turnW {base : Nat} {a w : World} {g m : Nat} {does : Int} (h : Below base a w) (hg : base ≤ g) : Below base a (turnW w g m does) :=
  (((h.setCell (p := ⟨g, m + 6, none⟩) hg _).setCell (p := ⟨g, m + 7, none⟩) hg _).setCell (p := ⟨g, m + 8, none⟩) hg _).setCell (p := ⟨g, m + 9, none⟩) hg _

/- The ten cells of one of the row, and that they may be written. -/
theorem Row.ten {base : Nat} {w : World} {g n c : Nat} {es : List (List Int)} (h : Row base w (.slice (some ⟨g, 0, none⟩) n c) es) {i : Nat} (hi : i < es.length) :
    (∀ j, j < 10 → w.cell? ⟨g, i * 10 + j, none⟩ = some (.int .i64 (fld (rec es i) j))) ∧ (∀ j, w.frozen? ⟨g, j, none⟩ = false) := by
  have hn : n = es.length := by
    rcases h.2 with ⟨h', _⟩ | ⟨g', cap', cur, h', _⟩
    · cases h'
    · cases h'; rfl
  subst hn
  refine ⟨fun j hj => ?_, fun j => World.ownsRow.frozenAt h j⟩
  have hlt : i * 10 + j < es.length * 10 := by omega
  rw [World.ownsRow.cellAt h _ hlt, flat_get hj, if_pos hi]

def aimS (s : St) (i : Nat) (does target : Int) : St :=
  if aimE s.es (rec s.es i) does target = true then { s with es := s.es.set i (updR 10 (turnR (rec s.es i) does) 9 target) } else s

set_option maxRecDepth 100000 in
set_option maxHeartbeats 4000000 in
theorem aim_calls (base p g n c : Nat) (fv bv : Value) (B : Nat) (s : St) (was : Int → Int) (i : Nat) (does target : Int) (w : World) (hi : i < s.es.length) (hn : s.es.length ≤ 1000)
    (h : Gm base w p (.slice (some ⟨g, 0, none⟩) n c) fv bv B s was) :
    Calls Try.prog 104 #[.pointer (some ⟨p, 0, none⟩), .pointer (some ⟨g, i * 10, none⟩), .int .i64 does, .int .i64 target] w fun e w' => e = .returned (.tuple #[]) ∧ Gm base w' p (.slice (some ⟨g, 0, none⟩) n c) fv bv B (aimS s i does target) was ∧ Below base w w' := by
  obtain ⟨ea, c', hev, hcap, hrecs, hg0⟩ := h.er.open
  obtain ⟨g', hg', hbg, hgl⟩ := hg0 (by omega)
  cases hev
  cases hg'
  have HG := hid h
  have HR := hid hrecs
  obtain ⟨c0, c1, c2, c3, c4, c5, c6, c7⟩ := h.eight
  obtain ⟨hc, hf⟩ := h.er.ten hi
  have l0 : w.cell? ⟨g, i * 10, none⟩ = some (.int .i64 (fld (rec s.es i) 0)) := hc 0 (by omega)
  have l1 := hc 1 (by omega)
  have l2 := hc 2 (by omega)
  have l3 := hc 3 (by omega)
  have l4 := hc 4 (by omega)
  have l5 := hc 5 (by omega)
  have l6 := hc 6 (by omega)
  have l7 := hc 7 (by omega)
  have l8 := hc 8 (by omega)
  have l9 := hc 9 (by omega)
  clear h hrecs hg0 hc hf c0 c1 c2 c3 c4 c6 c7
  have HA : Hid (∀ W, Recs W (some ⟨g, 0, none⟩) 10 s.es → Calls Try.prog 82 #[.slice (some ⟨g, 0, none⟩) s.es.length c, entV (rec s.es i), .int .i64 does, .int .i64 target] W fun e w' => e = .returned (.bool (aimE s.es (rec s.es i) does target)) ∧ Below W.heap.size W w') := fun W hW => mayAim_calls s.es _ c (rec s.es i) does target W hn hW
  go_enter Try.func104, Try.ntmps104
  go_wp2_with fail
  go_cut [18] (fun r wx => r = .bool (aimE s.es (rec s.es i) does target) ∧ Hid (Below w.heap.size w wx))
  case first =>
    go_region_with (go_at_call 82; refine (HA.out _ (HR.out.drewN _)).mono ?_; rintro e w2 ⟨rfl, hb2⟩)
    all_goals
      have HB2 := hid (below_of_drewN hb2)
      clear hb2 l0 l1 l2 l3 l4 l5 l6 l7 l8 l9 c5
      go_wp2
      go_meet
      exact ⟨rfl, HB2⟩
  case rest =>
    obtain ⟨rfl, HB⟩ := hcut
    clear l0 l1 l2 l3 l4 l5 l6 l7 l8 l9 c5 HA
    have hG := HG.out.below HB.out
    have hsz := HB.out.size
    obtain ⟨hc, hf⟩ := hG.er.ten hi
    have l6 := hc 6 (by omega)
    have l7 := hc 7 (by omega)
    have l8 := hc 8 (by omega)
    have l9 := hc 9 (by omega)
    have f6 := hf (i * 10 + 6)
    have f7 := hf (i * 10 + 7)
    have f8 := hf (i * 10 + 8)
    have f9 := hf (i * 10 + 9)
    have HG2 := hid hG
    clear hG hc hf HG HR
    cases hb : aimE s.es (rec s.es i) does target
    · have HE : Hid (aimS s i does target = s) := by show _ = _; unfold aimS; rw [hb]; rfl
      clear hb
      go_wp2
      go_end0
      exact ⟨rfl, by rw [HE.out]; exact HG2.out, HB.out.mono (by omega)⟩
    · have HE : Hid (aimS s i does target = { s with es := s.es.set i (updR 10 (turnR (rec s.es i) does) 9 target) }) := by show _ = _; unfold aimS; rw [if_pos hb]
      clear hb
      go_wp2_with fail
      refine (turn_calls g (i * 10) does _ _ _ _ _ l6 l7 l8 l9 f6 f7 f8 f9).mono ?_
      rintro e w3 ⟨rfl, rfl⟩
      clear l6 l7 l8 l9 f6 f7 f8 f9
      have hG3 := gm_turn HG2.out hi does
      have hi3 : i < (s.es.set i (turnR (rec s.es i) does)).length := by simpa using hi
      obtain ⟨hc, hf⟩ := hG3.er.ten hi3
      have l9 := hc 9 (by omega)
      have f9 := hf (i * 10 + 9)
      have hG4 := gm_rput hG3 hi3 (j := 9) (by omega) target
      simp only [set_set] at hG4
      rw [rec_set_same hi] at hG4
      have HG4 := hid hG4
      have HB3 := hid (below_turnW (m := i * 10) (does := does) (HB.out.mono (B' := base) (by omega)) hbg)
      clear hG3 hc hf hG4 HG2
      generalize turnW _ g (i * 10) does = w3 at l9 f9 HG4 HB3
      go_wp2
      go_end0
      exact ⟨rfl, by rw [HE.out]; exact HG4.out, HB3.out.setCell (p := ⟨g, i * 10 + 9, none⟩) hbg _⟩
end Go.Proofs.Ytakmjfchhchngaa
