/- A tick under way: one is dropped. -/
import Derived.Test.YtakmjfchhchngaaGh
namespace Go.Proofs.Ytakmjfchhchngaa
open Go.RowKit Go.Maps

theorem row_pop {w : World} {base g m c : Nat} {es : List (List Int)} (h : Row base w (.slice (some ⟨g, 0, none⟩) es.length c) es) (hm : es.length = m + 1) : Row base w (.slice (some ⟨g, 0, none⟩) m c) (es.take m) := by
  have hl : (es.take m).length = m := by rw [List.length_take]; omega
  have e : flat 10 es = flat 10 (es.take m) ++ flat 10 (es.drop m) := by rw [← flat_append, List.take_append_drop]
  unfold Row at h ⊢
  rw [hm, e] at h
  rw [hl]
  exact ownsRow_pop (by rw [flat_length, hl]) h
theorem drop_moved {es : List (List Int)} {i m : Nat} (hi : i < es.length) (hm : m + i + 1 = es.length) :
    (es.take i ++ (es.drop (i + 1)).take m ++ es.drop (i + m)).length = es.length ∧ (es.take i ++ (es.drop (i + 1)).take m ++ es.drop (i + m)).take (es.length - 1) = es.eraseIdx i := by
  have e1 : (es.drop (i + 1)).take m = es.drop (i + 1) := List.take_of_length_le (by rw [List.length_drop]; omega)
  rw [e1]
  refine ⟨by simp only [List.length_append, List.length_take, List.length_drop]; omega, ?_⟩
  rw [List.take_append_of_le_length (by simp only [List.length_append, List.length_take, List.length_drop]; omega), List.take_of_length_le (by simp only [List.length_append, List.length_take, List.length_drop]; omega), List.eraseIdx_eq_take_drop_succ]

set_option maxRecDepth 100000 in
set_option maxHeartbeats 8000000 in
theorem drop_calls (base p : Nat) (s : St) (was : Int → Int) (i : Nat) (w : World) (hi : i < s.es.length) (hn : s.es.length ≤ 100) (h : GmE base w p s was) :
    Calls Try.prog 110 #[.pointer (some ⟨p, 0, none⟩), .int .i64 i] w fun e w' => e = .returned (.tuple #[]) ∧ GmE base w' p { s with es := s.es.eraseIdx i } was ∧ Below base w w' := by
  obtain ⟨ev, fv, bv, B, hG⟩ := h
  obtain ⟨ea, c, rfl, hcap, _, hg0⟩ := hG.er.open
  obtain ⟨g, rfl, hbg, hgl⟩ := hg0 (by omega)
  have hbp := hG.bp
  have hlt := hG.lt
  obtain ⟨m, hm⟩ : ∃ m, m + i + 1 = s.es.length := ⟨s.es.length - i - 1, by omega⟩
  obtain ⟨hl1, hset⟩ := drop_moved hi hm
  obtain ⟨c0, c1, c2, c3, c4, c5, c6, c7⟩ := hG.eight
  have hnc : ¬ c = i := by omega
  have hiz0 : (0 : Int) ≤ (i : Int) := by omega
  have hiz1 : (i : Int) ≤ 1000 := by omega
  have hwrp : IntKind.i64.wrap ((i : Int) + 1) = (i : Int) + 1 := IntWalk.i64_in _ ⟨by omega, by omega⟩
  have h01 : (0 : Int) ≤ (i : Int) + 1 := by omega
  have htn : ((i : Int) + 1).toNat = i + 1 := by omega
  have hile : (i : Int) ≤ (s.es.length : Int) := by omega
  have hile1 : (i : Int) + 1 ≤ (s.es.length : Int) := by omega
  have hilt : (i : Int) < (s.es.length : Int) := by omega
  have HG := hid hG
  have HL1 := hid hl1
  have HSET := hid hset
  clear hG hg0 c0 c1 c2 c3 c4 c6 c7 hl1 hset
  go_enter Try.func110, Try.ntmps110
  go_wp2_with fail
  go_cut [10] (fun _ wx => Hid (Gm base wx p (.slice (some ⟨g, 0, none⟩) s.es.length c) fv bv B { s with es := s.es.take i ++ (s.es.drop (i + 1)).take m ++ s.es.drop (i + m) } was ∧ Below base w wx))
  case first =>
    by_cases hci : c = i + 1
    · have hm0 : m = 0 := by omega
      go_region_law (refine step_copies rfl (.tmp 10) (.tmp 18) rfl base g c s.es i (i + 1) (World.ownsRow.drew HG.out.er) _ _ _ _ _ _ m rfl rfl (by omega) (by omega) (by have h : Nat.min (s.es.length - (i + 1)) (s.es.length - i) = s.es.length - (i + 1) := Nat.min_eq_left (by omega); omega) (fun hp => by omega) ?_
                     intro w' hr hg
                     have HRw := hid hr
                     have HGw := hid (drew_grown hg)
                     clear hr hg)
      all_goals
        go_wp2
        go_meet
        obtain ⟨kp, kf, kb, kc⟩ := HG.out.grownE HGw.out
        exact ⟨⟨kp, by have h := HRw.out; exact h, kf, kb, kc, HG.out.bp, HG.out.bB, HG.out.fb⟩, below_grown (Below.refl _ _) HGw.out hbg (by omega)⟩
    · go_region_law (refine step_copies rfl (.tmp 10) (.tmp 18) rfl base g c s.es i (i + 1) (World.ownsRow.drew HG.out.er) _ _ _ _ _ _ m rfl rfl (by omega) (by omega) (by have h : Nat.min (s.es.length - (i + 1)) (s.es.length - i) = s.es.length - (i + 1) := Nat.min_eq_left (by omega); omega) (fun _ => ⟨rfl, rfl⟩) ?_
                     intro w' hr hg
                     have HRw := hid hr
                     have HGw := hid (drew_grown hg)
                     clear hr hg)
      all_goals
        go_wp2
        go_meet
        obtain ⟨kp, kf, kb, kc⟩ := HG.out.grownE HGw.out
        exact ⟨⟨kp, by have h := HRw.out; exact h, kf, kb, kc, HG.out.bp, HG.out.bB, HG.out.fb⟩, below_grown (Below.refl _ _) HGw.out hbg (by omega)⟩
  case rest =>
    obtain ⟨hGc, hBc⟩ := hcut.out
    have hL := HL1.out
    have hS := HSET.out
    generalize s.es.take i ++ (s.es.drop (i + 1)).take m ++ s.es.drop (i + m) = L at hGc hL hS
    obtain ⟨n, hn1⟩ : ∃ n, s.es.length = n + 1 := ⟨s.es.length - 1, by omega⟩
    rw [hn1] at hGc hL hS hcap
    rw [Nat.add_sub_cancel] at hS
    obtain ⟨c0, c1, c2, c3, c4, c5', c6, c7⟩ := hGc.eight
    have f5 := hGc.frozen 5
    have hrow : Row base wc (.slice (some ⟨g, 0, none⟩) L.length c) L := by
      have h := hGc.er
      show Row base wc (.slice (some ⟨g, 0, none⟩) L.length c) L
      rw [hL]
      exact h
    have hrow2 := row_pop hrow hL
    rw [hS] at hrow2
    have hG2 : Gm base (wc.setCell ⟨p, 5, none⟩ (.slice (some ⟨g, 0, none⟩) n c)) p (.slice (some ⟨g, 0, none⟩) n c) fv bv B { s with es := s.es.eraseIdx i } was := gm_pset hGc.hp hGc.ct hGc.bp hGc.bB 5 (.slice (some ⟨g, 0, none⟩) n c) rfl hrow2 hGc.fr hGc.br hGc.fb
    have HG2 : Hid (GmE base (wc.setCell ⟨p, 5, none⟩ (.slice (some ⟨g, 0, none⟩) n c)) p { s with es := s.es.eraseIdx i } was) := ⟨_, _, _, _, hG2⟩
    have HB2 : Hid (Below base w (wc.setCell ⟨p, 5, none⟩ (.slice (some ⟨g, 0, none⟩) n c))) := hBc.setCell (p := ⟨p, 5, none⟩) hbp _
    have hnz0 : (0 : Int) ≤ (n : Int) := by omega
    have hnz1 : (n : Int) ≤ 1000 := by omega
    have hnc2 : (n : Int) ≤ (c : Int) := by omega
    have HN1 := hid hn1
    clear hn1
    clear hcut hGc hBc hL hS hrow hrow2 hG2 c0 c1 c2 c3 c4 c6 c7 hwrp h01 htn hile hile1 hilt hiz0 hiz1 hnc hm hi c5 HL1 HSET HG
    go_wp2_with fail
    go_region
    all_goals
      go_wp2
      go_end0
      exact ⟨rfl, HG2.out.drew, HB2.out.drew⟩
end Go.Proofs.Ytakmjfchhchngaa
