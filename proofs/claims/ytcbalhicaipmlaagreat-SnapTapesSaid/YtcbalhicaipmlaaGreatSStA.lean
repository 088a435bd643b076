/- SnapTapes: the walk. -/
import Derived.Test.YtcbalhicaipmlaaGreatSEsNA
import Derived.Test.YtcbalhicaipmlaaGreatSRlC
import Derived.Test.YtcbalhicaipmlaaGreatSSnQ
import Derived.Test.YtcbalhicaipmlaaGreatSTfT
import Derived.Test.YtcbalhicaipmlaaGreatSTxT
import Derived.Test.YtcbalhicaipmlaaGreatSTxR
namespace Go.Proofs.YtcbalhicaipmlaaGreat
open Go.RowKit
theorem ckT_le {k c : Nat} {t : Int} {ls : List (List (List Int))} (h : c ≤ 3) : ckT k c t ls ≤ 3 := by
  unfold ckT
  split
  · split
    · omega
    · split <;> omega
  · exact h
theorem getD_normT (k : Nat) (ls : List (List (List Int))) (i : Nat) : (normT k ls).getD i [] = (ls.getD i []).map (normK k) := by
  unfold normT
  rw [List.getD_eq_getElem?_getD, List.getD_eq_getElem?_getD, List.getElem?_map]
  cases ls[i]? <;> rfl
theorem tks_norm {w : World} {ta : Option Addr} {ls : List (List (List Int))} (h : Tks w ta (normT 7 ls)) : Tks w ta ls := by
  rcases h with h | ⟨b, o, e, hc⟩
  · exact Or.inl (List.map_eq_nil_iff.1 h)
  · refine Or.inr ⟨b, o, e, fun i hi => ?_⟩
    obtain ⟨la, lc, h1, h2⟩ := hc i (by unfold normT; rw [List.length_map]; exact hi)
    rw [getD_normT] at h1 h2
    rw [List.length_map] at h1
    exact ⟨la, lc, h1, recs_norm h2⟩
theorem tksN_norm {w : World} {ta : Option Addr} {ls : List (List (List Int))} (h : TksN w ta (normT 6 ls)) : TksN w ta ls := by
  rcases h with h | ⟨b, o, e, hc⟩
  · exact Or.inl (List.map_eq_nil_iff.1 h)
  · refine Or.inr ⟨b, o, e, fun i hi => ?_⟩
    obtain ⟨la, lc, h1, h2⟩ := hc i (by unfold normT; rw [List.length_map]; exact hi)
    rw [getD_normT] at h1 h2
    rw [List.length_map] at h1
    exact ⟨la, lc, h1, recs_norm h2⟩
structure TapeA (W : World) (s : St) (ls : List (List (List Int))) (fa ea ta : Option Addr) (fc ec tc : Nat) (c : Nat) (B : List UInt8) : Prop where
  by' : ∀ wx, Below W.heap.size W wx → Calls Tryz.prog 8 #[tapeV s.t s.g0 s.g1 s.nx (.slice fa s.free.length fc) (.slice ea s.es.length ec) (.slice ta ls.length tc)] wx fun e w' => e = .returned (.tuple #[.string ⟨B.toArray⟩, errV c]) ∧ Below wx.heap.size wx w'
  ck : ∀ wx, Below W.heap.size W wx → Calls Tryz.prog 11 #[tapeV s.t s.g0 s.g1 s.nx (.slice fa s.free.length fc) (.slice ea s.es.length ec) (.slice ta ls.length tc)] wx fun e w' => e = .returned (errV c) ∧ Below wx.heap.size wx w'
  ft : ∀ wx, Below W.heap.size W wx → Calls Tryz.prog 9 #[tapeV s.t s.g0 s.g1 s.nx (.slice fa s.free.length fc) (.slice ea s.es.length ec) (.slice ta ls.length tc)] wx fun e w' => e = .returned (.int .i64 c) ∧ Below wx.heap.size wx w'
  le : c ≤ 3
  no : c ≠ 0 → B = []
  of : c = 0 → ∀ wx, Calls Tryz.prog 12 #[.string ⟨B.toArray⟩] wx fun e w' => ∃ fx ex tx fcx ecx tcx, e = .returned (.tuple #[tapeV s.t s.g0 s.g1 s.nx (.slice fx s.free.length fcx) (.slice ex s.es.length ecx) (.slice tx ls.length tcx), .nilIface]) ∧ Nums w' fx s.free ∧ Recs w' ex 10 s.es ∧ Tks w' tx ls ∧ Below wx.heap.size wx w'
  tx : c = 0 → ∀ wx, Below W.heap.size W wx → Calls Tryz.prog 14 #[tapeV s.t s.g0 s.g1 s.nx (.slice fa s.free.length fc) (.slice ea s.es.length ec) (.slice ta ls.length tc)] wx fun e w' => e = .returned (.string ⟨(numsL (tapeN s ls)).toArray⟩) ∧ Below wx.heap.size wx w'
  fr : c = 0 → ∀ wx, Calls Tryz.prog 13 #[.int .u8 84, .string ⟨(numsL (tapeN s ls)).toArray⟩] wx fun e w' => e = .returned (.string ⟨B.toArray⟩) ∧ Below wx.heap.size wx w'
  sm : c = 0 → ∀ wx fx ex tx fcx ecx tcx, Below W.heap.size W wx → Nums wx fx s.free → Recs wx ex 10 s.es → Tks wx tx ls → Calls Tryz.prog 15 #[tapeV s.t s.g0 s.g1 s.nx (.slice fx s.free.length fcx) (.slice ex s.es.length ecx) (.slice tx ls.length tcx), tapeV s.t s.g0 s.g1 s.nx (.slice fa s.free.length fc) (.slice ea s.es.length ec) (.slice ta ls.length tc)] wx fun e w' => e = .returned (.bool true) ∧ Below wx.heap.size wx w'
theorem tapeA_of {W : World} {s : St} {ls : List (List (List Int))} {fa ea ta : Option Addr} {fc ec tc : Nat} (h : InE W s fa ea fc ec) (ht : Tks W ta ls) (h70 : ls.length ≤ 70) (h25 : s.es.length ≤ 25) (h220 : s.free.length ≤ 220) (hw : ∀ x ∈ ls, ∀ u ∈ x, ∀ j, j < 7 → fld u j < 9223372036854775808) :
    TapeA W s ls fa ea ta fc ec tc (ckTape s ls) (byT s ls) := by
  refine ⟨fun wx hx => bytesT_calls s fa ea ta fc ec tc ls wx (h.below hx) (ht.below hx) (by omega) hw, fun wx hx => checkTape_calls s fa ea ta fc ec tc ls wx (h.below hx) (by omega) (ht.below hx), fun wx hx => tapeFault_calls s fa ea ta fc ec tc ls wx (h.below hx) (by omega) (by omega) (by omega) (ht.below hx), ckT_le (check_le s), fun hc => if_neg hc, ?_, ?_, ?_, ?_⟩
  · intro hc wx
    have hc' : ckT 7 (checkE s.t s.g0 s.g1 s.nx s.free s.es) s.t ls = 0 := hc
    obtain ⟨h3, h4, h5, h6⟩ := ckT_zero hc'
    have hI := inv_of_check h3
    have e : byT s ls = frameL 84 (numsL (tapeN s ls)) := if_pos hc
    have ht0 := hI.t0
    have hl1 := numsL_length (tapeN s ls)
    have hl2 := tapeN_length (smlE hI h.born) (ls := ls) (by omega) h5
    have hlen : (frameL 84 (numsL (tapeN s ls))).length ≤ 100000 := by rw [frameL_length]; omega
    rw [e]
    refine (tapeOf_calls _ (by omega) wx).mono ?_
    rintro e w' ⟨fx, ex, tx, fcx, ecx, tcx, he, hi, hk, hb, _, _⟩
    rw [rdT_by h.born hw hc'] at he hi hk
    have hl : (normS 10 s).es.length = s.es.length := List.length_map ..
    have hl' : (normT 7 ls).length = ls.length := List.length_map ..
    obtain ⟨tx', tcx', hv, _, htk, _, _⟩ := hk.tks
    cases hv
    simp only at he htk
    rw [hl, hl'] at he
    exact ⟨fx, ex, tx, fcx, ecx, tcx, he, hi.nums, recs_norm hi.rows, tks_norm htk, hb⟩
  · intro hc wx hx
    obtain ⟨h3, h4, h5, h6⟩ := ckT_zero (k := 7) hc
    have hI := inv_of_check h3
    have ht0 := hI.t0
    exact tapeText_calls s fa ea ta fc ec tc ls wx (h.below hx) (ht.below hx) (smlE hI h.born) (fun x hx u hu j hj => ⟨h6 x hx u hu j hj, hw x hx u hu j hj⟩) (by omega) h5
  · intro hc wx
    obtain ⟨h3, h4, h5, h6⟩ := ckT_zero (k := 7) hc
    have hI := inv_of_check h3
    have e : byT s ls = frameL 84 (numsL (tapeN s ls)) := if_pos hc
    have ht0 := hI.t0
    have hl1 := numsL_length (tapeN s ls)
    have hl2 := tapeN_length (smlE hI h.born) (ls := ls) (by omega) h5
    rw [e]
    exact framed_calls 84 (numsL (tapeN s ls)) (by omega) wx
  · intro hc wx fx ex tx fcx ecx tcx hx hn hr hk
    obtain ⟨h3, h4, h5, h6⟩ := ckT_zero (k := 7) hc
    exact sameTape_calls s ls fx ex tx fa ea ta fcx ecx tcx fc ec tc wx (by omega) (by omega) hn (h.below hx).nums hr (h.below hx).rows (fun j hj => Nat.le_trans (h5 _ (getD_mem hj [])) (by omega)) (by omega) hk (ht.below hx)
structure ReelA (W : World) (s : St) (ls : List (List (List Int))) (ea ta : Option Addr) (ec tc : Nat) (c : Nat) (B : List UInt8) : Prop where
  by' : ∀ wx, Below W.heap.size W wx → Calls Tryz.prog 16 #[reelV s.t s.g0 s.g1 s.nx (.slice ea s.es.length ec) (.slice ta ls.length tc)] wx fun e w' => e = .returned (.tuple #[.string ⟨B.toArray⟩, errV c]) ∧ Below wx.heap.size wx w'
  ck : ∀ wx, Below W.heap.size W wx → Calls Tryz.prog 18 #[reelV s.t s.g0 s.g1 s.nx (.slice ea s.es.length ec) (.slice ta ls.length tc)] wx fun e w' => e = .returned (errV c) ∧ Below wx.heap.size wx w'
  ft : ∀ wx, Below W.heap.size W wx → Calls Tryz.prog 17 #[reelV s.t s.g0 s.g1 s.nx (.slice ea s.es.length ec) (.slice ta ls.length tc)] wx fun e w' => e = .returned (.int .i64 c) ∧ Below wx.heap.size wx w'
  le : c ≤ 3
  no : c ≠ 0 → B = []
  of : c = 0 → ∀ wx, Calls Tryz.prog 19 #[.string ⟨B.toArray⟩] wx fun e w' => ∃ ex tx ecx tcx, e = .returned (.tuple #[reelV s.t s.g0 s.g1 s.nx (.slice ex s.es.length ecx) (.slice tx ls.length tcx), .nilIface]) ∧ Recs w' ex 11 s.es ∧ TksN w' tx ls ∧ Below wx.heap.size wx w'
  tx : c = 0 → ∀ wx, Below W.heap.size W wx → Calls Tryz.prog 20 #[reelV s.t s.g0 s.g1 s.nx (.slice ea s.es.length ec) (.slice ta ls.length tc)] wx fun e w' => e = .returned (.string ⟨(numsL (reelN s ls)).toArray⟩) ∧ Below wx.heap.size wx w'
  fr : c = 0 → ∀ wx, Calls Tryz.prog 13 #[.int .u8 82, .string ⟨(numsL (reelN s ls)).toArray⟩] wx fun e w' => e = .returned (.string ⟨B.toArray⟩) ∧ Below wx.heap.size wx w'
  sm : c = 0 → ∀ wx ex tx ecx tcx, Below W.heap.size W wx → Recs wx ex 11 s.es → TksN wx tx ls → Calls Tryz.prog 21 #[reelV s.t s.g0 s.g1 s.nx (.slice ex s.es.length ecx) (.slice tx ls.length tcx), reelV s.t s.g0 s.g1 s.nx (.slice ea s.es.length ec) (.slice ta ls.length tc)] wx fun e w' => e = .returned (.bool true) ∧ Below wx.heap.size wx w'
theorem reelA_of {W : World} {s : St} {ls : List (List (List Int))} {ea ta : Option Addr} {ec tc : Nat} (h : InW W s ea ec) (ht : TksN W ta ls) (h70 : ls.length ≤ 70) (h25 : s.es.length ≤ 25) (hw : ∀ x ∈ ls, ∀ u ∈ x, ∀ j, j < 6 → fld u j < 9223372036854775808) :
    ReelA W s ls ea ta ec tc (ckReel s ls) (byR s ls) := by
  refine ⟨fun wx hx => bytesR_calls s ea ta ec tc ls wx (h.below hx) (ht.below hx) (by omega) hw, fun wx hx => checkReel_calls s ea ta ec tc ls wx (h.below hx) (by omega) (ht.below hx), fun wx hx => reelFault_calls s ea ta ec tc ls wx (h.below hx) (by omega) (by omega) (ht.below hx), ckT_le (checkN_le s), fun hc => if_neg hc, ?_, ?_, ?_, ?_⟩
  · intro hc wx
    have hc' : ckT 6 (ckN s) s.t ls = 0 := hc
    obtain ⟨h3, h4, h5, h6⟩ := ckT_zero hc'
    have hI := invN_of_check h.fr h3
    have e : byR s ls = frameL 82 (numsL (reelN s ls)) := if_pos hc
    have ht0 := hI.t0
    have hl1 := numsL_length (reelN s ls)
    have hl2 := reelN_length (smlN hI h.born) (ls := ls) (by omega) h5
    have hlen : (frameL 82 (numsL (reelN s ls))).length ≤ 100000 := by rw [frameL_length]; omega
    rw [e]
    refine (reelOf_calls _ (by omega) wx).mono ?_
    rintro e w' ⟨ex, tx, ecx, tcx, he, hi, hk, hb, _⟩
    rw [rdR_by h.born h.fr hw hc'] at he hi hk
    have hl : (normS 11 s).es.length = s.es.length := List.length_map ..
    have hl' : (normT 6 ls).length = ls.length := List.length_map ..
    obtain ⟨tx', tcx', hv, _, htk, _, _⟩ := hk.tks
    cases hv
    simp only at he htk
    rw [hl, hl'] at he
    exact ⟨ex, tx, ecx, tcx, he, recs_norm hi.rows, tksN_norm htk, hb⟩
  · intro hc wx hx
    obtain ⟨h3, h4, h5, h6⟩ := ckT_zero (k := 6) hc
    have hI := invN_of_check h.fr h3
    have ht0 := hI.t0
    exact reelText_calls s ea ta ec tc ls wx (h.below hx) (ht.below hx) (smlN hI h.born) (fun x hx u hu j hj => ⟨h6 x hx u hu j hj, hw x hx u hu j hj⟩) (by omega) h5
  · intro hc wx
    obtain ⟨h3, h4, h5, h6⟩ := ckT_zero (k := 6) hc
    have hI := invN_of_check h.fr h3
    have e : byR s ls = frameL 82 (numsL (reelN s ls)) := if_pos hc
    have ht0 := hI.t0
    have hl1 := numsL_length (reelN s ls)
    have hl2 := reelN_length (smlN hI h.born) (ls := ls) (by omega) h5
    rw [e]
    exact framed_calls 82 (numsL (reelN s ls)) (by omega) wx
  · intro hc wx ex tx ecx tcx hx hr hk
    obtain ⟨h3, h4, h5, h6⟩ := ckT_zero (k := 6) hc
    exact sameReel_calls s ls ex tx ea ta ecx tcx ec tc wx (by omega) hr (h.below hx).rows (fun j hj => Nat.le_trans (h5 _ (getD_mem hj [])) (by omega)) (by omega) hk (ht.below hx)
end Go.Proofs.YtcbalhicaipmlaaGreat
