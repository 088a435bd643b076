/- What the two functions that open a frame answer, and how an error is held against its number. -/
import Derived.Deep.RegionWith
import Derived.Deep.QuietTactic
import Derived.BigQuiet
import Derived.WalkSpells
import Derived.Maps.AppendAt
import Derived.Test.YtcbalhicaipmlaaGreatRElA
import Derived.Test.YtcbalhicaipmlaaGreatRWire1
import Derived.Test.YtcbalhicaipmlaaGreatRRefQ
namespace Go.Proofs.YtcbalhicaipmlaaGreat
open Go.RowKit
theorem cutx (l : List UInt8) (a b : Nat) : (⟨l.toArray⟩ : ByteArray).extract a b = ⟨((l.drop a).take (b - a)).toArray⟩ := by
  apply ByteArray.ext
  apply Array.toList_inj.1
  rw [Lib.extract_data]
theorem bytes_toList (l : List UInt8) : (⟨l.toArray⟩ : ByteArray).toList = l := by rw [Lib.toList_data]
def openE (b : UInt8) (l : List UInt8) : Nat :=
  if l.length < 8 then 4 else if l.take 4 ≠ headL b then 6 else if l.drop (l.length - 4) ≠ le4 (Cr.sumN (l.take (l.length - 4))) then 5 else 0
def midL (l : List UInt8) : List UInt8 := (l.drop 4).take (l.length - 4 - 4)
def openB (b : UInt8) (l : List UInt8) : List UInt8 := if openE b l = 0 then midL l else []
theorem undrew {w w1 : World} (h : Below w.drew.heap.size w.drew w1) : Below w.heap.size w w1 := by
  have h0 : Below w.heap.size w w.drew := (Below.refl _ w).drew
  exact h0.trans (h.mono (Nat.le_of_eq (by simp)))
theorem size_cut (l : List UInt8) (a b : Nat) : ((⟨l.toArray⟩ : ByteArray).extract a b).size ≤ l.length := by
  rw [cutx]
  show (List.toArray _).size ≤ _
  simp
  omega
theorem ret_two {a b : List UInt8} {u v : Value} (h : a = b) (g : u = v) : Ending.returned (.tuple #[.string ⟨a.toArray⟩, u]) = .returned (.tuple #[.string ⟨b.toArray⟩, v]) := by rw [h, g]
set_option maxRecDepth 100000 in
set_option maxHeartbeats 800000 in
theorem open_calls (b : UInt8) (l : List UInt8) (hs : l.length ≤ 1000000) (w : World) :
    Calls Tryz.prog 79 #[.int .u8 (b.toNat : Int), .string ⟨l.toArray⟩] w fun e w' => e = .returned (.tuple #[.string ⟨(openB b l).toArray⟩, errV (openE b l)]) ∧ Below w.heap.size w w' := by
  by_cases h8 : l.length < 8
  · have e1 : openE b l = 4 := by unfold openE; rw [if_pos h8]
    have e2 : openB b l = [] := by unfold openB; rw [if_neg (by omega)]
    rw [e1, e2]
    clear e1 e2
    go_enter Tryz.func79, Tryz.ntmps79
    go_wp2
    go_ret2
    exact ⟨rfl, Below.refl _ _⟩
  · by_cases hh : l.take 4 = headL b
    · have hq : (((⟨l.toArray⟩ : ByteArray).extract 0 4).toList == headL b) = true := by
        rw [cutx, bytes_toList]; simpa using hh
      have ht : ((l.length : Int) - 4).toNat = l.length - 4 := by omega
      by_cases hm : l.drop (l.length - 4) = le4 (Cr.sumN (l.take (l.length - 4)))
      · have e1 : openE b l = 0 := by unfold openE; rw [if_neg h8, if_neg (by simp [hh]), if_neg (by simp [hm])]
        have e2 : openB b l = midL l := by unfold openB; rw [if_pos e1]
        have hq2 : (((⟨l.toArray⟩ : ByteArray).extract (l.length - 4) l.length).toList == le4 (Cr.sumN (l.take (l.length - 4)))) = true := by
          rw [cutx, bytes_toList, List.take_of_length_le (by simp)]; simpa using hm
        rw [e1, e2]
        clear e1 e2 hm hh
        go_enter Tryz.func79, Tryz.ntmps79
        go_wp2_with fail
        go_region_with (go_at_call 100; refine (head_calls b _).mono ?_; rintro e w1 ⟨rfl, hb1⟩)
        all_goals
          go_wp2_with fail
          go_region_with (first | (go_at_call 102; rw [cutx]; refine (sum_calls _ (by simp; omega) _).mono ?_; rintro e w2 ⟨rfl, rfl⟩) | (go_at_call 101; refine (sumBytes_calls _ (Cr.sumN_lt _) _).mono ?_; rintro e w3 ⟨rfl, hb3⟩))
        all_goals
          go_wp2_with fail
          refine (freshS_calls ((⟨l.toArray⟩ : ByteArray).extract 4 (l.length - 4)) _ (Nat.le_trans (size_cut _ _ _) (by omega))).mono ?_
          rintro e w4 ⟨rfl, hb4⟩
          go_wp2
          go_ret2
          have h1 : Below w.heap.size w w1 := undrew hb1
          have h3 : Below w1.heap.size w1 w3 := undrew hb3
          have hz := h1.size
          refine ⟨?_, (h1.trans (h3.mono hz)).trans (hb4.mono (Nat.le_trans hz h3.size))⟩
          rw [cutx]; rfl
      · have e1 : openE b l = 5 := by unfold openE; rw [if_neg h8, if_neg (by simp [hh]), if_pos (by simpa using hm)]
        have e2 : openB b l = [] := by unfold openB; rw [if_neg (by omega)]
        have hq2 : (((⟨l.toArray⟩ : ByteArray).extract (l.length - 4) l.length).toList == le4 (Cr.sumN (l.take (l.length - 4)))) = false := by
          rw [cutx, bytes_toList, List.take_of_length_le (by simp)]; simpa using hm
        rw [e1, e2]
        clear e1 e2 hm hh
        go_enter Tryz.func79, Tryz.ntmps79
        go_wp2_with fail
        go_region_with (go_at_call 100; refine (head_calls b _).mono ?_; rintro e w1 ⟨rfl, hb1⟩)
        all_goals
          go_wp2_with fail
          go_region_with (first | (go_at_call 102; rw [cutx]; refine (sum_calls _ (by simp; omega) _).mono ?_; rintro e w2 ⟨rfl, rfl⟩) | (go_at_call 101; refine (sumBytes_calls _ (Cr.sumN_lt _) _).mono ?_; rintro e w3 ⟨rfl, hb3⟩))
        all_goals
          go_wp2
          go_ret2
          have h1 : Below w.heap.size w w1 := undrew hb1
          have h3 : Below w1.heap.size w1 w3 := undrew hb3
          exact ⟨rfl, h1.trans (h3.mono h1.size)⟩
    · have e1 : openE b l = 6 := by unfold openE; rw [if_neg h8, if_pos (by simpa using hh)]
      have e2 : openB b l = [] := by unfold openB; rw [if_neg (by omega)]
      have hq : (((⟨l.toArray⟩ : ByteArray).extract 0 4).toList == headL b) = false := by
        rw [cutx, bytes_toList]; simpa using hh
      rw [e1, e2]
      clear e1 e2 hh
      go_enter Tryz.func79, Tryz.ntmps79
      go_wp2_with fail
      go_region_with (go_at_call 100; refine (head_calls b _).mono ?_; rintro e w1 ⟨rfl, hb1⟩)
      all_goals
        go_wp2
        go_ret2
        exact ⟨rfl, undrew hb1⟩
theorem framed_iff (b : UInt8) (l : List UInt8) (h8 : 8 ≤ l.length) (hh : l.take 4 = headL b) :
    frameL b (midL l) = l ↔ l.drop (l.length - 4) = le4 (Cr.sumN (l.take (l.length - 4))) := by
  have e1 : headL b ++ midL l = l.take (l.length - 4) := by
    rw [← hh]; unfold midL
    conv => rhs; rw [show l.length - 4 = 4 + (l.length - 4 - 4) by omega, List.take_add]
  unfold frameL
  rw [e1]
  constructor
  · intro h
    have h2 : l.take (l.length - 4) ++ le4 (Cr.sumN (l.take (l.length - 4))) = l.take (l.length - 4) ++ l.drop (l.length - 4) := by
      rw [List.take_append_drop]; exact h
    exact (List.append_cancel_left h2).symm
  · intro h
    rw [← h, List.take_append_drop]
set_option maxRecDepth 100000 in
set_option maxHeartbeats 800000 in
theorem opened_calls (b : UInt8) (l : List UInt8) (hs : l.length ≤ 1000000) (w : World) :
    Calls Tryz.prog 96 #[.int .u8 (b.toNat : Int), .string ⟨l.toArray⟩] w fun e w' => e = .returned (.tuple #[.string ⟨(openB b l).toArray⟩, .int .i64 (openE b l)]) ∧ Below w.heap.size w w' := by
  by_cases h8 : l.length < 8
  · have e1 : openE b l = 4 := by unfold openE; rw [if_pos h8]
    have e2 : openB b l = [] := by unfold openB; rw [if_neg (by omega)]
    rw [e1, e2]
    clear e1 e2
    go_enter Tryz.func96, Tryz.ntmps96
    go_wp2
    go_ret2
    exact ⟨rfl, Below.refl _ _⟩
  · have hcv : (convert 93 9 (.slice (some ⟨w.heap.size, 0, none⟩) 1 1)).run Tryz.prog (w.alloc (.cells #[.int .u8 (b.toNat : Int)] 5)).drew = .ok (.string ⟨#[b]⟩) (w.alloc (.cells #[.int .u8 (b.toNat : Int)] 5)).drew := conv_bytes _ w.heap.size 1 1 [b] rfl (by
      intro j hj
      match j, hj with
      | 0, _ => simp)
    have hb := b.toNat_lt
    by_cases hh : l.take 4 = headL b
    · have hq : (((⟨l.toArray⟩ : ByteArray).extract 0 4).toList == ((⟨#[70, 89, 49]⟩ : ByteArray) ++ ⟨#[b]⟩).toList) = true := by
        rw [cutx, bytes_toList, cat, bytes_toList]; simpa [headL] using hh
      have ht : ((l.length : Int) - 4).toNat = l.length - 4 := by omega
      have hiff := framed_iff b l (by omega) hh
      have HM : Hid ((⟨l.toArray⟩ : ByteArray).extract 4 (l.length - 4) = ⟨(midL l).toArray⟩) := by
        show _ = _
        rw [cutx]; rfl
      have hml : (midL l).length ≤ 1000000 := by simp [midL]; omega
      by_cases hm : l.drop (l.length - 4) = le4 (Cr.sumN (l.take (l.length - 4)))
      · have e1 : openE b l = 0 := by unfold openE; rw [if_neg h8, if_neg (by simp [hh]), if_neg (by simp [hm])]
        have e2 : openB b l = midL l := by unfold openB; rw [if_pos e1]
        have hq2 : (frameL b (midL l) == l) = true := by simpa using hiff.2 hm
        rw [e1, e2]
        clear e1 e2 hh hm hiff
        go_enter Tryz.func96, Tryz.ntmps96
        go_wp2_with fail
        go_region
        go_wp2_with fail
        rw [HM.out]
        refine (framed_calls b (midL l) hml _).mono ?_
        rintro e w1 ⟨rfl, hb1⟩
        have h0 : Below w.heap.size w (w.alloc (.cells #[.int .u8 (b.toNat : Int)] 5)).drew := by go_grown
        go_wp2
        go_ret2
        refine ⟨?_, h0.trans (hb1.mono h0.size)⟩
        rw [HM.out]; rfl
      · have e1 : openE b l = 5 := by unfold openE; rw [if_neg h8, if_neg (by simp [hh]), if_pos (by simpa using hm)]
        have e2 : openB b l = [] := by unfold openB; rw [if_neg (by omega)]
        have hq2 : (frameL b (midL l) == l) = false := by simpa using fun h => hm (hiff.1 h)
        rw [e1, e2]
        clear e1 e2 hh hm hiff
        go_enter Tryz.func96, Tryz.ntmps96
        go_wp2_with fail
        go_region
        go_wp2_with fail
        rw [HM.out]
        refine (framed_calls b (midL l) hml _).mono ?_
        rintro e w1 ⟨rfl, hb1⟩
        have h0 : Below w.heap.size w (w.alloc (.cells #[.int .u8 (b.toNat : Int)] 5)).drew := by go_grown
        go_wp2
        go_ret2
        exact ⟨rfl, h0.trans (hb1.mono h0.size)⟩
    · have e1 : openE b l = 6 := by unfold openE; rw [if_neg h8, if_pos (by simpa using hh)]
      have e2 : openB b l = [] := by unfold openB; rw [if_neg (by omega)]
      have hq : (((⟨l.toArray⟩ : ByteArray).extract 0 4).toList == ((⟨#[70, 89, 49]⟩ : ByteArray) ++ ⟨#[b]⟩).toList) = false := by
        rw [cutx, bytes_toList, cat, bytes_toList]; simpa [headL] using hh
      rw [e1, e2]
      clear e1 e2 hh
      go_enter Tryz.func96, Tryz.ntmps96
      go_wp2_with fail
      go_region
      go_wp2
      go_ret2
      exact ⟨rfl, by go_grown⟩
end Go.Proofs.YtcbalhicaipmlaaGreat
namespace Go.Proofs.YtcbalhicaipmlaaGreat
open Go.RowKit
theorem conv_owned (W : World) (base : Nat) (v : Value) (l : List UInt8) (hne : 0 < l.length) (h : W.ownsRow base 5 1 v l.length (Lib.byteCells l)) :
    (convert 93 9 v).run Tryz.prog W = .ok (.string ⟨l.toArray⟩) W := by
  have hc := fun (g : Nat) (hg : v.ownBlock = some g) => h.cells hg
  rcases h.2 with ⟨_, h0⟩ | ⟨g, cap, cur, rfl, _⟩
  · omega
  · exact conv_bytes W g l.length cap l rfl (fun j hj => by
      have := hc g rfl j (.int .u8 (l[j].toNat : Int)) (by simp [Lib.byteCells, hj])
      by_cases h0 : j = 0
      · subst h0; simpa [Addr.add] using this
      · simpa [Addr.add, h0] using this)
theorem grow_step {w wr w' : World} {e : TypeId} {v : Value} {n : Nat} {xs : List Value} (hbw : Below w.heap.size w wr) (hown : wr.ownsRow w.heap.size e 1 v n xs) (o : Obj) (hg : (wr.alloc o).grownBy w' v.ownBlock) : Below w.heap.size w w' :=
  (hbw.alloc hbw.size o).grown hg (by have := hbw.size; simp; omega) (fun k hk => (hown.lt k hk).1)
theorem byte_snoc (acc : List UInt8) (x : Int) (b : UInt8) (h : x = (b.toNat : Int)) : Lib.byteCells acc ++ [Value.int .u8 x] = Lib.byteCells (acc ++ [b]) := by
  rw [Lib.byteCells_append, h]; rfl
theorem oneCell_byte (x : Int) : ∀ u ∈ [Value.int .u8 x], u.oneCell' = true := by
  intro u hu; simp at hu; subst hu; rfl
theorem big_byte (m : Nat) : ((m : Int) % 128 + 128) = ((UInt8.ofNat (128 + m % 128)).toNat : Int) := by
  have : (UInt8.ofNat (128 + m % 128)).toNat = 128 + m % 128 := by simp; omega
  rw [this]; omega
theorem small_byte (m : Nat) (h : m < 128) : (m : Int) = ((UInt8.ofNat m).toNat : Int) := by
  have : (UInt8.ofNat m).toNat = m := by simp; omega
  rw [this]
theorem num_next {n m f : Nat} {acc : List UInt8} (hge : 128 ≤ m) (HM : Hid (m < 128 ^ (f + 1))) (HA : Hid (acc ++ Nu.numF f m = Nu.num n)) :
    ∃ f', f = f' + 1 ∧ m / 128 < 128 ^ (f' + 1) ∧ (acc ++ [UInt8.ofNat (128 + m % 128)]) ++ Nu.numF f' (m / 128) = Nu.num n := by
  cases f with
  | zero => have := HM.out; simp at this; omega
  | succ f' =>
    refine ⟨f', rfl, ?_, ?_⟩
    · have := HM.out
      rw [Nat.div_lt_iff_lt_mul (by omega)]; rw [Nat.pow_succ] at this; exact this
    · rw [← HA.out, Nu.numF_big f' m hge]; simp
theorem num_last {n m f : Nat} {acc : List UInt8} (hlt : m < 128) (HA : Hid (acc ++ Nu.numF f m = Nu.num n)) : acc ++ [UInt8.ofNat m] = Nu.num n := by
  rw [← HA.out, Nu.numF_small f m hlt]
set_option maxHeartbeats 800000 in
set_option maxRecDepth 100000 in
theorem num_calls (n : Nat) (hn : n ≤ 9223372036854775807) (w : World) :
    Calls Tryz.prog 127 #[.int .i64 n] w fun e w' => e = .returned (.tuple #[.string ⟨(Nu.num n).toArray⟩, .nilIface]) ∧ Below w.heap.size w w' := by
  obtain ⟨i0, hi, hz0, hz1, hz2⟩ := info_parts info_u8
  go_enter Tryz.func127, Tryz.ntmps127
  go_wp2_with fail
  go_loopw [0, 4] (fun a b wr => ∃ (m f : Nat) (acc : List UInt8), a = .int .i64 m ∧ m ≤ 9223372036854775807 ∧ acc.length + f = 8 ∧ wr.ownsRow w.heap.size 5 1 b acc.length (Lib.byteCells acc) ∧ Hid (m < 128 ^ (f + 1)) ∧ Hid (acc ++ Nu.numF f m = Nu.num n) ∧ Below w.heap.size w wr) (fun a _ _ => (intOf a).toNat)
  case atStart => exact ⟨n, 8, [], rfl, hn, rfl, World.ownsRow_nil _ _ _ _, by show n < 128 ^ 9; omega, rfl, Below.refl _ _⟩
  case round =>
    obtain ⟨m, f, acc, rfl, hm, hlen, hown, HM, HA, hbw⟩ := hrel
    have hz := hbw.size
    by_cases hge : 128 ≤ m
    · obtain ⟨f', hf, hlt', hA'⟩ := num_next hge HM HA
      have HM' : Hid (m / 128 < 128 ^ (f' + 1)) := hlt'
      have HA' : Hid ((acc ++ [UInt8.ofNat (128 + m % 128)]) ++ Nu.numF f' (m / 128) = Nu.num n) := hA'
      have hlen' : acc.length + 1 + f' = 8 := by omega
      clear hlt' hA' hf HM HA
      go_wp2_with (first | (at_builtin; refine wpList_append_own _ rfl _ _ 93 rfl w.heap.size 5 i0 (.int .u8 0) 1 1 Tryz.underlying93 hi hz0 hz1 hz2 rfl (by decide) _ _ _ rfl (hown.alloc _) ⟨wr.heap.size, 0, none⟩ 1 1 [.int .u8 ((m : Int) % 128 + 128)] rfl rfl (cell_one_new _ _ _) (oneCell_byte _) ?c3 ?c4 ?c5 ?_) | go_in)
      case c3 => unfold maxLen; omega
      case c4 => omega
      case c5 => simp; omega
      intro v' w1 hown' hgrow _
      have hb1 := grow_step hbw hown _ hgrow
      rw [byte_snoc _ _ _ (big_byte m)] at hown'
      clear hgrow hown hbw
      go_wp2
      go_roundw
      case rel => exact ⟨m / 128, f', acc ++ [UInt8.ofNat (128 + m % 128)], by go_num, by omega, by simp; omega, by simpa using hown', HM', HA', hb1⟩
      case measure => simp [intOf]; omega
    · have HE : Hid (acc ++ [UInt8.ofNat m] = Nu.num n) := num_last (by omega) HA
      clear HA HM
      go_wp2_with (first | (at_builtin; refine wpList_append_own _ rfl _ _ 93 rfl w.heap.size 5 i0 (.int .u8 0) 1 1 Tryz.underlying93 hi hz0 hz1 hz2 rfl (by decide) _ _ _ rfl (hown.alloc _) ⟨wr.heap.size, 0, none⟩ 1 1 [.int .u8 (m : Int)] rfl rfl (cell_one_new _ _ _) (oneCell_byte _) ?c3 ?c4 ?c5 ?_) | go_in)
      case c3 => unfold maxLen; omega
      case c4 => omega
      case c5 => simp; omega
      intro v' w1 hown' hgrow _
      have hb1 := grow_step hbw hown _ hgrow
      rw [byte_snoc _ _ _ (small_byte m (by omega))] at hown'
      have hcv := conv_owned w1 w.heap.size v' (acc ++ [UInt8.ofNat m]) (by simp) (by simpa using hown')
      clear hgrow hown hbw hown'
      go_wp2
      go_ret2
      exact ⟨ret_two HE.out rfl, hb1⟩
end Go.Proofs.YtcbalhicaipmlaaGreat
