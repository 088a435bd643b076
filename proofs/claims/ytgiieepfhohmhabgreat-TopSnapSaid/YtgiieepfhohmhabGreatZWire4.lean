/- What the two functions that write a number answer: the same bytes. -/
import Derived.Maps.AppendAt
import Derived.Test.YtgiieepfhohmhabGreatZNums
import Derived.Test.YtgiieepfhohmhabGreatZWire2
namespace Go.Proofs.YtgiieepfhohmhabGreat
open Go.RowKit
theorem conv_owned (W : World) (base : Nat) (v : Value) (l : List UInt8) (hne : 0 < l.length) (h : W.ownsRow base 5 1 v l.length (Lib.byteCells l)) :
    (convert 95 9 v).run Tryz.prog W = .ok (.string ⟨l.toArray⟩) W := by
  have hc := fun (g : Nat) (hg : v.ownBlock = some g) => h.cells hg
  rcases h.2 with ⟨_, h0⟩ | ⟨g, cap, cur, rfl, _⟩
  · omega
  · exact conv_bytes W g l.length cap l rfl (fun j hj => by
      have := hc g rfl j (.int .u8 (l[j].toNat : Int)) (by simp [Lib.byteCells, hj])
      by_cases h0 : j = 0
      · subst h0; simpa [Addr.add] using this
      · simpa [Addr.add, h0] using this)
theorem grow_step {w wr w' : World} {e : TypeId} {v : Value} {n : Nat} {xs : List Value} (hbw : Below w.heap.size w wr) (hown : wr.ownsRow w.heap.size e 1 v n xs) (o : Obj) (hg : (wr.alloc o).grownBy w' v.ownBlock) : Below w.heap.size w w' :=
  (hbw.alloc hbw.size o).grown hg (by have := hbw.size; simp; omega) (fun k hk => (hown.lt k hk).1)
theorem byte_snoc (acc : List UInt8) (x : Int) (b : UInt8) (h : x = (b.toNat : Int)) : Lib.byteCells acc ++ [Value.int .u8 x] = Lib.byteCells (acc ++ [b]) := by
  rw [Lib.byteCells_append, h]; rfl
theorem oneCell_byte (x : Int) : ∀ u ∈ [Value.int .u8 x], u.oneCell' = true := by
  intro u hu; simp at hu; subst hu; rfl
theorem big_byte (m : Nat) : ((m : Int) % 128 + 128) = ((UInt8.ofNat (128 + m % 128)).toNat : Int) := by
  have : (UInt8.ofNat (128 + m % 128)).toNat = 128 + m % 128 := by simp; omega
  rw [this]; omega
theorem small_byte (m : Nat) (h : m < 128) : (m : Int) = ((UInt8.ofNat m).toNat : Int) := by
  have : (UInt8.ofNat m).toNat = m := by simp; omega
  rw [this]
theorem num_next {n m f : Nat} {acc : List UInt8} (hge : 128 ≤ m) (HM : Hid (m < 128 ^ (f + 1))) (HA : Hid (acc ++ Nu.numF f m = Nu.num n)) :
    ∃ f', f = f' + 1 ∧ m / 128 < 128 ^ (f' + 1) ∧ (acc ++ [UInt8.ofNat (128 + m % 128)]) ++ Nu.numF f' (m / 128) = Nu.num n := by
  cases f with
  | zero => have := HM.out; simp at this; omega
  | succ f' =>
    refine ⟨f', rfl, ?_, ?_⟩
    · have := HM.out
      rw [Nat.div_lt_iff_lt_mul (by omega)]; rw [Nat.pow_succ] at this; exact this
    · rw [← HA.out, Nu.numF_big f' m hge]; simp
theorem num_last {n m f : Nat} {acc : List UInt8} (hlt : m < 128) (HA : Hid (acc ++ Nu.numF f m = Nu.num n)) : acc ++ [UInt8.ofNat m] = Nu.num n := by
  rw [← HA.out, Nu.numF_small f m hlt]
set_option maxHeartbeats 800000 in
set_option maxRecDepth 100000 in
theorem num_calls (n : Nat) (hn : n ≤ 9223372036854775807) (w : World) :
    Calls Tryz.prog 180 #[.int .i64 n] w fun e w' => e = .returned (.tuple #[.string ⟨(Nu.num n).toArray⟩, .nilIface]) ∧ Below w.heap.size w w' := by
  obtain ⟨i0, hi, hz0, hz1, hz2⟩ := info_parts info_u8
  go_enter Tryz.func180, Tryz.ntmps180
  go_wp2_with fail
  go_loopw [0, 4] (fun a b wr => ∃ (m f : Nat) (acc : List UInt8), a = .int .i64 m ∧ m ≤ 9223372036854775807 ∧ acc.length + f = 8 ∧ wr.ownsRow w.heap.size 5 1 b acc.length (Lib.byteCells acc) ∧ Hid (m < 128 ^ (f + 1)) ∧ Hid (acc ++ Nu.numF f m = Nu.num n) ∧ Below w.heap.size w wr) (fun a _ _ => (intOf a).toNat)
  case atStart => exact ⟨n, 8, [], rfl, hn, rfl, World.ownsRow_nil _ _ _ _, by show n < 128 ^ 9; omega, rfl, Below.refl _ _⟩
  case round =>
    obtain ⟨m, f, acc, rfl, hm, hlen, hown, HM, HA, hbw⟩ := hrel
    have hz := hbw.size
    by_cases hge : 128 ≤ m
    · obtain ⟨f', hf, hlt', hA'⟩ := num_next hge HM HA
      have HM' : Hid (m / 128 < 128 ^ (f' + 1)) := hlt'
      have HA' : Hid ((acc ++ [UInt8.ofNat (128 + m % 128)]) ++ Nu.numF f' (m / 128) = Nu.num n) := hA'
      have hlen' : acc.length + 1 + f' = 8 := by omega
      clear hlt' hA' hf HM HA
      go_wp2_with (first | (at_builtin; refine wpList_append_own _ rfl _ _ 95 rfl w.heap.size 5 i0 (.int .u8 0) 1 1 Tryz.underlying95 hi hz0 hz1 hz2 rfl (by decide) _ _ _ rfl (hown.alloc _) ⟨wr.heap.size, 0, none⟩ 1 1 [.int .u8 ((m : Int) % 128 + 128)] rfl rfl (cell_one_new _ _ _) (oneCell_byte _) ?c3 ?c4 ?c5 ?_) | go_in)
      case c3 => unfold maxLen; omega
      case c4 => omega
      case c5 => simp; omega
      intro v' w1 hown' hgrow _
      have hb1 := grow_step hbw hown _ hgrow
      rw [byte_snoc _ _ _ (big_byte m)] at hown'
      clear hgrow hown hbw
      go_wp2
      go_roundw
      case rel => exact ⟨m / 128, f', acc ++ [UInt8.ofNat (128 + m % 128)], by go_num, by omega, by simp; omega, by simpa using hown', HM', HA', hb1⟩
      case measure => simp [intOf]; omega
    · have HE : Hid (acc ++ [UInt8.ofNat m] = Nu.num n) := num_last (by omega) HA
      clear HA HM
      go_wp2_with (first | (at_builtin; refine wpList_append_own _ rfl _ _ 95 rfl w.heap.size 5 i0 (.int .u8 0) 1 1 Tryz.underlying95 hi hz0 hz1 hz2 rfl (by decide) _ _ _ rfl (hown.alloc _) ⟨wr.heap.size, 0, none⟩ 1 1 [.int .u8 (m : Int)] rfl rfl (cell_one_new _ _ _) (oneCell_byte _) ?c3 ?c4 ?c5 ?_) | go_in)
      case c3 => unfold maxLen; omega
      case c4 => omega
      case c5 => simp; omega
      intro v' w1 hown' hgrow _
      have hb1 := grow_step hbw hown _ hgrow
      rw [byte_snoc _ _ _ (small_byte m (by omega))] at hown'
      have hcv := conv_owned w1 w.heap.size v' (acc ++ [UInt8.ofNat m]) (by simp) (by simpa using hown')
      clear hgrow hown hbw hown'
      go_wp2
      go_ret2
      exact ⟨ret_two HE.out rfl, hb1⟩
end Go.Proofs.YtgiieepfhohmhabGreat
