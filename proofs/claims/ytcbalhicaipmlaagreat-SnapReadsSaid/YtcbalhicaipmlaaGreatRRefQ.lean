/- The reference: a tick of the elder game. -/
import Derived.Test.YtcbalhicaipmlaaGreatRNwB
import Derived.Test.YtcbalhicaipmlaaGreatREqN
import Derived.Test.YtcbalhicaipmlaaGreatRRefO
import Derived.Test.YtcbalhicaipmlaaGreatRNwK
import Derived.Test.YtcbalhicaipmlaaGreatRRefK2
namespace Go.Proofs.YtcbalhicaipmlaaGreat
open Go.RowKit Go.Maps
theorem st0_up {s : St} (h : s.born = []) : st0 s.t s.g0 s.g1 s.nx s.free (s.es.map unitE) = upS s := by
  cases s
  simp only at h
  subst h
  rfl
theorem Apart.below {w w' : World} {p k : Nat} (h : Apart w p k) (hp : p < w.heap.size) (hb : Below w.heap.size w w') : Apart w' p k :=
  ⟨h.1, fun j v hv => h.2 j v ((hb.cell (p := ⟨p, j, none⟩) hp).symm.trans hv)⟩
end Go.Proofs.YtcbalhicaipmlaaGreat
namespace Go.Proofs.YtcbalhicaipmlaaGreat
open Go.RowKit Go.Maps
theorem GrE.lt {base : Nat} {w : World} {p : Nat} {nw : Bool} {s : St} (h : GrE base w p nw s) : p < w.heap.size := by
  obtain ⟨uv, fv, bv, h⟩ := h
  exact h.lt
end Go.Proofs.YtcbalhicaipmlaaGreat
namespace Go.Proofs.YtcbalhicaipmlaaGreat
open Go.RowKit Go.Maps
end Go.Proofs.YtcbalhicaipmlaaGreat
namespace Go.Proofs.YtcbalhicaipmlaaGreat
open Go.RowKit Go.Maps
def zeroS : St := ⟨0, 0, 0, 0, [], [], []⟩
theorem firstE_le {n m : Nat} {f : Nat → Nat} (h : ∀ i, i < n → f i ≤ m) : firstE n f ≤ m := by
  unfold firstE
  cases hf : (List.range n).find? (fun i => f i != 0) with
  | none => exact Nat.zero_le _
  | some k =>
    have := List.mem_of_find?_eq_some hf
    exact h k (by simpa using this)
theorem check_le (s : St) : checkE s.t s.g0 s.g1 s.nx s.free s.es ≤ 3 := by
  have h1 : stateE s.t s.g0 s.g1 s.nx s.free.length s.es.length ≤ 3 := by
    unfold stateE
    repeat' split
    all_goals omega
  have h2 : firstE s.es.length (entE s.nx s.es) ≤ 3 := firstE_le fun i _ => by
    unfold entE
    repeat' split
    all_goals omega
  have h3 : freeE s.nx s.es s.free ≤ 3 := by
    unfold freeE
    repeat' split
    all_goals omega
  unfold checkE
  repeat' split
  all_goals omega
def Tks (w : World) (ta : Option Addr) (ls : List (List (List Int))) : Prop :=
  ls = [] ∨ ∃ b o, ta = some ⟨b, o, none⟩ ∧ ∀ i, i < ls.length → ∃ la lc, w.cell? ⟨b, o + i, none⟩ = some (.slice la (ls.getD i []).length lc) ∧ Recs w la 7 (ls.getD i [])
theorem Tks.at {w : World} {ta : Option Addr} {ls : List (List (List Int))} (h : Tks w ta ls) {i : Nat} (hi : i < ls.length) : ∃ b o la lc, ta = some ⟨b, o, none⟩ ∧ w.cell? ⟨b, o + i, none⟩ = some (.slice la (ls.getD i []).length lc) ∧ Recs w la 7 (ls.getD i []) := by
  rcases h with rfl | ⟨b, o, e, hc⟩
  · simp at hi
  · obtain ⟨la, lc, h1, h2⟩ := hc i hi
    exact ⟨b, o, la, lc, e, h1, h2⟩
theorem Tks.below {w w' : World} {ta : Option Addr} {ls : List (List (List Int))} (h : Tks w ta ls) (hb : Below w.heap.size w w') : Tks w' ta ls := by
  rcases h with h | ⟨b, o, e, hc⟩
  · exact Or.inl h
  · refine Or.inr ⟨b, o, e, fun i hi => ?_⟩
    obtain ⟨la, lc, h1, h2⟩ := hc i hi
    exact ⟨la, lc, (hb.cell (p := ⟨b, o + i, none⟩) (World.block_lt_of_cell? w _ h1)).trans h1, h2.below hb⟩
end Go.Proofs.YtcbalhicaipmlaaGreat
namespace Go.Proofs.YtcbalhicaipmlaaGreat
open Go.RowKit Go.Maps
abbrev tapeC (t g0 g1 nx : Int) (fv ev tv : Value) : Array Value := #[.int .i64 t, .int .i64 g0, .int .i64 g1, .int .i64 nx, fv, ev, tv]
abbrev tapeV (t g0 g1 nx : Int) (fv ev tv : Value) : Value := .agg (tapeC t g0 g1 nx fv ev tv)
theorem tape_cells {w : World} {b : Nat} {a0 a1 a2 a3 a4 a5 a6 : Value} (h : w.heap[b]? = some (.cells #[a0, a1, a2, a3, a4, a5, a6] 29)) :
    w.cell? ⟨b, 0, none⟩ = some a0 ∧ w.cell? ⟨b, 1, none⟩ = some a1 ∧ w.cell? ⟨b, 2, none⟩ = some a2 ∧ w.cell? ⟨b, 3, none⟩ = some a3 ∧ w.cell? ⟨b, 4, none⟩ = some a4 ∧ w.cell? ⟨b, 5, none⟩ = some a5 ∧ w.cell? ⟨b, 6, none⟩ = some a6 :=
  ⟨cell_of_row w b 0 _ _ _ h, cell_of_row w b 1 _ _ _ h, cell_of_row w b 2 _ _ _ h, cell_of_row w b 3 _ _ _ h, cell_of_row w b 4 _ _ _ h, cell_of_row w b 5 _ _ _ h, cell_of_row w b 6 _ _ _ h⟩
section
variable (s : St) (fa ea ta : Option Addr) (fc ec tc : Nat) (ls : List (List (List Int))) (n : Int) (w : World)
end
end Go.Proofs.YtcbalhicaipmlaaGreat
namespace Go.Proofs.YtcbalhicaipmlaaGreat.Nu
def numF : Nat → Nat → List UInt8
  | 0, n => [UInt8.ofNat n]
  | f + 1, n => if n < 128 then [UInt8.ofNat n] else UInt8.ofNat (128 + n % 128) :: numF f (n / 128)
def num (n : Nat) : List UInt8 := numF 8 n
theorem numF_small (f n : Nat) (h : n < 128) : numF f n = [UInt8.ofNat n] := by
  cases f with
  | zero => rfl
  | succ f => simp [numF, h]
theorem numF_big (f n : Nat) (h : 128 ≤ n) : numF (f + 1) n = UInt8.ofNat (128 + n % 128) :: numF f (n / 128) := by
  simp only [numF]; rw [if_neg (by omega)]
theorem numF_length : ∀ (f n : Nat), (numF f n).length ≤ f + 1
  | 0, _ => by simp [numF]
  | f + 1, n => by
    simp only [numF]; split
    · simp
    · have := numF_length f (n / 128); simp; omega
theorem num_length (n : Nat) : (num n).length ≤ 9 := numF_length 8 n
def takeF : Nat → Nat → List UInt8 → Nat × List UInt8 × Nat
  | _, _, [] => (0, [], 4)
  | i, n, b :: t =>
    if i = 9 then (0, [], 1)
    else if 128 ≤ b.toNat then takeF (i + 1) (n + (b.toNat - 128) * 128 ^ i) t
    else if b.toNat = 0 ∧ 0 < i then (0, [], 7)
    else (n + b.toNat * 128 ^ i, t, 0)
def take (l : List UInt8) : Nat × List UInt8 × Nat := takeF 0 0 l
theorem take_num : ∀ (f i n m : Nat) (r : List UInt8), i + f = 8 → m < 128 ^ (f + 1) → (0 < i → 0 < m) →
    takeF i n (numF f m ++ r) = (n + m * 128 ^ i, r, 0)
  | f, i, n, m, r, hif, hm, hp => by
    by_cases h : m < 128
    · rw [numF_small f m h]
      have hb : (UInt8.ofNat m).toNat = m := by simp; omega
      simp only [List.cons_append, List.nil_append, takeF, hb]
      rw [if_neg (by omega), if_neg (by omega), if_neg (by omega)]
    · cases f with
      | zero => simp at hm; omega
      | succ f =>
        rw [numF_big f m (by omega)]
        have hb : (UInt8.ofNat (128 + m % 128)).toNat = 128 + m % 128 := by simp; omega
        simp only [List.cons_append, takeF, hb]
        rw [if_neg (by omega), if_pos (by omega)]
        rw [take_num f (i + 1) _ (m / 128) r (by omega) (by rw [Nat.div_lt_iff_lt_mul (by omega)]; rw [Nat.pow_succ] at hm; exact hm) (fun _ => by omega)]
        have e : 128 + m % 128 - 128 = m % 128 := by omega
        rw [e, Nat.add_assoc, Nat.pow_succ, Nat.mul_comm (128 ^ i) 128, ← Nat.mul_assoc, ← Nat.add_mul]
        have e2 : m % 128 + m / 128 * 128 = m := by omega
        rw [e2]
theorem take_of_num (n : Nat) (h : n < 9223372036854775808) (r : List UInt8) : take (num n ++ r) = (n, r, 0) := by
  unfold take num
  rw [take_num 8 0 0 n r rfl (by simpa using h) (by omega)]
  simp
theorem num_take : ∀ (l : List UInt8) (i n y : Nat) (r : List UInt8), i ≤ 8 → n < 128 ^ i → takeF i n l = (y, r, 0) →
    ∃ m, y = n + m * 128 ^ i ∧ m < 128 ^ (9 - i) ∧ (0 < i → 0 < m) ∧ l = numF (8 - i) m ++ r
  | [], i, n, y, r, _, _, h => by simp [takeF] at h
  | b :: t, i, n, y, r, hi, hn, h => by
    simp only [takeF] at h
    rw [if_neg (by omega)] at h
    split at h
    · rename_i hb
      by_cases hi8 : i = 8
      · exfalso
        subst hi8
        cases t with
        | nil => simp [takeF] at h
        | cons c t => simp [takeF] at h
      · have hb2 := b.toNat_lt
        have hlt : n + (b.toNat - 128) * 128 ^ i < 128 ^ (i + 1) := by
          rw [Nat.pow_succ]
          have : (b.toNat - 128) * 128 ^ i ≤ 127 * 128 ^ i := Nat.mul_le_mul_right _ (by omega)
          omega
        obtain ⟨m, hy, hm, hp, hl⟩ := num_take t (i + 1) _ y r (by omega) hlt h
        refine ⟨(b.toNat - 128) + 128 * m, ?_, ?_, ?_, ?_⟩
        · rw [hy, Nat.pow_succ, Nat.add_mul, Nat.add_assoc, Nat.mul_comm (128 ^ i) 128, ← Nat.mul_assoc m, Nat.mul_comm m 128]
        · have e : 9 - i = (9 - (i + 1)) + 1 := by omega
          rw [e, Nat.pow_succ]; omega
        · intro _; have := hp (by omega); omega
        · have hp' := hp (by omega)
          have e : 8 - i = (8 - (i + 1)) + 1 := by omega
          rw [e, numF_big _ _ (by omega), hl]
          have e1 : (b.toNat - 128 + 128 * m) / 128 = m := by omega
          have e2 : 128 + (b.toNat - 128 + 128 * m) % 128 = b.toNat := by omega
          rw [e1, e2]
          simp
    · rename_i hb
      split at h
      · simp at h
      · rename_i h0
        simp only [Prod.mk.injEq] at h
        obtain ⟨h1, h2, _⟩ := h
        refine ⟨b.toNat, h1.symm, ?_, fun hi0 => by omega, ?_⟩
        · have : (128 : Nat) ^ 1 ≤ 128 ^ (9 - i) := Nat.pow_le_pow_right (by omega) (by omega)
          omega
        · rw [numF_small _ _ (by omega), h2]; simp
theorem take_ok (l : List UInt8) (y : Nat) (r : List UInt8) (h : take l = (y, r, 0)) : num y ++ r = l ∧ y < 9223372036854775808 := by
  obtain ⟨m, hy, hm, _, hl⟩ := num_take l 0 0 y r (by omega) (by simp) h
  simp at hy hm
  subst hy
  exact ⟨hl.symm, hm⟩
theorem at_big (l : List UInt8) (k m : Nat) (hlt : k < l.length) (hk : k ≤ 8) (hb : 128 ≤ l[k].toNat) :
    takeF k m (l.drop k) = takeF (k + 1) (m + (l[k].toNat - 128) * 128 ^ k) (l.drop (k + 1)) := by
  rw [List.drop_eq_getElem_cons hlt]
  simp only [takeF]
  rw [if_neg (by omega), if_pos hb]
theorem at_form (l : List UInt8) (k m : Nat) (hlt : k < l.length) (hk : k ≤ 8) (hb : l[k].toNat = 0) (h0 : 0 < k) : takeF k m (l.drop k) = (0, [], 7) := by
  rw [List.drop_eq_getElem_cons hlt]
  simp only [takeF]
  rw [if_neg (by omega), if_neg (by omega), if_pos ⟨hb, h0⟩]
theorem at_last (l : List UInt8) (k m : Nat) (hlt : k < l.length) (hk : k ≤ 8) (hb : l[k].toNat < 128) (h0 : ¬ (l[k].toNat = 0 ∧ 0 < k)) :
    takeF k m (l.drop k) = (m + l[k].toNat * 128 ^ k, l.drop (k + 1), 0) := by
  rw [List.drop_eq_getElem_cons hlt]
  simp only [takeF]
  rw [if_neg (by omega), if_neg (by omega), if_neg h0]
theorem at_nine (l : List UInt8) (k m : Nat) (hlt : k < l.length) (hk : k = 9) : takeF k m (l.drop k) = (0, [], 1) := by
  rw [List.drop_eq_getElem_cons hlt]
  simp only [takeF]
  rw [if_pos hk]
theorem at_end (l : List UInt8) (k m : Nat) (h : ¬ k < l.length) : takeF k m (l.drop k) = (0, [], 4) := by
  rw [List.drop_of_length_le (by omega)]; rfl
theorem big_lt (m k b : Nat) (hb : b < 256) (hm : m < 128 ^ k) (hb2 : 128 ≤ b) : m + (b - 128) * 128 ^ k < 128 ^ (k + 1) := by
  rw [Nat.pow_succ]
  have : (b - 128) * 128 ^ k ≤ 127 * 128 ^ k := Nat.mul_le_mul_right _ (by omega)
  omega
theorem small_lt (m k b : Nat) (hm : m < 128 ^ k) (hb2 : b < 128) : m + b * 128 ^ k < 128 ^ (k + 1) := by
  rw [Nat.pow_succ]
  have : b * 128 ^ k ≤ 127 * 128 ^ k := Nat.mul_le_mul_right _ (by omega)
  omega
theorem pow_le (k : Nat) (hk : k ≤ 9) : 128 ^ k ≤ 9223372036854775808 := by
  have : (128 : Nat) ^ k ≤ 128 ^ 9 := Nat.pow_le_pow_right (by omega) hk
  simpa using this
end Go.Proofs.YtcbalhicaipmlaaGreat.Nu
