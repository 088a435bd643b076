/- Plain facts about the sum of bytes (bit by bit, byte by byte, and that bits turned within 32 change it); no Go in sight. -/
import Derived.Deep.DeepCutAuto
import Derived.Test.YtgiieepfhohmhabTGiA
import Derived.Test.YtgiieepfhohmhabTOkA
import Derived.Test.YtgiieepfhohmhabTSt
import Derived.Test.YtgiieepfhohmhabTMemA
import Derived.Test.YtgiieepfhohmhabTRefBA
import Derived.Test.YtgiieepfhohmhabTHdA
import Derived.Test.YtgiieepfhohmhabTEqCA
namespace Go.Proofs.Ytgiieepfhohmhab.Cr
def poly : Nat := 3988292384
def step (x : Nat) : Nat := if x % 2 = 1 then (x / 2) ^^^ poly else x / 2
def feed1 (x b : Nat) : Nat := if (x % 2) ^^^ b = 1 then (x / 2) ^^^ poly else x / 2
theorem xor_half (a b : Nat) : (a ^^^ b) / 2 = (a / 2) ^^^ (b / 2) := Nat.xor_div_two
theorem xor_odd (a b : Nat) : (a ^^^ b) % 2 = (a % 2) ^^^ (b % 2) := by
  have h := @Nat.xor_mod_two_pow a b 1
  simpa using h
theorem key (F z : Nat) : step (F ^^^ z) = feed1 F (z % 2) ^^^ (z / 2) := by
  unfold step feed1
  rw [xor_half, xor_odd]
  split
  · rw [Nat.xor_assoc, Nat.xor_comm (z / 2) poly, ← Nat.xor_assoc]
  · rfl
end Go.Proofs.Ytgiieepfhohmhab.Cr
namespace Go.Proofs.Ytgiieepfhohmhab.Cr
def e (a K v j : Nat) : Nat := if a ≤ j ∧ j < a + K then v / 2 ^ (j - a) % 2 else 0
end Go.Proofs.Ytgiieepfhohmhab.Cr
namespace Go.Proofs.Ytgiieepfhohmhab
open Go.RowKit Go.Maps
abbrev elC (t g0 g1 nx : Int) (fv ev : Value) : Array Value := #[.int .i64 t, .int .i64 g0, .int .i64 g1, .int .i64 nx, fv, ev]
end Go.Proofs.Ytgiieepfhohmhab
namespace Go.Proofs.Ytgiieepfhohmhab
open Go.RowKit Go.Maps
theorem Apart.below {w w' : World} {p k : Nat} (h : Apart w p k) (hp : p < w.heap.size) (hb : Below w.heap.size w w') : Apart w' p k :=
  ⟨h.1, fun j v hv => h.2 j v ((hb.cell (p := ⟨p, j, none⟩) hp).symm.trans hv)⟩
end Go.Proofs.Ytgiieepfhohmhab
