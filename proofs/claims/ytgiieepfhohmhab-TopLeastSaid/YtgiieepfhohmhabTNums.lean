/- Plain facts about a number as bytes, and how it is taken; no Go in sight. -/

namespace Go.Proofs.Ytgiieepfhohmhab.Nu
def takeF : Nat → Nat → List UInt8 → Nat × List UInt8 × Nat
  | _, _, [] => (0, [], 4)
  | i, n, b :: t =>
    if i = 9 then (0, [], 1)
    else if 128 ≤ b.toNat then takeF (i + 1) (n + (b.toNat - 128) * 128 ^ i) t
    else if b.toNat = 0 ∧ 0 < i then (0, [], 7)
    else (n + b.toNat * 128 ^ i, t, 0)
def take (l : List UInt8) : Nat × List UInt8 × Nat := takeF 0 0 l
end Go.Proofs.Ytgiieepfhohmhab.Nu
