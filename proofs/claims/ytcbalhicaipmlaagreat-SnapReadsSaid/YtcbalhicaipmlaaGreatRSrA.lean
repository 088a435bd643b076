/- SnapReads: what its walk leans on: errors are small, what is read is small. -/
import Derived.Test.YtcbalhicaipmlaaGreatRSnQ
import Derived.Test.YtcbalhicaipmlaaGreatRStA
import Derived.Test.YtcbalhicaipmlaaGreatRRnG
import Derived.Test.YtcbalhicaipmlaaGreatRRnH
namespace Go.Proofs.YtcbalhicaipmlaaGreat
open Go.RowKit
theorem takeF_err7 : ∀ (l : List UInt8) (i n : Nat), (Nu.takeF i n l).2.2 ≤ 7
  | [], _, _ => by show 4 ≤ 7; omega
  | b :: t, i, n => by
    unfold Nu.takeF
    split
    · show 1 ≤ 7; omega
    · split
      · exact takeF_err7 t _ _
      · split
        · exact Nat.le_refl _
        · exact Nat.zero_le _
theorem num_err7 {r : Rd} (h : r.e ≤ 7) : r.num.2.e ≤ 7 := by
  unfold Rd.num
  split
  · exact h
  · split
    · exact Nat.zero_le _
    · exact takeF_err7 r.l 0 0
theorem upTo_err7 {r : Rd} {m : Int} (h : r.e ≤ 7) : (r.upTo m).2.e ≤ 7 := by
  unfold Rd.upTo
  split
  · show 2 ≤ 7; omega
  · exact num_err7 h
theorem many_err7 {r : Rd} (h : r.e ≤ 7) : ∀ n, (r.many n).2.e ≤ 7
  | 0 => h
  | n + 1 => by rw [many_succ]; exact num_err7 (many_err7 h n)
theorem recs_err7 {r : Rd} {k : Nat} (h : r.e ≤ 7) : ∀ n, (Rd.recs k r n).2.e ≤ 7
  | 0 => h
  | n + 1 => by rw [recs_succ]; exact many_err7 (recs_err7 h n) k
theorem ticks_err7 {r : Rd} {k : Nat} (h : r.e ≤ 7) : ∀ n, (Rd.ticks k r n).2.e ≤ 7
  | 0 => h
  | n + 1 => by rw [ticks_succ]; exact recs_err7 (upTo_err7 (ticks_err7 h n)) _
theorem elder_err7 {r : Rd} (h : r.e ≤ 7) : r.elder.2.e ≤ 7 := recs_err7 (upTo_err7 (many_err7 (upTo_err7 (many_err7 h 4)) _)) _
theorem newer_err7 {r : Rd} (h : r.e ≤ 7) : r.newer.2.e ≤ 7 := recs_err7 (upTo_err7 (many_err7 h 4)) _
theorem tape_err7 {r : Rd} {k : Nat} (h : r.e ≤ 7) : (Rd.tape k r).2.e ≤ 7 := ticks_err7 (upTo_err7 h) _
theorem over_err7 {r : Rd} (h : r.e ≤ 7) : r.over ≤ 7 := by
  unfold Rd.over
  split
  · exact Nat.le_refl _
  · exact h
theorem open_err7 (b : UInt8) (l : List UInt8) : openE b l ≤ 7 := by
  unfold openE
  split
  · omega
  · split
    · omega
    · split <;> omega
theorem rdE_small (l : List UInt8) : (rdE l).1 ≤ 7 ∧ (rdE l).2.free.length ≤ 200 ∧ (rdE l).2.es.length ≤ 20 := by
  rw [rdE_alt]
  have h1 := over_err7 (elder_err7 (r := ⟨openB 69 l, openE 69 l⟩) (open_err7 69 l))
  have h2 := elder_few ⟨openB 69 l, openE 69 l⟩
  generalize (Rd.mk (openB 69 l) (openE 69 l)).elder = R at h1 h2
  have h3 := check_le R.1
  unfold tailE
  split
  · split
    · exact ⟨Nat.zero_le _, h2⟩
    · exact ⟨Nat.le_trans h3 (by omega), Nat.zero_le _, Nat.zero_le _⟩
  · exact ⟨h1, Nat.zero_le _, Nat.zero_le _⟩
theorem rdN_small (l : List UInt8) : (rdN l).1 ≤ 7 ∧ (rdN l).2.es.length ≤ 20 := by
  rw [rdN_alt]
  have h1 := over_err7 (newer_err7 (r := ⟨openB 78 l, openE 78 l⟩) (open_err7 78 l))
  have h2 := newer_few ⟨openB 78 l, openE 78 l⟩
  generalize (Rd.mk (openB 78 l) (openE 78 l)).newer = R at h1 h2
  have h3 := checkN_le R.1
  unfold tailN
  split
  · split
    · exact ⟨Nat.zero_le _, h2⟩
    · exact ⟨Nat.le_trans h3 (by omega), Nat.zero_le _⟩
  · exact ⟨h1, Nat.zero_le _⟩
theorem rdT_small (l : List UInt8) : (rdT l).1 ≤ 7 ∧ (rdT l).2.1.free.length ≤ 200 ∧ (rdT l).2.1.es.length ≤ 20 ∧ (rdT l).2.2.length ≤ 1000 ∧ ∀ j, j < (rdT l).2.2.length → ((rdT l).2.2.getD j []).length ≤ 1000 := by
  rw [rdT_alt]
  have h0 := elder_err7 (r := ⟨openB 84 l, openE 84 l⟩) (open_err7 84 l)
  have h2 := elder_few ⟨openB 84 l, openE 84 l⟩
  generalize (Rd.mk (openB 84 l) (openE 84 l)).elder = R at h0 h2
  have h1 := over_err7 (tape_err7 (k := 7) h0)
  generalize hQ : Rd.tape 7 R.2 = Q at h1
  have h3 : ckTape R.1 Q.1 ≤ 7 := Nat.le_trans (ckT_le (check_le R.1)) (by omega)
  unfold lastT
  rw [hQ]
  split
  · split
    next hc =>
      obtain ⟨h5, h6, h7, _⟩ := ckT_zero (k := 7) hc
      have hI := inv_of_check h5
      have ht := hI.t0
      refine ⟨Nat.zero_le _, h2.1, h2.2, ?_, fun j hj => Nat.le_trans (h7 _ (getD_mem hj [])) (by omega)⟩
      show Q.1.length ≤ 1000
      omega
    · exact ⟨h3, Nat.zero_le _, Nat.zero_le _, Nat.zero_le _, fun j hj => absurd hj (Nat.not_lt_zero _)⟩
  · exact ⟨h1, Nat.zero_le _, Nat.zero_le _, Nat.zero_le _, fun j hj => absurd hj (Nat.not_lt_zero _)⟩
theorem rdR_small (l : List UInt8) : (rdR l).1 ≤ 7 ∧ (rdR l).2.1.es.length ≤ 20 ∧ (rdR l).2.2.length ≤ 1000 ∧ ∀ j, j < (rdR l).2.2.length → ((rdR l).2.2.getD j []).length ≤ 1000 := by
  rw [rdR_alt]
  have h0 := newer_err7 (r := ⟨openB 82 l, openE 82 l⟩) (open_err7 82 l)
  have h2 := newer_few ⟨openB 82 l, openE 82 l⟩
  have hf : (Rd.mk (openB 82 l) (openE 82 l)).newer.1.free = [] := by simp only [Rd.newer]
  generalize (Rd.mk (openB 82 l) (openE 82 l)).newer = R at h0 h2 hf
  have h1 := over_err7 (tape_err7 (k := 6) h0)
  generalize hQ : Rd.tape 6 R.2 = Q at h1
  have h3 : ckReel R.1 Q.1 ≤ 7 := Nat.le_trans (ckT_le (checkN_le R.1)) (by omega)
  unfold lastR
  rw [hQ]
  split
  · split
    next hc =>
      obtain ⟨h5, h6, h7, _⟩ := ckT_zero (k := 6) hc
      have hI := invN_of_check hf h5
      have ht := hI.t0
      refine ⟨Nat.zero_le _, h2, ?_, fun j hj => Nat.le_trans (h7 _ (getD_mem hj [])) (by omega)⟩
      show Q.1.length ≤ 1000
      omega
    · exact ⟨h3, Nat.zero_le _, Nat.zero_le _, fun j hj => absurd hj (Nat.not_lt_zero _)⟩
  · exact ⟨h1, Nat.zero_le _, Nat.zero_le _, fun j hj => absurd hj (Nat.not_lt_zero _)⟩
theorem same_seven {c : Nat} (hc : c ≤ 7) (w : World) : Calls Tryz.prog 10 #[errV c, .int .i64 c] w fun e w' => e = .returned (.bool true) ∧ w' = w := by
  have h := same_calls c c (by omega) (by omega) w
  rw [decide_eq_true rfl] at h
  exact h
def TwoR (V : World) (g : Nat) (x y : List UInt8) (wr : World) : Prop := Below V.heap.size V wr ∧ wr.heap[g]? = some (.cells #[.string ⟨x.toArray⟩, .string ⟨y.toArray⟩] 9)
theorem TwoR.below {V : World} {g : Nat} {x y : List UInt8} {wr w' : World} (h : TwoR V g x y wr) (hb : Below wr.heap.size wr w') : TwoR V g x y w' :=
  ⟨h.1.trans (hb.mono h.1.size), (hb.block _ (Array.getElem?_eq_some_iff.1 h.2).1).trans h.2⟩
theorem TwoR.at {V : World} {g : Nat} {x y : List UInt8} {wr : World} (h : TwoR V g x y wr) {k : Nat} (hk : k < 2) : wr.cell? ⟨g, k, none⟩ = some (.string ⟨(if k = 0 then x else y).toArray⟩) := by
  rcases Nat.lt_or_ge k 1 with h0 | h1
  · have e : k = 0 := by omega
    subst e
    exact cell_of_row wr g 0 _ _ _ h.2
  · have e : k = 1 := by omega
    subst e
    exact cell_of_row wr g 1 _ _ _ h.2
theorem sizeR (l : List UInt8) : (⟨l.toArray⟩ : ByteArray).size = l.length := by show l.toArray.size = _; simp
end Go.Proofs.YtcbalhicaipmlaaGreat
