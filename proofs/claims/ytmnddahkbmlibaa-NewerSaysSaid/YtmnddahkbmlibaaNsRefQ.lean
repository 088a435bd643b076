/- The reference: a tick of the elder game. -/
import Derived.Deep.DeepCutAuto
import Derived.ChangeKeysEq
import Derived.Test.YtmnddahkbmlibaaNsGiA
import Derived.Test.YtmnddahkbmlibaaNsOkA
import Derived.Test.YtmnddahkbmlibaaNsSw
import Derived.Test.YtmnddahkbmlibaaNsEqCA
import Derived.Test.YtmnddahkbmlibaaNsRefK2
import Derived.Test.YtmnddahkbmlibaaNsRecA
namespace Go.Proofs.Ytmnddahkbmlibaa
open Go.RowKit Go.Maps
theorem Apart.below {w w' : World} {p k : Nat} (h : Apart w p k) (hp : p < w.heap.size) (hb : Below w.heap.size w w') : Apart w' p k :=
  ⟨h.1, fun j v hv => h.2 j v ((hb.cell (p := ⟨p, j, none⟩) hp).symm.trans hv)⟩
def OldOk (w : World) (p : Nat) (oa : Option Addr) (old : List Int) : Prop := Nums w oa old ∧ ∀ b o, oa = some ⟨b, o, none⟩ → b < w.heap.size ∧ Apart w p b
theorem OldOk.below {w w' : World} {p : Nat} {oa : Option Addr} {old : List Int} (h : OldOk w p oa old) (hp : p < w.heap.size) (hb : Below w.heap.size w w') : OldOk w' p oa old :=
  ⟨h.1.below hb, fun b o e => ⟨Nat.lt_of_lt_of_le (h.2 b o e).1 hb.size, (h.2 b o e).2.below hp hb⟩⟩
theorem OldOk.fr {w w' : World} {p : Nat} {oa : Option Addr} {old : List Int} (h : OldOk w p oa old) (hf : Fr w w' p) : OldOk w' p oa old := by
  refine ⟨?_, fun b o e => ⟨Nat.lt_of_lt_of_le (h.2 b o e).1 hf.1, (hf.2 b (h.2 b o e).1 (h.2 b o e).2).2⟩⟩
  rcases h.1 with h1 | ⟨b, o, e, hc⟩
  · exact Or.inl h1
  · refine Or.inr ⟨b, o, e, fun i hi => ?_⟩
    have hk := (hf.2 b (h.2 b o e).1 (h.2 b o e).2).1
    rw [← hc i hi]
    unfold World.cell?
    simp only [hk]
end Go.Proofs.Ytmnddahkbmlibaa
namespace Go.Proofs.Ytmnddahkbmlibaa
open Go.RowKit Go.Maps
theorem GrE.lt {base : Nat} {w : World} {p : Nat} {nw : Bool} {s : St} (h : GrE base w p nw s) : p < w.heap.size := by
  obtain ⟨uv, fv, bv, h⟩ := h
  exact h.lt
theorem GrE.who {base : Nat} {w : World} {p : Nat} {nw : Bool} {s : St} (h : GrE base w p nw s) : ∃ ua uc, w.cell? ⟨p, 6, none⟩ = some (.slice ua s.es.length uc) ∧ Recs w ua 11 s.es := by
  obtain ⟨uv, fv, bv, h⟩ := h
  obtain ⟨ea, c, rfl, _, hr, _⟩ := h.er.open
  exact ⟨ea, c, h.cell 6, hr⟩
theorem fr_below {w w' : World} {p : Nat} (hp : p < w.heap.size) (hb : Below w.heap.size w w') : Fr w w' p := ⟨hb.size, fun k hk ha => ⟨hb.block k hk, ha.below hp hb⟩⟩
theorem fr_trans {a b c : World} {p : Nat} (h : Fr a b p) (h' : Fr b c p) : Fr a c p :=
  ⟨Nat.le_trans h.1 h'.1, fun k hk ha => by
    have h1 := h.2 k hk ha
    have h2 := h'.2 k (Nat.lt_of_lt_of_le hk h.1) h1.2
    exact ⟨h2.1.trans h1.1, h2.2⟩⟩
end Go.Proofs.Ytmnddahkbmlibaa
namespace Go.Proofs.Ytmnddahkbmlibaa
open Go.RowKit Go.Maps
end Go.Proofs.Ytmnddahkbmlibaa
namespace Go.Proofs.Ytmnddahkbmlibaa
open Go.RowKit Go.Maps
def zeroS : St := ⟨0, 0, 0, 0, [], [], []⟩
theorem firstE_le {n m : Nat} {f : Nat → Nat} (h : ∀ i, i < n → f i ≤ m) : firstE n f ≤ m := by
  unfold firstE
  cases hf : (List.range n).find? (fun i => f i != 0) with
  | none => exact Nat.zero_le _
  | some k =>
    have := List.mem_of_find?_eq_some hf
    exact h k (by simpa using this)
def intV (c : Nat) : Value := .int .i64 c
theorem own_nil {base : Nat} {w : World} {e : TypeId} {size n c : Nat} {m : Nat} {xs : List Value} {a : Option Addr} (h : w.ownsRow base e size (.slice a n c) m xs) : a = none → c = 0 := by
  rcases h.2 with ⟨h', _⟩ | ⟨g', cap', cur, h', _⟩
  · intro _; cases h'; rfl
  · intro e; cases h'; cases e
theorem getD_at {α : Type} {l : List α} {i : Nat} {d : α} (h : i < l.length) : l.getD i d = l[i] := by
  rw [List.getD_eq_getElem?_getD, List.getElem?_eq_getElem h]
  rfl
end Go.Proofs.Ytmnddahkbmlibaa
namespace Go.Proofs.Ytmnddahkbmlibaa
open Go.RowKit Go.Maps
theorem zero_box {wr w5 : World} {o : Obj} (hb : Below (wr.alloc o).drew.heap.size (wr.alloc o).drew w5) : w5.heap[wr.heap.size]? = some o := (hb.block wr.heap.size (by simp [go_sem])).trans (heap_alloc_new wr o)
section
variable (s : St) (fa ea ta : Option Addr) (fc ec tc : Nat) (ls : List (List (List Int))) (n : Int) (w : World)
end
end Go.Proofs.Ytmnddahkbmlibaa
namespace Go.Proofs.Ytmnddahkbmlibaa
open Go.RowKit Go.Maps
end Go.Proofs.Ytmnddahkbmlibaa
namespace Go.Proofs.Ytmnddahkbmlibaa
open Go.RowKit Go.Maps
section
variable {ops : Array Oper} {o : Oper} {a : Act} {K : Act → World → Prop} {Q : Exit → Act → World → Prop} {E : Prop}
end
section
variable {ops : Array Oper} {o : Oper} {a : Act} {K : Act → World → Prop} {Q : Exit → Act → World → Prop} {E : Prop}
end
theorem recs_off {w : World} {a : Option Addr} {n b j : Nat} {rs : List (List Int)} {v : Value} (h : Recs w a n rs) (ho : ∀ g o, a = some ⟨g, o, none⟩ → g ≠ b) : Recs (w.setCell ⟨b, j, none⟩ v) a n rs := by
  rcases h with h | ⟨g, o, e, hc⟩
  · exact Or.inl h
  · refine Or.inr ⟨g, o, e, fun i hi q hq => ?_⟩
    rw [← hc i hi q hq]
    unfold World.cell?
    simp only [heap_setCell_other w ⟨b, j, none⟩ g v (fun x => ho g o e x)]
end Go.Proofs.Ytmnddahkbmlibaa
namespace Go.Proofs.Ytmnddahkbmlibaa
open Go.RowKit Go.Maps
theorem same_true (c : Nat) (hc : c ≤ 3) (w : World) : Calls Try.prog 15 #[errV c, .int .i64 c] w fun e w' => e = .returned (.bool true) ∧ w' = w := by
  have h := same_calls c c (by omega) (by omega) w
  rw [decide_eq_true rfl] at h
  exact h
end Go.Proofs.Ytmnddahkbmlibaa
namespace Go.Proofs.Ytmnddahkbmlibaa
open Go.RowKit Go.Maps
end Go.Proofs.Ytmnddahkbmlibaa
