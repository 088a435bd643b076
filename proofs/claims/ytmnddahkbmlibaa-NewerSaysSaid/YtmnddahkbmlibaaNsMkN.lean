/- Package newer: what the board and the map of wishes tell while all move. -/
import Derived.Test.YtmnddahkbmlibaaNsNwF
import Derived.Test.YtmnddahkbmlibaaNsEqO
import Derived.Test.YtmnddahkbmlibaaNsWhN
namespace Go.Proofs.Ytmnddahkbmlibaa
open Go.RowKit Go.Maps
def claimN (es : List (List Int)) (k : Nat) (x y : Int) : Nat := es.countP (isAt x y) + (es.take k).countP (fun u => decide (wishN (tgtR es u) u = some (x, y)))
def BrdW (es : List (List Int)) (k : Nat) (l : List Int) : Prop := l.length = 144 ∧ ∀ x y : Nat, x < 12 → y < 12 → fld l (y * 12 + x) = (claimN es k x y : Int)
theorem brdW_zero {es : List (List Int)} {l : List Int} (h : Brd es es.length l) : BrdW es 0 l :=
  ⟨h.1, fun x y hx hy => by
    rw [h.2 x y hx hy]
    unfold claimN
    rw [List.take_length]
    simp⟩
theorem claimN_le (es : List (List Int)) (k : Nat) (x y : Int) : claimN es k x y ≤ 2 * es.length := by
  unfold claimN
  have h1 := List.countP_le_length (p := isAt x y) (l := es)
  have h2 := List.countP_le_length (p := fun u => decide (wishN (tgtR es u) u = some (x, y))) (l := es.take k)
  rw [List.length_take] at h2
  omega
theorem claimN_next {es : List (List Int)} {k : Nat} (hk : k < es.length) (x y : Int) : claimN es (k + 1) x y = claimN es k x y + (if wishN (tgtR es (rec es k)) (rec es k) = some (x, y) then 1 else 0) := by
  unfold claimN
  rw [take_rec hk, List.countP_append]
  have e2 : List.countP (fun u => decide (wishN (tgtR es u) u = some (x, y))) [rec es k] = if wishN (tgtR es (rec es k)) (rec es k) = some (x, y) then 1 else 0 := by simp [List.countP_cons]
  rw [e2]
  omega
theorem brdW_none {es : List (List Int)} {k : Nat} (hk : k < es.length) {l : List Int} (h : BrdW es k l) (hw : wishN (tgtR es (rec es k)) (rec es k) = none) : BrdW es (k + 1) l :=
  ⟨h.1, fun x y hx hy => by rw [h.2 x y hx hy, claimN_next hk, hw]; simp⟩
theorem brdW_some {es : List (List Int)} {k : Nat} (hk : k < es.length) {l : List Int} (h : BrdW es k l) {xn yn : Nat} (hx : xn < 12) (hy : yn < 12) (hw : wishN (tgtR es (rec es k)) (rec es k) = some ((xn : Int), (yn : Int))) : BrdW es (k + 1) (l.set (yn * 12 + xn) (fld l (yn * 12 + xn) + 1)) := by
  refine ⟨by rw [List.length_set]; exact h.1, fun x y hx2 hy2 => ?_⟩
  have hlt : yn * 12 + xn < l.length := by rw [h.1]; omega
  have hf : fld (l.set (yn * 12 + xn) (fld l (yn * 12 + xn) + 1)) (y * 12 + x) = if y * 12 + x = yn * 12 + xn then fld l (yn * 12 + xn) + 1 else fld l (y * 12 + x) := by
    unfold fld
    rw [List.getD_eq_getElem?_getD, List.getD_eq_getElem?_getD, List.getElem?_set]
    by_cases e : yn * 12 + xn = y * 12 + x
    · rw [if_pos e, if_pos e.symm, if_pos hlt]
      rfl
    · rw [if_neg e, if_neg (fun h => e h.symm), List.getD_eq_getElem?_getD]
  rw [hf, claimN_next hk, hw]
  by_cases e : y * 12 + x = yn * 12 + xn
  · have e1 : x = xn := by omega
    have e2 : y = yn := by omega
    subst e1 e2
    rw [if_pos rfl, if_pos rfl, h.2 x y hx2 hy2]
    omega
  · have e2 : ¬ (some ((xn : Int), (yn : Int)) = some ((x : Int), (y : Int))) := fun hh => by
      simp only [Option.some.injEq, Prod.mk.injEq] at hh
      omega
    rw [if_neg e, if_neg e2, h.2 x y hx2 hy2]
    rfl
def WishW (es : List (List Int)) (k : Nat) (l : List (Int × Value)) : Prop := ∀ i, i < es.length → getL (fld (rec es i) 0) l = if i < k then (wishN (tgtR es (rec es i)) (rec es i)).map plV else none
theorem wishW_zero (es : List (List Int)) : WishW es 0 [] := fun i _ => by rw [if_neg (Nat.not_lt_zero _)]; rfl
theorem wishW_none {es : List (List Int)} {k : Nat} {l : List (Int × Value)} (h : WishW es k l) (hw : wishN (tgtR es (rec es k)) (rec es k) = none) : WishW es (k + 1) l := fun i hi => by
  rw [h i hi]
  by_cases e : i = k
  · subst e
    rw [if_neg (Nat.lt_irrefl _), if_pos (Nat.lt_succ_self _), hw]
    rfl
  · by_cases e2 : i < k
    · rw [if_pos e2, if_pos (by omega)]
    · rw [if_neg e2, if_neg (by omega)]
theorem wishW_some {es : List (List Int)} {k : Nat} (hk : k < es.length) (hu : Uniq es) {l : List (Int × Value)} (h : WishW es k l) {q : Int × Int} (hw : wishN (tgtR es (rec es k)) (rec es k) = some q) : WishW es (k + 1) (putL (fld (rec es k) 0) (plV q) l) := fun i hi => by
  rw [getL_put]
  by_cases e : i = k
  · subst e
    rw [if_pos rfl, if_pos (Nat.lt_succ_self _), hw]
    rfl
  · rw [if_neg (fun x => e (hu i k hi hk x)), h i hi]
    by_cases e2 : i < k
    · rw [if_pos e2, if_pos (by omega)]
    · rw [if_neg e2, if_neg (by omega)]
theorem claimN_old {es : List (List Int)} {o : Nat} {old : List Int} (h : OldN es o old) (x y : Int) : claimN es o x y = claimsO es old x y := by
  unfold claimN claimsO
  rw [countP_old h]
  congr 1
  refine List.countP_congr fun u _ => ?_
  unfold wishO
  cases isB old (fld u 0) with
  | false => simp
  | true => simp
theorem wishW_old {es : List (List Int)} {o : Nat} {old : List Int} (h : OldN es o old) {l : List (Int × Value)} (hW : WishW es o l) {i : Nat} (hi : i < es.length) : getL (fld (rec es i) 0) l = (wishO es old (rec es i)).map plV := by
  rw [hW i hi]
  unfold wishO
  rw [h.is i hi]
  by_cases e : i < o
  · rw [if_pos e, decide_eq_true e, if_pos rfl]
  · rw [if_neg e, decide_eq_false e, if_neg (by decide)]
    rfl
theorem moveO_some {es : List (List Int)} {old u : List Int} {q : Int × Int} (h : wishO es old u = some q) : moveO es old u = if claimsO es old q.1 q.2 = 1 then updR 11 (updR 11 u 3 q.1) 4 q.2 else u := by
  unfold moveO
  rw [h]
theorem moveO_none {es : List (List Int)} {old u : List Int} (h : wishO es old u = none) : moveO es old u = u := by
  unfold moveO
  rw [h]
theorem gmN_two {base : Nat} {w : World} {p g n c : Nat} {B : Nat} {s : St} {f : Int → Option Value} {o : Int} (h : GmN base w p (.slice (some ⟨g, 0, none⟩) n c) B s f o) {i : Nat} (hi : i < s.es.length) (x y : Int) :
    GmN base ((w.setCell ⟨g, i * 11 + 3, none⟩ (.int .i64 x)).setCell ⟨g, i * 11 + 4, none⟩ (.int .i64 y)) p (.slice (some ⟨g, 0, none⟩) n c) B { s with es := s.es.set i (updR 11 (updR 11 (rec s.es i) 3 x) 4 y) } f o := by
  have h1 := gmN_rput h hi (j := 3) (by omega) x
  have h2 := gmN_rput h1 (i := i) (by simpa using hi) (j := 4) (by omega) y
  rw [rec_set_same hi, set_set] at h2
  exact h2
theorem aimN_of {s : St} (h : InvN s) {i : Nat} (hi : i < s.es.length) : AimN s.es (whoK s.es s.es.length) (rec s.es i) (idxZ (isId (fld (rec s.es i) 9)) s.es).toNat := by
  intro hd
  obtain ⟨a, b, _, _⟩ := invN_target h (rec_mem hi) hd
  refine ⟨?_, (idxZ_at a).1, invN_on h b⟩
  rw [who_look (uniq_of_up h.up), if_pos a]
theorem zero_placeN (w : World) : (zeroValue 214).run Try.prog w = .ok (plV (0, 0)) w := by kernel_rfl
theorem kind_wishesN : Kind 212 3 214 inV (plV (0, 0)) := ⟨Try.underlying212, finds_int, check_int, zero_placeN, fun k => by simp [Instr.sameBits]⟩
end Go.Proofs.Ytmnddahkbmlibaa
