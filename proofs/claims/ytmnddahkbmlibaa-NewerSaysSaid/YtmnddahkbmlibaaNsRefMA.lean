/- The reference's game and the program's, held against each other: commands. -/
import Derived.Test.YtmnddahkbmlibaaNsRefEA
import Derived.Test.YtmnddahkbmlibaaNsOkA
import Derived.Test.YtmnddahkbmlibaaNsRefL
namespace Go.Proofs.Ytmnddahkbmlibaa
open Go.RowKit Go.Maps
def stopR (s : St) (i : Nat) : St := { s with es := s.es.set i (tellR (rec s.es i) 0 0 0 0) }
end Go.Proofs.Ytmnddahkbmlibaa
namespace Go.Proofs.Ytmnddahkbmlibaa
open Go.RowKit Go.Maps
def isB (old : List Int) (id : Int) : Bool := old.any fun x => x == id
theorem isB_true {old : List Int} {id : Int} {k : Nat} (hk : k < old.length) (h : fld old k = id) : isB old id = true := by
  unfold isB
  rw [List.any_eq_true]
  have : fld old k = old[k] := by simp [fld, List.getD_eq_getElem?_getD, hk]
  exact ⟨old[k], List.getElem_mem hk, by rw [← this, h]; simp⟩
theorem isB_false {old : List Int} {id : Int} (h : ∀ k, k < old.length → fld old k ≠ id) : isB old id = false := by
  unfold isB
  rw [List.any_eq_false]
  intro x hx
  obtain ⟨k, hk, rfl⟩ := List.mem_iff_getElem.1 hx
  have : fld old k = old[k] := by simp [fld, List.getD_eq_getElem?_getD, hk]
  have h2 := h k hk
  rw [this] at h2
  simpa using h2
set_option maxHeartbeats 1000000 in
theorem is_calls (B oc : Nat) (oa : Option Addr) (old : List Int) (id : Int) (w : World) (hn : old.length ≤ 1000) (hc : w.cell? ⟨B, 0, none⟩ = some (.slice oa old.length oc)) (hr : Nums w oa old) :
    Calls Try.prog 143 #[.int .i64 id, .pointer (some ⟨B, 0, none⟩)] w fun e w' => e = .returned (.bool (isB old id)) ∧ w' = w := by
  have HR := hid hr
  clear hr
  go_enter Try.func143, Try.ntmps143
  go_wp2_with fail
  go_loop [4] (fun i => ∃ k : Nat, k ≤ old.length ∧ i = .int .i64 k ∧ Hid (∀ i, i < k → fld old i ≠ id)) (fun i => old.length - (intOf i).toNat)
  case atStart => exact ⟨0, by omega, rfl, fun i hi => by omega⟩
  case round =>
    obtain ⟨k, hk, rfl, HN⟩ := hrel
    by_cases hlt : k < old.length
    · obtain ⟨b, o, rfl, hc0⟩ := HR.out.at hlt
      have hlt' : (k : Int) < (old.length : Int) := by omega
      by_cases he : fld old k = id
      · have hb : (fld old k == id) = true := by simpa using he
        have HE : Hid (isB old id = true) := isB_true hlt he
        clear he
        go_wp2
        go_ret
        exact ⟨retB HE.out.symm, rfl⟩
      · have hb : (fld old k == id) = false := by simpa using he
        have HN2 : Hid (∀ i, i < k + 1 → fld old i ≠ id) := fun i hi => by
          by_cases e : i = k
          · rw [e]; exact he
          · exact HN.out i (by omega)
        clear he HN
        go_wp2
        go_round
        case rel => exact ⟨k + 1, by omega, by go_num, HN2⟩
        case measure => simp [intOf]; omega
    · have HE : Hid (isB old id = false) := isB_false fun i hi => HN.out i (by omega)
      clear HN
      go_wp2
      go_ret
      exact ⟨retB HE.out.symm, rfl⟩
def idxK (f : Nat → List Int) (A : List (List Int)) (k : Nat) : List (List Int) := (List.range A.length).map fun j => if j < k then f j else rec A j
theorem idxK_len (f : Nat → List Int) (A : List (List Int)) (k : Nat) : (idxK f A k).length = A.length := by unfold idxK; simp
theorem idxK_rec (f : Nat → List Int) (A : List (List Int)) (k : Nat) {j : Nat} (hj : j < A.length) : rec (idxK f A k) j = if j < k then f j else rec A j := by
  have e : ∀ l : List (List Int), rec l j = l[j]?.getD [] := fun l => by unfold rec; rw [List.getD_eq_getElem?_getD]
  rw [e (idxK f A k)]
  unfold idxK
  rw [List.getElem?_map, List.getElem?_range hj]
  rfl
theorem ext_rec {A B : List (List Int)} (h : A.length = B.length) (g : ∀ j, j < A.length → rec A j = rec B j) : A = B := by
  refine List.ext_getElem h fun j h1 h2 => ?_
  have := g j h1
  rw [rec_at h1, rec_at h2] at this
  exact this
theorem idxK_zero (f : Nat → List Int) (A : List (List Int)) : idxK f A 0 = A := by
  refine ext_rec (idxK_len f A 0) fun j hj => ?_
  rw [idxK_len] at hj
  rw [idxK_rec f A 0 hj, if_neg (by omega)]
theorem rec_setU (A : List (List Int)) (k : Nat) (v : List Int) {j : Nat} (hj : j < A.length) : rec (A.set k v) j = if k = j then v else rec A j := by
  have hj2 : j < (A.set k v).length := by simpa using hj
  rw [rec_at hj2, List.getElem_set, rec_at hj]
theorem idxK_next (f : Nat → List Int) (A : List (List Int)) {k : Nat} : idxK f A (k + 1) = (idxK f A k).set k (f k) := by
  refine ext_rec (by rw [idxK_len, List.length_set, idxK_len]) fun j hj => ?_
  rw [idxK_len] at hj
  rw [idxK_rec f A (k + 1) hj, rec_setU _ _ _ (by rw [idxK_len]; exact hj), idxK_rec f A k hj]
  by_cases e : k = j
  · subst e; rw [if_pos (by omega), if_pos rfl]
  · rw [if_neg e]
    by_cases h : j < k
    · rw [if_pos h, if_pos (by omega)]
    · rw [if_neg h, if_neg (by omega)]
theorem idxK_same (f : Nat → List Int) (A : List (List Int)) {k : Nat} (h : f k = rec A k) : idxK f A (k + 1) = idxK f A k := by
  refine ext_rec (by rw [idxK_len, idxK_len]) fun j hj => ?_
  rw [idxK_len] at hj
  rw [idxK_rec f A (k + 1) hj, idxK_rec f A k hj]
  by_cases e : j = k
  · subst e; rw [if_pos (by omega), if_neg (by omega), h]
  · by_cases h2 : j < k
    · rw [if_pos h2, if_pos (by omega)]
    · rw [if_neg h2, if_neg (by omega)]
def Keep (W : World) (ob : Option Nat) (w : World) : Prop := Below 0 W w ∧ ∀ k, k < W.heap.size → ob ≠ some k → w.heap[k]? = W.heap[k]?
theorem Keep.refl (W : World) (ob : Option Nat) : Keep W ob W := ⟨Below.refl _ _, fun _ _ _ => rfl⟩
theorem Keep.below {W w w' : World} {ob : Option Nat} (h : Keep W ob w) (hb : Below w.heap.size w w') : Keep W ob w' :=
  ⟨h.1.trans (hb.mono (Nat.zero_le _)), fun k hk hn => (hb.block k (Nat.lt_of_lt_of_le hk h.1.size)).trans (h.2 k hk hn)⟩
theorem Keep.set {W w : World} {g : Nat} (h : Keep W (some g) w) (j : Nat) (v : Value) : Keep W (some g) (w.setCell ⟨g, j, none⟩ v) :=
  ⟨h.1.setCell (p := ⟨g, j, none⟩) (Nat.zero_le _) v, fun k hk hn => (heap_setCell_other w ⟨g, j, none⟩ k v (fun e => hn (by rw [e]))).trans (h.2 k hk hn)⟩
theorem Keep.base {W w : World} {ob : Option Nat} {B : Nat} (h : Keep W ob w) (hB : B ≤ W.heap.size) (ho : ∀ k, ob = some k → B ≤ k) : Below B W w :=
  ⟨h.1.os, h.1.tape, h.1.output, h.1.size, fun k hk => h.2 k (by omega) (fun e => by have := ho k e; omega)⟩
theorem Keep.cell {W w : World} {ob : Option Nat} (h : Keep W ob w) {p : Addr} (hp : p.block < W.heap.size) (hn : ob ≠ some p.block) : w.cell? p = W.cell? p := by
  unfold World.cell?
  rw [h.2 p.block hp hn]
theorem tell_exact (base p : Nat) (nw : Bool) (s : St) (i : Nat) (d x y t : Int) (w : World) (g c : Nat) (fv bv : Value) (hi : i < s.es.length) (hG : Gr base w p (.slice (some ⟨g, 0, none⟩) s.es.length c) fv bv nw s) :
    Calls Try.prog 94 #[.pointer (some ⟨p, 0, none⟩), .int .i64 i, .int .i64 d, .int .i64 x, .int .i64 y, .int .i64 t] w fun e w' => e = .returned (.tuple #[]) ∧ w' = tellW w g (i * 11) d x y t := by
  obtain ⟨hc, hf⟩ := hG.er.cells hi
  have l6 := hc 6 (by omega)
  have l7 := hc 7 (by omega)
  have l8 := hc 8 (by omega)
  have l9 := hc 9 (by omega)
  have f6 := hf (i * 11 + 6)
  have f7 := hf (i * 11 + 7)
  have f8 := hf (i * 11 + 8)
  have f9 := hf (i * 11 + 9)
  have c6 : w.cell? ⟨p, 6, none⟩ = some (.slice (some ⟨g, 0, none⟩) s.es.length c) := hG.cell 6
  have hpg : p ≠ g := fun e => row_ne hG.er hG.hp (by decide) (by rw [e]; rfl)
  have hiz : (i : Int) < (s.es.length : Int) := by omega
  have hiz0 : (0 : Int) ≤ (i : Int) := by omega
  clear hc hf hG
  go_enter Try.func94, Try.ntmps94
  go_wp2
  go_end0
  exact ⟨rfl, rfl⟩
end Go.Proofs.Ytmnddahkbmlibaa
