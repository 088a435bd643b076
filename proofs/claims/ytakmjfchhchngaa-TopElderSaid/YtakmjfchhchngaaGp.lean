/- A tick under way: who has nothing left; parts of bury. -/
import Derived.Test.YtakmjfchhchngaaGn
import Derived.Test.YtakmjfchhchngaaInvZ
namespace Go.Proofs.Ytakmjfchhchngaa
open Go.RowKit Go.Maps

def isDead (r : List Int) : Bool := decide (fld r 5 ≤ 0)
theorem alive_dead (u : List Int) : aliveB u = !isDead u := by
  unfold aliveB isDead
  by_cases h : fld u 5 ≤ 0
  · rw [decide_eq_true h, decide_eq_false (by omega)]; rfl
  · rw [decide_eq_false h, decide_eq_true (by omega)]; rfl

set_option maxHeartbeats 1000000 in
theorem dead1_calls (w W : World) (r : List Int) (hb : Below w.heap.size w W) :
    Calls Try.prog 108 (#[entV r] ++ #[]) W fun e w' => e = .returned (.bool (isDead r)) ∧ Below w.heap.size w w' := by
  have HB := hid hb
  clear hb
  show Calls Try.prog 108 #[.agg #[.int .i64 (fld r 0), .int .i64 (fld r 1), .int .i64 (fld r 2), .int .i64 (fld r 3), .int .i64 (fld r 4), .int .i64 (fld r 5), .int .i64 (fld r 6), .int .i64 (fld r 7), .int .i64 (fld r 8), .int .i64 (fld r 9)]] W fun e w' => e = .returned (.bool (decide (fld r 5 ≤ 0))) ∧ Below w.heap.size w w'
  by_cases hq : fld r 5 ≤ 0
  · rw [decide_eq_true hq]
    go_enter Try.func108, Try.ntmps108
    go_wp2
    go_ret
    exact ⟨rfl, HB.out.alloc HB.out.size _⟩
  · rw [decide_eq_false hq]
    go_enter Try.func108, Try.ntmps108
    go_wp2
    go_ret
    exact ⟨rfl, HB.out.alloc HB.out.size _⟩
theorem deadIdx_calls (es : List (List Int)) (ea : Option Addr) (c : Nat) (w : World) (hn : es.length ≤ 1000) (hrow : Recs w ea 10 es) :
    Calls Try.prog 109 #[.slice ea es.length c, .func (.func 108) #[] #[]] w fun e w' => e = .returned (.int .i64 (idxZ isDead es)) ∧ Below w.heap.size w w' :=
  indexFunc_calls 108 #[] (enters_of Try.func108 (by kernel_rfl) rfl) isDead es ea c w hn hrow (fun W u hb => dead1_calls w W u hb)

theorem first_dead {es : List (List Int)} {k : Nat} (hk : k < es.length) (hi : idxZ isDead es = k) : es.filter aliveB = (es.eraseIdx k).filter aliveB ∧ es.filter (fun u => !aliveB u) = rec es k :: (es.eraseIdx k).filter (fun u => !aliveB u) := by
  obtain ⟨_, hp⟩ := idxZ_at (show 0 ≤ idxZ isDead es by omega)
  have htn : (idxZ isDead es).toNat = k := by omega
  rw [htn] at hp
  have hlow : ∀ u ∈ es.take k, isDead u = false := by
    intro u hu
    obtain ⟨i, hil, rfl⟩ := List.mem_iff_getElem.1 hu
    rw [List.length_take] at hil
    have hik : i < k := by omega
    cases hd : isDead ((es.take k)[i]) with
    | false => rfl
    | true =>
      exfalso
      unfold idxZ at hi
      cases hf : es.findIdx? isDead with
      | none => rw [hf] at hi; simp only at hi; omega
      | some m =>
        rw [hf] at hi
        simp only at hi
        rw [List.findIdx?_eq_some_iff_getElem] at hf
        obtain ⟨_, _, hall⟩ := hf
        have := hall i (by omega)
        rw [List.getElem_take] at hd
        simp [hd] at this
  have hsplit : es = es.take k ++ rec es k :: es.drop (k + 1) := by
    rw [rec_at hk, List.getElem_cons_drop, List.take_append_drop]
  have her : es.eraseIdx k = es.take k ++ es.drop (k + 1) := List.eraseIdx_eq_take_drop_succ es k
  have hda : aliveB (rec es k) = false := by rw [alive_dead, hp]; rfl
  have hnone : (es.take k).filter (fun u => !aliveB u) = [] := by
    rw [List.filter_eq_nil_iff]
    intro u hu
    rw [alive_dead, hlow u hu]
    simp
  rw [her]
  constructor
  · conv => lhs; rw [hsplit]
    rw [List.filter_append, List.filter_append, List.filter_cons_of_neg (by simp [hda])]
  · conv => lhs; rw [hsplit]
    rw [List.filter_append, List.filter_append, List.filter_cons_of_pos (by simp [hda]), hnone]
    rfl
theorem bury_step {s : St} {k : Nat} (hk : k < s.es.length) (hi : idxZ isDead s.es = k) : buryS { s with free := s.free ++ [fld (rec s.es k) 0], es := s.es.eraseIdx k } = buryS s := by
  obtain ⟨h1, h2⟩ := first_dead hk hi
  unfold buryS
  simp only
  rw [h1, h2]
  simp [idsE]
theorem bury_none {s : St} (hi : idxZ isDead s.es < 0) : buryS s = { s with es := s.es.map (idleU s.es) } := by
  have h : ∀ u ∈ s.es, aliveB u = true := by
    intro u hu
    obtain ⟨i, hil, rfl⟩ := List.mem_iff_getElem.1 hu
    have := idxZ_neg_iff.1 hi i hil
    rw [rec_at hil] at this
    rw [alive_dead, this]
    rfl
  have e1 : s.es.filter aliveB = s.es := List.filter_eq_self.2 h
  have e2 : s.es.filter (fun u => !aliveB u) = [] := by
    rw [List.filter_eq_nil_iff]
    intro u hu
    rw [h u hu]
    simp
  unfold buryS
  rw [e1, e2]
  simp [idsE]

/- What an append to the numbers that are free leaves as it was. -/
theorem Gm.grownF {base : Nat} {w w' : World} {p : Nat} {ev fv bv : Value} {B : Nat} {s : St} {was : Int → Int} (h : Gm base w p ev fv bv B s was) (hg : w.grownBy w' fv.ownBlock) :
    w'.heap[p]? = some (.cells (gameC s fv ev bv B) 125) ∧ Row base w' ev s.es ∧ NRow base w' bv s.born ∧ Counts w' B 1000 was := by
  obtain ⟨me, mc, hm⟩ := h.ct.isMap
  have hB : B < w.heap.size := (Array.getElem?_eq_some_iff.1 hm).1
  have hbf : bv.ownBlock = none ∨ bv.ownBlock ≠ fv.ownBlock := by
    rcases h.fb with e | e
    · rw [e]
      by_cases hb : bv.ownBlock = none
      · exact Or.inl hb
      · exact Or.inr hb
    · exact Or.inr fun x => e x.symm
  refine ⟨(hg.block p h.lt (fun e => row_ne h.fr h.hp (by decide) e.symm)).trans h.hp, World.ownsRow.kept h.er hg (row_row_ne h.er h.fr (by decide)), World.ownsRow.kept h.br hg hbf, h.ct.other (hg.block B hB (fun e => row_ne_map h.fr hm e.symm))⟩
end Go.Proofs.Ytakmjfchhchngaa
