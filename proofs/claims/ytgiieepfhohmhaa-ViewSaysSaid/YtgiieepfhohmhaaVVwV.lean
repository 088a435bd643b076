/- The reference: the view of a game. -/
import Derived.Test.YtgiieepfhohmhaaVRefQ
import Derived.Test.YtgiieepfhohmhaaVVwP
namespace Go.Proofs.Ytgiieepfhohmhaa
open Go.RowKit Go.Maps
def tgtZ (es : List (List Int)) (u : List Int) : Int × Int := if 0 < fld u 9 ∧ 0 ≤ whoZ (fld u 9) es then (fld (rec es (whoZ (fld u 9) es).toNat) 3, fld (rec es (whoZ (fld u 9) es).toNat) 4) else (-1, -1)
def sawR (es : List (List Int)) (u : List Int) : List Int := seenZ u (tgtZ es u)
def atB (x y : Int) (u : List Int) : Bool := decide (fld u 3 = x ∧ fld u 4 = y)
def cellL (es : List (List Int)) (y x : Nat) : List (List Int) := (es.filter (atB x y)).map (sawR es)
def rowL (es : List (List Int)) (y : Nat) : List (List Int) := (List.range 12).flatMap (cellL es y)
def viewL (es : List (List Int)) : List (List Int) := (List.range 12).flatMap (rowL es)
def cellK (es : List (List Int)) (y x k : Nat) : List (List Int) := ((es.take k).filter (atB x y)).map (sawR es)
def atL (es : List (List Int)) (y x k : Nat) : List (List Int) := ((List.range y).flatMap (rowL es) ++ (List.range x).flatMap (cellL es y)) ++ cellK es y x k
theorem atL_next_not {es : List (List Int)} {y x k : Nat} (hk : k < es.length) (h : atB x y (rec es k) = false) : atL es y x (k + 1) = atL es y x k := by
  unfold atL cellK
  rw [take_rec hk, List.filter_append]
  simp [h]
theorem atL_next {es : List (List Int)} {y x k : Nat} (hk : k < es.length) (h : atB x y (rec es k) = true) : atL es y x (k + 1) = atL es y x k ++ [sawR es (rec es k)] := by
  unfold atL cellK
  rw [take_rec hk, List.filter_append, List.map_append, List.append_assoc, List.append_assoc, List.append_assoc]
  simp [h]
theorem atL_cell (es : List (List Int)) (y x : Nat) : atL es y x es.length = atL es y (x + 1) 0 := by
  unfold atL cellK
  rw [List.take_length, List.range_succ, List.flatMap_append]
  simp [cellL]
theorem atL_row (es : List (List Int)) (y : Nat) : atL es y 12 0 = atL es (y + 1) 0 0 := by
  unfold atL cellK
  have e : List.range (y + 1) = List.range y ++ [y] := List.range_succ
  rw [e, List.flatMap_append]
  simp [rowL]
theorem atL_all (es : List (List Int)) : atL es 12 0 0 = viewL es := by
  unfold atL cellK viewL
  simp
theorem cellK_le (es : List (List Int)) (y x k : Nat) : (cellK es y x k).length ≤ es.length := by
  unfold cellK
  rw [List.length_map]
  exact Nat.le_trans (List.length_filter_le _ _) (by rw [List.length_take]; omega)
theorem cellL_le (es : List (List Int)) (y x : Nat) : (cellL es y x).length ≤ es.length := by
  unfold cellL
  rw [List.length_map]
  exact List.length_filter_le _ _
theorem flat_le {f : Nat → List (List Int)} {m : Nat} (h : ∀ i, (f i).length ≤ m) : ∀ n, ((List.range n).flatMap f).length ≤ n * m
  | 0 => by simp
  | n + 1 => by
    rw [List.range_succ, List.flatMap_append, List.length_append]
    have := flat_le h n
    have := h n
    simp only [List.flatMap_cons, List.flatMap_nil, List.append_nil]
    rw [Nat.add_mul]
    omega
theorem atL_le (es : List (List Int)) {y x k : Nat} (hy : y ≤ 12) (hx : x ≤ 12) : (atL es y x k).length ≤ 157 * es.length := by
  unfold atL
  rw [List.length_append, List.length_append]
  have h1 := cellK_le es y x k
  have h2 := flat_le (cellL_le es y) x
  have h3 := flat_le (f := rowL es) (m := 12 * es.length) (fun i => flat_le (cellL_le es i) 12) y
  have h4 : x * es.length ≤ 12 * es.length := Nat.mul_le_mul_right _ hx
  have h5 : y * (12 * es.length) ≤ 12 * (12 * es.length) := Nat.mul_le_mul_right _ hy
  omega
structure VO (w : World) (t g0 g1 : Int) (L : List (List Int)) (wr : World) : Prop where
  bz : wr.heap[w.heap.size]? = some (.cells (viewC 0 0 0 (.slice none 0 0)) 115)
  bx : ∃ av, wr.heap[w.heap.size + 1]? = some (.cells (viewC t g0 g1 av) 115) ∧ RowS w.heap.size wr av L
  be : Below w.heap.size w wr
theorem VO.lt {w wr : World} {t g0 g1 : Int} {L : List (List Int)} (h : VO w t g0 g1 L wr) : w.heap.size + 1 < wr.heap.size := by
  obtain ⟨_, h1, _⟩ := h.bx
  exact (Array.getElem?_eq_some_iff.1 h1).1
theorem VO.below {w wr wx : World} {t g0 g1 : Int} {L : List (List Int)} (h : VO w t g0 g1 L wr) (hb : Below wr.heap.size wr wx) : VO w t g0 g1 L wx := by
  have hl := h.lt
  obtain ⟨av, h1, h2⟩ := h.bx
  exact ⟨(hb.block _ (by omega)).trans h.bz, ⟨av, (hb.block _ (by omega)).trans h1, row_below h2 hb⟩, h.be.trans (hb.mono (by omega))⟩
theorem VO.put {w X w6 : World} {t g0 g1 : Int} {L L2 : List (List Int)} {av v6 : Value} {o : Obj} (hz : X.heap[w.heap.size]? = some (.cells (viewC 0 0 0 (.slice none 0 0)) 115)) (hx : X.heap[w.heap.size + 1]? = some (.cells (viewC t g0 g1 av) 115)) (hr : RowS w.heap.size X av L) (hb : Below w.heap.size w X) (hg : (X.alloc o).grownBy w6 av.ownBlock) (h6 : RowS w.heap.size w6 v6 L2) :
    w6.heap[w.heap.size + 1]? = some (.cells (viewC t g0 g1 av) 115) ∧ VO w t g0 g1 L2 (w6.setCell ⟨w.heap.size + 1, 3, none⟩ v6) := by
  have hlx := (Array.getElem?_eq_some_iff.1 hx).1
  have hx6 : w6.heap[w.heap.size + 1]? = some (.cells (viewC t g0 g1 av) 115) := (hg.block _ (by simp [go_sem]; omega) (fun e => row_ne hr hx (by decide) e.symm)).trans ((heap_alloc_old X o hlx).trans hx)
  have hz6 : w6.heap[w.heap.size]? = some (.cells (viewC 0 0 0 (.slice none 0 0)) 115) := (hg.block _ (by simp [go_sem]; omega) (fun e => row_ne hr hz (by decide) e.symm)).trans ((heap_alloc_old X o (by omega)).trans hz)
  have hb6 : Below w.heap.size w w6 := (hb.alloc hb.size _).grown hg (by have := hb.size; simp [go_sem]; omega) (fun k hk => (World.ownsRow.lt hr k hk).1)
  refine ⟨hx6, (heap_setCell_other w6 ⟨w.heap.size + 1, 3, none⟩ _ _ (fun e => by have e' : w.heap.size = w.heap.size + 1 := e; omega)).trans hz6, ⟨v6, heap_setCell_same w6 _ 3 _ _ v6 hx6, row_set h6 (row_ne h6 hx6 (by decide)) 3 v6⟩, hb6.setCell (p := ⟨w.heap.size + 1, 3, none⟩) (Nat.le_succ _) _⟩
set_option maxRecDepth 100000 in
set_option maxHeartbeats 8000000 in
theorem viewOf_calls (base p : Nat) (nw : Bool) (s : St) (w : World) (hG : GrE base w p nw s) (hn : s.es.length ≤ 100) :
    Calls Try.prog 63 #[.pointer (some ⟨p, 0, none⟩)] w fun e w' => ∃ av, e = .returned (viewV s.t s.g0 s.g1 av) ∧ RowS w.heap.size w' av (viewL s.es) ∧ Below w.heap.size w w' := by
  have hp := hG.lt
  obtain ⟨ua, uc, hU, hrecs⟩ := hG.who
  have HU := hid hU
  have HR := hid hrecs
  obtain ⟨W, hW⟩ : ∃ W, w.alloc (.cells (viewC 0 0 0 (.slice none 0 0)) 115) = W := ⟨_, rfl⟩
  have hbW : Below w.heap.size w W := by rw [← hW]; exact (Below.refl _ w).alloc (Nat.le_refl _) _
  have hsW : W.heap.size = w.heap.size + 1 := by rw [← hW]; simp [go_sem]
  have hhW : W.heap[w.heap.size]? = some (.cells (viewC 0 0 0 (.slice none 0 0)) 115) := by rw [← hW]; exact heap_alloc_new _ _
  have HBW := hid hbW
  have HSW := hid hsW
  have HHW := hid hhW
  have HGW : Hid (∀ w', Below w.heap.size w w' → w'.cell? ⟨p, 1, none⟩ = some (.int .i64 s.t) ∧ w'.cell? ⟨p, 2, none⟩ = some (.int .i64 s.g0) ∧ w'.cell? ⟨p, 3, none⟩ = some (.int .i64 s.g1)) := fun w' hb => by
    obtain ⟨uv, fv, bv, hG⟩ := hG.below hb
    exact ⟨hG.cell 1, hG.cell 2, hG.cell 3⟩
  obtain ⟨c1, c2, c3⟩ := HGW.out W hbW
  have HW1 : Hid (VO w s.t s.g0 s.g1 (atL s.es 0 0 0) (W.alloc (.cells (viewC s.t s.g0 s.g1 (.slice none 0 0)) 115)).drew) := by
    refine ⟨(heap_alloc_old W _ (by omega)).trans hhW, ⟨.slice none 0 0, ?_, World.ownsRow_nil _ _ _ _⟩, ((hbW.alloc (by omega) _)).drew⟩
    have e := heap_alloc_new W (.cells (viewC s.t s.g0 s.g1 (.slice none 0 0)) 115)
    rw [hsW] at e
    exact e
  clear hU hrecs hbW hsW hhW hG
  go_enter Try.func63, Try.ntmps63
  go_wp2_with fail
  have c1A : ∀ o : Obj, (W.alloc o).cell? ⟨p, 1, none⟩ = some (.int .i64 s.t) := fun o => (HGW.out _ (HBW.out.alloc (by rw [HSW.out]; omega) o)).1
  have c2A : ∀ o : Obj, (W.alloc o).cell? ⟨p, 2, none⟩ = some (.int .i64 s.g0) := fun o => (HGW.out _ (HBW.out.alloc (by rw [HSW.out]; omega) o)).2.1
  have c3A : ∀ o : Obj, (W.alloc o).cell? ⟨p, 3, none⟩ = some (.int .i64 s.g1) := fun o => (HGW.out _ (HBW.out.alloc (by rw [HSW.out]; omega) o)).2.2
  go_cut [3] (fun r wx => r = .pointer (some ⟨w.heap.size + 1, 0, none⟩) ∧ Hid (VO w s.t s.g0 s.g1 (atL s.es 0 0 0) wx))
  case first =>
    clear hW
    go_region
    all_goals
      go_wp2
      go_meet
      exact ⟨by rw [HSW.out], HW1⟩
  case rest =>
    clear c1 c2 c3 c1A c2A c3A HW1 hW
    obtain ⟨rfl, HV⟩ := hcut
    have hes := hn
    go_wp2_with fail
    go_loopw [4] (fun i wr => ∃ y : Nat, y ≤ 12 ∧ i = .int .i64 y ∧ Hid (VO w s.t s.g0 s.g1 (atL s.es y 0 0) wr)) (fun i _ => 12 - (intOf i).toNat)
    case atStart => exact ⟨0, Nat.zero_le _, rfl, HV⟩
    case round =>
      clear HV
      obtain ⟨y, hy, rfl, HVy⟩ := hrel
      by_cases hy12 : y < 12
      case neg =>
        have hyz : ¬ (y : Int) < 12 := by omega
        have hye : y = 12 := by omega
        subst hye
        have hv := HVy.out
        rw [atL_all] at hv
        obtain ⟨av, hx, hrow⟩ := hv.bx
        obtain ⟨va, vc, rfl, _, _, _⟩ := hrow.open
        obtain ⟨x0, x1, x2, x3, _⟩ := four_cells hx
        obtain ⟨q0, q1, q2, q3, qf⟩ := four_cells hv.bz
        have HRW := hid hrow
        have HVZ := hid hv.bz
        have HBE := hid hv.be
        clear hv hx hrow HVy
        go_wp2
        refine bodyPost_ret (v := viewV s.t s.g0 s.g1 (.slice va (viewL s.es).length vc)) (by simp [results, Try.results63, go_sem, q0, q1, q2, q3]) rfl ⟨_, rfl, ?_, ?_⟩
        · have hne := row_ne HRW.out HVZ.out (by decide)
          exact row_set (row_set (row_set (row_set HRW.out hne _ _) hne _ _) hne _ _) hne _ _
        · exact (((HBE.out.setCell (p := ⟨w.heap.size, 0, none⟩) (Nat.le_refl _) _).setCell (p := ⟨w.heap.size, 1, none⟩) (Nat.le_refl _) _).setCell (p := ⟨w.heap.size, 2, none⟩) (Nat.le_refl _) _).setCell (p := ⟨w.heap.size, 3, none⟩) (Nat.le_refl _) _
      case pos =>
        have hyz : (y : Int) < 12 := by omega
        go_wp2_with fail
        obtain ⟨wa, rfl⟩ : ∃ x, x = wr := ⟨_, rfl⟩
        go_loopw [5] (fun i wr => ∃ x : Nat, x ≤ 12 ∧ i = .int .i64 x ∧ Hid (VO w s.t s.g0 s.g1 (atL s.es y x 0) wr)) (fun i _ => 12 - (intOf i).toNat)
        case atStart => exact ⟨0, Nat.zero_le _, rfl, HVy⟩
        case round =>
          clear HVy
          obtain ⟨x, hx, rfl, HVx⟩ := hrel
          by_cases hx12 : x < 12
          case neg =>
            have hxz : ¬ (x : Int) < 12 := by omega
            have hxe : x = 12 := by omega
            subst hxe
            rw [atL_row] at HVx
            go_wp2
            go_roundw
            case rel => exact ⟨y + 1, by omega, by go_num, HVx⟩
            case measure => simp [intOf]; omega
          case pos =>
            have hxz : (x : Int) < 12 := by omega
            go_wp2_with fail
            obtain ⟨wb, rfl⟩ : ∃ x, x = wr := ⟨_, rfl⟩
            go_loopw [6] (fun i wr => ∃ k : Nat, k ≤ s.es.length ∧ i = .int .i64 k ∧ Hid (VO w s.t s.g0 s.g1 (atL s.es y x k) wr)) (fun i _ => s.es.length - (intOf i).toNat)
            case atStart => exact ⟨0, Nat.zero_le _, rfl, HVx⟩
            case round =>
              clear HVx
              obtain ⟨k, hk, rfl, HVk⟩ := hrel
              have hU : wr.cell? ⟨p, 6, none⟩ = some (.slice ua s.es.length uc) := (HVk.out.be.cell (p := ⟨p, 6, none⟩) hp).trans HU.out
              by_cases hkl : k < s.es.length
              case neg =>
                have hkz : ¬ (k : Int) < (s.es.length : Int) := by omega
                have hke : k = s.es.length := by omega
                subst hke
                rw [atL_cell] at HVk
                go_wp2
                go_roundw
                case rel => exact ⟨x + 1, by omega, by go_num, HVk⟩
                case measure => simp [intOf]; omega
              case pos =>
                have hkz : (k : Int) < (s.es.length : Int) := by omega
                have hrw := HR.out.below HVk.out.be
                obtain ⟨b, o, e, hc⟩ := hrw.at hkl
                have hbw : b < wr.heap.size := World.block_lt_of_cell? wr _ (hc 0 (by omega))
                have l0 : wr.cell? ⟨b, o + k * 11, none⟩ = some (.int .i64 (fld (rec s.es k) 0)) := hc 0 (by omega)
                have l1 := hc 1 (by omega)
                have l2 := hc 2 (by omega)
                have l3 := hc 3 (by omega)
                have l4 := hc 4 (by omega)
                have l5 := hc 5 (by omega)
                have l6 := hc 6 (by omega)
                have l7 := hc 7 (by omega)
                have l8 := hc 8 (by omega)
                have l9 := hc 9 (by omega)
                have l10 := hc 10 (by omega)
                by_cases hat : atB x y (rec s.es k) = true
                case neg =>
                  have hat' : atB x y (rec s.es k) = false := by simpa using hat
                  have HVN : Hid (VO w s.t s.g0 s.g1 (atL s.es y x (k + 1)) (wr.alloc (.cells (unitC (rec s.es k)) 110))) := by
                    rw [atL_next_not hkl hat']
                    exact HVk.out.below ((Below.refl _ _).alloc (Nat.le_refl _) _)
                  have hw : (fld (rec s.es k) 3 != (x : Int)) = true ∨ ((fld (rec s.es k) 3 != (x : Int)) = false ∧ (fld (rec s.es k) 4 != (y : Int)) = true) := by
                    unfold atB at hat'
                    simp only [decide_eq_false_iff_not] at hat'
                    by_cases h3 : fld (rec s.es k) 3 = (x : Int)
                    · exact Or.inr ⟨by simpa using h3, by simpa using fun h4 => hat' ⟨h3, h4⟩⟩
                    · exact Or.inl (by simpa using h3)
                  generalize rec s.es k = u at l0 l1 l2 l3 l4 l5 l6 l7 l8 l9 l10 hw HVN
                  subst e
                  clear hc hrw hat hat' HVk
                  rcases hw with h3 | ⟨h3, h4⟩
                  · go_wp2
                    go_roundw
                    case rel => exact ⟨k + 1, by omega, by go_num, HVN⟩
                    case measure => simp [intOf]; omega
                  · go_wp2
                    go_roundw
                    case rel => exact ⟨k + 1, by omega, by go_num, HVN⟩
                    case measure => simp [intOf]; omega
                case pos =>
                  have hat2 : fld (rec s.es k) 3 = (x : Int) ∧ fld (rec s.es k) 4 = (y : Int) := by unfold atB at hat; simpa using hat
                  obtain ⟨a3, a4⟩ := hat2
                  have hNX := atL_next hkl hat
                  have hlen : (atL s.es y x k).length ≤ 15700 := Nat.le_trans (atL_le s.es (by omega) (by omega)) (by omega)
                  have hsw := HVk.out.lt
                  rw [a3] at l3
                  rw [a4] at l4
                  unfold sawR tgtZ seenZ at hNX
                  rw [a3, a4] at hNX
                  have hx3 : ((x : Int) != (x : Int)) = false := by simp
                  have hy3 : ((y : Int) != (y : Int)) = false := by simp
                  generalize rec s.es k = u at l0 l1 l2 l3 l4 l5 l6 l7 l8 l9 l10 hNX
                  obtain ⟨X, hX⟩ : ∃ X, (wr.alloc (.cells #[.int .i64 (fld u 0), .int .i64 (fld u 1), .int .i64 (fld u 2), .int .i64 x, .int .i64 y, .int .i64 (fld u 5), .int .i64 (fld u 6), .int .i64 (fld u 7), .int .i64 (fld u 8), .int .i64 (fld u 9), .int .i64 (fld u 10)] 110)).alloc (.cells #[.int .i64 x, .int .i64 y, .int .i64 (fld u 1), .int .i64 (fld u 2), .int .i64 (fld u 5), .int .i64 (fld u 6), .int .i64 (fld u 7), .int .i64 (fld u 8), .int .i64 (-1), .int .i64 (-1)] 171) = X := ⟨_, rfl⟩
                  have hbX : Below wr.heap.size wr X := by rw [← hX]; exact ((Below.refl _ wr).alloc (Nat.le_refl _) _).alloc (by simp [go_sem]) _
                  have hsX : X.heap.size = wr.heap.size + 2 := by rw [← hX]; simp [go_sem]
                  have hh1 : X.heap[wr.heap.size + 1]? = some (.cells #[.int .i64 x, .int .i64 y, .int .i64 (fld u 1), .int .i64 (fld u 2), .int .i64 (fld u 5), .int .i64 (fld u 6), .int .i64 (fld u 7), .int .i64 (fld u 8), .int .i64 (-1), .int .i64 (-1)] 171) := by
                    have e2 : wr.heap.size + 1 = (wr.alloc (.cells #[.int .i64 (fld u 0), .int .i64 (fld u 1), .int .i64 (fld u 2), .int .i64 x, .int .i64 y, .int .i64 (fld u 5), .int .i64 (fld u 6), .int .i64 (fld u 7), .int .i64 (fld u 8), .int .i64 (fld u 9), .int .i64 (fld u 10)] 110)).heap.size := by simp [go_sem]
                    rw [← hX, e2]
                    exact heap_alloc_new _ _
                  have hh0 : X.heap[wr.heap.size]? = some (.cells #[.int .i64 (fld u 0), .int .i64 (fld u 1), .int .i64 (fld u 2), .int .i64 x, .int .i64 y, .int .i64 (fld u 5), .int .i64 (fld u 6), .int .i64 (fld u 7), .int .i64 (fld u 8), .int .i64 (fld u 9), .int .i64 (fld u 10)] 110) := by
                    rw [← hX, heap_alloc_old _ _ (by simp [go_sem])]
                    exact heap_alloc_new wr _
                  have z9 : X.cell? ⟨wr.heap.size, 9, none⟩ = some (.int .i64 (fld u 9)) := cell_of_row X _ 9 _ _ _ hh0
                  have t0 : X.cell? ⟨wr.heap.size + 1, 0, none⟩ = some (.int .i64 x) := cell_of_row X _ 0 _ _ _ hh1
                  have t1 : X.cell? ⟨wr.heap.size + 1, 1, none⟩ = some (.int .i64 y) := cell_of_row X _ 1 _ _ _ hh1
                  have t2 : X.cell? ⟨wr.heap.size + 1, 2, none⟩ = some (.int .i64 (fld u 1)) := cell_of_row X _ 2 _ _ _ hh1
                  have t3 : X.cell? ⟨wr.heap.size + 1, 3, none⟩ = some (.int .i64 (fld u 2)) := cell_of_row X _ 3 _ _ _ hh1
                  have t4 : X.cell? ⟨wr.heap.size + 1, 4, none⟩ = some (.int .i64 (fld u 5)) := cell_of_row X _ 4 _ _ _ hh1
                  have t5 : X.cell? ⟨wr.heap.size + 1, 5, none⟩ = some (.int .i64 (fld u 6)) := cell_of_row X _ 5 _ _ _ hh1
                  have t6 : X.cell? ⟨wr.heap.size + 1, 6, none⟩ = some (.int .i64 (fld u 7)) := cell_of_row X _ 6 _ _ _ hh1
                  have t7 : X.cell? ⟨wr.heap.size + 1, 7, none⟩ = some (.int .i64 (fld u 8)) := cell_of_row X _ 7 _ _ _ hh1
                  have t8 : X.cell? ⟨wr.heap.size + 1, 8, none⟩ = some (.int .i64 (-1)) := cell_of_row X _ 8 _ _ _ hh1
                  have t9 : X.cell? ⟨wr.heap.size + 1, 9, none⟩ = some (.int .i64 (-1)) := cell_of_row X _ 9 _ _ _ hh1
                  have tf := fun j => frozen_of_row X (wr.heap.size + 1) j _ _ hh1
                  have hUX : X.cell? ⟨p, 6, none⟩ = some (.slice ua s.es.length uc) := (hbX.cell (p := ⟨p, 6, none⟩) (by show p < _; omega)).trans hU
                  have hrX := hrw.below hbX
                  have HWC := hid (who_calls p uc ua s.es (fld u 9) X (by omega) hUX hrX)
                  have HVX := hid (HVk.out.below hbX)
                  have HVK := HVk
                  obtain ⟨av, hvb0, hvr0⟩ := HVk.out.bx
                  have hvb := (hbX.block (w.heap.size + 1) (by omega)).trans hvb0
                  have hvr : RowS w.heap.size X av (atL s.es y x k) := row_below hvr0 hbX
                  have hnb : av.ownBlock ≠ some (wr.heap.size + 1) := fun e => by have := (World.ownsRow.lt hvr0 _ e).2; omega
                  obtain ⟨va, vc, rfl, _, _, _⟩ := hvr.open
                  have v3 : X.cell? ⟨w.heap.size + 1, 3, none⟩ = some (.slice va (atL s.es y x k).length vc) := cell_of_row X _ 3 _ _ _ hvb
                  have hne1 : p ≠ wr.heap.size + 1 := by omega
                  have hne3 : w.heap.size + 1 ≠ wr.heap.size + 1 := by omega
                  have HVR := hid hvr
                  have HNB := hid hnb
                  have HVB := hid hvb
                  have HBX := hid hbX
                  have HSX := hid hsX
                  have HRX := hid hrX
                  subst e
                  clear hc hrw hat hh0 hh1 hbX hsX hvr hvb hvr0 hvb0 hnb a3 a4 HVk hrX
                  go_wp2_with fail
                  refine HWC.out.mono ?_
                  rintro e w2 ⟨rfl, hw2⟩
                  rw [hw2]
                  clear w2 hw2
                  clear HWC hU l0 l1 l2 l3 l4 l5 l6 l7 l8 l9 l10
                  by_cases hT : 0 < fld u 9 ∧ 0 ≤ whoZ (fld u 9) s.es
                  case neg =>
                    rw [if_neg hT] at hNX
                    have HNL := hid hNX
                    have hw : ¬ 0 < fld u 9 ∨ (0 < fld u 9 ∧ ¬ 0 ≤ whoZ (fld u 9) s.es) := by
                      by_cases h9 : 0 < fld u 9
                      · exact Or.inr ⟨h9, fun h => hT ⟨h9, h⟩⟩
                      · exact Or.inl h9
                    have HRY := HVR
                    have HVBY := HVB
                    have HVY := HVX
                    have HRO := hid (recs_one X [(x : Int), (y : Int), fld u 1, fld u 2, fld u 5, fld u 6, fld u 7, fld u 8, -1, -1] 171)
                    clear hT hNX
                    rcases hw with h9 | ⟨h9, hk9⟩
                    · go_wp2_with (first
                        | (at_builtin; refine wp_rowsS ((X).alloc (.cells #[.int .i64 x, .int .i64 y, .int .i64 (fld u 1), .int .i64 (fld u 2), .int .i64 (fld u 5), .int .i64 (fld u 6), .int .i64 (fld u 7), .int .i64 (fld u 8), .int .i64 (-1), .int .i64 (-1)] 171)) (by rfl) (.tmp 98) (.tmp 100) (by rfl) w.heap.size (.slice va (atL s.es y x k).length vc) (atL s.es y x k) (by rfl) (World.ownsRow.alloc HRY.out _) (some ⟨X.heap.size, 0, none⟩) 1 [[(x : Int), (y : Int), fld u 1, fld u 2, fld u 5, fld u 6, fld u 7, fld u 8, -1, -1]] (by rfl) HRO.out (fun h => by cases h) (show (atL s.es y x k).length + 1 ≤ 100000 by omega) (by have := HVY.out.be.size; simp [go_sem] at *; omega) ?_
                           intro v6 w6 hr6 hg6 hl6
                           rw [← HNL.out] at hr6
                           have hr7 := hr6
                           obtain ⟨va6, vc6, rfl, _, _, _⟩ := hr7.open
                           obtain ⟨hvb6, hvo⟩ := VO.put HVY.out.bz HVBY.out HRY.out HVY.out.be hg6 hr6
                           have g3 := fun j => frozen_of_row w6 (w.heap.size + 1) j _ _ hvb6
                           have g4 : w6.cell? ⟨w.heap.size + 1, 3, none⟩ = some (.slice va (atL s.es y x k).length vc) := cell_of_row w6 _ 3 _ _ _ hvb6
                           have HVO := hid hvo
                           clear hr6 hr7 hg6 hl6 hvb6 hvo))
                      go_roundw
                      case rel => exact ⟨k + 1, by omega, by go_num, HVO⟩
                      case measure => simp [intOf]; omega
                    · go_wp2_with (first
                        | (at_builtin; refine wp_rowsS ((X).alloc (.cells #[.int .i64 x, .int .i64 y, .int .i64 (fld u 1), .int .i64 (fld u 2), .int .i64 (fld u 5), .int .i64 (fld u 6), .int .i64 (fld u 7), .int .i64 (fld u 8), .int .i64 (-1), .int .i64 (-1)] 171)) (by rfl) (.tmp 98) (.tmp 100) (by rfl) w.heap.size (.slice va (atL s.es y x k).length vc) (atL s.es y x k) (by rfl) (World.ownsRow.alloc HRY.out _) (some ⟨X.heap.size, 0, none⟩) 1 [[(x : Int), (y : Int), fld u 1, fld u 2, fld u 5, fld u 6, fld u 7, fld u 8, -1, -1]] (by rfl) HRO.out (fun h => by cases h) (show (atL s.es y x k).length + 1 ≤ 100000 by omega) (by have := HVY.out.be.size; simp [go_sem] at *; omega) ?_
                           intro v6 w6 hr6 hg6 hl6
                           rw [← HNL.out] at hr6
                           have hr7 := hr6
                           obtain ⟨va6, vc6, rfl, _, _, _⟩ := hr7.open
                           obtain ⟨hvb6, hvo⟩ := VO.put HVY.out.bz HVBY.out HRY.out HVY.out.be hg6 hr6
                           have g3 := fun j => frozen_of_row w6 (w.heap.size + 1) j _ _ hvb6
                           have g4 : w6.cell? ⟨w.heap.size + 1, 3, none⟩ = some (.slice va (atL s.es y x k).length vc) := cell_of_row w6 _ 3 _ _ _ hvb6
                           have HVO := hid hvo
                           clear hr6 hr7 hg6 hl6 hvb6 hvo))
                      go_roundw
                      case rel => exact ⟨k + 1, by omega, by go_num, HVO⟩
                      case measure => simp [intOf]; omega
                  case pos =>
                    rw [if_pos hT] at hNX
                    have hml : (whoZ (fld u 9) s.es).toNat < s.es.length := (idxZ_at (p := fun r => fld r 0 == fld u 9) hT.2).1
                    obtain ⟨h9, hk9⟩ := hT
                    obtain ⟨m, hm⟩ : ∃ m : Nat, whoZ (fld u 9) s.es = (m : Int) := ⟨_, (Int.toNat_of_nonneg hk9).symm⟩
                    rw [hm] at hNX hml hk9 ⊢
                    rw [Int.toNat_natCast] at hNX hml
                    have hmz : (m : Int) < (s.es.length : Int) := by omega
                    obtain ⟨b', o', e, hc⟩ := HRX.out.at hml
                    cases e
                    have m3 : X.cell? ⟨b, o + m * 11 + 3, none⟩ = some (.int .i64 (fld (rec s.es m) 3)) := hc 3 (by omega)
                    have m4 : X.cell? ⟨b, o + m * 11 + 4, none⟩ = some (.int .i64 (fld (rec s.es m) 4)) := hc 4 (by omega)
                    have hne2 : b ≠ wr.heap.size + 1 := by omega
                    have hbY : Below wr.heap.size wr ((X.setCell ⟨wr.heap.size + 1, 8, none⟩ (.int .i64 (fld (rec s.es m) 3))).setCell ⟨wr.heap.size + 1, 9, none⟩ (.int .i64 (fld (rec s.es m) 4))) := (HBX.out.setCell (p := ⟨wr.heap.size + 1, 8, none⟩) (Nat.le_succ _) _).setCell (p := ⟨wr.heap.size + 1, 9, none⟩) (Nat.le_succ _) _
                    have hRY : RowS w.heap.size ((X.setCell ⟨wr.heap.size + 1, 8, none⟩ (.int .i64 (fld (rec s.es m) 3))).setCell ⟨wr.heap.size + 1, 9, none⟩ (.int .i64 (fld (rec s.es m) 4))) (.slice va (atL s.es y x k).length vc) (atL s.es y x k) := by
                      have hg : (Value.slice va (atL s.es y x k).length vc).ownBlock ≠ some (wr.heap.size + 1) := HNB.out
                      exact row_set (row_set HVR.out hg _ _) hg _ _
                    have HVY := hid (HVK.out.below hbY)
                    have hVBY : ((X.setCell ⟨wr.heap.size + 1, 8, none⟩ (.int .i64 (fld (rec s.es m) 3))).setCell ⟨wr.heap.size + 1, 9, none⟩ (.int .i64 (fld (rec s.es m) 4))).heap[w.heap.size + 1]? = some (.cells (viewC s.t s.g0 s.g1 (.slice va (atL s.es y x k).length vc)) 115) := (heap_setCell_other _ ⟨wr.heap.size + 1, 9, none⟩ _ _ (fun e => hne3 e)).trans ((heap_setCell_other _ ⟨wr.heap.size + 1, 8, none⟩ _ _ (fun e => hne3 e)).trans HVB.out)
                    have HRY := hid hRY
                    have HVBY := hid hVBY
                    have HRO : Hid (Recs (((X.setCell ⟨wr.heap.size + 1, 8, none⟩ (.int .i64 (fld (rec s.es m) 3))).setCell ⟨wr.heap.size + 1, 9, none⟩ (.int .i64 (fld (rec s.es m) 4))).alloc (.cells #[.int .i64 x, .int .i64 y, .int .i64 (fld u 1), .int .i64 (fld u 2), .int .i64 (fld u 5), .int .i64 (fld u 6), .int .i64 (fld u 7), .int .i64 (fld u 8), .int .i64 (fld (rec s.es m) 3), .int .i64 (fld (rec s.es m) 4)] 171)) (some ⟨X.heap.size, 0, none⟩) 10 [[(x : Int), (y : Int), fld u 1, fld u 2, fld u 5, fld u 6, fld u 7, fld u 8, fld (rec s.es m) 3, fld (rec s.es m) 4]]) := by
                      have h := recs_one ((X.setCell ⟨wr.heap.size + 1, 8, none⟩ (.int .i64 (fld (rec s.es m) 3))).setCell ⟨wr.heap.size + 1, 9, none⟩ (.int .i64 (fld (rec s.es m) 4))) [(x : Int), (y : Int), fld u 1, fld u 2, fld u 5, fld u 6, fld u 7, fld u 8, fld (rec s.es m) 3, fld (rec s.es m) 4] 171
                      have hs : ((X.setCell ⟨wr.heap.size + 1, 8, none⟩ (.int .i64 (fld (rec s.es m) 3))).setCell ⟨wr.heap.size + 1, 9, none⟩ (.int .i64 (fld (rec s.es m) 4))).heap.size = X.heap.size := by simp [go_sem]
                      rw [hs] at h
                      exact h
                    have HNL := hid hNX
                    clear hNX hc hbY hRY hVBY hm
                    go_wp2_with (first
                      | (at_builtin; refine wp_rowsS (((X.setCell ⟨wr.heap.size + 1, 8, none⟩ (.int .i64 (fld (rec s.es m) 3))).setCell ⟨wr.heap.size + 1, 9, none⟩ (.int .i64 (fld (rec s.es m) 4))).alloc (.cells #[.int .i64 x, .int .i64 y, .int .i64 (fld u 1), .int .i64 (fld u 2), .int .i64 (fld u 5), .int .i64 (fld u 6), .int .i64 (fld u 7), .int .i64 (fld u 8), .int .i64 (fld (rec s.es m) 3), .int .i64 (fld (rec s.es m) 4)] 171)) (by rfl) (.tmp 98) (.tmp 100) (by rfl) w.heap.size (.slice va (atL s.es y x k).length vc) (atL s.es y x k) (by rfl) (World.ownsRow.alloc HRY.out _) (some ⟨X.heap.size, 0, none⟩) 1 [[(x : Int), (y : Int), fld u 1, fld u 2, fld u 5, fld u 6, fld u 7, fld u 8, fld (rec s.es m) 3, fld (rec s.es m) 4]] (by rfl) HRO.out (fun h => by cases h) (show (atL s.es y x k).length + 1 ≤ 100000 by omega) (by have := HVY.out.be.size; simp [go_sem] at *; omega) ?_
                         intro v6 w6 hr6 hg6 hl6
                         rw [← HNL.out] at hr6
                         have hr7 := hr6
                         obtain ⟨va6, vc6, rfl, _, _, _⟩ := hr7.open
                         obtain ⟨hvb6, hvo⟩ := VO.put HVY.out.bz HVBY.out HRY.out HVY.out.be hg6 hr6
                         have g3 := fun j => frozen_of_row w6 (w.heap.size + 1) j _ _ hvb6
                         have g4 : w6.cell? ⟨w.heap.size + 1, 3, none⟩ = some (.slice va (atL s.es y x k).length vc) := cell_of_row w6 _ 3 _ _ _ hvb6
                         have HVO := hid hvo
                         clear hr6 hr7 hg6 hl6 hvb6 hvo))
                    go_roundw
                    case rel => exact ⟨k + 1, by omega, by go_num, HVO⟩
                    case measure => simp [intOf]; omega
end Go.Proofs.Ytgiieepfhohmhaa
