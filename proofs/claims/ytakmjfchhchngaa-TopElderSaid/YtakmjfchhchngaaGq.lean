/- A tick under way: bury. -/
import Derived.Test.YtakmjfchhchngaaGp
import Derived.Deep.RegionHeld3
namespace Go.Proofs.Ytakmjfchhchngaa
open Go.RowKit Go.Maps

/- The first k of them are idle where their target is gone. -/
def idleK (A : List (List Int)) (k : Nat) : List (List Int) := (A.take k).map (idleU A) ++ A.drop k
theorem idleU_fld (A : List (List Int)) (x : List Int) {j : Nat} (hj : j < 6) : fld (idleU A x) j = fld x j := by
  unfold idleU
  split
  · exact (turnR_fld x 0).1 j hj
  · rfl
theorem idleK_length (A : List (List Int)) {k : Nat} (hk : k ≤ A.length) : (idleK A k).length = A.length := by
  unfold idleK
  rw [List.length_append, List.length_map, List.length_take, List.length_drop]
  omega
theorem idleK_rec (A : List (List Int)) {k : Nat} (hk : k ≤ A.length) {j : Nat} (hj : j < A.length) : rec (idleK A k) j = if j < k then idleU A (rec A j) else rec A j := by
  have hl : ((A.take k).map (idleU A)).length = k := by rw [List.length_map, List.length_take]; omega
  rw [rec_at (by rw [idleK_length A hk]; exact hj), rec_at hj]
  unfold idleK
  by_cases h : j < k
  · rw [if_pos h, List.getElem_append_left (by omega), List.getElem_map, List.getElem_take]
  · rw [if_neg h, List.getElem_append_right (by omega), List.getElem_drop]
    congr 1
    omega
theorem idleK_idx (A : List (List Int)) {k : Nat} (hk : k ≤ A.length) (id : Int) : idxZ (isId id) (idleK A k) = idxZ (isId id) A := by
  refine idxZ_congr (idleK_length A hk) fun j hj => ?_
  unfold isId
  rw [idleK_rec A hk hj]
  split
  · rw [idleU_fld A _ (by omega)]
  · rfl
theorem idleK_next (A : List (List Int)) {k : Nat} (hk : k < A.length) : idleK A (k + 1) = (idleK A k).set k (idleU A (rec A k)) := by
  have hl : ((A.take k).map (idleU A)).length = k := by rw [List.length_map, List.length_take]; omega
  have e1 : A.take (k + 1) = A.take k ++ [A[k]] := by rw [List.take_add_one, List.getElem?_eq_getElem hk]; rfl
  have e2 : A.drop k = A[k] :: A.drop (k + 1) := (List.getElem_cons_drop hk).symm
  unfold idleK
  rw [e1, e2, List.map_append, List.append_assoc, List.set_append, if_neg (by omega), hl, Nat.sub_self, rec_at hk]
  rfl
theorem idleK_same (A : List (List Int)) {k : Nat} (hk : k < A.length) (h : idleU A (rec A k) = rec A k) : idleK A (k + 1) = idleK A k := by
  rw [idleK_next A hk, h]
  have hr : rec (idleK A k) k = rec A k := by rw [idleK_rec A (by omega) hk, if_neg (by omega)]
  rw [← hr, rec_at (by rw [idleK_length A (by omega)]; exact hk)]
  exact List.set_getElem_self _

theorem below_of_drew' {a w : World} (h : Below a.drew.heap.size a.drew w) : Below a.heap.size a w := ⟨h.os, h.tape, h.output, h.size, h.block⟩
/- How many are there, as the memory says. -/
def entsLen (w : World) (p : Nat) : Nat :=
  match w.cell? ⟨p, 5, none⟩ with
  | some (.slice _ n _) => n
  | _ => 0
theorem entsLen_eq {w : World} {p n c : Nat} {a : Option Addr} (h : w.cell? ⟨p, 5, none⟩ = some (.slice a n c)) : entsLen w p = n := by
  unfold entsLen
  rw [h]

set_option maxRecDepth 100000 in
set_option maxHeartbeats 8000000 in
theorem bury_calls (base p : Nat) (s : St) (was : Int → Int) (w : World) (hn : s.es.length ≤ 50) (hfl : s.free.length + s.es.length ≤ 1000) (h : GmE base w p s was) :
    Calls Try.prog 71 #[.pointer (some ⟨p, 0, none⟩)] w fun e w' => e = .returned (.tuple #[]) ∧ GmE base w' p (buryS s) was ∧ Below base w w' := by
  have hlt := h.lt
  have HG0 := hid h
  obtain ⟨ev, fv, bv, B, hG⟩ := h
  obtain ⟨ea, c, rfl, hcap, hrecs, _⟩ := hG.er.open
  obtain ⟨c0, c1, c2, c3, c4, c5, c6, c7⟩ := hG.eight
  have HC := hid (deadIdx_calls s.es ea c w (by omega) hrecs)
  clear hG hrecs hcap c0 c1 c2 c3 c4 c6 c7
  go_enter Try.func71, Try.ntmps71
  go_wp2_with fail
  refine HC.out.mono ?_
  clear HC
  rintro e w1 ⟨rfl, hb1⟩
  have HG1 := hid (HG0.out.below hb1)
  have HB1 : Hid (Below base w w1) := hb1.mono (by omega)
  clear hb1 c5 HG0
  go_wp2
  go_loopw [3] (fun i wr => ∃ s' : St, i = .int .i64 (idxZ isDead s'.es) ∧ s'.es.length ≤ s.es.length ∧ s'.free.length + s'.es.length ≤ 1000 ∧ Hid (buryS s' = buryS s) ∧ Hid (GmE base wr p s' was) ∧ Hid (Below base w wr)) (fun _ wr => entsLen wr p)
  case atStart => exact ⟨s, rfl, Nat.le_refl _, hfl, rfl, HG1, HB1⟩
  case round =>
    obtain ⟨s', rfl, hl, hfl', HE, HG, HB⟩ := hrel
    clear HG1 HB1
    by_cases hz : idxZ isDead s'.es < 0
    · have HZ : Hid (buryS s = { s' with es := s'.es.map (idleU s'.es) }) := HE.out.symm.trans (bury_none hz)
      obtain ⟨ev', fv', bv', B', hG⟩ := HG.out
      obtain ⟨ea', c', rfl, hcap', _, _⟩ := hG.er.open
      obtain ⟨c0, c1, c2, c3, c4, c5, c6, c7⟩ := hG.eight
      have hzf : ¬ (0 : Int) ≤ idxZ isDead s'.es := by omega
      have HG2 : Hid (GmE base wr p { s' with es := idleK s'.es 0 } was) := by
        have e : idleK s'.es 0 = s'.es := by unfold idleK; simp
        show GmE _ _ _ _ _
        rw [e]
        exact HG.out
      clear hG c0 c1 c2 c3 c4 c6 c7 HG hz
      go_wp2
      clear c5
      go_loopw [51] (fun i wr => ∃ k : Nat, k ≤ s'.es.length ∧ i = .int .i64 k ∧ Hid (GmE base wr p { s' with es := idleK s'.es k } was) ∧ Hid (Below base w wr)) (fun i _ => s'.es.length - (intOf i).toNat)
      case atStart => exact ⟨0, Nat.zero_le _, rfl, HG2, HB⟩
      case round =>
        clear HG2 HB
        obtain ⟨k, hk, rfl, HG, HB⟩ := hrel
        by_cases hkl : k < s'.es.length
        · have hkz : (k : Int) < (s'.es.length : Int) := by omega
          obtain ⟨ev2, fv2, bv2, B2, hG⟩ := HG.out
          have hlk : (idleK s'.es k).length = s'.es.length := idleK_length _ hk
          have hkl2 : k < ({ s' with es := idleK s'.es k } : St).es.length := by show k < (idleK s'.es k).length; omega
          obtain ⟨ea2, cc2, hev, hcap2, hrecs2, hg2⟩ := hG.er.open
          obtain ⟨g, rfl, hbg, hgl⟩ := hg2 (by show 0 < (idleK s'.es k).length; omega)
          have hev' : ev2 = .slice (some ⟨g, 0, none⟩) s'.es.length cc2 := by rw [hev]; show Value.slice _ (idleK s'.es k).length _ = _; rw [hlk]
          subst hev'
          obtain ⟨hc, hf⟩ := hG.er.ten hkl2
          have hrk : rec ({ s' with es := idleK s'.es k } : St).es k = rec s'.es k := by show rec (idleK s'.es k) k = _; rw [idleK_rec _ hk hkl, if_neg (by omega)]
          rw [hrk] at hc
          have l9 := hc 9 (by omega)
          have l6 := hc 6 (by omega)
          have l7 := hc 7 (by omega)
          have l8 := hc 8 (by omega)
          have f6 := hf (k * 10 + 6)
          have f7 := hf (k * 10 + 7)
          have f8 := hf (k * 10 + 8)
          have f9 := hf (k * 10 + 9)
          obtain ⟨c0, c1, c2, c3, c4, c5, c6, c7⟩ := hG.eight
          have hpr := hG.lt
          have HGm := hid hG
          have HRK := hid hrk
          have HLK := hid hlk
          have hrec3 : Recs wr (some ⟨g, 0, none⟩) 10 (idleK s'.es k) := hrecs2
          have HR2 := hid hrec3
          clear hG hc hf hrk hlk hrecs2 hrec3 hg2 hcap2 hev c0 c1 c2 c3 c4 c6 c7
          by_cases htg : 0 < fld (rec s'.es k) 9
          case neg =>
            have HS : Hid (idleK s'.es (k + 1) = idleK s'.es k) := idleK_same _ hkl (by unfold idleU; rw [if_neg (fun x => htg x.1)])
            have htd : decide (0 < fld (rec s'.es k) 9) = false := decide_eq_false htg
            go_wp2_with fail
            go_quiet (fail)
            go_wp2
            go_roundw
            case rel => exact ⟨k + 1, by omega, by go_num, by show GmE _ _ _ _ _; rw [HS.out]; exact HG.out.below (below_drewN (Below.refl _ _) _), below_drewN HB.out _⟩
            case measure => simp [intOf]; omega
          have HI : Hid (∀ W', Recs W' (some ⟨g, 0, none⟩) 10 (idleK s'.es k) → Calls Try.prog 101 #[.slice (some ⟨g, 0, none⟩) s'.es.length cc2, .int .i64 (fld (rec s'.es k) 9)] W' fun e w' => e = .returned (.int .i64 (idxZ (isId (fld (rec s'.es k) 9)) s'.es)) ∧ Below W'.heap.size W' w') := fun W' hW' => by
            have h := index_calls (fld (rec s'.es k) 9) (idleK s'.es k) (some ⟨g, 0, none⟩) cc2 W' (by rw [HLK.out]; omega) hW'
            rw [HLK.out, idleK_idx _ hk] at h
            exact h
          go_wp2_with fail
          have htd : decide (0 < fld (rec s'.es k) 9) = true := decide_eq_true htg
          go_cut [78] (fun r wx => r = .bool (decide (idxZ (isId (fld (rec s'.es k) 9)) s'.es < 0)) ∧ Hid (Below wr.heap.size wr wx))
          case first =>
            clear l6 l7 l8 f6 f7 f8 f9
            go_region_held3 (fun w' => w'.cell? ⟨g, k * 10 + 9, none⟩ = some (.int .i64 (fld (rec s'.es k) 9)) ∧ w'.cell? ⟨p, 5, none⟩ = some (.slice (some ⟨g, 0, none⟩) s'.es.length cc2)) (first | exact ⟨by assumption, by assumption⟩ | go_keep)
              (first | (go_at_call 101; refine (HI.out _ (HR2.out.drewN 1)).mono ?_; rintro e w2 ⟨rfl, hb2⟩; have HB2 := hid (below_of_drew' hb2); have m9 := (HB2.out.cell (p := ⟨g, k * 10 + 9, none⟩) hgl).trans l9; have m5 := (HB2.out.cell (p := ⟨p, 5, none⟩) hpr).trans c5; clear hb2))
            all_goals
              clear l9 c5
              go_wp2
              go_meet
              first
                | exact ⟨rfl, HB2⟩
                | (refine ⟨?_, HB2⟩; simp_all)
          case rest =>
            obtain ⟨rfl, HBc⟩ := hcut
            clear l6 l7 l8 l9 f6 f7 f8 f9 c5 HI HR2
            have hGc := HGm.out.below HBc.out
            have HB3 : Hid (Below base w wc) := HB.out.trans (HBc.out.mono (by omega))
            by_cases hz : idxZ (isId (fld (rec s'.es k) 9)) s'.es < 0
            · have HN : Hid (idleK s'.es (k + 1) = (idleK s'.es k).set k (turnR (rec s'.es k) 0)) := by
                show _ = _
                rw [idleK_next _ hkl]
                unfold idleU
                rw [if_pos ⟨htg, hz⟩]
              rw [decide_eq_true hz]
              obtain ⟨hc, hf⟩ := hGc.er.ten hkl2
              have l6 := hc 6 (by omega)
              have l7 := hc 7 (by omega)
              have l8 := hc 8 (by omega)
              have l9 := hc 9 (by omega)
              have f6 := hf (k * 10 + 6)
              have f7 := hf (k * 10 + 7)
              have f8 := hf (k * 10 + 8)
              have f9 := hf (k * 10 + 9)
              have hG4 := gm_turn hGc hkl2 0
              rw [HRK.out] at hG4
              have HG4 : Hid (GmE base (turnW wc g (k * 10) 0) p { s' with es := idleK s'.es (k + 1) } was) := by
                show GmE _ _ _ _ _
                rw [HN.out]
                exact ⟨_, _, _, _, hG4⟩
              have HB4 := hid (below_turnW (m := k * 10) (does := 0) HB3.out hbg)
              clear hGc hc hf hG4 hz
              go_wp2_with fail
              refine (turn_calls g (k * 10) 0 wc _ _ _ _ l6 l7 l8 l9 f6 f7 f8 f9).mono ?_
              rintro e w4 ⟨rfl, rfl⟩
              clear l6 l7 l8 l9 f6 f7 f8 f9
              generalize turnW wc g (k * 10) 0 = w4 at HG4 HB4
              go_wp2
              go_roundw
              case rel => exact ⟨k + 1, by omega, by go_num, HG4, HB4⟩
              case measure => simp [intOf]; omega
            · have HS : Hid (idleK s'.es (k + 1) = idleK s'.es k) := idleK_same _ hkl (by unfold idleU; rw [if_neg (fun x => hz x.2)])
              rw [decide_eq_false hz]
              have HG4 : Hid (GmE base wc p { s' with es := idleK s'.es (k + 1) } was) := by
                show GmE _ _ _ _ _
                rw [HS.out]
                exact ⟨_, _, _, _, hGc⟩
              clear hGc hz
              go_wp2
              go_roundw
              case rel => exact ⟨k + 1, by omega, by go_num, HG4, HB3⟩
              case measure => simp [intOf]; omega
        · have hkz : ¬ (k : Int) < (s'.es.length : Int) := by omega
          have HF : Hid (GmE base wr p (buryS s) was) := by
            have e : idleK s'.es k = s'.es.map (idleU s'.es) := by
              unfold idleK
              rw [List.take_of_length_le (by omega), List.drop_of_length_le (by omega), List.append_nil]
            have h := HG.out
            rw [e] at h
            show GmE _ _ _ _ _
            rw [HZ.out]
            exact h
          clear HG
          go_wp2
          go_end0
          exact ⟨rfl, HF.out, HB.out⟩
    · obtain ⟨k, hk⟩ : ∃ k : Nat, idxZ isDead s'.es = k := ⟨(idxZ isDead s'.es).toNat, by omega⟩
      have hkl : k < s'.es.length := by have := (idxZ_bd isDead s'.es).2; omega
      have HST := hid (bury_step hkl hk)
      rw [hk]
      clear hz hk
      obtain ⟨ev', fv', bv', B', hG⟩ := HG.out
      obtain ⟨ea', c', rfl, hcap', hrecs', hg0⟩ := hG.er.open
      obtain ⟨g, rfl, hbg, hgl⟩ := hg0 (by omega)
      obtain ⟨fa, fc, rfl, hfcap, hfn, _⟩ := hG.fr.open
      obtain ⟨hc, hf⟩ := hG.er.ten hkl
      have l0 : wr.cell? ⟨g, k * 10, none⟩ = some (.int .i64 (fld (rec s'.es k) 0)) := hc 0 (by omega)
      obtain ⟨c0, c1, c2, c3, c4, c5, c6, c7⟩ := hG.eight
      have hkz : (k : Int) < (s'.es.length : Int) := by omega
      have hkz0 : (0 : Int) ≤ (k : Int) := by omega
      have hpw : p < wr.heap.size := hG.lt
      have hbs : base ≤ wr.heap.size := by omega
      have HGm := hid hG
      obtain ⟨id, hid0⟩ : ∃ id, id = fld (rec s'.es k) 0 := ⟨_, rfl⟩
      rw [← hid0] at l0 HST
      have hms : entsLen wr p = s'.es.length := entsLen_eq c5
      have HMS := hid hms
      clear hG hc hf hg0 hrecs' hfn c0 c1 c2 c3 c6 c7 HG hid0 hms
      go_wp2_with fail
      go_cut [38] (fun _ wx => ∃ va vc, Hid (Gm base wx p (.slice (some ⟨g, 0, none⟩) s'.es.length c') (.slice va (s'.free.length + 1) vc) bv' B' { s' with free := s'.free ++ [id] } was ∧ Below base w wx))
      case first =>
        go_region_law (refine step_nums rfl (.tmp 27) (.tmp 37) rfl base (.slice fa s'.free.length fc) s'.free (by simp [Act.eval]) (World.ownsRow.alloc HGm.out.fr _) (some ⟨wr.heap.size, 0, none⟩) 1 [id] (by simp [Act.eval]) (nums_one wr id _) (by simp) (by simp; omega) (by simp [go_sem]; omega) ?_
                       intro v' w' hr hg hl
                       have hl1 : (s'.free ++ [id]).length = s'.free.length + 1 := by simp
                       have hr' := hr
                       obtain ⟨va, vc, rfl, _, _, _⟩ := hr'.open
                       rw [hl1] at hr ⊢
                       have hg' : (wr.alloc (.cells #[.int .i64 id] 3)).grownBy w' (Value.slice fa s'.free.length fc).ownBlock := ⟨hg.os, hg.tape, hg.output, hg.size, hg.block⟩
                       obtain ⟨kp, ke, kb, kc⟩ := (HGm.out.below ((Below.refl _ wr).alloc (Nat.le_refl _) _)).grownF hg'
                       have f4 := frozen_of_row w' p 4 _ _ kp
                       have d4 : w'.cell? ⟨p, 4, none⟩ = some (.slice fa s'.free.length fc) := cell_of_row w' p 4 _ _ _ kp
                       have hfb : (Value.slice va (s'.free.length + 1) vc).ownBlock = none ∨ (Value.slice va (s'.free.length + 1) vc).ownBlock ≠ bv'.ownBlock := by
                         rw [hl1] at hl
                         rcases hl with e | e
                         · rw [e]; exact HGm.out.fb
                         · refine Or.inr fun x => ?_
                           have h2 := (World.ownsRow.lt HGm.out.br _ (x.symm.trans e)).2
                           simp [go_sem] at h2
                           omega
                       have hGn := gm_pset kp kc HGm.out.bp HGm.out.bB 4 (.slice va (s'.free.length + 1) vc) (s' := { s' with free := s'.free ++ [id] }) (ev' := .slice (some ⟨g, 0, none⟩) s'.es.length c') (fv' := .slice va (s'.free.length + 1) vc) (bv' := bv') rfl ke hr kb hfb
                       have hBn : Below base w (w'.setCell ⟨p, 4, none⟩ (.slice va (s'.free.length + 1) vc)) := ((HB.out.alloc hbs _).grown hg' (by simp [go_sem]; omega) (fun k hk => (World.ownsRow.lt HGm.out.fr k hk).1)).setCell (p := ⟨p, 4, none⟩) hlt.1 _
                       have HGn := hid hGn
                       have HBn := hid hBn
                       clear hr hr' hg hl hg' kp ke kb kc hGn hBn hl1 hfb)
        all_goals
          go_wp2
          go_meet
          exact ⟨_, _, HGn.out, HBn.out⟩
      case rest =>
        obtain ⟨va, vc, HM⟩ := hcut
        have HGx : Hid (GmE base wc p { s' with free := s'.free ++ [id] } was) := ⟨_, _, _, _, HM.out.1⟩
        have HBx := hid HM.out.2
        clear HM l0 c4 c5 HGm HB
        go_wp2_with fail
        refine (drop_calls base p { s' with free := s'.free ++ [id] } was k _ hkl (show s'.es.length ≤ 100 by omega) HGx.out).mono ?_
        rintro e w3 ⟨rfl, hG3x, hb3⟩
        obtain ⟨E, hE⟩ : ∃ E, s'.es.eraseIdx k = E := ⟨_, rfl⟩
        have hG3 : GmE base w3 p { s' with free := s'.free ++ [id], es := E } was := by rw [← hE]; exact hG3x
        have hle : E.length = s'.es.length - 1 := by rw [← hE]; exact List.length_eraseIdx_of_lt hkl
        rw [hE] at HST
        have HLE := hid hle
        clear hE hG3x hle
        have HB3 := hid (HBx.out.trans hb3)
        have HG3 := hid hG3
        clear HGx HBx hb3
        obtain ⟨ev3, fv3, bv3, B3, hGm3⟩ := hG3
        obtain ⟨ea3, c3, rfl, hcap3, hrecs3, _⟩ := hGm3.er.open
        have d5 := hGm3.cell 5
        have hp3 := hGm3.lt
        have HC3 := hid (deadIdx_calls (E) ea3 c3 w3 (by rw [HLE.out]; omega) hrecs3)
        clear hGm3 hrecs3 hcap3
        go_wp2_with fail
        refine HC3.out.mono ?_
        clear HC3
        rintro e w4 ⟨rfl, hb4⟩
        have d54 : w4.cell? ⟨p, 5, none⟩ = some (.slice ea3 (E).length c3) := (hb4.cell (p := ⟨p, 5, none⟩) hp3).trans d5
        have D54 := hid d54
        have HG4 := hid (HG3.out.below hb4)
        have HB4 : Hid (Below base w w4) := HB3.out.trans (hb4.mono (by omega))
        clear hb4 d5 d54 HG3 HB3
        go_wp2
        go_roundw
        case rel => exact ⟨{ s' with free := s'.free ++ [id], es := E }, rfl, by show (E).length ≤ _; rw [HLE.out]; omega, by show (s'.free ++ [id]).length + (E).length ≤ 1000; rw [HLE.out, List.length_append]; simp only [List.length_cons, List.length_nil]; omega, HST.out.trans HE.out, HG4, HB4⟩
        case measure => rw [entsLen_eq D54.out, HMS.out, HLE.out]; omega
end Go.Proofs.Ytakmjfchhchngaa
