/- Proved: for all four numbers TopRules answers true: who goes on one step nearer comes to any place of the board in just as many steps as it is far. No condition. -/
import Derived.Test.YtnenegkgmkgfaaaRows
import Derived.Test.YtnenegkgmkgfaaaRules3
import Derived.WalkKit
import Derived.ProofKit
import Derived.OpenShut
namespace Go.Proofs.Ytnenegkgmkgfaaa.topRules
open Go.ChangeShapes Go.WideShapes Go.ChangeAt Go.RowKit
set_option linter.unusedVariables false

theorem own : ownKnob Try.prog.godebug = none := by kernel_rfl

theorem walk (a0 : Int) (a1 : Int) (a2 : Int) (a3 : Int) (w0 : (Lit.int .i64 a0).wf = true) (w1 : (Lit.int .i64 a1).wf = true) (w2 : (Lit.int .i64 a2).wf = true) (w3 : (Lit.int .i64 a3).wf = true) (w : World) :
    Calls Try.prog 6 #[.int .i64 a0, .int .i64 a1, .int .i64 a2, .int .i64 a3] w fun e w' => e = .returned (.bool true) ∧ Grown w w' := by
  cases hon : Pl.onB a0 a1
  · go_enter Try.func6, Try.ntmps6
    go_wp2_with fail
    refine (elder_calls 2 _).mono ?_
    rintro e w' ⟨rfl, rfl⟩
    have e1 : Pl.eSpeed 2 = 1 := rfl
    have e2 : Pl.eHas 2 = true := rfl
    rw [e1, e2]
    clear e1 e2
    go_wp2_with fail
    refine (on_calls a0 a1 _).mono ?_
    rintro e w' ⟨rfl, rfl⟩
    rw [hon]
    go_wp2
    go_ret
    exact ⟨rfl, by repeat (first | exact Grown.refl _ | apply Grown.drew | apply Grown.alloc)⟩
  · cases hto : Pl.onB a2 a3
    · go_enter Try.func6, Try.ntmps6
      go_wp2_with fail
      refine (elder_calls 2 _).mono ?_
      rintro e w' ⟨rfl, rfl⟩
      have e1 : Pl.eSpeed 2 = 1 := rfl
      have e2 : Pl.eHas 2 = true := rfl
      rw [e1, e2]
      clear e1 e2
      go_wp2_with fail
      refine (on_calls a0 a1 _).mono ?_
      rintro e w' ⟨rfl, rfl⟩
      rw [hon]
      go_wp2_with fail
      refine (on_calls a2 a3 _).mono ?_
      rintro e w' ⟨rfl, rfl⟩
      rw [hto]
      go_wp2
      go_ret
      exact ⟨rfl, by repeat (first | exact Grown.refl _ | apply Grown.drew | apply Grown.alloc)⟩
    · have hb := Pl.onB_true hon
      have hc := Pl.onB_true hto
      go_enter Try.func6, Try.ntmps6
      go_wp2_with fail
      refine (elder_calls 2 _).mono ?_
      rintro e w' ⟨rfl, rfl⟩
      have e1 : Pl.eSpeed 2 = 1 := rfl
      have e2 : Pl.eHas 2 = true := rfl
      rw [e1, e2]
      clear e1 e2
      go_wp2_with fail
      refine (on_calls a0 a1 _).mono ?_
      rintro e w' ⟨rfl, rfl⟩
      rw [hon]
      go_wp2_with fail
      refine (on_calls a2 a3 _).mono ?_
      rintro e w' ⟨rfl, rfl⟩
      rw [hto]
      clear hon hto w0 w1 w2 w3
      go_wp2_with fail
      refine (far_calls a0 a1 a2 a3 hb hc _).mono ?_
      rintro e w' ⟨rfl, rfl⟩
      go_wp2_with fail
      go_loop [0, 1, 11] (fun p q n => ∃ x y : Int, p = .int .i64 x ∧ q = .int .i64 y ∧ n = .int .i64 (Pl.farZ x y a2 a3) ∧ ((0 ≤ x ∧ x < 12) ∧ 0 ≤ y ∧ y < 12)) (fun _ _ n => (intOf n).toNat)
      case atStart => exact ⟨a0, a1, rfl, rfl, rfl, hb⟩
      case round =>
        obtain ⟨x, y, rfl, rfl, rfl, hxy⟩ := hrel
        clear hb
        have hf := Pl.farZ_bd x y a2 a3 hxy hc
        by_cases hpos : 0 < Pl.farZ x y a2 a3
        · have hne : ((Pl.farZ x y a2 a3) != (Pl.farZ x y a2 a3)) = false := by simp
          have H : Hid (Pl.farZ (Pl.nearZ x a2) (Pl.nearZ y a3) a2 a3 = Pl.farZ x y a2 a3 - 1) := Pl.far_step x y a2 a3 hpos
          have hp := Pl.far_pos x y a2 a3 hpos
          have hn1 := Pl.nearZ_bd x a2 ⟨hxy.1, hc.1⟩
          have hn2 := Pl.nearZ_bd y a3 ⟨hxy.2, hc.2⟩
          have hon2 : Pl.onB (Pl.nearZ x a2) (Pl.nearZ y a3) = true := Pl.onB_mk ⟨hn1, hn2⟩
          by_cases hx : x = a2
          · have hy : (y == a3) = false := by simpa using fun h => hp ⟨hx, h⟩
            have hx' : (x == a2) = true := by simpa using hx
            clear hx hp
            go_wp2_with fail
            refine (far_calls x y a2 a3 hxy hc _).mono ?_
            rintro e w' ⟨rfl, rfl⟩
            go_wp2_with fail
            refine (toward_calls x y a2 a3 hxy hc _).mono ?_
            rintro e w' ⟨rfl, rfl⟩
            go_wp2_with fail
            refine (on_calls _ _ _).mono ?_
            rintro e w' ⟨rfl, rfl⟩
            rw [hon2]
            go_wp2
            go_round
            case rel => exact ⟨_, _, rfl, rfl, congrArg (Value.int .i64) H.out.symm, hn1, hn2⟩
            case measure => simp [intOf]; omega
          · have hx' : (x == a2) = false := by simpa using hx
            clear hx hp
            go_wp2_with fail
            refine (far_calls x y a2 a3 hxy hc _).mono ?_
            rintro e w' ⟨rfl, rfl⟩
            go_wp2_with fail
            refine (toward_calls x y a2 a3 hxy hc _).mono ?_
            rintro e w' ⟨rfl, rfl⟩
            go_wp2_with fail
            refine (on_calls _ _ _).mono ?_
            rintro e w' ⟨rfl, rfl⟩
            rw [hon2]
            go_wp2
            go_round
            case rel => exact ⟨_, _, rfl, rfl, congrArg (Value.int .i64) H.out.symm, hn1, hn2⟩
            case measure => simp [intOf]; omega
        · have hz : Pl.farZ x y a2 a3 = 0 := by omega
          obtain ⟨hx, hy⟩ := Pl.far_zero x y a2 a3 hz
          have HZ : Hid (Pl.farZ x y a2 a3 = 0) := hz
          clear hz
          subst hx hy
          go_wp2_with fail
          refine (far_calls x y x y hxy hxy _).mono ?_
          rintro e w' ⟨rfl, rfl⟩
          rw [HZ.out]
          go_wp2
          go_ret
          exact ⟨rfl, by repeat (first | exact Grown.refl _ | apply Grown.drew | apply Grown.alloc)⟩

set_option maxRecDepth 100000 in
theorem lifted (os : Os) (started : os.Started) (H : Type) (enc : TypeId × Value → H) :
    ReturnsInHanded {} Try.checked os 6 .any (Rows.topRulesSpec.pre6 enc Try.prog Try.f6 Rows.topRulesRow.domain false) (Rows.topRulesSpec.post enc Try.prog Try.f6 false true false false) := by
  refine returnsInHanded_of_change (C := Try.checked) own started (by kernel_rfl) Try.func6
    (ChangeSpec.witness6 (enc := enc) (C := Try.checked) false ⟨#[], #[.int .i64 0, .int .i64 0, .int .i64 0, .int .i64 0], []⟩ 8 (by kernel_rfl) (by kernel_rfl) (by kernel_rfl) (by kernel_rfl)) ?_
  intro W base args ds gs before hval0 hW hcnd _
  have hval : ∀ (j : Nat) t v, Try.f6.params[j]? = some t → args[j]? = some v → Value.okWide Try.prog W .any base t v := hval0
  have hW' := hW
  obtain ⟨p, q, hA0, hV, rfl, hfz, hnd⟩ := hW
  have hA : DataW.TrodAll enc Try.prog W 0 (fun _ => true) true Try.f6.params.toList args.toList ds p := hA0
  rw [Try.params6] at hA hval
  obtain ⟨v0, vs0, d0, ds0, p0, q0, hargs, rfl, rfl, h0, r0⟩ := trodAll_cons hA
  obtain ⟨v1, vs1, d1, ds1, p1, q1, rfl, rfl, rfl, h1, r1⟩ := trodAll_cons r0
  obtain ⟨v2, vs2, d2, ds2, p2, q2, rfl, rfl, rfl, h2, r2⟩ := trodAll_cons r1
  obtain ⟨v3, vs3, d3, ds3, p3, q3, rfl, rfl, rfl, h3, r3⟩ := trodAll_cons r2
  obtain ⟨rfl, rfl, rfl⟩ := trodAll_nil r3
  obtain rfl : args = #[v0, v1, v2, v3] := by cases args; simp_all
  obtain ⟨rfl, rfl⟩ := trodVars_none hV
  obtain ⟨a0, rfl, rfl, rfl, w0⟩ := open_int Try.underlying3 (hval 0 3 v0 rfl rfl) h0
  obtain ⟨a1, rfl, rfl, rfl, w1⟩ := open_int Try.underlying3 (hval 1 3 v1 rfl rfl) h1
  obtain ⟨a2, rfl, rfl, rfl, w2⟩ := open_int Try.underlying3 (hval 2 3 v2 rfl rfl) h2
  obtain ⟨a3, rfl, rfl, rfl, w3⟩ := open_int Try.underlying3 (hval 3 3 v3 rfl rfl) h3
  clear hA0 hval0
  simp only [List.append_nil] at hW'
  refine (walk a0 a1 a2 a3 w0 w1 w2 w3 W).mono fun e W' ⟨he, hg⟩ => ?_
  subst he
  exact ⟨_, rfl, post_of_same (pa := []) (pv := []) hW' (fun _ _ _ => (trodAll_cons_mk (shut_bool Try.underlying4 _) trodAll_mk0)) (fun sp _ => (trodAll_cons_mk (shut_int Try.underlying3 w0) (trodAll_cons_mk (shut_int Try.underlying3 w1) (trodAll_cons_mk (shut_int Try.underlying3 w2) (trodAll_cons_mk (shut_int Try.underlying3 w3) trodAll_mk0))))) (fun _ _ => rfl) rfl
    (hg.frame _) hg.2.1 (ok_one (by kernel_rfl) rfl (okWide_bool_mk Try.underlying4 _))⟩

theorem over : Rows.topRulesRow.holds Try.pinned (OpenSpec.ofChange Rows.topRulesSpec) :=
  OpenClaim.holds_of_wide 6 Try.f6 rfl rfl rfl rfl rfl rfl rfl ⟨rfl, rfl, rfl, rfl, rfl⟩ rfl rfl rfl rfl rfl (by kernel_rfl) Try.func6 (by kernel_rfl)
    (of_decide_eq_true (by kernel_rfl)) (by unfold Func.isWrapper; first | (rw [if_pos (by decide +kernel)]; kernel_rfl) | (rw [if_neg (by decide +kernel)]; exact ⟨rfl, rfl⟩))
    (fun os started H enc _ => lifted os started H enc)

end Go.Proofs.Ytnenegkgmkgfaaa.topRules
namespace Go.Proofs.Ytnenegkgmkgfaaa
theorem topRules_holds : Rows.TopRulesSaid := topRules.over
end Go.Proofs.Ytnenegkgmkgfaaa
