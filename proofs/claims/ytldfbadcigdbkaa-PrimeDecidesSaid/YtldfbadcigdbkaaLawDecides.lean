/- For any number Decide returns a right verdict, of the kind that the number is, and Check takes it; for any other int both return ErrArg. No condition. -/
import Derived.Test.YtldfbadcigdbkaaDecide
import Derived.Test.YtldfbadcigdbkaaWalkRefRight
import Derived.Deep.RegionHeld3
import Derived.ProofKit
import Derived.OpenShut
namespace Go.Proofs.Ytldfbadcigdbkaa.primeDecides
open Go.ChangeShapes Go.WideShapes Go.ChangeAt Go.RowKit

theorem own : ownKnob Try.prog.godebug = none := by kernel_rfl

theorem walk_no (n : Int) (w : World) (h : n < 1 ∨ 2147483647 < n) :
    Calls Try.prog 3 #[.int .i64 n] w fun e w' => e = .returned (.bool true) ∧ Below w.heap.size w w' := by
  have hV : verdict 0 (.slice none 0 0) 2 = .tuple #[.agg #[.int .i64 0, .slice none 0 0], .int .i64 2] := rfl
  have hV2 : verV 0 (.slice none 0 0) = .agg #[.int .i64 0, .slice none 0 0] := rfl
  have HV := Lib.hid hV
  have HV2 := Lib.hid hV2
  clear hV hV2
  go_enter Try.func3, Try.ntmps3
  go_wp2_with (fail)
  refine (Decide_arg n _ h).mono ?_
  rintro e w1 ⟨rfl, hB1⟩
  have HB1 := Lib.hid hB1
  clear hB1
  rw [HV.out]
  go_wp2_with (first
    | (go_at_call 7; refine (Number_no _ _ h).mono ?_; rintro e w' ⟨rfl, rfl⟩)
    | (go_at_call 8; rw [← HV2.out]; refine (Check_no n _ _ _ h).mono ?_; rintro e w4 ⟨rfl, hB4⟩; have HB4 := Lib.hid hB4; clear hB4)
    | (go_at_call 9; refine (awake_is _).mono ?_; rintro e w5 ⟨rfl, hB5⟩; have HB5 := Lib.hid hB5; clear hB5))
  go_ret
  have h3 := HB1.out.alloc HB1.out.size (.cells #[.int .i64 0, .slice none 0 0] 24)
  exact ⟨rfl, h3.trans ((HB4.out.trans (HB5.out.mono HB4.out.size)).mono h3.size)⟩

set_option maxRecDepth 100000 in
set_option maxHeartbeats 1000000 in
theorem walk_yes (n : Nat) (w : World) (h1 : 1 ≤ n) (h2 : n ≤ 2147483647) :
    Calls Try.prog 3 #[.int .i64 n] w fun e w' => e = .returned (.bool true) ∧ Below w.heap.size w w' := by
  go_enter Try.func3, Try.ntmps3
  go_wp2_with (fail)
  refine (Decide_any n _ h1 h2).mono ?_
  rintro e w1 ⟨⟨d, v, Zs, rfl, hR⟩, hB1⟩
  obtain ⟨a, c, hv⟩ := hR.out.rde.lenv
  subst hv
  have HRD := Lib.hid hR
  obtain ⟨C, hC⟩ : ∃ C, C = Zs.map EntE.E := ⟨_, rfl⟩
  rw [← hC]
  have hrde : RdE w1 (.slice a C.length c) C := by rw [hC]; exact hR.out.rde
  have hok : Hid (∀ E ∈ C, EntOk E) := by show ∀ E ∈ _, _; rw [hC]; exact hR.ok
  have HT : Hid (rightP (n : Int) (d : Int) C = true) := by show _ = _; rw [hC]; exact hR.right
  have HCL : Hid (C.length ≤ 1000000) := by show _ ≤ _; rw [hC, List.length_map]; have := hR.len; omega
  have hdn := hR.le
  have hdw : (Lit.int .i64 (d : Int)).wf = true := WalkArith.wf_i64 (by omega)
  have hV : verdict (d : Nat) (.slice a C.length c) 0 = .tuple #[.agg #[.int .i64 (d : Nat), .slice a C.length c], .int .i64 0] := rfl
  have hV2 : verV (d : Nat) (.slice a C.length c) = .agg #[.int .i64 (d : Nat), .slice a C.length c] := rfl
  rw [hV]
  have hs3 : (w1.alloc (.cells #[.int .i64 (d : Nat), .slice a C.length c] 24)).heap.size = w1.heap.size + 1 := World.size_alloc _ _
  have hB3 : Below w.heap.size w (w1.alloc (.cells #[.int .i64 (d : Nat), .slice a C.length c] 24)) := hB1.alloc hB1.size _
  have hb3 := heap_alloc_new w1 (.cells #[.int .i64 (d : Nat), .slice a C.length c] 24)
  obtain ⟨w3, hw3⟩ : ∃ w3, w3 = w1.alloc (.cells #[.int .i64 (d : Nat), .slice a C.length c] 24) := ⟨_, rfl⟩
  have HR3 : Hid (∀ w', Below w3.heap.size w3 w' → RdE w' (.slice a C.length c) C) := fun w' h => (hrde.below ((Below.refl w1.heap.size w1).alloc (Nat.le_refl _) (.cells #[.int .i64 (d : Nat), .slice a C.length c] 24))).below (by rw [hw3] at h; exact h)
  rw [← hw3] at hs3 hB3 hb3
  have HK3 : Hid (∀ w', Below w3.heap.size w3 w' → w'.cell? ⟨w1.heap.size, 0, none⟩ = some (.int .i64 (d : Nat)) ∧ w'.cell? ⟨w1.heap.size, 1, none⟩ = some (.slice a C.length c)) := fun w' h => by
    have hb := (h.block w1.heap.size (by omega)).trans hb3
    exact ⟨cell_blk (o := 0) hb rfl, cell_blk (o := 1) hb rfl⟩
  obtain ⟨k0, k1⟩ := HK3.out w3 (Below.refl _ _)
  have HW3 := Lib.hid hw3
  have HB3 := Lib.hid hB3
  have HV2 := Lib.hid hV2
  have hiff := Lib.hid hR.iff
  obtain ⟨cl, hcl⟩ : ∃ cl, cl = C.length := ⟨_, rfl⟩
  rw [← hcl] at HR3 HK3 HV2 HW3 k1 ⊢
  have h1i : (1 : Int) ≤ n := by omega
  have h2i : (n : Int) ≤ 2147483647 := by omega
  have HRight : Hid (∀ W, RdE W (.slice a cl c) C → Calls Try.prog 10 #[.int .i64 (n : Int), .agg #[.int .i64 (d : Nat), .slice a cl c]] W fun x w' => x = .returned (.bool true) ∧ Below W.heap.size W w') := fun W hr => by
    rw [← HV2.out]; exact Right_is n d _ C true W h1i h2i hdw hr HCL.out hok HT
  have HCheck : Hid (∀ W, RdE W (.slice a cl c) C → Calls Try.prog 8 #[.int .i64 (n : Int), .agg #[.int .i64 (d : Nat), .slice a cl c]] W fun x w' => x = .returned (.int .i64 0) ∧ Below W.heap.size W w') := fun W hr => by
    rw [← HV2.out]; exact Check_is n d _ C true W h1i h2i hdw hr HCL.out hok HT
  clear hR hC hrde hV hV2 hs3 hb3 hcl hB1 hB3 hw3
  go_wp2_with (first
    | (go_at_call 7; refine (Number_yes _ _ h1i h2i).mono ?_; rintro e w' ⟨rfl, rfl⟩))
  rw [← HW3.out]
  by_cases hd0 : d = 0
  · have hp : Hid (PrI n) := by
      have := hiff.out.1 hd0
      exact ⟨by have := this.1; omega, by omega, by rw [Int.toNat_natCast]; exact this⟩
    have hz : ((d : Int) == 0) = true := by simp [hd0]
    clear hd0
    go_region_held3 (fun w' => w'.cell? ⟨w1.heap.size, 0, none⟩ = some (.int .i64 (d : Nat)) ∧ w'.cell? ⟨w1.heap.size, 1, none⟩ = some (.slice a cl c)) (first | exact ⟨k0, k1⟩ | exact HK3.out _ (by first | exact Below.refl _ _ | exact (Below.refl _ _).drew | exact below_drewN (Below.refl _ _) _ | exact hK4 | exact (hK4).drew | exact below_drewN (hK4) _ | exact hK5 | exact (hK5).drew | exact below_drewN (hK5) _ | exact hK6 | exact (hK6).drew | exact below_drewN (hK6) _))
      (first
        | (go_at_call 10; refine (HRight.out _ (HR3.out _ (by first | exact Below.refl _ _ | exact (Below.refl _ _).drew | exact below_drewN (Below.refl _ _) _))).mono ?_; rintro e w4 ⟨rfl, hB4⟩; have hK4 : Below w3.heap.size w3 w4 := (by first | exact hB4 | exact (Below.refl _ _).drew.trans hB4 | exact (below_drewN (Below.refl _ _) _).trans hB4); have hs4 := hK4.size; clear hB4)
        | (go_at_call 11; refine (Prime_yes _ _ hp).mono ?_; rintro e w' ⟨rfl, rfl⟩)
        | (go_at_call 8; refine (HCheck.out _ (HR3.out _ (by first | exact hK4 | exact (hK4).drew | exact below_drewN (hK4) _))).mono ?_; rintro e w5 ⟨rfl, hB5⟩; have hK5 : Below w3.heap.size w3 w5 := (by first | exact hK4.trans (hB5.mono hs4) | exact hK4.drew.trans (hB5.mono hs4) | exact (below_drewN hK4 _).trans (hB5.mono (by simpa using hs4))); have hs5 := hK5.size; clear hB5)
        | (go_at_call 9; refine (awake_is _).mono ?_; rintro e w6 ⟨rfl, hB6⟩; have hK6 : Below w3.heap.size w3 w6 := (by first | exact hK5.trans (hB6.mono hs5) | exact hK5.drew.trans (hB6.mono hs5) | exact (below_drewN hK5 _).trans (hB6.mono (by simpa using hs5))); clear hB6))
    all_goals
      go_wp2_with (fail)
      go_ret
      exact ⟨rfl, HB3.out.trans (hK6.mono HB3.out.size)⟩
  · have hp : Hid (¬ PrI n) := fun h => hd0 (hiff.out.2 (by have := h.2.2; rwa [Int.toNat_natCast] at this))
    have hz : ((d : Int) == 0) = false := by simp [hd0]
    clear hd0
    go_region_held3 (fun w' => w'.cell? ⟨w1.heap.size, 0, none⟩ = some (.int .i64 (d : Nat)) ∧ w'.cell? ⟨w1.heap.size, 1, none⟩ = some (.slice a cl c)) (first | exact ⟨k0, k1⟩ | exact HK3.out _ (by first | exact Below.refl _ _ | exact (Below.refl _ _).drew | exact below_drewN (Below.refl _ _) _ | exact hK4 | exact (hK4).drew | exact below_drewN (hK4) _ | exact hK5 | exact (hK5).drew | exact below_drewN (hK5) _ | exact hK6 | exact (hK6).drew | exact below_drewN (hK6) _))
      (first
        | (go_at_call 10; refine (HRight.out _ (HR3.out _ (by first | exact Below.refl _ _ | exact (Below.refl _ _).drew | exact below_drewN (Below.refl _ _) _))).mono ?_; rintro e w4 ⟨rfl, hB4⟩; have hK4 : Below w3.heap.size w3 w4 := (by first | exact hB4 | exact (Below.refl _ _).drew.trans hB4 | exact (below_drewN (Below.refl _ _) _).trans hB4); have hs4 := hK4.size; clear hB4)
        | (go_at_call 11; refine (Prime_no _ _ hp).mono ?_; rintro e w' ⟨rfl, rfl⟩)
        | (go_at_call 8; refine (HCheck.out _ (HR3.out _ (by first | exact hK4 | exact (hK4).drew | exact below_drewN (hK4) _))).mono ?_; rintro e w5 ⟨rfl, hB5⟩; have hK5 : Below w3.heap.size w3 w5 := (by first | exact hK4.trans (hB5.mono hs4) | exact hK4.drew.trans (hB5.mono hs4) | exact (below_drewN hK4 _).trans (hB5.mono (by simpa using hs4))); have hs5 := hK5.size; clear hB5)
        | (go_at_call 9; refine (awake_is _).mono ?_; rintro e w6 ⟨rfl, hB6⟩; have hK6 : Below w3.heap.size w3 w6 := (by first | exact hK5.trans (hB6.mono hs5) | exact hK5.drew.trans (hB6.mono hs5) | exact (below_drewN hK5 _).trans (hB6.mono (by simpa using hs5))); clear hB6))
    all_goals
      go_wp2_with (fail)
      go_ret
      exact ⟨rfl, HB3.out.trans (hK6.mono HB3.out.size)⟩

theorem walk (a0 : Int) (_w0 : (Lit.int .i64 a0).wf = true) (w : World) :
    Calls Try.prog 3 #[.int .i64 a0] w fun e w' => e = .returned (.bool true) ∧ Below w.heap.size w w' := by
  by_cases h : a0 < 1 ∨ 2147483647 < a0
  · exact walk_no a0 w h
  · obtain ⟨n, rfl⟩ := Int.eq_ofNat_of_zero_le (show 0 ≤ a0 by omega)
    exact walk_yes n w (by omega) (by omega)

set_option maxRecDepth 100000 in
theorem lifted (os : Os) (started : os.Started) (H : Type) (enc : TypeId × Value → H) :
    ReturnsInHanded {} Try.checked os 3 .any (Rows.primeDecidesSpec.pre6 enc Try.prog Try.f3 Rows.primeDecidesRow.domain false) (Rows.primeDecidesSpec.post enc Try.prog Try.f3 false true false false) := by
  refine returnsInHanded_of_change (C := Try.checked) own started (by kernel_rfl) Try.func3
    (ChangeSpec.witness6 (enc := enc) (C := Try.checked) false ⟨#[], #[.int .i64 0], []⟩ 8 (by kernel_rfl) (by kernel_rfl) (by kernel_rfl) (by kernel_rfl)) ?_
  intro W base args ds gs before hval0 hW hcnd _
  have hval : ∀ (j : Nat) t v, Try.f3.params[j]? = some t → args[j]? = some v → Value.okWide Try.prog W .any base t v := hval0
  have hW' := hW
  obtain ⟨p, q, hA0, hV, rfl, hfz, hnd⟩ := hW
  have hA : DataW.TrodAll enc Try.prog W 0 (fun _ => true) true Try.f3.params.toList args.toList ds p := hA0
  rw [Try.params3] at hA hval
  obtain ⟨v0, vs0, d0, ds0, p0, q0, hargs, rfl, rfl, h0, r0⟩ := trodAll_cons hA
  obtain ⟨rfl, rfl, rfl⟩ := trodAll_nil r0
  obtain rfl : args = #[v0] := by cases args; simp_all
  obtain ⟨rfl, rfl⟩ := trodVars_none hV
  obtain ⟨a0, rfl, rfl, rfl, w0⟩ := open_int Try.underlying3 (hval 0 3 v0 rfl rfl) h0
  clear hA0 hval0
  simp only [List.append_nil] at hW'
  refine (walk a0 w0 W).mono fun e W' ⟨he, hg⟩ => ?_
  subst he
  exact ⟨_, rfl, _, _, _, [], [], [], hW', trodAll_cons_mk (shut_bool Try.underlying4 _) trodAll_mk0, trodAll_cons_mk (shut_int Try.underlying3 w0) trodAll_mk0, rfl, hg.frame _, fun h => by cases h⟩

theorem over : Rows.primeDecidesRow.holds Try.pinned (OpenSpec.ofChange Rows.primeDecidesSpec) :=
  OpenClaim.holds_of_wide 3 Try.f3 rfl rfl rfl rfl rfl rfl rfl ⟨rfl, rfl, rfl, rfl, rfl⟩ rfl rfl rfl rfl rfl (by kernel_rfl) Try.func3 (by kernel_rfl)
    (of_decide_eq_true (by kernel_rfl)) (by unfold Func.isWrapper; first | (rw [if_pos (by decide +kernel)]; kernel_rfl) | (rw [if_neg (by decide +kernel)]; exact ⟨rfl, rfl⟩))
    (fun os started H enc _ => lifted os started H enc)

theorem proved : Rows.PrimeDecidesSaid := over

end Go.Proofs.Ytldfbadcigdbkaa.primeDecides
