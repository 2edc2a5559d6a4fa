/- For any ints, Power, Inverse and Order return the specified values, or the specified errors. No condition. -/
import Derived.Test.YtjlcbejgmjiffaaWalkAwake
import Derived.ProofKit
import Derived.OpenShut
namespace Go.Proofs.Ytjlcbejgmjiffaa.primePowers
open Go.ChangeShapes Go.WideShapes Go.ChangeAt Go.RowKit

theorem own : ownKnob Try.prog.godebug = none := by kernel_rfl


set_option maxRecDepth 100000 in
set_option maxHeartbeats 1000000 in
theorem walk_arg (a e m : Int) (w : World) (h : Hid (¬ IsRest a m)) : Calls Try.prog 6 #[.int .i64 a, .int .i64 e, .int .i64 m] w fun e w' => e = .returned (.bool true) ∧ Below w.heap.size w w' := by
  by_cases hm : m < 1 ∨ 2147483647 < m
  · go_enter Try.func6, Try.ntmps6
    go_wp2_with (first
      | (go_at_call 25; refine (Pow_arg a e m _ h).mono ?_; rintro e w' ⟨rfl, rfl⟩)
      | (go_at_call 26; refine (Inv_arg a m _ h).mono ?_; rintro e w' ⟨rfl, rfl⟩)
      | (go_at_call 27; refine (Ord_arg a m _ h).mono ?_; rintro e w' ⟨rfl, rfl⟩)
      | (go_at_call 17; refine (Number_no _ _ hm).mono ?_; rintro e w' ⟨rfl, rfl⟩)
      | (go_at_call 19; refine (awake_is _).mono ?_; rintro e w3 ⟨rfl, hB⟩; have HB3 := Lib.hid hB; clear hB))
    go_ret
    exact ⟨rfl, HB3.out⟩
  · have hm1 : 1 ≤ m := by omega
    have hm2 : m ≤ 2147483647 := by omega
    clear hm
    by_cases ha : a < 0
    · go_enter Try.func6, Try.ntmps6
      go_wp2_with (first
        | (go_at_call 25; refine (Pow_arg a e m _ h).mono ?_; rintro e w' ⟨rfl, rfl⟩)
        | (go_at_call 26; refine (Inv_arg a m _ h).mono ?_; rintro e w' ⟨rfl, rfl⟩)
        | (go_at_call 27; refine (Ord_arg a m _ h).mono ?_; rintro e w' ⟨rfl, rfl⟩)
        | (go_at_call 17; refine (Number_yes _ _ hm1 hm2).mono ?_; rintro e w' ⟨rfl, rfl⟩)
        | (go_at_call 19; refine (awake_is _).mono ?_; rintro e w3 ⟨rfl, hB⟩; have HB3 := Lib.hid hB; clear hB))
      go_ret
      exact ⟨rfl, HB3.out⟩
    · have ham : m ≤ a := Classical.byContradiction fun hc => h.out ⟨by omega, by omega, hm2⟩
      go_enter Try.func6, Try.ntmps6
      go_wp2_with (first
        | (go_at_call 25; refine (Pow_arg a e m _ h).mono ?_; rintro e w' ⟨rfl, rfl⟩)
        | (go_at_call 26; refine (Inv_arg a m _ h).mono ?_; rintro e w' ⟨rfl, rfl⟩)
        | (go_at_call 27; refine (Ord_arg a m _ h).mono ?_; rintro e w' ⟨rfl, rfl⟩)
        | (go_at_call 17; refine (Number_yes _ _ hm1 hm2).mono ?_; rintro e w' ⟨rfl, rfl⟩)
        | (go_at_call 19; refine (awake_is _).mono ?_; rintro e w3 ⟨rfl, hB⟩; have HB3 := Lib.hid hB; clear hB))
      go_ret
      exact ⟨rfl, HB3.out⟩

set_option maxRecDepth 100000 in
set_option maxHeartbeats 1000000 in
theorem walk_neg_inv (a e m : Int) (w : World) (ha : 0 ≤ a) (ham : a < m) (hm : m ≤ 2147483647) (he : e < 0) (hg : Hid (Nat.gcd a.toNat m.toNat = 1)) : Calls Try.prog 6 #[.int .i64 a, .int .i64 e, .int .i64 m] w fun e w' => e = .returned (.bool true) ∧ Below w.heap.size w w' := by
  obtain ⟨i, hi0, him, hi'⟩ := M.exists_inv ha ham hg.out
  have hi := Lib.hid hi'
  obtain ⟨L, hL'⟩ := M.exists_fac m.toNat (by omega)
  have hL := Lib.hid hL'
  obtain ⟨L2, hL2'⟩ := M.exists_fac (M.phiP L) hL'.1.phi_pos
  have hL2 := Lib.hid hL2'
  have heu := hL'.1.euler (a := a.toNat) (by rw [hL'.2]; exact hg.out)
  rw [hL'.2] at heu
  obtain ⟨o, ho'⟩ := M.exists_ord hL'.1.phi_pos heu
  have ho := Lib.hid ho'
  have hole : (o : Int) ≤ m := by
    have h1 := Nat.le_of_dvd hL'.1.phi_pos (ho'.dvd heu)
    have h2 := hL'.1.phi_le
    rw [hL'.2] at h2
    omega
  have ho1 : 1 ≤ (o : Int) := by have := ho'.pos; omega
  obtain ⟨L3, hL3'⟩ := M.exists_fac o ho'.pos
  have hL3 : Hid (M.IsFac (o : Int).toNat L3) := by rw [Int.toNat_natCast]; exact hL3'
  have hoI : Hid (M.IsOrd a.toNat (o : Int).toNat m.toNat) := by rw [Int.toNat_natCast]; exact ho'
  clear hi' hL' hL2' heu ho' hL3' hg
  go_enter Try.func6, Try.ntmps6
  go_wp2_with (first
    | (go_at_call 25; refine (Pow_neg a e m _ ha ham hm he).mono ?_; rintro e w' ⟨rfl, rfl⟩)
    | (go_at_call 17; refine (Number_yes _ _ (by omega) hm).mono ?_; rintro e w' ⟨rfl, rfl⟩)
    | (go_at_call 26; refine (Inv_ok a m i _ ha ham hm hi0 him hi).mono ?_; rintro e w' ⟨rfl, n1, rfl⟩)
    | (go_at_call 27; refine (Ord_ok a m o L L2 _ ha ham hm hL hL2 ho).mono ?_; rintro e w1 ⟨rfl, hB⟩; have HB1 := Lib.hid hB; clear hB)
    | (go_at_call 29; refine (Inverse_yes a m i _ ha ham hm hi0 him hi).mono ?_; rintro e w' ⟨rfl, rfl⟩)
    | (go_at_call 30; refine (IsOrder_yes a o m L3 _ ha ham hm ho1 hole hL3 hoI).mono ?_; rintro e w2 ⟨rfl, hB⟩; have HB2 := Lib.hid hB; clear hB)
    | (go_at_call 19; refine (awake_is _).mono ?_; rintro e w3 ⟨rfl, hB⟩; have HB3 := Lib.hid hB; clear hB))
  go_ret
  have h1 := (below_drewN (Below.refl w.heap.size w) n1).trans HB1.out
  have h2 := h1.trans (HB2.out.mono h1.size)
  exact ⟨rfl, h2.trans (HB3.out.mono h2.size)⟩

set_option maxRecDepth 100000 in
set_option maxHeartbeats 1000000 in
theorem walk_neg_none (a e m : Int) (w : World) (ha : 0 ≤ a) (ham : a < m) (hm : m ≤ 2147483647) (he : e < 0) (hg : Hid (Nat.gcd a.toNat m.toNat ≠ 1)) : Calls Try.prog 6 #[.int .i64 a, .int .i64 e, .int .i64 m] w fun e w' => e = .returned (.bool true) ∧ Below w.heap.size w w' := by
  have hg1 : (gcdI a m != 1) = true := by rw [bne_iff_ne, gcdI]; have := hg.out; omega
  clear hg
  go_enter Try.func6, Try.ntmps6
  go_wp2_with (first
    | (go_at_call 25; refine (Pow_neg a e m _ ha ham hm he).mono ?_; rintro e w' ⟨rfl, rfl⟩)
    | (go_at_call 17; refine (Number_yes _ _ (by omega) hm).mono ?_; rintro e w' ⟨rfl, rfl⟩)
    | (go_at_call 26; refine (Inv_none a m _ ha ham hm hg1).mono ?_; rintro e w' ⟨rfl, n1, rfl⟩)
    | (go_at_call 27; refine (Ord_none a m _ ha ham hm hg1).mono ?_; rintro e w' ⟨rfl, n2, rfl⟩)
    | (go_at_call 29; refine (Inverse_no a m _ ha ham hm hg1).mono ?_; rintro e w' ⟨rfl, rfl⟩)
    | (go_at_call 19; refine (awake_is _).mono ?_; rintro e w3 ⟨rfl, hB⟩; have HB3 := Lib.hid hB; clear hB))
  go_ret
  exact ⟨rfl, (below_drewN (Below.refl w.heap.size w) _).trans HB3.out⟩

set_option maxRecDepth 100000 in
set_option maxHeartbeats 1000000 in
theorem walk_pos_inv (a e m : Int) (w : World) (ha : 0 ≤ a) (ham : a < m) (hm : m ≤ 2147483647) (he : 0 ≤ e) (he2 : e ≤ 9223372036854775807) (hg : Hid (Nat.gcd a.toNat m.toNat = 1)) : Calls Try.prog 6 #[.int .i64 a, .int .i64 e, .int .i64 m] w fun e w' => e = .returned (.bool true) ∧ Below w.heap.size w w' := by
  obtain ⟨i, hi0, him, hi'⟩ := M.exists_inv ha ham hg.out
  have hi := Lib.hid hi'
  obtain ⟨L, hL'⟩ := M.exists_fac m.toNat (by omega)
  have hL := Lib.hid hL'
  obtain ⟨L2, hL2'⟩ := M.exists_fac (M.phiP L) hL'.1.phi_pos
  have hL2 := Lib.hid hL2'
  have heu := hL'.1.euler (a := a.toNat) (by rw [hL'.2]; exact hg.out)
  rw [hL'.2] at heu
  obtain ⟨o, ho'⟩ := M.exists_ord hL'.1.phi_pos heu
  have ho := Lib.hid ho'
  have hole : (o : Int) ≤ m := by
    have h1 := Nat.le_of_dvd hL'.1.phi_pos (ho'.dvd heu)
    have h2 := hL'.1.phi_le
    rw [hL'.2] at h2
    omega
  have ho1 : 1 ≤ (o : Int) := by have := ho'.pos; omega
  obtain ⟨L3, hL3'⟩ := M.exists_fac o ho'.pos
  have hL3 : Hid (M.IsFac (o : Int).toNat L3) := by rw [Int.toNat_natCast]; exact hL3'
  have hoI : Hid (M.IsOrd a.toNat (o : Int).toNat m.toNat) := by rw [Int.toNat_natCast]; exact ho'
  clear hi' hL' hL2' heu ho' hL3' hg
  go_enter Try.func6, Try.ntmps6
  go_wp2_with (first
    | (go_at_call 25; refine (Pow_ok a e m _ ha ham hm he he2).mono ?_; rintro e w' ⟨rfl, rfl⟩)
    | (go_at_call 17; refine (Number_yes _ _ (by omega) hm).mono ?_; rintro e w' ⟨rfl, rfl⟩)
    | (go_at_call 28; refine (Power_any a e m _ ha ham he he2 hm).mono ?_; rintro e w' ⟨rfl, rfl⟩)
    | (go_at_call 26; refine (Inv_ok a m i _ ha ham hm hi0 him hi).mono ?_; rintro e w' ⟨rfl, n1, rfl⟩)
    | (go_at_call 27; refine (Ord_ok a m o L L2 _ ha ham hm hL hL2 ho).mono ?_; rintro e w1 ⟨rfl, hB⟩; have HB1 := Lib.hid hB; clear hB)
    | (go_at_call 29; refine (Inverse_yes a m i _ ha ham hm hi0 him hi).mono ?_; rintro e w' ⟨rfl, rfl⟩)
    | (go_at_call 30; refine (IsOrder_yes a o m L3 _ ha ham hm ho1 hole hL3 hoI).mono ?_; rintro e w2 ⟨rfl, hB⟩; have HB2 := Lib.hid hB; clear hB)
    | (go_at_call 19; refine (awake_is _).mono ?_; rintro e w3 ⟨rfl, hB⟩; have HB3 := Lib.hid hB; clear hB))
  go_ret
  have h1 := (below_drewN (Below.refl w.heap.size w) n1).trans HB1.out
  have h2 := h1.trans (HB2.out.mono h1.size)
  exact ⟨rfl, h2.trans (HB3.out.mono h2.size)⟩

set_option maxRecDepth 100000 in
set_option maxHeartbeats 1000000 in
theorem walk_pos_none (a e m : Int) (w : World) (ha : 0 ≤ a) (ham : a < m) (hm : m ≤ 2147483647) (he : 0 ≤ e) (he2 : e ≤ 9223372036854775807) (hg : Hid (Nat.gcd a.toNat m.toNat ≠ 1)) : Calls Try.prog 6 #[.int .i64 a, .int .i64 e, .int .i64 m] w fun e w' => e = .returned (.bool true) ∧ Below w.heap.size w w' := by
  have hg1 : (gcdI a m != 1) = true := by rw [bne_iff_ne, gcdI]; have := hg.out; omega
  clear hg
  go_enter Try.func6, Try.ntmps6
  go_wp2_with (first
    | (go_at_call 25; refine (Pow_ok a e m _ ha ham hm he he2).mono ?_; rintro e w' ⟨rfl, rfl⟩)
    | (go_at_call 17; refine (Number_yes _ _ (by omega) hm).mono ?_; rintro e w' ⟨rfl, rfl⟩)
    | (go_at_call 28; refine (Power_any a e m _ ha ham he he2 hm).mono ?_; rintro e w' ⟨rfl, rfl⟩)
    | (go_at_call 26; refine (Inv_none a m _ ha ham hm hg1).mono ?_; rintro e w' ⟨rfl, n1, rfl⟩)
    | (go_at_call 27; refine (Ord_none a m _ ha ham hm hg1).mono ?_; rintro e w' ⟨rfl, n2, rfl⟩)
    | (go_at_call 29; refine (Inverse_no a m _ ha ham hm hg1).mono ?_; rintro e w' ⟨rfl, rfl⟩)
    | (go_at_call 19; refine (awake_is _).mono ?_; rintro e w3 ⟨rfl, hB⟩; have HB3 := Lib.hid hB; clear hB))
  go_ret
  exact ⟨rfl, (below_drewN (Below.refl w.heap.size w) _).trans HB3.out⟩

theorem walk (a e m : Int) (_wa : (Lit.int .i64 a).wf = true) (we : (Lit.int .i64 e).wf = true) (_wm : (Lit.int .i64 m).wf = true) (w : World) : Calls Try.prog 6 #[.int .i64 a, .int .i64 e, .int .i64 m] w fun e w' => e = .returned (.bool true) ∧ Below w.heap.size w w' := by
  have be := bounds_i64 we
  by_cases hr : IsRest a m
  · obtain ⟨h1, h2, h3⟩ := hr
    by_cases hn : e < 0
    · by_cases hg : Nat.gcd a.toNat m.toNat = 1
      · exact walk_neg_inv a e m w h1 h2 h3 hn hg
      · exact walk_neg_none a e m w h1 h2 h3 hn hg
    · by_cases hg : Nat.gcd a.toNat m.toNat = 1
      · exact walk_pos_inv a e m w h1 h2 h3 (by omega) be.2 hg
      · exact walk_pos_none a e m w h1 h2 h3 (by omega) be.2 hg
  · exact walk_arg a e m w hr


set_option maxRecDepth 100000 in
theorem lifted (os : Os) (started : os.Started) (H : Type) (enc : TypeId × Value → H) :
    ReturnsInHanded {} Try.checked os 6 .any (Rows.primePowersSpec.pre6 enc Try.prog Try.f6 Rows.primePowersRow.domain false) (Rows.primePowersSpec.post enc Try.prog Try.f6 false true false false) := by
  refine returnsInHanded_of_change (C := Try.checked) own started (by kernel_rfl) Try.func6
    (ChangeSpec.witness6 (enc := enc) (C := Try.checked) false ⟨#[], #[.int .i64 0, .int .i64 0, .int .i64 0], []⟩ 8 (by kernel_rfl) (by kernel_rfl) (by kernel_rfl) (by kernel_rfl)) ?_
  intro W base args ds gs before hval0 hW hcnd _
  have hval : ∀ (j : Nat) t v, Try.f6.params[j]? = some t → args[j]? = some v → Value.okWide Try.prog W .any base t v := hval0
  have hW' := hW
  obtain ⟨p, q, hA0, hV, rfl, hfz, hnd⟩ := hW
  have hA : DataW.TrodAll enc Try.prog W 0 (fun _ => true) true Try.f6.params.toList args.toList ds p := hA0
  rw [Try.params6] at hA hval
  obtain ⟨v0, vs0, d0, ds0, p0, q0, hargs, rfl, rfl, h0, r0⟩ := trodAll_cons hA
  obtain ⟨v1, vs1, d1, ds1, p1, q1, rfl, rfl, rfl, h1, r1⟩ := trodAll_cons r0
  obtain ⟨v2, vs2, d2, ds2, p2, q2, rfl, rfl, rfl, h2, r2⟩ := trodAll_cons r1
  obtain ⟨rfl, rfl, rfl⟩ := trodAll_nil r2
  obtain rfl : args = #[v0, v1, v2] := by cases args; simp_all
  obtain ⟨rfl, rfl⟩ := trodVars_none hV
  obtain ⟨a0, rfl, rfl, rfl, w0⟩ := open_int Try.underlying3 (hval 0 3 v0 rfl rfl) h0
  obtain ⟨a1, rfl, rfl, rfl, w1⟩ := open_int Try.underlying3 (hval 1 3 v1 rfl rfl) h1
  obtain ⟨a2, rfl, rfl, rfl, w2⟩ := open_int Try.underlying3 (hval 2 3 v2 rfl rfl) h2
  clear hA0 hval0
  simp only [List.append_nil] at hW'
  refine (walk a0 a1 a2 w0 w1 w2 W).mono fun e W' ⟨he, hg⟩ => ?_
  subst he
  exact ⟨_, rfl, _, _, _, [], [], [], hW', trodAll_cons_mk (shut_bool Try.underlying4 _) trodAll_mk0, trodAll_cons_mk (shut_int Try.underlying3 w0) (trodAll_cons_mk (shut_int Try.underlying3 w1) (trodAll_cons_mk (shut_int Try.underlying3 w2) trodAll_mk0)), rfl, hg.frame _, fun h => by cases h⟩

theorem over : Rows.primePowersRow.holds Try.pinned (OpenSpec.ofChange Rows.primePowersSpec) :=
  OpenClaim.holds_of_wide 6 Try.f6 rfl rfl rfl rfl rfl rfl rfl ⟨rfl, rfl, rfl, rfl, rfl⟩ rfl rfl rfl rfl rfl (by kernel_rfl) Try.func6 (by kernel_rfl)
    (of_decide_eq_true (by kernel_rfl)) (by unfold Func.isWrapper; first | (rw [if_pos (by decide +kernel)]; kernel_rfl) | (rw [if_neg (by decide +kernel)]; exact ⟨rfl, rfl⟩))
    (fun os started H enc _ => lifted os started H enc)

theorem proved : Rows.PrimePowersSaid := over

end Go.Proofs.Ytjlcbejgmjiffaa.primePowers
