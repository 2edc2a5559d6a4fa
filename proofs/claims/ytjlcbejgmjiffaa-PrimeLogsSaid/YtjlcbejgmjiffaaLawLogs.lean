/- For any prime, Log returns the minimum exponent, ErrNone exactly if there is no such exponent, or ErrArg. No condition. -/
import Derived.Test.YtjlcbejgmjiffaaWalkAwake
import Derived.ProofKit
import Derived.OpenShut
namespace Go.Proofs.Ytjlcbejgmjiffaa.primeLogs
open Go.ChangeShapes Go.WideShapes Go.ChangeAt Go.RowKit

theorem own : ownKnob Try.prog.godebug = none := by kernel_rfl


set_option maxRecDepth 100000 in
set_option maxHeartbeats 1000000 in
theorem walk_arg0 (g a p : Int) (w : World) (h : Hid (¬ IsLogArg g a p)) (hp : Hid (¬ PrI p)) : Calls Try.prog 9 #[.int .i64 g, .int .i64 a, .int .i64 p] w fun e w' => e = .returned (.bool true) ∧ Below w.heap.size w w' := by
  go_enter Try.func9, Try.ntmps9
  go_wp2_with (first
    | (go_at_call 34; refine (Log_arg g a p _ h).mono ?_; rintro e w1 ⟨rfl, hB⟩; have HB1 := Lib.hid hB; clear hB)
    | (go_at_call 19; refine (awake_is _).mono ?_; rintro e w3 ⟨rfl, hB⟩; have HB3 := Lib.hid hB; clear hB)
    | (go_at_call 21; refine (Prime_no p _ hp).mono ?_; rintro e w' ⟨rfl, rfl⟩))
  go_ret
  exact ⟨rfl, HB1.out.trans (HB3.out.mono HB1.out.size)⟩

set_option maxRecDepth 100000 in
set_option maxHeartbeats 1000000 in
theorem walk_arg1 (g a p : Int) (w : World) (h : Hid (¬ IsLogArg g a p)) (hp : Hid (PrI p)) : Calls Try.prog 9 #[.int .i64 g, .int .i64 a, .int .i64 p] w fun e w' => e = .returned (.bool true) ∧ Below w.heap.size w w' := by
  by_cases h1 : g < 1
  · have hd1 : decide (g < 1) = true := by simpa using h1
    go_enter Try.func9, Try.ntmps9
    go_wp2_with (first
      | (go_at_call 34; refine (Log_arg g a p _ h).mono ?_; rintro e w1 ⟨rfl, hB⟩; have HB1 := Lib.hid hB; clear hB)
      | (go_at_call 19; refine (awake_is _).mono ?_; rintro e w3 ⟨rfl, hB⟩; have HB3 := Lib.hid hB; clear hB)
      | (go_at_call 21; refine (Prime_yes p _ hp).mono ?_; rintro e w' ⟨rfl, rfl⟩))
    go_ret
    exact ⟨rfl, HB1.out.trans (HB3.out.mono HB1.out.size)⟩
  have hd1 : decide (g < 1) = false := by simpa using h1
  by_cases h2 : p ≤ g
  · have hd2 : decide (p ≤ g) = true := by simpa using h2
    go_enter Try.func9, Try.ntmps9
    go_wp2_with (first
      | (go_at_call 34; refine (Log_arg g a p _ h).mono ?_; rintro e w1 ⟨rfl, hB⟩; have HB1 := Lib.hid hB; clear hB)
      | (go_at_call 19; refine (awake_is _).mono ?_; rintro e w3 ⟨rfl, hB⟩; have HB3 := Lib.hid hB; clear hB)
      | (go_at_call 21; refine (Prime_yes p _ hp).mono ?_; rintro e w' ⟨rfl, rfl⟩))
    go_ret
    exact ⟨rfl, HB1.out.trans (HB3.out.mono HB1.out.size)⟩
  have hd2 : decide (p ≤ g) = false := by simpa using h2
  by_cases h3 : a < 1
  · have hd3 : decide (a < 1) = true := by simpa using h3
    go_enter Try.func9, Try.ntmps9
    go_wp2_with (first
      | (go_at_call 34; refine (Log_arg g a p _ h).mono ?_; rintro e w1 ⟨rfl, hB⟩; have HB1 := Lib.hid hB; clear hB)
      | (go_at_call 19; refine (awake_is _).mono ?_; rintro e w3 ⟨rfl, hB⟩; have HB3 := Lib.hid hB; clear hB)
      | (go_at_call 21; refine (Prime_yes p _ hp).mono ?_; rintro e w' ⟨rfl, rfl⟩))
    go_ret
    exact ⟨rfl, HB1.out.trans (HB3.out.mono HB1.out.size)⟩
  have hd3 : decide (a < 1) = false := by simpa using h3
  have h4 : p ≤ a := Classical.byContradiction fun hc => h.out ⟨by omega, by omega, by omega, by omega, hp.out⟩
  · have hd4 : decide (p ≤ a) = true := by simpa using h4
    go_enter Try.func9, Try.ntmps9
    go_wp2_with (first
      | (go_at_call 34; refine (Log_arg g a p _ h).mono ?_; rintro e w1 ⟨rfl, hB⟩; have HB1 := Lib.hid hB; clear hB)
      | (go_at_call 19; refine (awake_is _).mono ?_; rintro e w3 ⟨rfl, hB⟩; have HB3 := Lib.hid hB; clear hB)
      | (go_at_call 21; refine (Prime_yes p _ hp).mono ?_; rintro e w' ⟨rfl, rfl⟩))
    go_ret
    exact ⟨rfl, HB1.out.trans (HB3.out.mono HB1.out.size)⟩

set_option maxRecDepth 100000 in
set_option maxHeartbeats 1000000 in
theorem walk_none (g a p o : Nat) (L2 : List (Nat × Nat)) (w : World) (hg1 : 1 ≤ g) (hg : g < p) (ha1 : 1 ≤ a) (ha : a < p) (hp : Hid (PrI p)) (hL2 : Hid (M.IsFac ((p : Int).toNat - 1) L2)) (ho : Hid (M.IsOrd g o p)) (hoo : o ≤ 2147483647) (hn : Hid (a ^ o % p ≠ 1)) : Calls Try.prog 9 #[.int .i64 g, .int .i64 a, .int .i64 p] w fun e w' => e = .returned (.bool true) ∧ Below w.heap.size w w' := by
  have hm := hp.out.2.1
  have hp2 := hp.out.1
  have hpr : Hid (M.Pr p) := by have := hp.out.2.2; rw [Int.toNat_natCast] at this; exact this
  have hoI : Hid (M.IsOrd (g : Int).toNat o (p : Int).toNat) := by rw [Int.toNat_natCast, Int.toNat_natCast]; exact ho
  have hfer : Hid ((g : Int).toNat ^ ((p : Int).toNat - 1) % (p : Int).toNat = 1 % (p : Int).toNat) := by
    show _ = _
    rw [Int.toNat_natCast, Int.toNat_natCast, M.fermat hpr.out (M.not_dvd_of_lt hg1 hg), M.mod_of_one_lt hpr.out.1]
  have hd1 : decide ((g : Int) < 1) = false := by simp; omega
  have hd2 : decide (p ≤ g) = false := by simp; omega
  have hd3 : decide ((a : Int) < 1) = false := by simp; omega
  have hd4 : decide (p ≤ a) = false := by simp; omega
  have hpw : (M.pw a o p != 1 % (p : Int)) = true := by
    rw [pw_nat, bne_iff_ne]
    intro e
    apply hn.out
    have h1 : (1 : Int) % (p : Int) = 1 := Int.emod_eq_of_lt (by omega) (by omega)
    omega
  go_enter Try.func9, Try.ntmps9
  go_wp2_with (first
    | (go_at_call 34; refine (Log_none g a p o _ hg1 hg ha1 ha hp ho hoo hn).mono ?_; rintro e w1 ⟨rfl, hB⟩; have HB1 := Lib.hid hB; clear hB)
    | (go_at_call 21; refine (Prime_yes p _ hp).mono ?_; rintro e w' ⟨rfl, rfl⟩)
    | (go_at_call 33; refine (refOrder_any g p o L2 _ (by omega) (by omega) (by omega) (by omega) hL2 hoI hfer).mono ?_; rintro e w2 ⟨rfl, hB⟩; have HB2 := Lib.hid hB; clear hB))
  go_quiet ((go_at_call 28; exact Calls.quiet_of_same (quietw (Power_any _ _ _ _ (by omega) (by omega) (by omega) (by omega) (by omega)))))
  go_wp2_with (first
    | (go_at_call 19; refine (awake_is _).mono ?_; rintro e w3 ⟨rfl, hB⟩; have HB3 := Lib.hid hB; clear hB))
  go_ret
  have h12 := below_drewN (HB1.out.trans (HB2.out.mono HB1.out.size)) nq
  exact ⟨rfl, h12.trans (HB3.out.mono h12.size)⟩

set_option maxRecDepth 100000 in
set_option maxHeartbeats 1000000 in
theorem walk_ok (g a p o k : Nat) (L2 : List (Nat × Nat)) (w : World) (hg1 : 1 ≤ g) (hg : g < p) (ha1 : 1 ≤ a) (ha : a < p) (hp : Hid (PrI p)) (hL2 : Hid (M.IsFac ((p : Int).toNat - 1) L2)) (ho : Hid (M.IsOrd g o p)) (hoo : o ≤ 2147483647) (hk : k < o) (hak : Hid (a = g ^ k % p)) : Calls Try.prog 9 #[.int .i64 g, .int .i64 a, .int .i64 p] w fun e w' => e = .returned (.bool true) ∧ Below w.heap.size w w' := by
  have hm := hp.out.2.1
  have hp2 := hp.out.1
  have hpr : Hid (M.Pr p) := by have := hp.out.2.2; rw [Int.toNat_natCast] at this; exact this
  have hoI : Hid (M.IsOrd (g : Int).toNat o (p : Int).toNat) := by rw [Int.toNat_natCast, Int.toNat_natCast]; exact ho
  have hfer : Hid ((g : Int).toNat ^ ((p : Int).toNat - 1) % (p : Int).toNat = 1 % (p : Int).toNat) := by
    show _ = _
    rw [Int.toNat_natCast, Int.toNat_natCast, M.fermat hpr.out (M.not_dvd_of_lt hg1 hg), M.mod_of_one_lt hpr.out.1]
  have hd1 : decide ((g : Int) < 1) = false := by simp; omega
  have hd2 : decide (p ≤ g) = false := by simp; omega
  have hd3 : decide ((a : Int) < 1) = false := by simp; omega
  have hd4 : decide (p ≤ a) = false := by simp; omega
  have hd5 : decide (k < o) = true := by simpa using hk
  have hpw : (M.pw a o p != 1 % (p : Int)) = false := by
    rw [pw_nat, bne_eq_false_iff_eq]
    have h1 : (1 : Int) % (p : Int) = 1 := Int.emod_eq_of_lt (by omega) (by omega)
    have h2 : a ^ o % p = 1 := by
      have h1p := M.mod_of_one_lt hpr.out.1
      rw [hak.out, M.pow_zmod, Nat.mul_comm, M.pow_one_mul ho.out.one, h1p]
    rw [h2, h1]; rfl
  have hpk : (M.pw g k p == (a : Int)) = true := by
    rw [pw_nat, beq_iff_eq, hak.out]
  go_enter Try.func9, Try.ntmps9
  go_wp2_with (first
    | (go_at_call 34; refine (Log_ok g a p o k _ hg1 hg ha1 ha hp ho hoo hk hak).mono ?_; rintro e w1 ⟨rfl, hB⟩; have HB1 := Lib.hid hB; clear hB)
    | (go_at_call 21; refine (Prime_yes p _ hp).mono ?_; rintro e w' ⟨rfl, rfl⟩)
    | (go_at_call 33; refine (refOrder_any g p o L2 _ (by omega) (by omega) (by omega) (by omega) hL2 hoI hfer).mono ?_; rintro e w2 ⟨rfl, hB⟩; have HB2 := Lib.hid hB; clear hB))
  go_quiet ((go_at_call 28; exact Calls.quiet_of_same (quietw (Power_any _ _ _ _ (by omega) (by omega) (by omega) (by omega) (by omega)))))
  go_wp2_with (first
    | (go_at_call 28; refine (Power_any _ _ _ _ (by omega) (by omega) (by omega) (by omega) (by omega)).mono ?_; rintro e w' ⟨rfl, rfl⟩)
    | (go_at_call 19; refine (awake_is _).mono ?_; rintro e w3 ⟨rfl, hB⟩; have HB3 := Lib.hid hB; clear hB))
  go_ret
  have h12 := below_drewN (HB1.out.trans (HB2.out.mono HB1.out.size)) nq
  exact ⟨rfl, h12.trans (HB3.out.mono h12.size)⟩

theorem walk (g a p : Int) (_wg : (Lit.int .i64 g).wf = true) (_wa : (Lit.int .i64 a).wf = true) (_wp : (Lit.int .i64 p).wf = true) (w : World) : Calls Try.prog 9 #[.int .i64 g, .int .i64 a, .int .i64 p] w fun e w' => e = .returned (.bool true) ∧ Below w.heap.size w w' := by
  by_cases h : IsLogArg g a p
  · obtain ⟨h1, h2, h3, h4, h5⟩ := h
    obtain ⟨P, rfl⟩ := Int.eq_ofNat_of_zero_le (show 0 ≤ p by omega)
    obtain ⟨A, rfl⟩ := Int.eq_ofNat_of_zero_le (show 0 ≤ a by omega)
    obtain ⟨G, rfl⟩ := Int.eq_ofNat_of_zero_le (show 0 ≤ g by omega)
    have hpr : M.Pr P := by have := h5.2.2; rw [Int.toNat_natCast] at this; exact this
    have hm := h5.2.1
    have hp2 := hpr.1
    obtain ⟨L2, hL2⟩ := M.exists_fac (P - 1) (by omega)
    have hL2' : M.IsFac ((P : Int).toNat - 1) L2 := by rw [Int.toNat_natCast]; exact hL2
    have hf := M.fermat hpr (M.not_dvd_of_lt (a := G) (by omega) (by omega))
    have h1p := M.mod_of_one_lt hp2
    obtain ⟨o, ho⟩ := M.exists_ord (a := G) (n := P - 1) (m := P) (by omega) (by rw [h1p]; exact hf)
    have hoo := Nat.le_of_dvd (by omega) (ho.dvd (n := P - 1) (by rw [h1p]; exact hf))
    by_cases hs : A ^ o % P = 1
    · obtain ⟨k, hk, hak⟩ := ho.log hpr (by omega) hs
      exact walk_ok G A P o k L2 w (by omega) (by omega) (by omega) (by omega) h5 hL2' ho (by omega) hk hak
    · exact walk_none G A P o L2 w (by omega) (by omega) (by omega) (by omega) h5 hL2' ho (by omega) hs
  · by_cases hp : PrI p
    · exact walk_arg1 g a p w h hp
    · exact walk_arg0 g a p w h hp


set_option maxRecDepth 100000 in
theorem lifted (os : Os) (started : os.Started) (H : Type) (enc : TypeId × Value → H) :
    ReturnsInHanded {} Try.checked os 9 .any (Rows.primeLogsSpec.pre6 enc Try.prog Try.f9 Rows.primeLogsRow.domain false) (Rows.primeLogsSpec.post enc Try.prog Try.f9 false true false false) := by
  refine returnsInHanded_of_change (C := Try.checked) own started (by kernel_rfl) Try.func9
    (ChangeSpec.witness6 (enc := enc) (C := Try.checked) false ⟨#[], #[.int .i64 0, .int .i64 0, .int .i64 0], []⟩ 8 (by kernel_rfl) (by kernel_rfl) (by kernel_rfl) (by kernel_rfl)) ?_
  intro W base args ds gs before hval0 hW hcnd _
  have hval : ∀ (j : Nat) t v, Try.f9.params[j]? = some t → args[j]? = some v → Value.okWide Try.prog W .any base t v := hval0
  have hW' := hW
  obtain ⟨p, q, hA0, hV, rfl, hfz, hnd⟩ := hW
  have hA : DataW.TrodAll enc Try.prog W 0 (fun _ => true) true Try.f9.params.toList args.toList ds p := hA0
  rw [Try.params9] at hA hval
  obtain ⟨v0, vs0, d0, ds0, p0, q0, hargs, rfl, rfl, h0, r0⟩ := trodAll_cons hA
  obtain ⟨v1, vs1, d1, ds1, p1, q1, rfl, rfl, rfl, h1, r1⟩ := trodAll_cons r0
  obtain ⟨v2, vs2, d2, ds2, p2, q2, rfl, rfl, rfl, h2, r2⟩ := trodAll_cons r1
  obtain ⟨rfl, rfl, rfl⟩ := trodAll_nil r2
  obtain rfl : args = #[v0, v1, v2] := by cases args; simp_all
  obtain ⟨rfl, rfl⟩ := trodVars_none hV
  obtain ⟨a0, rfl, rfl, rfl, w0⟩ := open_int Try.underlying3 (hval 0 3 v0 rfl rfl) h0
  obtain ⟨a1, rfl, rfl, rfl, w1⟩ := open_int Try.underlying3 (hval 1 3 v1 rfl rfl) h1
  obtain ⟨a2, rfl, rfl, rfl, w2⟩ := open_int Try.underlying3 (hval 2 3 v2 rfl rfl) h2
  clear hA0 hval0
  simp only [List.append_nil] at hW'
  refine (walk a0 a1 a2 w0 w1 w2 W).mono fun e W' ⟨he, hg⟩ => ?_
  subst he
  exact ⟨_, rfl, _, _, _, [], [], [], hW', trodAll_cons_mk (shut_bool Try.underlying4 _) trodAll_mk0, trodAll_cons_mk (shut_int Try.underlying3 w0) (trodAll_cons_mk (shut_int Try.underlying3 w1) (trodAll_cons_mk (shut_int Try.underlying3 w2) trodAll_mk0)), rfl, hg.frame _, fun h => by cases h⟩

theorem over : Rows.primeLogsRow.holds Try.pinned (OpenSpec.ofChange Rows.primeLogsSpec) :=
  OpenClaim.holds_of_wide 9 Try.f9 rfl rfl rfl rfl rfl rfl rfl ⟨rfl, rfl, rfl, rfl, rfl⟩ rfl rfl rfl rfl rfl (by kernel_rfl) Try.func9 (by kernel_rfl)
    (of_decide_eq_true (by kernel_rfl)) (by unfold Func.isWrapper; first | (rw [if_pos (by decide +kernel)]; kernel_rfl) | (rw [if_neg (by decide +kernel)]; exact ⟨rfl, rfl⟩))
    (fun os started H enc _ => lifted os started H enc)

theorem proved : Rows.PrimeLogsSaid := over

end Go.Proofs.Ytjlcbejgmjiffaa.primeLogs
