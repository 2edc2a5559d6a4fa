/- For any number, Factor returns the prime factorization, as the reference has it, and for any other int ErrArg. No condition. -/
import Derived.Test.YtjlcbejgmjiffaaWalkAwake
import Derived.ProofKit
import Derived.OpenShut
namespace Go.Proofs.Ytjlcbejgmjiffaa.primeFactors
open Go.ChangeShapes Go.WideShapes Go.ChangeAt Go.RowKit

theorem own : ownKnob Try.prog.godebug = none := by kernel_rfl

set_option maxRecDepth 100000 in
set_option maxHeartbeats 1000000 in
theorem walk_yes (n : Int) (w : World) (h1 : 1 ≤ n) (h2 : n ≤ 2147483647) :
    Calls Try.prog 5 #[.int .i64 n] w fun e w' => e = .returned (.bool true) ∧ Below w.heap.size w w' := by
  obtain ⟨L, hL'⟩ := M.exists_fac n.toNat (by omega)
  have hL := Lib.hid hL'
  have hlen : L.length ≤ 30 := hL'.1.length_le (by rw [hL'.2]; omega)
  clear hL'
  go_enter Try.func5, Try.ntmps5
  go_wp2_with (fail)
  refine (Factor_yes n L _ h1 h2 hL).mono ?_
  rintro e w1 ⟨⟨v, rfl, hown⟩, hB1⟩
  have hrd := Rd.of_own hown
  obtain ⟨_, a, cap, rfl, hcap, hcell⟩ := hrd
  have HC := Lib.hid hcell
  have HB1 := Lib.hid hB1
  clear hown hcell hB1
  go_wp2_with (go_at_call 17; refine (Number_yes _ _ (by omega) (by omega)).mono ?_; rintro e w' ⟨rfl, rfl⟩)
  refine (refFactor_any n L _ h1 h2 hL).mono ?_
  rintro e w2 ⟨⟨v2, rfl, hown⟩, hB2⟩
  have hrd := Rd.of_own hown
  obtain ⟨_, a2, cap2, rfl, hcap2, hcell2⟩ := hrd
  have HC2 := Lib.hid hcell2
  have HB2 := Lib.hid hB2
  clear hown hcell2 hB2
  go_wp2_with (fail)
  go_loopw [6] (fun i wr => ∃ (k n : Nat), i = .int .i64 k ∧ k ≤ L.length ∧ wr = w2.drewN n) (fun i _ => L.length - (intOf i).toNat)
  case atStart => exact ⟨0, 0, rfl, by omega, rfl⟩
  case round =>
    obtain ⟨k, m, rfl, hk, rfl⟩ := hrel
    by_cases hlt : k < L.length
    · rcases HC.out with h0 | ⟨b, rfl, hb, hcell⟩
      · omega
      rcases HC2.out with h0 | ⟨b2, rfl, hb2, hcell2⟩
      · omega
      have hf := flat_get L k hlt
      have c0 : w2.cell? ⟨b, k * 2, none⟩ = some (.int .i64 (L[k].1 : Int)) := by rw [HB2.out.cell (p := ⟨b, k * 2, none⟩) hb]; exact hcell _ _ hf.1
      have c1 : w2.cell? ⟨b, k * 2 + 1, none⟩ = some (.int .i64 (L[k].2 : Int)) := by rw [HB2.out.cell (p := ⟨b, k * 2 + 1, none⟩) hb]; exact hcell _ _ hf.2
      have c2 : w2.cell? ⟨b2, k * 2, none⟩ = some (.int .i64 (L[k].1 : Int)) := hcell2 _ _ hf.1
      have c3 : w2.cell? ⟨b2, k * 2 + 1, none⟩ = some (.int .i64 (L[k].2 : Int)) := hcell2 _ _ hf.2
      clear hf hcell hcell2
      go_wp2_with (fail)
      go_quiet (fail)
      go_wp2_with (fail)
      go_roundw
      case rel => exact ⟨k + 1, _, by go_num, by omega, rfl⟩
      case measure => simp [intOf]; omega
    · obtain rfl : k = L.length := by omega
      go_wp2_with (go_at_call 19; refine (awake_is _).mono ?_; rintro e w3 ⟨rfl, hB⟩; have HB3 := Lib.hid hB; clear hB)
      go_ret
      have h12 := below_drewN (HB1.out.trans (HB2.out.mono HB1.out.size)) m
      exact ⟨rfl, h12.trans (HB3.out.mono h12.size)⟩

theorem walk_no (n : Int) (w : World) (h : n < 1 ∨ 2147483647 < n) :
    Calls Try.prog 5 #[.int .i64 n] w fun e w' => e = .returned (.bool true) ∧ Below w.heap.size w w' := by
  go_enter Try.func5, Try.ntmps5
  go_wp2_with (first
    | (go_at_call 23; refine (Factor_no _ _ h).mono ?_; rintro e w' ⟨rfl, rfl⟩)
    | (go_at_call 17; refine (Number_no _ _ h).mono ?_; rintro e w' ⟨rfl, rfl⟩)
    | (go_at_call 19; refine (awake_is _).mono ?_; rintro e w3 ⟨rfl, hB⟩; have HB3 := Lib.hid hB; clear hB))
  go_ret
  exact ⟨rfl, HB3.out⟩

theorem walk (a0 : Int) (w : World) :
    Calls Try.prog 5 #[.int .i64 a0] w fun e w' => e = .returned (.bool true) ∧ Below w.heap.size w w' := by
  by_cases h : a0 < 1 ∨ 2147483647 < a0
  · exact walk_no a0 w h
  · exact walk_yes a0 w (by omega) (by omega)

set_option maxRecDepth 100000 in
theorem lifted (os : Os) (started : os.Started) (H : Type) (enc : TypeId × Value → H) :
    ReturnsInHanded {} Try.checked os 5 .any (Rows.primeFactorsSpec.pre6 enc Try.prog Try.f5 Rows.primeFactorsRow.domain false) (Rows.primeFactorsSpec.post enc Try.prog Try.f5 false true false false) := by
  refine returnsInHanded_of_change (C := Try.checked) own started (by kernel_rfl) Try.func5
    (ChangeSpec.witness6 (enc := enc) (C := Try.checked) false ⟨#[], #[.int .i64 0], []⟩ 8 (by kernel_rfl) (by kernel_rfl) (by kernel_rfl) (by kernel_rfl)) ?_
  intro W base args ds gs before hval0 hW hcnd _
  have hval : ∀ (j : Nat) t v, Try.f5.params[j]? = some t → args[j]? = some v → Value.okWide Try.prog W .any base t v := hval0
  have hW' := hW
  obtain ⟨p, q, hA0, hV, rfl, hfz, hnd⟩ := hW
  have hA : DataW.TrodAll enc Try.prog W 0 (fun _ => true) true Try.f5.params.toList args.toList ds p := hA0
  rw [Try.params5] at hA hval
  obtain ⟨v0, vs0, d0, ds0, p0, q0, hargs, rfl, rfl, h0, r0⟩ := trodAll_cons hA
  obtain ⟨rfl, rfl, rfl⟩ := trodAll_nil r0
  obtain rfl : args = #[v0] := by cases args; simp_all
  obtain ⟨rfl, rfl⟩ := trodVars_none hV
  obtain ⟨a0, rfl, rfl, rfl, w0⟩ := open_int Try.underlying3 (hval 0 3 v0 rfl rfl) h0
  clear hA0 hval0
  simp only [List.append_nil] at hW'
  refine (walk a0 W).mono fun e W' ⟨he, hg⟩ => ?_
  subst he
  exact ⟨_, rfl, _, _, _, [], [], [], hW', trodAll_cons_mk (shut_bool Try.underlying4 _) trodAll_mk0, trodAll_cons_mk (shut_int Try.underlying3 w0) trodAll_mk0, rfl, hg.frame _, fun h => by cases h⟩

theorem over : Rows.primeFactorsRow.holds Try.pinned (OpenSpec.ofChange Rows.primeFactorsSpec) :=
  OpenClaim.holds_of_wide 5 Try.f5 rfl rfl rfl rfl rfl rfl rfl ⟨rfl, rfl, rfl, rfl, rfl⟩ rfl rfl rfl rfl rfl (by kernel_rfl) Try.func5 (by kernel_rfl)
    (of_decide_eq_true (by kernel_rfl)) (by unfold Func.isWrapper; first | (rw [if_pos (by decide +kernel)]; kernel_rfl) | (rw [if_neg (by decide +kernel)]; exact ⟨rfl, rfl⟩))
    (fun os started H enc _ => lifted os started H enc)

theorem proved : Rows.PrimeFactorsSaid := over

end Go.Proofs.Ytjlcbejgmjiffaa.primeFactors
