/- For any prime, Root returns the minimum square root, ErrNone exactly if there is no square root, or ErrArg. No condition. -/
import Derived.Test.YtjlcbejgmjiffaaWalkAwake
import Derived.ProofKit
import Derived.OpenShut
namespace Go.Proofs.Ytjlcbejgmjiffaa.primeRoots
open Go.ChangeShapes Go.WideShapes Go.ChangeAt Go.RowKit

theorem own : ownKnob Try.prog.godebug = none := by kernel_rfl


set_option maxRecDepth 100000 in
set_option maxHeartbeats 1000000 in
theorem walk_arg (a p : Int) (w : World) (h : Hid (¬ (0 ≤ a ∧ a < p ∧ PrI p))) : Calls Try.prog 7 #[.int .i64 a, .int .i64 p] w fun e w' => e = .returned (.bool true) ∧ Below w.heap.size w w' := by
  by_cases hp' : PrI p
  · have hp := Lib.hid hp'
    by_cases ha : a < 0
    · clear hp'
      go_enter Try.func7, Try.ntmps7
      go_wp2_with (first
        | (go_at_call 31; refine (Root_arg a p _ h).mono ?_; rintro e w1 ⟨rfl, hB⟩; have HB1 := Lib.hid hB; clear hB)
        | (go_at_call 21; refine (Prime_yes p _ hp).mono ?_; rintro e w' ⟨rfl, rfl⟩)
        | (go_at_call 19; refine (awake_is _).mono ?_; rintro e w3 ⟨rfl, hB⟩; have HB3 := Lib.hid hB; clear hB))
      go_ret
      exact ⟨rfl, HB1.out.trans (HB3.out.mono HB1.out.size)⟩
    · have ham : p ≤ a := Classical.byContradiction fun hc => h.out ⟨by omega, by omega, hp'⟩
      clear hp'
      go_enter Try.func7, Try.ntmps7
      go_wp2_with (first
        | (go_at_call 31; refine (Root_arg a p _ h).mono ?_; rintro e w1 ⟨rfl, hB⟩; have HB1 := Lib.hid hB; clear hB)
        | (go_at_call 21; refine (Prime_yes p _ hp).mono ?_; rintro e w' ⟨rfl, rfl⟩)
        | (go_at_call 19; refine (awake_is _).mono ?_; rintro e w3 ⟨rfl, hB⟩; have HB3 := Lib.hid hB; clear hB))
      go_ret
      exact ⟨rfl, HB1.out.trans (HB3.out.mono HB1.out.size)⟩
  · have hp := Lib.hid hp'
    clear hp'
    go_enter Try.func7, Try.ntmps7
    go_wp2_with (first
      | (go_at_call 31; refine (Root_arg a p _ h).mono ?_; rintro e w1 ⟨rfl, hB⟩; have HB1 := Lib.hid hB; clear hB)
      | (go_at_call 21; refine (Prime_no p _ hp).mono ?_; rintro e w' ⟨rfl, rfl⟩)
      | (go_at_call 19; refine (awake_is _).mono ?_; rintro e w3 ⟨rfl, hB⟩; have HB3 := Lib.hid hB; clear hB))
    go_ret
    exact ⟨rfl, HB1.out.trans (HB3.out.mono HB1.out.size)⟩

set_option maxRecDepth 100000 in
set_option maxHeartbeats 1000000 in
theorem walk_none (a p : Int) (w : World) (ha : 1 ≤ a) (hap : a < p) (hp3 : 3 ≤ p) (hp : Hid (PrI p)) (hn : (M.pw a ((p - 1) / 2) p == 1) = false) : Calls Try.prog 7 #[.int .i64 a, .int .i64 p] w fun e w' => e = .returned (.bool true) ∧ Below w.heap.size w w' := by
  have hm := hp.out.2.1
  have hn2 : (M.pw a ((p - 1) / 2) p != 1) = true := by rw [bne, hn]; rfl
  have hd1 : decide (a < 0) = false := by simp; omega
  have hd2 : decide (p ≤ a) = false := by simp; omega
  have hd3 : decide (2 < p) = true := by simp; omega
  have hd4 : decide (0 < a) = true := by simp; omega
  have HN := Lib.hid hn
  clear hn
  go_enter Try.func7, Try.ntmps7
  go_wp2_with (first
    | (go_at_call 31; refine (Root_none a p _ ha hap hp3 hp HN.out).mono ?_; rintro e w1 ⟨rfl, hB⟩; have HB1 := Lib.hid hB; clear hB)
    | (go_at_call 21; refine (Prime_yes p _ hp).mono ?_; rintro e w' ⟨rfl, rfl⟩)
    | (go_at_call 28; refine (Power_any _ _ _ _ (by omega) (by omega) (by omega) (by omega) (by omega)).mono ?_; rintro e w' ⟨rfl, rfl⟩)
    | (go_at_call 19; refine (awake_is _).mono ?_; rintro e w3 ⟨rfl, hB⟩; have HB3 := Lib.hid hB; clear hB))
  go_ret
  exact ⟨rfl, HB1.out.trans (HB3.out.mono HB1.out.size)⟩

set_option maxRecDepth 100000 in
set_option maxHeartbeats 1000000 in
theorem walk_sq (a p : Int) (w : World) (ha : 1 ≤ a) (hap : a < p) (hp3 : 3 ≤ p) (hp : Hid (PrI p)) (hn : (M.pw a ((p - 1) / 2) p == 1) = true) : Calls Try.prog 7 #[.int .i64 a, .int .i64 p] w fun e w' => e = .returned (.bool true) ∧ Below w.heap.size w w' := by
  have hm := hp.out.2.1
  have hn2 : (M.pw a ((p - 1) / 2) p != 1) = false := by rw [bne, hn]; rfl
  have hd1 : decide (a < 0) = false := by simp; omega
  have hd2 : decide (p ≤ a) = false := by simp; omega
  have hd3 : decide (2 < p) = true := by simp; omega
  have hd4 : decide (0 < a) = true := by simp; omega
  have HN := Lib.hid hn
  clear hn
  go_enter Try.func7, Try.ntmps7
  go_wp2_with (fail)
  refine (Root_ok a p _ ha hap hp3 hp HN.out).mono ?_
  rintro e w1 ⟨x, rfl, x0, xp, hx, hle, hB⟩
  have HB1 := Lib.hid hB
  clear hB
  have hx' : (x * x % p == a) = true := by rw [beq_iff_eq]; exact hx
  have hb := M.mul_bd x x p x0 xp x0 xp hm
  clear hx
  by_cases hz : x = 0
  · exfalso
    subst hz
    simp at hx'
    omega
  · have hle2 : x ≤ p - x := by omega
    have hz1 : ((x : Int) == 0) = false := by simpa using hz
    have hd5 : decide (x ≤ p - x) = true := by simpa using hle2
    have hd6 : decide (0 ≤ x) = true := by simpa using x0
    have hd7 : decide (x < p) = true := by simpa using xp
    clear hle hz
    go_wp2_with (first
      | (go_at_call 21; refine (Prime_yes p _ hp).mono ?_; rintro e w' ⟨rfl, rfl⟩)
      | (go_at_call 28; refine (Power_any _ _ _ _ (by omega) (by omega) (by omega) (by omega) (by omega)).mono ?_; rintro e w' ⟨rfl, rfl⟩)
      | (go_at_call 19; refine (awake_is _).mono ?_; rintro e w3 ⟨rfl, hB⟩; have HB3 := Lib.hid hB; clear hB))
    all_goals
      go_ret
      exact ⟨rfl, HB1.out.trans (HB3.out.mono HB1.out.size)⟩

set_option maxRecDepth 100000 in
set_option maxHeartbeats 1000000 in
theorem walk_easy (a p : Int) (w : World) (ha : 0 ≤ a) (hap : a < p) (hp : Hid (PrI p)) (he : a = 0 ∨ p = 2) : Calls Try.prog 7 #[.int .i64 a, .int .i64 p] w fun e w' => e = .returned (.bool true) ∧ Below w.heap.size w w' := by
  have hm := hp.out.2.1
  have hp2 := hp.out.1
  by_cases h0 : a = 0
  · subst h0
    clear he
    have hd2 : decide (p ≤ 0) = false := by simp; omega
    go_enter Try.func7, Try.ntmps7
    go_wp2_with (fail)
    refine (Root_easy 0 p _ (by omega) (by omega) hp (.inl rfl)).mono ?_
    rintro e w1 ⟨x, rfl, x0, xp, hx, hle, hB⟩
    have HB1 := Lib.hid hB
    clear hB
    have hx' : (x * x % p == 0) = true := by rw [beq_iff_eq]; exact hx
    have hb := M.mul_bd x x p x0 xp x0 xp hm
    clear hx
    by_cases hz : x = 0
    · subst hz
      clear hle
      go_wp2_with (first
        | (go_at_call 21; refine (Prime_yes p _ hp).mono ?_; rintro e w' ⟨rfl, rfl⟩)
        | (go_at_call 19; refine (awake_is _).mono ?_; rintro e w3 ⟨rfl, hB⟩; have HB3 := Lib.hid hB; clear hB))
      all_goals
        go_ret
        exact ⟨rfl, HB1.out.trans (HB3.out.mono HB1.out.size)⟩
    · have hle2 : x ≤ p - x := by omega
      have hz1 : ((x : Int) == 0) = false := by simpa using hz
      have hd5 : decide (x ≤ p - x) = true := by simpa using hle2
      have hd6 : decide (0 ≤ x) = true := by simpa using x0
      have hd7 : decide (x < p) = true := by simpa using xp
      clear hle hz
      go_wp2_with (first
        | (go_at_call 21; refine (Prime_yes p _ hp).mono ?_; rintro e w' ⟨rfl, rfl⟩)
        | (go_at_call 19; refine (awake_is _).mono ?_; rintro e w3 ⟨rfl, hB⟩; have HB3 := Lib.hid hB; clear hB))
      all_goals
        go_ret
        exact ⟨rfl, HB1.out.trans (HB3.out.mono HB1.out.size)⟩
  · obtain rfl : p = 2 := by omega
    obtain rfl : a = 1 := by omega
    clear he
    go_enter Try.func7, Try.ntmps7
    go_wp2_with (fail)
    refine (Root_easy 1 2 _ (by omega) (by omega) hp (.inr rfl)).mono ?_
    rintro e w1 ⟨x, rfl, x0, xp, hx, hle, hB⟩
    have HB1 := Lib.hid hB
    clear hB hle
    obtain rfl : x = 1 := by
      rcases (show x = 0 ∨ x = 1 by omega) with rfl | rfl
      · simp at hx
      · rfl
    clear hx
    go_wp2_with (first
      | (go_at_call 21; refine (Prime_yes 2 _ hp).mono ?_; rintro e w' ⟨rfl, rfl⟩)
      | (go_at_call 19; refine (awake_is _).mono ?_; rintro e w3 ⟨rfl, hB⟩; have HB3 := Lib.hid hB; clear hB))
    all_goals
      go_ret
      exact ⟨rfl, HB1.out.trans (HB3.out.mono HB1.out.size)⟩

theorem walk (a p : Int) (_wa : (Lit.int .i64 a).wf = true) (_wp : (Lit.int .i64 p).wf = true) (w : World) : Calls Try.prog 7 #[.int .i64 a, .int .i64 p] w fun e w' => e = .returned (.bool true) ∧ Below w.heap.size w w' := by
  by_cases h : 0 ≤ a ∧ a < p ∧ PrI p
  · obtain ⟨h1, h2, h3⟩ := h
    by_cases he : a = 0 ∨ p = 2
    · exact walk_easy a p w h1 h2 h3 he
    · have := h3.1
      by_cases hs : (M.pw a ((p - 1) / 2) p == 1) = true
      · exact walk_sq a p w (by omega) h2 (by omega) h3 hs
      · exact walk_none a p w (by omega) h2 (by omega) h3 (by simpa using hs)
  · exact walk_arg a p w h


set_option maxRecDepth 100000 in
theorem lifted (os : Os) (started : os.Started) (H : Type) (enc : TypeId × Value → H) :
    ReturnsInHanded {} Try.checked os 7 .any (Rows.primeRootsSpec.pre6 enc Try.prog Try.f7 Rows.primeRootsRow.domain false) (Rows.primeRootsSpec.post enc Try.prog Try.f7 false true false false) := by
  refine returnsInHanded_of_change (C := Try.checked) own started (by kernel_rfl) Try.func7
    (ChangeSpec.witness6 (enc := enc) (C := Try.checked) false ⟨#[], #[.int .i64 0, .int .i64 0], []⟩ 8 (by kernel_rfl) (by kernel_rfl) (by kernel_rfl) (by kernel_rfl)) ?_
  intro W base args ds gs before hval0 hW hcnd _
  have hval : ∀ (j : Nat) t v, Try.f7.params[j]? = some t → args[j]? = some v → Value.okWide Try.prog W .any base t v := hval0
  have hW' := hW
  obtain ⟨p, q, hA0, hV, rfl, hfz, hnd⟩ := hW
  have hA : DataW.TrodAll enc Try.prog W 0 (fun _ => true) true Try.f7.params.toList args.toList ds p := hA0
  rw [Try.params7] at hA hval
  obtain ⟨v0, vs0, d0, ds0, p0, q0, hargs, rfl, rfl, h0, r0⟩ := trodAll_cons hA
  obtain ⟨v1, vs1, d1, ds1, p1, q1, rfl, rfl, rfl, h1, r1⟩ := trodAll_cons r0
  obtain ⟨rfl, rfl, rfl⟩ := trodAll_nil r1
  obtain rfl : args = #[v0, v1] := by cases args; simp_all
  obtain ⟨rfl, rfl⟩ := trodVars_none hV
  obtain ⟨a0, rfl, rfl, rfl, w0⟩ := open_int Try.underlying3 (hval 0 3 v0 rfl rfl) h0
  obtain ⟨a1, rfl, rfl, rfl, w1⟩ := open_int Try.underlying3 (hval 1 3 v1 rfl rfl) h1
  clear hA0 hval0
  simp only [List.append_nil] at hW'
  refine (walk a0 a1 w0 w1 W).mono fun e W' ⟨he, hg⟩ => ?_
  subst he
  exact ⟨_, rfl, _, _, _, [], [], [], hW', trodAll_cons_mk (shut_bool Try.underlying4 _) trodAll_mk0, trodAll_cons_mk (shut_int Try.underlying3 w0) (trodAll_cons_mk (shut_int Try.underlying3 w1) trodAll_mk0), rfl, hg.frame _, fun h => by cases h⟩

theorem over : Rows.primeRootsRow.holds Try.pinned (OpenSpec.ofChange Rows.primeRootsSpec) :=
  OpenClaim.holds_of_wide 7 Try.f7 rfl rfl rfl rfl rfl rfl rfl ⟨rfl, rfl, rfl, rfl, rfl⟩ rfl rfl rfl rfl rfl (by kernel_rfl) Try.func7 (by kernel_rfl)
    (of_decide_eq_true (by kernel_rfl)) (by unfold Func.isWrapper; first | (rw [if_pos (by decide +kernel)]; kernel_rfl) | (rw [if_neg (by decide +kernel)]; exact ⟨rfl, rfl⟩))
    (fun os started H enc _ => lifted os started H enc)

theorem proved : Rows.PrimeRootsSaid := over

end Go.Proofs.Ytjlcbejgmjiffaa.primeRoots
