/- For any prime, Generator returns the minimum generator, or ErrArg. No condition. -/
import Derived.Test.YtjlcbejgmjiffaaWalkAwake
import Derived.ProofKit
import Derived.OpenShut
namespace Go.Proofs.Ytjlcbejgmjiffaa.primeGenerators
open Go.ChangeShapes Go.WideShapes Go.ChangeAt Go.RowKit

theorem own : ownKnob Try.prog.godebug = none := by kernel_rfl


set_option maxRecDepth 100000 in
set_option maxHeartbeats 1000000 in
theorem walk_no (p : Int) (w : World) (h : Hid (¬ PrI p)) : Calls Try.prog 8 #[.int .i64 p] w fun e w' => e = .returned (.bool true) ∧ Below w.heap.size w w' := by
  go_enter Try.func8, Try.ntmps8
  go_wp2_with (first
    | (go_at_call 32; refine (Generator_no p _ h).mono ?_; rintro e w1 ⟨rfl, hB⟩; have HB1 := Lib.hid hB; clear hB)
    | (go_at_call 21; refine (Prime_no p _ h).mono ?_; rintro e w' ⟨rfl, rfl⟩)
    | (go_at_call 19; refine (awake_is _).mono ?_; rintro e w3 ⟨rfl, hB⟩; have HB3 := Lib.hid hB; clear hB))
  go_ret
  exact ⟨rfl, HB1.out.trans (HB3.out.mono HB1.out.size)⟩

theorem ord_of_gen {g p : Nat} {L : List (Nat × Nat)} (hp : M.Pr p) (h1 : 1 ≤ g) (h2 : g < p) (hL : M.IsFac (p - 1) L) (h : genB g p (L.map (·.1)) = true) : M.IsOrd g (p - 1) p := by
  have hp2 := hp.1
  have h1p := M.mod_of_one_lt hp2
  refine M.isOrd_of (by omega) (by rw [h1p]; exact M.fermat hp (M.not_dvd_of_lt h1 h2)) fun q hq hd => ?_
  rw [h1p]
  exact (genB_iff hL).1 h q hq hd

theorem gen_of_ord {g p : Nat} {L : List (Nat × Nat)} (hp : M.Pr p) (hL : M.IsFac (p - 1) L) (h : M.IsOrd g (p - 1) p) : genB g p (L.map (·.1)) = true := by
  have h1p := M.mod_of_one_lt hp.1
  refine (genB_iff hL).2 fun q hq hd => ?_
  have := M.isOrd_div h hq.1 hd
  rwa [h1p] at this

set_option maxRecDepth 100000 in
set_option maxHeartbeats 1000000 in
theorem walk_yes (p G : Nat) (L : List (Nat × Nat)) (w : World) (h : Hid (PrI p)) (hL : Hid (M.IsFac (p - 1) L)) (hG1 : 1 ≤ G) (hG2 : G < p) (hG : Hid (genB G p (L.map (·.1)) = true ∧ ∀ g, 1 ≤ g → g < G → genB g p (L.map (·.1)) = false)) : Calls Try.prog 8 #[.int .i64 p] w fun e w' => e = .returned (.bool true) ∧ Below w.heap.size w w' := by
  have hm := h.out.2.1
  have hp2 := h.out.1
  have hpr : Hid (M.Pr p) := by have := h.out.2.2; rw [Int.toNat_natCast] at this; exact this
  have hL2 : Hid (M.IsFac ((p : Int).toNat - 1) L) := by rw [Int.toNat_natCast]; exact hL
  have hord : Hid (M.IsOrd (G : Int).toNat (p - 1) (p : Int).toNat) := by rw [Int.toNat_natCast, Int.toNat_natCast]; exact ord_of_gen hpr.out hG1 hG2 hL.out hG.out.1
  have hfer : ∀ k : Nat, 1 ≤ k → k < p → Hid ((k : Int).toNat ^ ((p : Int).toNat - 1) % (p : Int).toNat = 1 % (p : Int).toNat) := fun k h1 h2 => by
    show _ = _
    rw [Int.toNat_natCast, Int.toNat_natCast, M.fermat hpr.out (M.not_dvd_of_lt h1 h2), M.mod_of_one_lt hpr.out.1]
  have HFER := Lib.hid hfer
  clear hfer
  have hpm : (((p - 1 : Nat) : Int) != (p : Int) - 1) = false := by rw [bne_eq_false_iff_eq]; omega
  have hg1 : decide ((G : Int) < 1) = false := by simp; omega
  have hg2 : decide (p ≤ G) = false := by simp; omega
  have hpc : Hid (((p - 1 : Nat) : Int) = (p : Int) - 1) := by show _ = _; omega
  go_enter Try.func8, Try.ntmps8
  go_wp2_with (fail)
  refine (Generator_ok p G L _ h hL hG1 hG2 hG).mono ?_
  rintro e w1 ⟨rfl, hB⟩
  have HB1 := Lib.hid hB
  clear hB
  go_wp2_with (go_at_call 21; refine (Prime_yes p _ h).mono ?_; rintro e w' ⟨rfl, rfl⟩)
  refine (refOrder_any G p (p - 1) L _ (by omega) (by omega) (by omega) (by omega) hL2 hord (HFER.out G hG1 hG2)).mono ?_
  rintro e w2 ⟨rfl, hB⟩
  have HB2 := Lib.hid (HB1.out.trans (hB.mono HB1.out.size))
  clear hB
  go_wp2_with (fail)
  go_loopw [5] (fun i wr => ∃ (k : Nat), i = .int .i64 k ∧ 1 ≤ k ∧ k ≤ G ∧ Below w.heap.size w wr) (fun i _ => G - (intOf i).toNat)
  case atStart => exact ⟨1, rfl, by omega, by omega, HB2.out⟩
  case round =>
    obtain ⟨k, rfl, hk1, hk2, hB⟩ := hrel
    have HB3 := Lib.hid hB
    clear hB
    by_cases hlt : k < G ∧ k < 300
    · obtain ⟨l1, l2⟩ := hlt
      obtain ⟨o, ho'⟩ := M.exists_ord (a := k) (n := p - 1) (m := p) (by omega) (by have := HFER.out k hk1 (by omega); rw [Int.toNat_natCast, Int.toNat_natCast] at this; exact this)
      have ho : Hid (M.IsOrd (k : Int).toNat o (p : Int).toNat) := by rw [Int.toNat_natCast, Int.toNat_natCast]; exact ho'
      have hne : ((o : Int) == (p : Int) - 1) = false := by
        rw [beq_eq_false_iff_ne]
        intro e
        have hoe : o = p - 1 := by omega
        subst hoe
        have h1 := gen_of_ord hpr.out hL.out ho'
        rw [hG.out.2 k hk1 l1] at h1
        cases h1
      clear ho'
      go_wp2_with (go_at_call 33; refine (refOrder_any k p o L _ (by omega) (by omega) (by omega) (by omega) hL2 ho (HFER.out k hk1 (by omega))).mono ?_; rintro e w3 ⟨rfl, hB⟩; have HB4 := Lib.hid hB; clear hB)
      go_roundw
      case rel => exact ⟨k + 1, by go_num, by omega, by omega, HB3.out.trans (HB4.out.mono HB3.out.size)⟩
      case measure => simp [intOf]; omega
    · by_cases l1 : k < G
      · have l2 : ¬ k < 300 := fun hc => hlt ⟨l1, hc⟩
        have hd : decide ((k : Int) < 300) = false := by simp; omega
        clear hlt
        go_wp2_with (first
          | (go_at_call 19; refine (awake_is _).mono ?_; rintro e w4 ⟨rfl, hB⟩; have HB5 := Lib.hid hB; clear hB))
        go_ret
        exact ⟨rfl, HB3.out.trans (HB5.out.mono HB3.out.size)⟩
      · have hd : decide ((k : Int) < (G : Int)) = false := by simp; omega
        clear hlt
        go_wp2_with (first
          | (go_at_call 19; refine (awake_is _).mono ?_; rintro e w4 ⟨rfl, hB⟩; have HB5 := Lib.hid hB; clear hB))
        go_ret
        exact ⟨rfl, HB3.out.trans (HB5.out.mono HB3.out.size)⟩

theorem walk (p : Int) (_wp : (Lit.int .i64 p).wf = true) (w : World) : Calls Try.prog 8 #[.int .i64 p] w fun e w' => e = .returned (.bool true) ∧ Below w.heap.size w w' := by
  by_cases h : PrI p
  · obtain ⟨P, rfl⟩ := Int.eq_ofNat_of_zero_le (show 0 ≤ p by have := h.1; omega)
    have hpr : M.Pr P := by have := h.2.2; rw [Int.toNat_natCast] at this; exact this
    obtain ⟨L, hL⟩ := M.exists_fac (P - 1) (by have := hpr.1; omega)
    obtain ⟨G, h1, h2, h3, h4⟩ := least_gen hpr hL
    exact walk_yes P G L w h hL h1 h2 ⟨h3, h4⟩
  · exact walk_no p w h


set_option maxRecDepth 100000 in
theorem lifted (os : Os) (started : os.Started) (H : Type) (enc : TypeId × Value → H) :
    ReturnsInHanded {} Try.checked os 8 .any (Rows.primeGeneratorsSpec.pre6 enc Try.prog Try.f8 Rows.primeGeneratorsRow.domain false) (Rows.primeGeneratorsSpec.post enc Try.prog Try.f8 false true false false) := by
  refine returnsInHanded_of_change (C := Try.checked) own started (by kernel_rfl) Try.func8
    (ChangeSpec.witness6 (enc := enc) (C := Try.checked) false ⟨#[], #[.int .i64 0], []⟩ 8 (by kernel_rfl) (by kernel_rfl) (by kernel_rfl) (by kernel_rfl)) ?_
  intro W base args ds gs before hval0 hW hcnd _
  have hval : ∀ (j : Nat) t v, Try.f8.params[j]? = some t → args[j]? = some v → Value.okWide Try.prog W .any base t v := hval0
  have hW' := hW
  obtain ⟨p, q, hA0, hV, rfl, hfz, hnd⟩ := hW
  have hA : DataW.TrodAll enc Try.prog W 0 (fun _ => true) true Try.f8.params.toList args.toList ds p := hA0
  rw [Try.params8] at hA hval
  obtain ⟨v0, vs0, d0, ds0, p0, q0, hargs, rfl, rfl, h0, r0⟩ := trodAll_cons hA
  obtain ⟨rfl, rfl, rfl⟩ := trodAll_nil r0
  obtain rfl : args = #[v0] := by cases args; simp_all
  obtain ⟨rfl, rfl⟩ := trodVars_none hV
  obtain ⟨a0, rfl, rfl, rfl, w0⟩ := open_int Try.underlying3 (hval 0 3 v0 rfl rfl) h0
  clear hA0 hval0
  simp only [List.append_nil] at hW'
  refine (walk a0 w0 W).mono fun e W' ⟨he, hg⟩ => ?_
  subst he
  exact ⟨_, rfl, _, _, _, [], [], [], hW', trodAll_cons_mk (shut_bool Try.underlying4 _) trodAll_mk0, trodAll_cons_mk (shut_int Try.underlying3 w0) trodAll_mk0, rfl, hg.frame _, fun h => by cases h⟩

theorem over : Rows.primeGeneratorsRow.holds Try.pinned (OpenSpec.ofChange Rows.primeGeneratorsSpec) :=
  OpenClaim.holds_of_wide 8 Try.f8 rfl rfl rfl rfl rfl rfl rfl ⟨rfl, rfl, rfl, rfl, rfl⟩ rfl rfl rfl rfl rfl (by kernel_rfl) Try.func8 (by kernel_rfl)
    (of_decide_eq_true (by kernel_rfl)) (by unfold Func.isWrapper; first | (rw [if_pos (by decide +kernel)]; kernel_rfl) | (rw [if_neg (by decide +kernel)]; exact ⟨rfl, rfl⟩))
    (fun os started H enc _ => lifted os started H enc)

theorem proved : Rows.PrimeGeneratorsSaid := over

end Go.Proofs.Ytjlcbejgmjiffaa.primeGenerators
