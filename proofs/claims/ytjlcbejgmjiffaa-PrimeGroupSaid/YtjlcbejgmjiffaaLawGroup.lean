/- Powers add their exponents, logarithms to a generator map products to sums, orders divide p - 1, a root of a square is one of two. No condition. -/
import Derived.Test.YtjlcbejgmjiffaaWalkMod
import Derived.ProofKit
import Derived.OpenShut
namespace Go.Proofs.Ytjlcbejgmjiffaa.primeGroup
open Go.ChangeShapes Go.WideShapes Go.ChangeAt Go.RowKit

theorem own : ownKnob Try.prog.godebug = none := by kernel_rfl


theorem pr_of_sq {n : Nat} (h2 : 2 ≤ n) (h : ∀ d, d * d ≤ n → 2 ≤ d → n % d ≠ 0) : M.Pr n := by
  refine ⟨h2, fun d hd => ?_⟩
  obtain ⟨c, hc⟩ := hd
  have hd0 : 0 < d := by apply Nat.pos_of_ne_zero; intro e; subst e; omega
  have hc0 : 0 < c := by apply Nat.pos_of_ne_zero; intro e; subst e; omega
  by_cases h1 : d = 1
  · exact .inl h1
  · by_cases hn : c = 1
    · subst hn; exact .inr (by omega)
    · exfalso
      rcases Nat.le_total d c with hl | hl
      · exact h d (by rw [hc]; exact Nat.mul_le_mul_left d hl) (by omega) (Nat.mod_eq_zero_of_dvd ⟨c, hc⟩)
      · exact h c (by rw [hc]; exact Nat.mul_le_mul_right c hl) (by omega) (Nat.mod_eq_zero_of_dvd ⟨d, by rw [hc, Nat.mul_comm]⟩)

theorem pr100003 : M.Pr 100003 := by
  refine pr_of_sq (by omega) fun d hd h2 => ?_
  have hlt : d < 317 := by
    refine Classical.byContradiction fun hc => ?_
    have : 317 * 317 ≤ d * d := Nat.mul_le_mul (by omega) (by omega)
    omega
  have : ∀ d, d < 317 → 2 ≤ d → 100003 % d ≠ 0 := by decide +kernel
  exact this d hlt h2

theorem next_prime (p0 : Nat) (h : p0 ≤ 100000) : ∃ P, p0 ≤ P ∧ P ≤ 100003 ∧ M.Pr P ∧ ∀ q, p0 ≤ q → q < P → ¬ M.Pr q := by
  suffices H : ∀ b P, P ≤ b → p0 ≤ P → P ≤ 100003 → M.Pr P → ∃ P, p0 ≤ P ∧ P ≤ 100003 ∧ M.Pr P ∧ ∀ q, p0 ≤ q → q < P → ¬ M.Pr q from H 100003 100003 (Nat.le_refl _) (by omega) (by omega) pr100003
  intro b
  induction b with
  | zero => intro P h0 _ _ hp; have := hp.1; omega
  | succ b ih =>
    intro P hb h1 h2 hp
    by_cases hq : ∃ q, p0 ≤ q ∧ q < P ∧ M.Pr q
    · obtain ⟨q, q1, q2, q3⟩ := hq
      exact ih q (by omega) q1 (by omega) q3
    · exact ⟨P, h1, h2, hp, fun q q1 q2 q3 => hq ⟨q, q1, q2, q3⟩⟩

/-- All that the law asks of a, b and the generator. -/
theorem logs_of {G P a : Nat} {L : List (Nat × Nat)} (hp : M.Pr P) (hG1 : 1 ≤ G) (hG2 : G < P) (hL : M.IsFac (P - 1) L) (hG : genB G P (L.map (·.1)) = true) (ha : 1 ≤ a) (hap : a < P) : M.IsOrd G (P - 1) P ∧ ∃ k, k < P - 1 ∧ a = G ^ k % P := by
  have h1p := M.mod_of_one_lt hp.1
  have ho : M.IsOrd G (P - 1) P := by
    refine M.isOrd_of (by have := hp.1; omega) (by rw [h1p]; exact M.fermat hp (M.not_dvd_of_lt hG1 hG2)) fun q hq hd => ?_
    rw [h1p]
    exact (genB_iff hL).1 hG q hq hd
  exact ⟨ho, ho.log hp hap (M.fermat hp (M.not_dvd_of_lt ha hap))⟩

theorem root_two {x a p : Nat} (hp : M.Pr p) (hx : x < p) (ha1 : 1 ≤ a) (ha : a < p) (h : x * x % p = a * a % p) : x = a ∨ x = p - a := by
  have h1 : (p : Int) ∣ ((x : Int) - a) * ((x : Int) + a) := by
    have h2 : (((x * x : Nat) : Int) - ((a * a : Nat) : Int)) % (p : Int) = 0 := by
      rw [Int.sub_emod]
      have e1 : ((x * x : Nat) : Int) % (p : Int) = ((x * x % p : Nat) : Int) := by simp
      have e2 : ((a * a : Nat) : Int) % (p : Int) = ((a * a % p : Nat) : Int) := by simp
      rw [e1, e2, h, Int.sub_self, Int.zero_emod]
    have h3 : ((x : Int) - a) * ((x : Int) + a) = ((x * x : Nat) : Int) - ((a * a : Nat) : Int) := by
      rw [Int.natCast_mul, Int.natCast_mul]; grind
    rw [h3]
    exact Int.dvd_of_emod_eq_zero h2
  rcases hp.int_dvd_mul h1 with hd | hd
  · left
    obtain ⟨c, hc⟩ := hd
    rcases (show c < 0 ∨ c = 0 ∨ 0 < c by omega) with h4 | h4 | h4
    · have : (p : Int) * c ≤ p * (-1) := Int.mul_le_mul_of_nonneg_left (by omega) (by omega)
      omega
    · subst h4; simp at hc; omega
    · have : (p : Int) * 1 ≤ p * c := Int.mul_le_mul_of_nonneg_left (by omega) (by omega)
      omega
  · right
    obtain ⟨c, hc⟩ := hd
    rcases (show c ≤ 0 ∨ c = 1 ∨ 2 ≤ c by omega) with h4 | h4 | h4
    · have : (p : Int) * c ≤ p * 0 := Int.mul_le_mul_of_nonneg_left (by omega) (by omega)
      omega
    · subst h4; omega
    · have : (p : Int) * 2 ≤ p * c := Int.mul_le_mul_of_nonneg_left (by omega) (by omega)
      omega

set_option maxRecDepth 100000 in
set_option maxHeartbeats 2000000 in
theorem walk (p a b : Int) (_wp : (Lit.int .i64 p).wf = true) (_wa : (Lit.int .i64 a).wf = true) (_wb : (Lit.int .i64 b).wf = true) (w : World) : Calls Try.prog 13 #[.int .i64 p, .int .i64 a, .int .i64 b] w fun e w' => e = .returned (.bool true) ∧ Below w.heap.size w w' := by
  have hn := numv_bd p 100000 (by omega)
  obtain ⟨p0, hp0⟩ := Int.eq_ofNat_of_zero_le (show 0 ≤ numv p 100000 by omega)
  rw [hp0] at hn
  obtain ⟨P, hP1, hP2, hP3, hP4⟩ := next_prime p0 (by omega)
  have hP0 := hP3.1
  have HP := Lib.hid hP3
  have HP4 := Lib.hid hP4
  have HPI : Hid (PrI P) := ⟨by omega, by omega, by rw [Int.toNat_natCast]; exact hP3⟩
  have HN := Lib.hid hp0
  clear hP3 hP4 hp0
  go_enter Try.func13, Try.ntmps13
  go_wp2_with (fail)
  refine (number_is p 100000 _ (by omega) (by omega)).mono ?_
  rintro e w' ⟨rfl, rfl⟩
  rw [HN.out]
  go_wp2_with (fail)
  go_loop [0] (fun x => ∃ q : Nat, x = .int .i64 q ∧ p0 ≤ q ∧ q ≤ P) (fun x => P - (intOf x).toNat)
  case atStart => exact ⟨p0, rfl, by omega, hP1⟩
  case round =>
    obtain ⟨q, rfl, hq1, hq2⟩ := hrel
    by_cases hlt : q < P
    · have hno : Hid (¬ PrI q) := fun h => HP4.out q hq1 hlt (by have := h.2.2; rwa [Int.toNat_natCast] at this)
      go_wp2_with (go_at_call 21; refine (Prime_no q _ hno).mono ?_; rintro e w' ⟨rfl, rfl⟩)
      go_round
      case rel => exact ⟨q + 1, by go_num, by omega, by omega⟩
      case measure => simp [intOf]; omega
    · obtain rfl : q = P := by omega
      have ha := modv_bd a ((q : Int) - 1) (by omega)
      have hb := modv_bd b ((q : Int) - 1) (by omega)
      go_wp2_with (go_at_call 21; refine (Prime_yes q _ HPI).mono ?_; rintro e w' ⟨rfl, rfl⟩)
      refine (mod_is a ((q : Int) - 1) _ (by omega) (by omega)).mono ?_
      rintro e w' ⟨rfl, rfl⟩
      go_wp2_with (fail)
      refine (mod_is b ((q : Int) - 1) _ (by omega) (by omega)).mono ?_
      rintro e w' ⟨rfl, rfl⟩
      obtain ⟨A0, hA0⟩ := Int.eq_ofNat_of_zero_le ha.1
      obtain ⟨B0, hB0⟩ := Int.eq_ofNat_of_zero_le hb.1
      rw [hA0] at ha ⊢
      rw [hB0] at hb ⊢
      clear hA0 hB0
      go_wp2_with (fail)
      obtain ⟨A, hA⟩ : ∃ A : Nat, (1 : Int) + (A0 : Int) = (A : Int) := ⟨1 + A0, by omega⟩
      obtain ⟨B, hB⟩ : ∃ B : Nat, (1 : Int) + (B0 : Int) = (B : Int) := ⟨1 + B0, by omega⟩
      rw [hA, hB]
      have hA1 : 1 ≤ A := by omega
      have hA2 : A < q := by omega
      have hB1 : 1 ≤ B := by omega
      have hB2 : B < q := by omega
      clear hA hB ha hb hn hq1 hq2 hP1 hlt
      obtain ⟨L, hL'⟩ := M.exists_fac (q - 1) (by omega)
      obtain ⟨G, hG1, hG2, hG3, hG4⟩ := least_gen HP.out hL'
      obtain ⟨hoG', x, hx, hax'⟩ := logs_of HP.out hG1 hG2 hL' hG3 hA1 hA2
      obtain ⟨_, y, hy, hby'⟩ := logs_of HP.out hG1 hG2 hL' hG3 hB1 hB2
      have hL := Lib.hid hL'
      have hoG := Lib.hid hoG'
      have hax := Lib.hid hax'
      have hby := Lib.hid hby'
      have hGG := Lib.hid (And.intro hG3 hG4)
      clear hL' hoG' hax' hby' hG3 hG4
      have habp : 1 ≤ A * B % q ∧ A * B % q < q := by
        refine ⟨Nat.pos_of_ne_zero fun e => ?_, Nat.mod_lt _ (by omega)⟩
        rcases HP.out.dvd_mul (Nat.dvd_of_mod_eq_zero e) with h | h
        · exact M.not_dvd_of_lt hA1 hA2 h
        · exact M.not_dvd_of_lt hB1 hB2 h
      have haap : 1 ≤ A * A % q ∧ A * A % q < q := by
        refine ⟨Nat.pos_of_ne_zero fun e => ?_, Nat.mod_lt _ (by omega)⟩
        rcases HP.out.dvd_mul (Nat.dvd_of_mod_eq_zero e) with h | h
        · exact M.not_dvd_of_lt hA1 hA2 h
        · exact M.not_dvd_of_lt hA1 hA2 h
      have hz : (x + y) % (q - 1) < q - 1 := Nat.mod_lt _ (by omega)
      have hzz : Hid (A * B % q = G ^ ((x + y) % (q - 1)) % q) := by
        show _ = _
        have h1 : G ^ (x + y) % q = G ^ ((x + y) % (q - 1)) % q := by
          have h2 := Nat.div_add_mod (x + y) (q - 1)
          rw [← M.pow_one_add (M.pow_one_mul hoG.out.one ((x + y) / (q - 1))) ((x + y) % (q - 1)), h2]
        rw [← h1, hax.out, hby.out, ← Nat.mul_mod, ← Nat.pow_add]
      have mAB := M.mul_bd A B q (by omega) (by omega) (by omega) (by omega) (by omega)
      have mAA := M.mul_bd A A q (by omega) (by omega) (by omega) (by omega) (by omega)
      obtain ⟨C, hC⟩ : ∃ C, A * B % q = C := ⟨_, rfl⟩
      obtain ⟨D, hD⟩ : ∃ D, A * A % q = D := ⟨_, rfl⟩
      obtain ⟨Z, hZ⟩ : ∃ Z, (x + y) % (q - 1) = Z := ⟨_, rfl⟩
      rw [hC] at habp hzz
      rw [hD] at haap
      rw [hZ] at hz hzz
      have hCc : (A : Int) * (B : Int) % (q : Int) = (C : Int) := by rw [mulmod_cast, hC]
      have hDc : (A : Int) * (A : Int) % (q : Int) = (D : Int) := by rw [mulmod_cast, hD]
      have hZc : ((x : Int) + (y : Int)) % ((q : Int) - 1) = (Z : Int) := by
        rw [← hZ, show ((q : Int) - 1) = ((q - 1 : Nat) : Int) by omega, ← Int.natCast_add]; rfl
      have HC := Lib.hid (And.intro hC (And.intro hD hZ))
      clear hC hD hZ
      have ht1 : ((Z : Int) != (Z : Int)) = false := by simp
      refine (Generator_ok q G L _ HPI hL hG1 hG2 hGG).mono ?_
      rintro e w1 ⟨rfl, hB⟩
      have HB1 := Lib.hid hB
      clear hB
      go_wp2_with (fail)
      refine (Log_ok G A q (q - 1) x _ hG1 hG2 hA1 hA2 HPI hoG (by omega) hx hax).mono ?_
      rintro e w2 ⟨rfl, hB⟩
      have HB2 := Lib.hid (HB1.out.trans (hB.mono HB1.out.size))
      clear hB
      go_wp2_with (fail)
      refine (Log_ok G B q (q - 1) y _ hG1 hG2 hB1 hB2 HPI hoG (by omega) hy hby).mono ?_
      rintro e w3 ⟨rfl, hB⟩
      have HB3 := Lib.hid (HB2.out.trans (hB.mono HB2.out.size))
      clear hB
      go_wp2_with (fail)
      refine (Log_ok G C q (q - 1) Z _ hG1 hG2 habp.1 habp.2 HPI hoG (by omega) hz hzz).mono ?_
      rintro e w4 ⟨rfl, hB⟩
      have HB4 := Lib.hid (HB3.out.trans (hB.mono HB3.out.size))
      clear hB
      go_wp2_with (fail)
      clear hzz habp hx hz
      obtain ⟨U, hU⟩ : ∃ U, A ^ B % q = U := ⟨_, rfl⟩
      obtain ⟨V, hV⟩ : ∃ V, A ^ y % q = V := ⟨_, rfl⟩
      obtain ⟨S, hS⟩ : ∃ S, A ^ (B + y) % q = S := ⟨_, rfl⟩
      have hUq : U < q := by rw [← hU]; exact Nat.mod_lt _ (by omega)
      have hVq : V < q := by rw [← hV]; exact Nat.mod_lt _ (by omega)
      have hUV : (U : Int) * (V : Int) % (q : Int) = (S : Int) := by
        rw [mulmod_cast, ← hU, ← hV, ← Nat.mul_mod, ← Nat.pow_add, hS]
      have mUV := M.mul_bd U V q (by omega) (by omega) (by omega) (by omega) (by omega)
      have ht2 : ((S : Int) != (S : Int)) = false := by simp
      have HU := Lib.hid hU
      have HV := Lib.hid hV
      have HS := Lib.hid hS
      clear hU hV hS
      have hf := M.fermat HP.out (M.not_dvd_of_lt hA1 hA2)
      have h1p := M.mod_of_one_lt HP.out.1
      obtain ⟨o, ho'⟩ := M.exists_ord (a := A) (n := q - 1) (m := q) (by omega) (by rw [h1p]; exact hf)
      have hod := ho'.dvd (n := q - 1) (by rw [h1p]; exact hf)
      have ho1 := ho'.pos
      have hole := Nat.le_of_dvd (by omega) hod
      have hom : ((q : Int) - 1) % (o : Int) = 0 := by
        rw [show ((q : Int) - 1) = ((q - 1 : Nat) : Int) by omega]
        exact Int.emod_eq_zero_of_dvd (by exact_mod_cast hod)
      have hd1 : decide ((o : Int) < 1) = false := by simp; omega
      have ho : Hid (M.IsOrd (A : Int).toNat o (q : Int).toNat) := by rw [Int.toNat_natCast, Int.toNat_natCast]; exact ho'
      obtain ⟨i, hi0, hi1, hi'⟩ := M.exists_inv (a := (A : Int)) (m := (q : Int)) (by omega) (by omega) (by
        rw [Int.toNat_natCast, Int.toNat_natCast]
        exact M.coprime_of_pow ho'.pos ho'.one)
      have hi := Lib.hid hi'
      have hiA : i * (A : Int) % (q : Int) = 1 := by
        rw [Int.mul_comm, hi']; exact Int.emod_eq_of_lt (by omega) (by omega)
      have miA := M.mul_bd i A q hi0 hi1 (by omega) (by omega) (by omega)
      have hFq : Hid (M.IsFac (q : Int).toNat [(q, 1)]) := by rw [Int.toNat_natCast]; exact fac_prime HP.out
      have hFL : Hid (M.IsFac (M.phiP [(q, 1)]) L) := by rw [phi_prime]; exact hL
      clear hf h1p ho' hod hi'
      refine (Pow_ok A B q _ (by omega) (by omega) (by omega) (by omega) (by omega)).mono ?_
      rintro e w' ⟨rfl, rfl⟩
      rw [pw_nat, HU.out]
      go_wp2_with (fail)
      refine (Pow_ok A y q _ (by omega) (by omega) (by omega) (by omega) (by omega)).mono ?_
      rintro e w' ⟨rfl, rfl⟩
      rw [pw_nat, HV.out]
      go_wp2_with (fail)
      rw [show (B : Int) + (y : Int) = ((B + y : Nat) : Int) by omega]
      refine (Pow_ok A ((B + y : Nat) : Int) q _ (by omega) (by omega) (by omega) (by omega) (by omega)).mono ?_
      rintro e w' ⟨rfl, rfl⟩
      rw [pw_nat, HS.out]
      go_wp2_with (fail)
      refine (Ord_ok A q o [(q, 1)] L _ (by omega) (by omega) (by omega) hFq hFL ho).mono ?_
      rintro e w5 ⟨rfl, hB⟩
      have HB5 := Lib.hid (HB4.out.trans (hB.mono HB4.out.size))
      clear hB
      go_wp2_with (fail)
      refine (Inv_ok A q i _ (by omega) (by omega) (by omega) hi0 hi1 hi).mono ?_
      rintro e w' ⟨rfl, n5, rfl⟩
      go_wp2_with (fail)
      have hroot : Calls Try.prog 31 #[.int .i64 D, .int .i64 q] (w5.drewN n5) (RootOk D q (w5.drewN n5)) := by
        by_cases h2 : q = 2
        · exact Root_easy D q _ (by omega) (by omega) HPI (.inr (by omega))
        · refine Root_ok D q _ (by omega) (by omega) (by omega) HPI ?_
          rw [beq_iff_eq, show ((q : Int) - 1) / 2 = (((q - 1) / 2 : Nat) : Int) by omega, pw_nat, ← HC.out.2.1, M.pow_zmod' A q]
          have hodd := M.odd_prime HP.out (by omega)
          rw [← Nat.pow_mul, show 2 * ((q - 1) / 2) = q - 1 by omega, M.fermat HP.out (M.not_dvd_of_lt hA1 hA2)]
          rfl
      refine hroot.mono ?_
      rintro e w6 ⟨r, rfl, r0, rq, hr, hrle, hB⟩
      have HB6 := Lib.hid ((below_drewN HB5.out n5).trans (hB.mono (below_drewN HB5.out n5).size))
      obtain ⟨R, rfl⟩ := Int.eq_ofNat_of_zero_le r0
      have hR : R * R % q = A * A % q := by
        rw [HC.out.2.1]; rw [mulmod_cast] at hr; omega
      have hrt := root_two HP.out (by omega) hA1 hA2 hR
      have hR0 : R ≠ 0 := by
        intro e0; subst e0
        rw [HC.out.2.1] at hR; simp at hR; omega
      have hle2 : (R : Int) ≤ (q : Int) - (R : Int) := by omega
      have hdl : decide ((R : Int) ≤ (q : Int) - (R : Int)) = true := by simpa using hle2
      clear hB hr hrle hR hroot
      by_cases hRA : R = A
      · have ht3 : ((R : Int) == (A : Int)) = true := by simp [hRA]
        clear hrt hRA
        go_wp2_with (go_at_call 19; refine (awake_is _).mono ?_; rintro e w7 ⟨rfl, hB⟩; have HB7 := Lib.hid hB; clear hB)
        go_ret
        exact ⟨rfl, HB6.out.trans (HB7.out.mono HB6.out.size)⟩
      · have ht3 : ((R : Int) == (A : Int)) = false := by simp; omega
        have ht4 : ((R : Int) == (q : Int) - (A : Int)) = true := by rw [beq_iff_eq]; omega
        clear hrt hRA
        go_wp2_with (go_at_call 19; refine (awake_is _).mono ?_; rintro e w7 ⟨rfl, hB⟩; have HB7 := Lib.hid hB; clear hB)
        go_ret
        exact ⟨rfl, HB6.out.trans (HB7.out.mono HB6.out.size)⟩


set_option maxRecDepth 100000 in
theorem lifted (os : Os) (started : os.Started) (H : Type) (enc : TypeId × Value → H) :
    ReturnsInHanded {} Try.checked os 13 .any (Rows.primeGroupSpec.pre6 enc Try.prog Try.f13 Rows.primeGroupRow.domain false) (Rows.primeGroupSpec.post enc Try.prog Try.f13 false true false false) := by
  refine returnsInHanded_of_change (C := Try.checked) own started (by kernel_rfl) Try.func13
    (ChangeSpec.witness6 (enc := enc) (C := Try.checked) false ⟨#[], #[.int .i64 0, .int .i64 0, .int .i64 0], []⟩ 8 (by kernel_rfl) (by kernel_rfl) (by kernel_rfl) (by kernel_rfl)) ?_
  intro W base args ds gs before hval0 hW hcnd _
  have hval : ∀ (j : Nat) t v, Try.f13.params[j]? = some t → args[j]? = some v → Value.okWide Try.prog W .any base t v := hval0
  have hW' := hW
  obtain ⟨p, q, hA0, hV, rfl, hfz, hnd⟩ := hW
  have hA : DataW.TrodAll enc Try.prog W 0 (fun _ => true) true Try.f13.params.toList args.toList ds p := hA0
  rw [Try.params13] at hA hval
  obtain ⟨v0, vs0, d0, ds0, p0, q0, hargs, rfl, rfl, h0, r0⟩ := trodAll_cons hA
  obtain ⟨v1, vs1, d1, ds1, p1, q1, rfl, rfl, rfl, h1, r1⟩ := trodAll_cons r0
  obtain ⟨v2, vs2, d2, ds2, p2, q2, rfl, rfl, rfl, h2, r2⟩ := trodAll_cons r1
  obtain ⟨rfl, rfl, rfl⟩ := trodAll_nil r2
  obtain rfl : args = #[v0, v1, v2] := by cases args; simp_all
  obtain ⟨rfl, rfl⟩ := trodVars_none hV
  obtain ⟨a0, rfl, rfl, rfl, w0⟩ := open_int Try.underlying3 (hval 0 3 v0 rfl rfl) h0
  obtain ⟨a1, rfl, rfl, rfl, w1⟩ := open_int Try.underlying3 (hval 1 3 v1 rfl rfl) h1
  obtain ⟨a2, rfl, rfl, rfl, w2⟩ := open_int Try.underlying3 (hval 2 3 v2 rfl rfl) h2
  clear hA0 hval0
  simp only [List.append_nil] at hW'
  refine (walk a0 a1 a2 w0 w1 w2 W).mono fun e W' ⟨he, hg⟩ => ?_
  subst he
  exact ⟨_, rfl, _, _, _, [], [], [], hW', trodAll_cons_mk (shut_bool Try.underlying4 _) trodAll_mk0, trodAll_cons_mk (shut_int Try.underlying3 w0) (trodAll_cons_mk (shut_int Try.underlying3 w1) (trodAll_cons_mk (shut_int Try.underlying3 w2) trodAll_mk0)), rfl, hg.frame _, fun h => by cases h⟩

theorem over : Rows.primeGroupRow.holds Try.pinned (OpenSpec.ofChange Rows.primeGroupSpec) :=
  OpenClaim.holds_of_wide 13 Try.f13 rfl rfl rfl rfl rfl rfl rfl ⟨rfl, rfl, rfl, rfl, rfl⟩ rfl rfl rfl rfl rfl (by kernel_rfl) Try.func13 (by kernel_rfl)
    (of_decide_eq_true (by kernel_rfl)) (by unfold Func.isWrapper; first | (rw [if_pos (by decide +kernel)]; kernel_rfl) | (rw [if_neg (by decide +kernel)]; exact ⟨rfl, rfl⟩))
    (fun os started H enc _ => lifted os started H enc)

theorem proved : Rows.PrimeGroupSaid := over

end Go.Proofs.Ytjlcbejgmjiffaa.primeGroup
