/- Interpolating the values of a polynomial at as many points as it has coefficients returns the polynomial. No condition. -/
import Derived.Test.YtgnpohapmijfiaaG18
import Derived.Test.YtgnpohapmijfiaaG13
import Derived.Test.YtgnpohapmijfiaaG09
import Derived.ProofKit
import Derived.OpenShut
namespace Go.Proofs.Ytgnpohapmijfiaa.polyAgain
open Go.ChangeShapes Go.WideShapes Go.ChangeAt Go.RowKit

theorem own : ownKnob Try.prog.godebug = none := by kernel_rfl


/-- The points of the law. -/
def ptA (q r : Nat) (F : List Nat) (i : Nat) : Nat × Nat := ((r + i) % q, Q.valP q F ((r + i) % q))
def ptsA (q r : Nat) (F : List Nat) (k : Nat) : List (Nat × Nat) := (List.range k).map (ptA q r F)
theorem ptsA_len (q r : Nat) (F : List Nat) (k : Nat) : (ptsA q r F k).length = k := by simp [ptsA]
theorem ptsA_succ (q r : Nat) (F : List Nat) (k : Nat) : ptsA q r F (k + 1) = ptsA q r F k ++ [ptA q r F k] := by simp [ptsA, List.range_succ]
theorem ptsA_at (q r : Nat) (F : List Nat) (k i : Nat) (h : i < k) : Q.xAt (ptsA q r F k) i = (r + i) % q ∧ Q.yAt (ptsA q r F k) i = Q.valP q F ((r + i) % q) := by
  unfold Q.xAt Q.yAt ptsA
  simp [List.getD, h, ptA]
theorem ptsA_pts {q r : Nat} (hq : 2 ≤ q) (hr : r < q) (F : List Nat) {k : Nat} (hk : k ≤ q) : Q.Pts q (ptsA q r F k) := by
  refine ⟨fun i hi => ?_, fun i hi => ?_, fun i j hi hj => ?_⟩
  · rw [ptsA_len] at hi
    rw [(ptsA_at q r F k i hi).1]; exact Nat.mod_lt _ (by omega)
  · rw [ptsA_len] at hi
    rw [(ptsA_at q r F k i hi).2]; exact Q.val_lt (by omega) _ _
  · rw [ptsA_len] at hi
    rw [(ptsA_at q r F k j (by omega)).1, (ptsA_at q r F k i hi).1]
    intro e
    have h1 : r + j < 2 * q := by omega
    have h2 : r + i < 2 * q := by omega
    have m1 : (r + j) % q = if r + j < q then r + j else r + j - q := by
      split
      · exact Nat.mod_eq_of_lt (by omega)
      · rw [Nat.mod_eq_sub_mod (by omega)]; exact Nat.mod_eq_of_lt (by omega)
    have m2 : (r + i) % q = if r + i < q then r + i else r + i - q := by
      split
      · exact Nat.mod_eq_of_lt (by omega)
      · rw [Nat.mod_eq_sub_mod (by omega)]; exact Nat.mod_eq_of_lt (by omega)
    rw [m1, m2] at e
    split at e <;> split at e <;> omega

theorem flatP_push (L : List (Nat × Nat)) (q : Nat × Nat) : flatP (upP (L ++ [q])) = flatP (upP L) ++ [.int .i64 (q.1 : Int), .int .i64 (q.2 : Int)] := by simp [flatP, upP]

theorem Try.infoA : (Try.prog.info? 48).map (fun i => (i.zero, i.size, i.bytes)) = some (some (.agg #[.int .i64 0, .int .i64 0]), 2, 16) := by kernel_rfl

set_option maxRecDepth 100000 in
set_option maxHeartbeats 8000000 in
theorem walk (p : Int) (v : Value) (Z : List Int) (fr : Int) (w : World) (hv : Hid (ArgI w v Z)) :
    Calls Try.prog 15 #[.int .i64 p, v, .int .i64 fr] w fun e w' => e = .returned (.bool true) ∧ Below w.heap.size w w' := by
  obtain ⟨xa, na, ca, hsa⟩ := hv.out.form
  subst hsa
  obtain ⟨i1, hi1, hy0, hy1, hy2⟩ := info_parts Try.infoA
  go_enter Try.func15, Try.ntmps15
  go_wp2_with (fail)
  refine (field_is p w).mono ?_
  rintro e wz ⟨⟨q, rfl, hP0, hq⟩, hw⟩
  subst hw
  have HP := Lib.hid hP0
  have hp2 : 2 ≤ q := hP0.1
  clear hP0
  obtain ⟨M, hM⟩ : ∃ M, M = min q 33 := ⟨_, rfl⟩
  have hm1 : min (q : Int) 33 = (M : Int) := by omega
  have hm2 : (if (33 : Int) < (q : Int) then (33 : Int) else (q : Int)) = (M : Int) := by split <;> omega
  have hm3 : (if (q : Int) ≤ 33 then (q : Int) else (33 : Int)) = (M : Int) := by split <;> omega
  have hMq : M ≤ q := by omega
  have hM33 : M ≤ 33 := by omega
  have HMM := Lib.hid hM
  clear hM
  go_wp2_with (fail)
  refine (tame_is q M Z _ _ hp2 hq (by omega) hv).mono ?_
  rintro e w1 ⟨⟨vf, rfl, hN⟩, hB1⟩
  have HB1 := Lib.hid hB1
  obtain ⟨F, hF⟩ : ∃ F, F = Q.trim (Q.tameL q M Z) := ⟨_, rfl⟩
  have HPF : Hid (Q.Pol q F) := by rw [hF]; exact (Q.tameL_red (by omega) _ _).trim
  have hFl : F.length ≤ M := by rw [hF]; exact Q.tame_len q M Z
  rw [← hF] at hN
  have RF1 : Hid (Rd w1 vf 1 F.length (nats F)) := hN.rd
  obtain ⟨a1, c1, hvf⟩ := hN.rd.shape
  subst hvf
  have hbr := modv_bd fr q (by omega)
  obtain ⟨r, hr⟩ := Int.eq_ofNat_of_zero_le hbr.1
  rw [hr] at hbr
  have hrq : r < q := by omega
  have HR := Lib.hid hr
  have hzq : ((q : Int) == 0) = false := by simp; omega
  have HS0 : Hid (w1.ownsRow w1.heap.size 48 2 (.slice none 0 0) 0 (flatP (upP (ptsA q r F 0)))) := World.ownsRow_nil _ _ _ _
  obtain ⟨n, hn⟩ : ∃ n, n = F.length := ⟨_, rfl⟩
  have HN := Lib.hid hn
  rw [← hn] at hFl ⊢
  have RF1' : Hid (Rd w1 (.slice a1 n c1) 1 F.length (nats F)) := by show Rd _ _ _ _ _; rw [hn]; exact RF1.out
  clear hN hB1 hF hr hbr hn RF1 hv
  go_wp2_with (fail)
  go_loopw [8, 9] (fun lv iv wx => ∃ (k m cp : Nat) (a : Option Addr), lv = .slice a m cp ∧ iv = .int .i64 k ∧ k ≤ n ∧ Hid (m = k) ∧ Hid (wx.ownsRow w1.heap.size 48 2 (.slice a m cp) m (flatP (upP (ptsA q r F k)))) ∧ Hid (Below w1.heap.size w1 wx)) (fun _ iv _ => n - (intOf iv).toNat)
  case atStart => exact ⟨0, 0, 0, none, rfl, rfl, by omega, rfl, HS0, Below.refl _ _⟩
  case round =>
    obtain ⟨k, m, cp, a, rfl, rfl, hk, HM, HO, HB⟩ := hrel
    by_cases hlt : k < n
    · obtain ⟨x, hx⟩ : ∃ x, x = (r + k) % q := ⟨_, rfl⟩
      have hxq : x < q := by rw [hx]; exact Nat.mod_lt _ (by omega)
      have hxI : ((r : Int) + (k : Int)) % (q : Int) = (x : Int) := by rw [hx]; rfl
      obtain ⟨y, hy⟩ : ∃ y, y = Q.valP q F x := ⟨_, rfl⟩
      have HRF : Hid (Rd wr (.slice a1 n c1) 1 F.length (nats F)) := RF1'.out.below HB.out (Nat.le_refl _)
      have HPT : Hid (flatP (upP (ptsA q r F (k + 1))) = flatP (upP (ptsA q r F k)) ++ [.int .i64 (x : Int), .int .i64 (y : Int)]) := by
        show _ = _
        rw [ptsA_succ, flatP_push, ptA, ← hx, ← hy]
      have HY := Lib.hid hy
      have HX := Lib.hid hx
      have hmk : m ≤ 33 := by have := HM.out; omega
      clear hx hy
      go_wp2_with (fail)
      refine (mod_is fr q _ (by omega) (by omega)).mono ?_
      rintro e w' ⟨rfl, rfl⟩
      rw [HR.out]
      go_wp2_with (fail)
      refine (Value_ok q x F _ _ HP hq hxq HRF HPF (by have := HN.out; omega)).mono ?_
      rintro e w3 ⟨rfl, hB3⟩
      rw [← HY.out]
      have HB3 := Lib.hid (HB.out.trans (hB3.mono HB.out.size))
      have HO3 : Hid (w3.ownsRow w1.heap.size 48 2 (.slice a m cp) m (flatP (upP (ptsA q r F k)))) := own_kept HO.out hB3
      clear hB3 HO
      go_wp2_with (at_builtin; refine wpList_append_own _ rfl _ _ 46 rfl w1.heap.size 48 i1 (.agg #[.int .i64 0, .int .i64 0]) 2 16 Try.underlying46 hi1 hy0 hy1 hy2 rfl (by decide) _ _ _ rfl (HO3.out.alloc _) ⟨w3.heap.size, 0, none⟩ 1 1 [.int .i64 (x : Int), .int .i64 (y : Int)] rfl rfl ?c1 ?c2 ?c3 ?c4 ?c5 ?_)
      try (case c1 => exact cell_2_new _ _ _ _)
      try (case c2 => first | (intro u hu; simp at hu; rcases hu with rfl | rfl <;> rfl) | simp [Value.oneCell'])
      try (case c3 => first | (unfold maxLen; omega) | omega)
      try (case c4 => omega)
      try (case c5 => have := HB3.out.size; simp; omega)
      intro v' w9 hown9 hgrow9 _
      have hBa : Below w3.heap.size w3 (w3.alloc (.cells #[.int .i64 (x : Int), .int .i64 (y : Int)] 48)) := (Below.refl _ _).alloc (Nat.le_refl _) _
      have HB9 : Hid (Below w1.heap.size w1 w9) := (HB3.out.trans (hBa.mono HB3.out.size)).grown hgrow9 (Nat.le_trans HB3.out.size hBa.size) fun g hg' => (HO3.out.lt g hg').1
      obtain ⟨a9, cap9, hv9, _⟩ := own_form hown9
      subst hv9
      rw [← HPT.out] at hown9
      have HOW9 := Lib.hid hown9
      have HM9 : Hid (m + 1 = k + 1) := by show _ = _; rw [HM.out]
      clear hown9 hgrow9 hBa
      go_wp2_with (fail)
      go_roundw
      case rel => exact ⟨k + 1, m + 1, cap9, a9, by first | rfl | go_num, by go_num, by omega, HM9, HOW9, HB9⟩
      case measure => simp [intOf]; omega
    · have hkn : k = n := by omega
      subst hkn
      obtain ⟨L, hL⟩ : ∃ L, L = ptsA q r F k := ⟨_, rfl⟩
      rw [← hL] at HO
      have hLl : L.length = k := by rw [hL, ptsA_len]
      have HLL := Lib.hid hLl
      have HPTS : Hid (Q.Pts q L) := by rw [hL]; exact ptsA_pts hp2 hrq F (by omega)
      have HTHR : Hid ((Q.thrAt q L L.length).1 = F) := by
        show _ = _
        refine (Q.thr_unique HP.out HPTS.out HPF.out (by have := HN.out; omega) fun i hi => ?_).symm
        rw [hL, ptsA_len] at hi
        rw [hL, (ptsA_at q r F k i hi).1, (ptsA_at q r F k i hi).2]
      have HRL : Hid (Rd wr (.slice a m cp) 2 L.length (flatP (upP L))) := by
        have h := Rd.of_own HO.out
        have hm : m = L.length := by rw [hLl]; exact HM.out
        show Rd _ _ _ _ _
        rw [← hm]; exact h
      have HRF : Hid (Rd wr (.slice a1 k c1) 1 F.length (nats F)) := RF1'.out.below HB.out (Nat.le_refl _)
      have HBW := Lib.hid (HB1.out.trans (HB.out.mono HB1.out.size))
      clear HO HM hL hLl
      go_wp2_with (fail)
      refine (Through_ok q L _ _ HP hq HRL (by have := HLL.out; omega) HPTS).mono ?_
      rw [HTHR.out]
      rintro e w4 ⟨⟨vg, rfl, hN4⟩, hB4⟩
      have HB4 := Lib.hid (HBW.out.trans (hB4.mono HBW.out.size))
      have HRF4 : Hid (Rd w4 (.slice a1 k c1) 1 F.length (nats F)) := HRF.out.below hB4 (Nat.le_refl _)
      have HRG4 : Hid (Rd w4 vg 1 F.length (nats F)) := hN4.rd
      obtain ⟨ag, cg, hvg⟩ := hN4.rd.shape
      subst hvg
      have hF33 : F.length ≤ 33 := by have := HN.out; omega
      clear hN4 hB4
      go_wp2_with (fail)
      refine (Same_is F F _ _ true _ HRG4 HRF4 (by omega) (by omega) ⟨fun _ => rfl, fun _ => rfl⟩).mono ?_
      rintro e w5 ⟨rfl, nn, hw⟩
      have HB5 : Hid (Below w.heap.size w w5) := by rw [hw]; exact below_drewN HB4.out _
      clear hw
      go_wp2_with (fail)
      refine (awake_is _).mono ?_
      rintro e w9 ⟨rfl, hB⟩
      have HB9 := Lib.hid (HB5.out.trans (hB.mono HB5.out.size))
      clear hB
      go_wp2_with (fail)
      go_ret
      exact ⟨rfl, HB9.out⟩


set_option maxRecDepth 100000 in
theorem lifted (os : Os) (started : os.Started) (H : Type) (enc : TypeId × Value → H) :
    ReturnsInHanded {} Try.checked os 15 .any (Rows.polyAgainSpec.pre6 enc Try.prog Try.f15 Rows.polyAgainRow.domain false) (Rows.polyAgainSpec.post enc Try.prog Try.f15 false true false false) := by
  refine returnsInHanded_of_change (C := Try.checked) own started (by kernel_rfl) Try.func15
    (ChangeSpec.witness6 (enc := enc) (C := Try.checked) false ⟨#[], #[.int .i64 0, .slice none 0 0, .int .i64 0], []⟩ 8 (by kernel_rfl) (by kernel_rfl) (by kernel_rfl) (by kernel_rfl)) ?_
  intro W base args ds gs before hval0 hW hcnd _
  have hval : ∀ (j : Nat) t v, Try.f15.params[j]? = some t → args[j]? = some v → Value.okWide Try.prog W .any base t v := hval0
  have hW' := hW
  obtain ⟨p, q, hA0, hV, rfl, hfz, hnd⟩ := hW
  have hA : DataW.TrodAll enc Try.prog W 0 (fun _ => true) true Try.f15.params.toList args.toList ds p := hA0
  rw [Try.params15] at hA hval
  obtain ⟨v0, vs0, d0, ds0, p0, q0, hargs, rfl, rfl, h0, r0⟩ := trodAll_cons hA
  obtain ⟨v1, vs1, d1, ds1, p1, q1, rfl, rfl, rfl, h1, r1⟩ := trodAll_cons r0
  obtain ⟨v2, vs2, d2, ds2, p2, q2, rfl, rfl, rfl, h2, r2⟩ := trodAll_cons r1
  obtain ⟨rfl, rfl, rfl⟩ := trodAll_nil r2
  obtain rfl : args = #[v0, v1, v2] := by cases args; simp_all
  obtain ⟨rfl, rfl⟩ := trodVars_none hV
  have hlt := hW'.lt
  obtain ⟨a0, rfl, rfl, rfl, w0⟩ := open_int Try.underlying3 (hval 0 3 v0 rfl rfl) h0
  obtain ⟨Z1, hZ1⟩ := argI_of (hval 1 22 v1 rfl rfl) h1
  obtain ⟨a2, rfl, rfl, rfl, w2⟩ := open_int Try.underlying3 (hval 2 3 v2 rfl rfl) h2
  clear hA0 hval0
  simp only [List.append_nil] at hW'
  refine (walk a0 v1 Z1 a2 W hZ1).mono fun e W' ⟨he, hg⟩ => ?_
  subst he
  exact ⟨_, rfl, _, _, _, [], [] ++ (p1 ++ ([] ++ ([]))), [], hW', trodAll_cons_mk (shut_bool Try.underlying4 _) trodAll_mk0, trodAll_cons_mk (shut_int Try.underlying3 w0) (trodAll_cons_mk (Below.trod (by kernel_rfl) (by kernel_rfl) (by decide +kernel) h1 hg (fun x hx => hlt x (by simp [hx]))) (trodAll_cons_mk (shut_int Try.underlying3 w2) trodAll_mk0)), rfl, hg.frame _, fun h => by cases h⟩

theorem over : Rows.polyAgainRow.holds Try.pinned (OpenSpec.ofChange Rows.polyAgainSpec) :=
  OpenClaim.holds_of_wide 15 Try.f15 rfl rfl rfl rfl rfl rfl rfl ⟨rfl, rfl, rfl, rfl, rfl⟩ rfl rfl rfl rfl rfl (by kernel_rfl) Try.func15 (by kernel_rfl)
    (of_decide_eq_true (by kernel_rfl)) (by unfold Func.isWrapper; first | (rw [if_pos (by decide +kernel)]; kernel_rfl) | (rw [if_neg (by decide +kernel)]; exact ⟨rfl, rfl⟩))
    (fun os started H enc _ => lifted os started H enc)

theorem proved : Rows.PolyAgainSaid := over

end Go.Proofs.Ytgnpohapmijfiaa.polyAgain
