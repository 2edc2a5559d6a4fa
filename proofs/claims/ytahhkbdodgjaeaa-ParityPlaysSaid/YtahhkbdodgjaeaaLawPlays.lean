/- For any game, position and plan, Play returns both parts of the play and the winner, or ErrArg. No condition. -/
import Derived.Test.YtahhkbdodgjaeaaRows
import Derived.Test.YtahhkbdodgjaeaaChecked
import Derived.Test.YtahhkbdodgjaeaaPp
import Derived.Test.YtahhkbdodgjaeaaAwake
import Derived.ProofKit
import Derived.OpenShut
namespace Go.Proofs.Ytahhkbdodgjaeaa.parityPlays
open Go.ChangeShapes Go.WideShapes Go.ChangeAt Go.RowKit

theorem own : ownKnob Try.prog.godebug = none := by kernel_rfl

theorem Play_bad (O R : List Int) (N : List (List Int)) (P : List Int) (fr : Int) (vo vr vn vp : Value) (w : World) (h : Hid (RdG w vo vr vn O R N)) (hs : Hid (Small O R N)) (hp : Hid (Rd w vp 1 P.length (zs P))) (hpl : P.length ≤ 30) (hb : Hid (¬ (GameZ O R N ∧ 0 ≤ fr ∧ fr < (O.length : Int) ∧ PlanA O N P))) :
    Calls Try.prog 28 #[.agg #[vo, vr, vn], .int .i64 fr, vp] w fun e w' => e = .returned (.tuple #[.slice none 0 0, .slice none 0 0, .int .i64 0, .int .i64 2]) ∧ Below w.heap.size w w' := by
  by_cases hg : GameZ O R N
  · by_cases h1 : fr < 0 ∨ (O.length : Int) ≤ fr
    · exact Play_from O R N P fr vo vr vn vp w h hs hp hpl hg h1
    · exact Play_plan O R N P fr vo vr vn vp w h hs hp hpl hg (by omega) (by omega) fun hq => hb.out ⟨hg, by omega, by omega, hq⟩
  · exact Play_none O R N P fr vo vr vn vp w h hs hp hpl hg
/-- What the law asks of a plan. -/
theorem plan_two {O R : List Int} {N : List (List Int)} {P : List Int} (hg : GameZ O R N) : PlanA O N P ↔ (P.length = O.length ∧ ∀ i, i < O.length → O.getD i 0 = 0 → P.getD i 0 ∈ N.getD i []) ∧ (P.length = O.length ∧ ∀ i, i < O.length → O.getD i 0 = 1 → P.getD i 0 ∈ N.getD i []) := by
  constructor
  · intro h; exact ⟨⟨h.1, fun i hi _ => h.2 i hi⟩, h.1, fun i hi _ => h.2 i hi⟩
  · rintro ⟨h1, h2⟩
    refine ⟨h1.1, fun i hi => ?_⟩
    rcases (hg.2.2.2.2 i hi).1 with e | e
    · exact h1.2 i hi e
    · exact h2.2 i hi e
theorem up_of {Z : List Int} (h : ∀ z ∈ Z, 0 ≤ z) : ∃ F, Z = up F := by
  refine ⟨Z.map Int.toNat, ?_⟩
  unfold up
  rw [List.map_map]
  refine (List.map_id Z).symm.trans (List.map_congr_left fun x hx => ?_)
  have := h x hx
  show x = ((x.toNat : Nat) : Int)
  omega

set_option maxRecDepth 100000 in
set_option maxHeartbeats 4000000 in
theorem walk (vo vr vn vp : Value) (fr : Int) (O0 R0 P0 : List Int) (N0 : List (List Int)) (w : World) (ho : Hid (ArgI w vo O0)) (hr : Hid (ArgI w vr R0)) (hn : Hid (ArgZ w vn N0)) (hp : Hid (ArgI w vp P0)) :
    Calls Try.prog 6 #[.agg #[vo, vr, vn], .int .i64 fr, vp] w fun e w' => e = .returned (.bool true) ∧ Below w.heap.size w w' := by
  obtain ⟨xa, na, ca, hsa⟩ := ho.out.form
  obtain ⟨xb, nb, cb, hsb⟩ := hr.out.form
  obtain ⟨xp, np, cp0, hsp⟩ := hp.out.form
  obtain ⟨xn, cn, hsn, _⟩ := hn.out
  subst hsa hsb hsn hsp
  obtain ⟨b, hb⟩ : ∃ b, b = w.heap.size := ⟨_, rfl⟩
  obtain ⟨X, hX⟩ : ∃ X, X = w.alloc (.cells #[.slice xa na ca, .slice xb nb cb, .slice xn N0.length cn] 25) := ⟨_, rfl⟩
  have HA : Hid (Below w.heap.size w X) := by rw [hX]; exact (Below.refl _ _).alloc (Nat.le_refl _) _
  have hca : X.cell? ⟨b, 0, none⟩ = some (.slice xa na ca) := by rw [hX, hb]; simp
  have hcb : X.cell? ⟨b, 1, none⟩ = some (.slice xb nb cb) := by rw [hX, hb]; simp
  have hcn : X.cell? ⟨b, 2, none⟩ = some (.slice xn N0.length cn) := by rw [hX, hb]; simp
  obtain ⟨O, hO⟩ : ∃ O, O = O0.take 30 := ⟨_, rfl⟩
  obtain ⟨R, hR⟩ : ∃ R, R = R0.take 30 := ⟨_, rfl⟩
  obtain ⟨N, hN⟩ : ∃ N, N = cutN N0 := ⟨_, rfl⟩
  obtain ⟨P, hP⟩ : ∃ P, P = P0.take 30 := ⟨_, rfl⟩
  have hPl : P.length ≤ 30 := by rw [hP, List.length_take]; omega
  have hsm : Hid (Small O R N) := by rw [hO, hR, hN]; exact small_cut O0 R0 N0
  have HGA := Lib.hid (game_is O0 R0 N0 _ _ _ X (ho.out.below HA.out) (hr.out.below HA.out) (hn.out.below HA.out))
  rw [← hO, ← hR, show (N0.take 30).map (fun l => l.take 30) = N from hN.symm] at HGA
  have HLI := Lib.hid (fun W h => list_is P0 (.slice xp np cp0) W h)
  rw [← hP] at HLI
  have HPA : Hid (ArgI X (.slice xp np cp0) P0) := hp.out.below HA.out
  clear ho hr hn hp hO hR hN hP
  go_enter Try.func6, Try.ntmps6
  go_upto_region 1 with fail
  rw [← hb, ← hX]
  clear hX hb
  go_wp2_with (fail)
  refine HGA.out.mono ?_
  rintro e w1 ⟨⟨v1, v2, v3, vs, rfl, h1, h2, h3⟩, hB⟩
  obtain ⟨a1, d1, hv1, _⟩ := own_form h1
  obtain ⟨a2, d2, hv2, _⟩ := own_form h2
  obtain ⟨a3, d3, hv3, _⟩ := own_form h3.own
  subst hv1 hv2 hv3
  have HPA1 : Hid (ArgI w1 (.slice xp np cp0) P0) := HPA.out.below hB
  have HB1 : Hid (Below w.heap.size w w1) := below_step HA.out hB
  have HR1 : Hid (RdG w1 (.slice a1 O.length d1) (.slice a2 R.length d2) (.slice a3 N.length d3) O R N) := ⟨Rd.of_own h1, Rd.of_own h2, h3.rd⟩
  clear h1 h2 h3 hB HGA hca hcb hcn
  go_wp2_with (fail)
  refine (HLI.out w1 HPA1).mono ?_
  rintro e w2 ⟨⟨v4, rfl, hN4⟩, hB⟩
  obtain ⟨a4, d4, hv4, _⟩ := own_form hN4
  subst hv4
  have HR2 : Hid (RdG w2 (.slice a1 O.length d1) (.slice a2 R.length d2) (.slice a3 N.length d3) O R N) := HR1.out.below hB
  have HP2 : Hid (Rd w2 (.slice a4 P.length d4) 1 P.length (zs P)) := hN4.rd
  have HB2 : Hid (Below w.heap.size w w2) := below_step HB1.out hB
  obtain ⟨p, hp⟩ : ∃ p, p = w2.heap.size := ⟨_, rfl⟩
  obtain ⟨w3, hw3⟩ : ∃ w3, w3 = w2.alloc (.cells #[.slice a1 O.length d1, .slice a2 R.length d2, .slice a3 N.length d3] 25) := ⟨_, rfl⟩
  have hB23 : Below w2.heap.size w2 w3 := by rw [hw3]; exact (Below.refl _ _).alloc (Nat.le_refl _) _
  have HQ3 : Hid (w3.heap[p]? = some (.cells #[.slice a1 O.length d1, .slice a2 R.length d2, .slice a3 N.length d3] 25 (0, 0))) := by
    show _ = _
    rw [hw3, hp]; exact heap_alloc_new _ _
  have HR3 : Hid (RdG w3 (.slice a1 O.length d1) (.slice a2 R.length d2) (.slice a3 N.length d3) O R N) := HR2.out.below hB23
  have HP3 : Hid (Rd w3 (.slice a4 P.length d4) 1 P.length (zs P)) := HP2.out.below hB23 (Nat.le_refl _)
  have HB3 : Hid (Below w.heap.size w w3) := below_step HB2.out hB23
  obtain ⟨c0, c1, c2⟩ := cell3 HQ3.out
  clear hN4 hB hB23 HLI
  go_upto_region 2 with fail
  rw [← hp, ← hw3]
  clear hp hw3
  have hkeep : ∀ W, Below w3.heap.size w3 W → (W.heap[p]? = some (.cells #[.slice a1 O.length d1, .slice a2 R.length d2, .slice a3 N.length d3] 25 (0, 0))) ∧ RdG W (.slice a1 O.length d1) (.slice a2 R.length d2) (.slice a3 N.length d3) O R N ∧ Rd W (.slice a4 P.length d4) 1 P.length (zs P) ∧ Below w.heap.size w W := fun W h =>
    ⟨by rw [h.block p (Array.getElem?_eq_some_iff.1 HQ3.out).1]; exact HQ3.out, HR3.out.below h, HP3.out.below h (Nat.le_refl _), below_step HB3.out h⟩
  have HKP := Lib.hid hkeep
  obtain ⟨m, hm⟩ : ∃ m, m = O.length := ⟨_, rfl⟩
  have HM := Lib.hid hm
  have hm30 : m ≤ 30 := by rw [hm]; exact hsm.out.o
  clear hkeep
  by_cases hok : GameZ O R N ∧ 0 ≤ fr ∧ fr < (O.length : Int) ∧ PlanA O N P
  · obtain ⟨hg, hf1, hf2, hpa⟩ := hok
    have HG := Lib.hid hg
    have HPA2 := Lib.hid hpa
    obtain ⟨v, hv⟩ := Int.eq_ofNat_of_zero_le hf1
    subst hv
    have hv1 : v < m := by rw [hm]; omega
    obtain ⟨F, hPF⟩ : ∃ F, P = up F := up_of fun z hz => by
      obtain ⟨i, hi, rfl⟩ := List.getElem_of_mem hz
      have hiO : i < O.length := by rw [← hpa.1]; exact hi
      have h9 := hpa.2 i hiO
      obtain ⟨j, hj, e⟩ := List.getElem_of_mem h9
      have h8 := ((hg.2.2.2.2 i hiO).2.2.2.2 j hj).1
      rw [zget _ hj, e, zget _ hi] at h8
      exact h8
    have hFl : F.length = m := by have h9 := hpa.1; rw [hPF, up_length] at h9; omega
    have hFlt : Hid (∀ i, i < m → F.getD i 0 < m) := fun i hi => by
      have h9 := hpa.2 i (by omega)
      rw [hPF, up_getD] at h9
      obtain ⟨j, hj, e⟩ := List.getElem_of_mem h9
      have h7 := ((hg.2.2.2.2 i (by omega)).2.2.2.2 j hj).2.1
      rw [zget _ hj, e] at h7; omega
    obtain ⟨K, J, hK, hag⟩ := Pl.again (f := fun i => F.getD i 0) hv1 hFlt.out
    have HAG := Lib.hid hag
    have hm24 : m ≤ 24 := by rw [hm]; exact hg.2.1
    have HPO := Lib.hid (fun W h1 h2 => Play_ok O R N P (v : Int) (.slice a1 O.length d1) (.slice a2 R.length d2) (.slice a3 N.length d3) (.slice a4 P.length d4) W h1 hsm h2 hPl HG v m K J F rfl hv1 hm hPF HPA2 hK HAG)
    have HRR : Hid (∀ x, x < m → x < R.length ∧ 0 ≤ R.getD x 0 ∧ R.getD x 0 ≤ 9) := fun x hx => by
      have h9 := hg.2.2.2.2 x (by omega)
      exact ⟨by have := hg.2.2.1; omega, h9.2.1, h9.2.2.1⟩
    have HRP := Lib.hid (fun W h1 h2 => rPlay_is O R N F (.slice a1 O.length d1) (.slice a2 R.length d2) (.slice a3 N.length d3) (.slice a4 P.length d4) W h1 hsm h2 v m K J hFl.symm hm24 hv1 hFlt hK HAG HRR)
    have HPF : Hid (∀ W, Rd W (.slice a4 P.length d4) 1 P.length (zs P) → Rd W (.slice a4 P.length d4) 1 F.length (nats F)) := fun W h9 => by rw [hPF, zs_up, up_length] at h9; rw [hPF, up_length]; exact h9
    obtain ⟨L1, hL1⟩ : ∃ L, L = (Pl.orb (fun i => F.getD i 0) v K).take J := ⟨_, rfl⟩
    obtain ⟨L2, hL2⟩ : ∃ L, L = (Pl.orb (fun i => F.getD i 0) v K).drop J := ⟨_, rfl⟩
    have hL1l : L1.length ≤ 1000000 := by rw [hL1, List.length_take, Pl.orb_length]; omega
    have hL2l : L2.length ≤ 1000000 := by rw [hL2, List.length_drop, Pl.orb_length]; omega
    rw [← hL1, ← hL2] at HPO HRP
    obtain ⟨z, hz⟩ : ∃ z, z = Pl.topR R L2 % 2 := ⟨_, rfl⟩
    rw [← hz] at HPO HRP
    have hNO : N.length = O.length := hg.2.2.2.1
    have HNO := Lib.hid hNO
    have HGM := Lib.hid (fun W h1 => rGame_is O R N (.slice a1 O.length d1) (.slice a2 R.length d2) (.slice a3 N.length d3) true W h1 hsm ⟨fun _ => rfl, fun _ => HG.out⟩)
    have HT2 := Lib.hid ((plan_two hg).1 hpa)
    have HP0 := Lib.hid (fun W h1 h2 => rPlan_is O R N P (.slice a1 O.length d1) (.slice a2 R.length d2) (.slice a3 N.length d3) (.slice a4 P.length d4) 0 true W h1 hsm HNO.out h2 hPl ⟨fun _ => rfl, fun _ => HT2.out.1⟩)
    have HP1 := Lib.hid (fun W h1 h2 => rPlan_is O R N P (.slice a1 O.length d1) (.slice a2 R.length d2) (.slice a3 N.length d3) (.slice a4 P.length d4) 1 true W h1 hsm HNO.out h2 hPl ⟨fun _ => rfl, fun _ => HT2.out.2⟩)
    have hd0 : decide ((v : Int) < 0) = false := by rw [decide_eq_false_iff_not]; omega
    have hd1 : decide ((m : Int) ≤ (v : Int)) = false := by rw [decide_eq_false_iff_not]; omega
    have hv2 : ¬ m ≤ v := by omega
    have hzz : (z == z) = true := by simp
    rw [← hm] at HPO HRP HGM HP0 HP1 HR3 HKP c0 ⊢
    clear hg hpa hf1 hf2 hPF hFl hag hL1 hL2 hz hNO hm
    go_wp2_with (fail)
    refine (HPO.out w3 HR3 HP3).mono ?_
    rintro e w4 ⟨⟨r1, r2, rfl, hN1, hN2⟩, hB⟩
    obtain ⟨s1, e1, hs1, _⟩ := own_form hN1
    obtain ⟨s2, e2, hs2, _⟩ := own_form hN2
    subst hs1 hs2
    have HB4 : Hid (Below w3.heap.size w3 w4) := hB
    have HX1 : Hid (RdA w4 (.slice s1 L1.length e1) L1) := RdA.of hN1.rd
    have HX2 : Hid (RdA w4 (.slice s2 L2.length e2) L2) := RdA.of hN2.rd
    obtain ⟨hq4, hr4, hp4, hb4⟩ := HKP.out w4 hB
    have HR4 := Lib.hid hr4
    obtain ⟨c0, c1, c2⟩ := cell3 hq4
    clear hN1 hN2 hB hq4 hr4 hp4 hb4
    go_wp2_with (fail)
    refine (HGM.out w4 HR4).mono ?_
    rintro e w5 ⟨rfl, hB⟩
    have HB5 : Hid (Below w3.heap.size w3 w5) := below_step HB4.out hB
    have HX51 : Hid (RdA w5 (.slice s1 L1.length e1) L1) := HX1.out.below hB
    have HX52 : Hid (RdA w5 (.slice s2 L2.length e2) L2) := HX2.out.below hB
    obtain ⟨hq5, hr5, hp5, hb5⟩ := HKP.out w5 HB5.out
    have HR5 := Lib.hid hr5
    have HP5 := Lib.hid hp5
    clear c0 c1 c2
    obtain ⟨c0, c1, c2⟩ := cell3 hq5
    clear hB hq5 hr5 hp5 hb5
    go_wp2_with (fail)
    refine (HP0.out w5 HR5 HP5).mono ?_
    rintro e w6 ⟨rfl, hB⟩
    have HB6 : Hid (Below w3.heap.size w3 w6) := below_step HB5.out hB
    have HX61 : Hid (RdA w6 (.slice s1 L1.length e1) L1) := HX51.out.below hB
    have HX62 : Hid (RdA w6 (.slice s2 L2.length e2) L2) := HX52.out.below hB
    obtain ⟨hq6, hr6, hp6, hb6⟩ := HKP.out w6 HB6.out
    have HR6 := Lib.hid hr6
    have HP6 := Lib.hid hp6
    clear c0 c1 c2
    obtain ⟨c0, c1, c2⟩ := cell3 hq6
    clear hB hq6 hr6 hp6 hb6
    go_wp2_with (fail)
    refine (HP1.out w6 HR6 HP6).mono ?_
    rintro e w7 ⟨rfl, hB⟩
    have HB7 : Hid (Below w3.heap.size w3 w7) := below_step HB6.out hB
    have HX71 : Hid (RdA w7 (.slice s1 L1.length e1) L1) := HX61.out.below hB
    have HX72 : Hid (RdA w7 (.slice s2 L2.length e2) L2) := HX62.out.below hB
    obtain ⟨hq7, hr7, hp7, hb7⟩ := HKP.out w7 HB7.out
    have HR7 := Lib.hid hr7
    have HP7 : Hid (Rd w7 (.slice a4 P.length d4) 1 F.length (nats F)) := HPF.out w7 hp7
    clear c0 c1 c2
    obtain ⟨c0, c1, c2⟩ := cell3 hq7
    clear hB hq7 hr7 hp7 hb7
    go_wp2_with (fail)
    refine (HRP.out w7 HR7 HP7).mono ?_
    rintro e w8 ⟨⟨r3, r4, rfl, hA1, hA2⟩, hB⟩
    obtain ⟨s3, e3, hs3, _⟩ := hA1
    obtain ⟨s4, e4, hs4, _⟩ := hA2
    subst hs3 hs4
    have HB8 : Hid (Below w3.heap.size w3 w8) := below_step HB7.out hB
    have HX81 : Hid (RdA w8 (.slice s1 L1.length e1) L1) := HX71.out.below hB
    have HX82 : Hid (RdA w8 (.slice s2 L2.length e2) L2) := HX72.out.below hB
    have HA81 : Hid (RdA w8 (.slice s3 L1.length e3) L1) := ⟨_, _, rfl, by assumption⟩
    have HA82 : Hid (RdA w8 (.slice s4 L2.length e4) L2) := ⟨_, _, rfl, by assumption⟩
    clear hB c0 c1 c2
    go_wp2_with (fail)
    refine (intsA_is L1 L1 _ _ true w8 HX81 HA81 hL1l hL1l ⟨fun _ => rfl, fun _ => rfl⟩).mono ?_
    rintro e w9 ⟨rfl, n9, rfl⟩
    have hB : Below w8.heap.size w8 (w8.drewN n9) := below_drewN (Below.refl _ _) n9
    have HX92 : Hid (RdA (w8.drewN n9) (.slice s2 L2.length e2) L2) := HX82.out.below hB
    have HA92 : Hid (RdA (w8.drewN n9) (.slice s4 L2.length e4) L2) := HA82.out.below hB
    have HB9 : Hid (Below w3.heap.size w3 (w8.drewN n9)) := below_step HB8.out hB
    obtain ⟨w9, hw9⟩ : ∃ w9, w9 = w8.drewN n9 := ⟨_, rfl⟩
    rw [← hw9] at HX92 HA92 HB9 ⊢
    clear hB hw9
    go_wp2_with (fail)
    refine (intsA_is L2 L2 _ _ true w9 HX92 HA92 hL2l hL2l ⟨fun _ => rfl, fun _ => rfl⟩).mono ?_
    rintro e w10 ⟨rfl, n10, rfl⟩
    have HB10 : Hid (Below w3.heap.size w3 (w9.drewN n10)) := below_step HB9.out (below_drewN (Below.refl _ _) n10)
    obtain ⟨w10, hw10⟩ : ∃ w10, w10 = w9.drewN n10 := ⟨_, rfl⟩
    rw [← hw10] at HB10 ⊢
    clear hw10
    go_wp2_with (fail)
    refine (awake_is _).mono ?_
    rintro e w11 ⟨rfl, hB⟩
    have HB11 : Hid (Below w.heap.size w w11) := below_step (HKP.out w10 HB10.out).2.2.2 hB
    clear hB
    go_wp2_with (fail)
    go_ret
    exact ⟨rfl, HB11.out⟩
  · have HPB := Lib.hid (fun W h1 h2 => Play_bad O R N P fr (.slice a1 O.length d1) (.slice a2 R.length d2) (.slice a3 N.length d3) (.slice a4 P.length d4) W h1 hsm h2 hPl hok)
    have HOK := Lib.hid hok
    clear hok
    rw [← hm] at HPB HR3 HKP c0 ⊢
    have HGM := Lib.hid (fun t W h1 ht => rGame_is O R N (.slice a1 O.length d1) (.slice a2 R.length d2) (.slice a3 N.length d3) t W h1 hsm ht)
    have HPP := Lib.hid (fun pl t W h1 hNO h2 ht => rPlan_is O R N P (.slice a1 O.length d1) (.slice a2 R.length d2) (.slice a3 N.length d3) (.slice a4 P.length d4) pl t W h1 hsm hNO h2 hPl ht)
    rw [← hm] at HGM HPP
    clear hm
    go_wp2_with (fail)
    refine (HPB.out w3 HR3 HP3).mono ?_
    rintro e w4 ⟨rfl, hB⟩
    have HB4 : Hid (Below w3.heap.size w3 w4) := hB
    obtain ⟨hq4, hr4, hp4, hb4⟩ := HKP.out w4 hB
    have HR4 := Lib.hid hr4
    clear c0 c1 c2
    obtain ⟨c0, c1, c2⟩ := cell3 hq4
    clear hB hq4 hr4 hp4 hb4
    by_cases hg : GameZ O R N
    · have HG := Lib.hid hg
      clear hg
      have HNO : Hid (N.length = m) := by show _ = _; rw [HM.out]; exact HG.out.2.2.2.1
      have hpt := plan_two (P := P) HG.out
      rw [← HM.out] at hpt
      have HPT := Lib.hid hpt
      clear hpt
      go_wp2_with (fail)
      refine (HGM.out true w4 HR4 ⟨fun _ => rfl, fun _ => HG.out⟩).mono ?_
      rintro e w5 ⟨rfl, hB⟩
      have HB5 : Hid (Below w3.heap.size w3 w5) := below_step HB4.out hB
      obtain ⟨hq5, hr5, hp5, hb5⟩ := HKP.out w5 HB5.out
      have HR5 := Lib.hid hr5
      have HP5 := Lib.hid hp5
      have HBW5 := Lib.hid hb5
      clear c0 c1 c2
      obtain ⟨c0, c1, c2⟩ := cell3 hq5
      clear hB hq5 hr5 hp5 hb5
      by_cases h0 : fr < 0
      · have hd0 : decide (fr < 0) = true := by simpa using h0
        clear h0
        go_wp2_with (fail)
        refine (awake_is _).mono ?_
        rintro e w9 ⟨rfl, hB⟩
        have HB9 : Hid (Below w.heap.size w w9) := below_step HBW5.out hB
        clear hB
        go_wp2_with (fail)
        go_ret
        exact ⟨rfl, HB9.out⟩
      · have hd0 : decide (fr < 0) = false := by simpa using h0
        by_cases h1 : (m : Int) ≤ fr
        · have hd1 : decide ((m : Int) ≤ fr) = true := by simpa using h1
          clear h0 h1
          go_wp2_with (fail)
          refine (awake_is _).mono ?_
          rintro e w9 ⟨rfl, hB⟩
          have HB9 : Hid (Below w.heap.size w w9) := below_step HBW5.out hB
          clear hB
          go_wp2_with (fail)
          go_ret
          exact ⟨rfl, HB9.out⟩
        · have hd1 : decide ((m : Int) ≤ fr) = false := by simpa using h1
          have HNP : Hid (¬ PlanA O N P) := fun hq => HOK.out ⟨HG.out, by omega, by have := HM.out; omega, hq⟩
          clear h0 h1
          by_cases hp0 : P.length = m ∧ ∀ i, i < m → O.getD i 0 = 0 → P.getD i 0 ∈ N.getD i []
          · have hp1 : ¬ (P.length = m ∧ ∀ i, i < m → O.getD i 0 = 1 → P.getD i 0 ∈ N.getD i []) := fun h => HNP.out (HPT.out.2 ⟨hp0, h⟩)
            have H0 := Lib.hid hp0
            have H1 := Lib.hid hp1
            clear hp0 hp1
            go_wp2_with (fail)
            refine (HPP.out 0 true w5 HR5 HNO.out HP5 ⟨fun _ => rfl, fun _ => H0.out⟩).mono ?_
            rintro e w6 ⟨rfl, hB⟩
            have HB6 : Hid (Below w3.heap.size w3 w6) := below_step HB5.out hB
            obtain ⟨hq6, hr6, hp6, hb6⟩ := HKP.out w6 HB6.out
            have HR6 := Lib.hid hr6
            have HP6 := Lib.hid hp6
            clear c0 c1 c2
            obtain ⟨c0, c1, c2⟩ := cell3 hq6
            clear hB hq6 hr6 hp6 hb6
            go_wp2_with (fail)
            refine (HPP.out 1 false w6 HR6 HNO.out HP6 ⟨fun h => absurd h H1.out, fun h => (by cases h)⟩).mono ?_
            rintro e w7 ⟨rfl, hB⟩
            have HBW7 := Lib.hid (HKP.out w7 (below_step HB6.out hB)).2.2.2
            clear hB c0 c1 c2
            go_wp2_with (fail)
            refine (awake_is _).mono ?_
            rintro e w9 ⟨rfl, hB⟩
            have HB9 : Hid (Below w.heap.size w w9) := below_step HBW7.out hB
            clear hB
            go_wp2_with (fail)
            go_ret
            exact ⟨rfl, HB9.out⟩
          · have H0 := Lib.hid hp0
            clear hp0
            go_wp2_with (fail)
            refine (HPP.out 0 false w5 HR5 HNO.out HP5 ⟨fun h => absurd h H0.out, fun h => (by cases h)⟩).mono ?_
            rintro e w6 ⟨rfl, hB⟩
            have HBW6 := Lib.hid (HKP.out w6 (below_step HB5.out hB)).2.2.2
            clear hB c0 c1 c2
            go_wp2_with (fail)
            refine (awake_is _).mono ?_
            rintro e w9 ⟨rfl, hB⟩
            have HB9 : Hid (Below w.heap.size w w9) := below_step HBW6.out hB
            clear hB
            go_wp2_with (fail)
            go_ret
            exact ⟨rfl, HB9.out⟩
    · have HG := Lib.hid hg
      clear hg
      go_wp2_with (fail)
      refine (HGM.out false w4 HR4 ⟨fun h => absurd h HG.out, fun h => (by cases h)⟩).mono ?_
      rintro e w5 ⟨rfl, hB⟩
      have HBW5 := Lib.hid (HKP.out w5 (below_step HB4.out hB)).2.2.2
      clear hB c0 c1 c2
      go_wp2_with (fail)
      refine (awake_is _).mono ?_
      rintro e w9 ⟨rfl, hB⟩
      have HB9 : Hid (Below w.heap.size w w9) := below_step HBW5.out hB
      clear hB
      go_wp2_with (fail)
      go_ret
      exact ⟨rfl, HB9.out⟩

set_option maxRecDepth 100000 in
theorem lifted (os : Os) (started : os.Started) (H : Type) (enc : TypeId × Value → H) :
    ReturnsInHanded {} Try.checked os 6 .any (Rows.parityPlaysSpec.pre6 enc Try.prog Try.f6 Rows.parityPlaysRow.domain false) (Rows.parityPlaysSpec.post enc Try.prog Try.f6 false true false false) := by
  refine returnsInHanded_of_change (C := Try.checked) own started (by kernel_rfl) Try.func6
    (ChangeSpec.witness6 (enc := enc) (C := Try.checked) false ⟨#[], #[.agg #[.slice none 0 0, .slice none 0 0, .slice none 0 0], .int .i64 0, .slice none 0 0], []⟩ 8 (by kernel_rfl) (by kernel_rfl) (by kernel_rfl) (by kernel_rfl)) ?_
  intro W base args ds gs before hval0 hW hcnd _
  have hval : ∀ (j : Nat) t v, Try.f6.params[j]? = some t → args[j]? = some v → Value.okWide Try.prog W .any base t v := hval0
  have hW' := hW
  obtain ⟨p, q, hA0, hV, rfl, hfz, hnd⟩ := hW
  have hA : DataW.TrodAll enc Try.prog W 0 (fun _ => true) true Try.f6.params.toList args.toList ds p := hA0
  rw [Try.params6] at hA hval
  obtain ⟨v1, vs1, d1, ds1, p1, q1, hargs, rfl, rfl, h1, r1⟩ := trodAll_cons hA
  obtain ⟨v2, vs2, d2, ds2, p2, q2, rfl, rfl, rfl, h2, r2⟩ := trodAll_cons r1
  obtain ⟨v3, vs3, d3, ds3, p3, q3, rfl, rfl, rfl, h3, r3⟩ := trodAll_cons r2
  obtain ⟨rfl, rfl, rfl⟩ := trodAll_nil r3
  obtain rfl : args = #[v1, v2, v3] := by cases args; simp_all
  obtain ⟨rfl, rfl⟩ := trodVars_none hV
  have hlt := hW'.lt
  obtain ⟨vo, vr, vn, O, R, N, rfl, hZ1, hZ2, hZ3⟩ := argG_of (hval 0 25 v1 rfl rfl) h1
  obtain ⟨a2, rfl, rfl, rfl, w2⟩ := open_int Try.underlying3 (hval 1 3 v2 rfl rfl) h2
  obtain ⟨Z3, hZ4⟩ := argI_of (hval 2 22 v3 rfl rfl) h3
  clear hA0 hval0
  simp only [List.append_nil] at hW'
  refine (walk vo vr vn v3 a2 O R Z3 N W hZ1 hZ2 hZ3 hZ4).mono fun e W' ⟨he, hg⟩ => ?_
  subst he
  exact ⟨_, rfl, _, _, _, [], p1 ++ ([] ++ (p3 ++ ([]))), [], hW', trodAll_cons_mk (shut_bool Try.underlying4 _) trodAll_mk0, trodAll_cons_mk (Below.trod (by kernel_rfl) (by kernel_rfl) (by decide +kernel) h1 hg (fun x hx => hlt x (by simp [hx]))) (trodAll_cons_mk (shut_int Try.underlying3 w2) (trodAll_cons_mk (Below.trod (by kernel_rfl) (by kernel_rfl) (by decide +kernel) h3 hg (fun x hx => hlt x (by simp [hx]))) trodAll_mk0)), rfl, hg.frame _, fun h => by cases h⟩

theorem over : Rows.parityPlaysRow.holds Try.pinned (OpenSpec.ofChange Rows.parityPlaysSpec) :=
  OpenClaim.holds_of_wide 6 Try.f6 rfl rfl rfl rfl rfl rfl rfl ⟨rfl, rfl, rfl, rfl, rfl⟩ rfl rfl rfl rfl rfl (by kernel_rfl) Try.func6 (by kernel_rfl)
    (of_decide_eq_true (by kernel_rfl)) (by unfold Func.isWrapper; first | (rw [if_pos (by decide +kernel)]; kernel_rfl) | (rw [if_neg (by decide +kernel)]; exact ⟨rfl, rfl⟩))
    (fun os started H enc _ => lifted os started H enc)

theorem proved : Rows.ParityPlaysSaid := over

end Go.Proofs.Ytahhkbdodgjaeaa.parityPlays
