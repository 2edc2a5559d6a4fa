/- For any word, Insert returns the pair of tableaux, or ErrArg. No condition. -/
import Derived.Test.YtonphhienkepbaaRows
import Derived.Test.YtonphhienkepbaaChecked
import Derived.Test.YtonphhienkepbaaTq
import Derived.Test.YtonphhienkepbaaTi
import Derived.Test.YtonphhienkepbaaTh
import Derived.Test.YtonphhienkepbaaAwake
import Derived.ProofKit
import Derived.OpenShut
namespace Go.Proofs.Ytonphhienkepbaa

theorem T.len_size : ∀ (rs : List (List Nat)), T.Ok rs → rs.length ≤ T.size rs ∧ ∀ r ∈ rs, r.length ≤ T.size rs
  | [], _ => ⟨Nat.le_refl _, fun r h => by cases h⟩
  | x :: rs, h => by
    obtain ⟨h1, h2⟩ := T.len_size rs fun r hr => h r (List.mem_cons_of_mem _ hr)
    have h3 := (h x (by simp)).1
    have h4 : T.size (x :: rs) = x.length + T.size rs := by simp [T.size]
    refine ⟨by rw [h4, List.length_cons]; omega, fun r hr => ?_⟩
    rcases List.mem_cons.1 hr with rfl | hr
    · omega
    · have := h2 r hr; omega

namespace tableauInserts
open Go.ChangeShapes Go.WideShapes Go.ChangeAt Go.RowKit

theorem own : ownKnob Try.prog.godebug = none := by kernel_rfl

set_option maxRecDepth 100000 in
set_option maxHeartbeats 4000000 in
theorem walk (v : Value) (Z : List Int) (w : World) (hv : Hid (ArgI w v Z)) :
    Calls Try.prog 3 #[v] w fun e w' => e = .returned (.bool true) ∧ Below w.heap.size w w' := by
  obtain ⟨Y, hT⟩ : ∃ Y, Y = Z.take 61 := ⟨_, rfl⟩
  have hTl : Y.length ≤ 61 := by rw [hT, List.length_take]; omega
  have HT := Lib.hid hT
  go_enter Try.func3, Try.ntmps3
  go_wp2_with (fail)
  refine (own_is Z v w hv).mono ?_
  rintro e w1 ⟨⟨v1, rfl, hN⟩, hB⟩
  rw [← hT] at hN
  have HB1 := Lib.hid hB
  have HR1 : Hid (Rd w1 v1 1 Y.length (zs Y)) := hN.rd
  obtain ⟨a1, c1, hv1⟩ := hN.rd.shape
  subst hv1
  clear hN hB hT
  by_cases hok : WordI Y
  · obtain ⟨F, hF, hFl, hFw⟩ := word_up hok
    have HW := Lib.hid hok
    have hTF : Y.length = F.length := by rw [hF, up_length]
    have HRF : Hid (Rd w1 (.slice a1 Y.length c1) 1 F.length (nats F)) := by
      have := HR1.out; rw [hF] at this ⊢; rw [up_length, zs_up] at this; rw [up_length]; exact this
    have HFW := Lib.hid hFw
    obtain ⟨k1, k2, k3, k4⟩ := T.pair_ok F F.length
    obtain ⟨l1, l2⟩ := T.len_size _ k1
    rw [k2] at l1 l2
    obtain ⟨P, hP⟩ : ∃ P, P = (T.pair F F.length).1 := ⟨_, rfl⟩
    obtain ⟨Q, hQ⟩ : ∃ Q, Q = (T.pair F F.length).2 := ⟨_, rfl⟩
    rw [← hP] at k3 l1 l2
    rw [← hQ] at k3 k4
    have hPl : P.length ≤ 1000000 := by omega
    have hQl : Q.length ≤ 1000000 := by omega
    have HPR : Hid (∀ X ∈ P, X.length ≤ 1000000) := fun X hX => by have := l2 X hX; omega
    have HQR : Hid (∀ X ∈ Q, X.length ≤ 1000000) := fun X hX => by have := k4 X hX; omega
    have HI := Lib.hid (fun (w : World) hr => Insert_ok F (.slice a1 Y.length c1) w hr hFl HFW)
    have HJ := Lib.hid (fun (w : World) hr => rInsert_is F (.slice a1 Y.length c1) w hr hFl)
    rw [← hP, ← hQ] at HI HJ
    clear hF hFw hok k1 k2 k3 k4 l1 l2 hP hQ hTF hFl
    go_wp2_with (fail)
    refine (HI.out _ HRF).mono ?_
    rintro e w2 ⟨⟨vp, vq, rfl, hP, hQ⟩, hB⟩
    have HP := Lib.hid hP
    have HQ := Lib.hid hQ
    have HB2 := Lib.hid (HB1.out.trans (hB.mono HB1.out.size))
    have HR2 : Hid (Rd w2 (.slice a1 Y.length c1) 1 Y.length (zs Y)) := HR1.out.below hB (Nat.le_refl _)
    have HRF2 : Hid (Rd w2 (.slice a1 Y.length c1) 1 F.length (nats F)) := HRF.out.below hB (Nat.le_refl _)
    clear hB hP hQ
    go_wp2_with (fail)
    refine (rWord_is Y _ true _ HR2 (by omega) ⟨fun _ => rfl, fun _ => HW.out⟩).mono ?_
    rintro e w3 ⟨rfl, rfl⟩
    go_wp2_with (fail)
    refine (HJ.out _ HRF2).mono ?_
    rintro e w3 ⟨⟨va, vb, rfl, hA, hC⟩, hB⟩
    have HA := Lib.hid hA
    have HC := Lib.hid hC
    have HP3 : Hid (RdN w3 vp P) := HP.out.below hB
    have HQ3 : Hid (RdN w3 vq Q) := HQ.out.below hB
    have HB3 := Lib.hid (HB2.out.trans (hB.mono HB2.out.size))
    clear hB hA hC
    go_wp2_with (fail)
    refine (same_is P P vp va true _ HP3 HA hPl hPl HPR HPR ⟨fun _ => rfl, fun _ => rfl⟩).mono ?_
    rintro e w4 ⟨rfl, n4, rfl⟩
    have hB : Below w3.heap.size w3 (w3.drewN n4) := below_drewN (Below.refl _ _) n4
    have HQ4 : Hid (RdN (w3.drewN n4) vq Q) := HQ3.out.below hB
    have HC4 : Hid (RdN (w3.drewN n4) vb Q) := HC.out.below hB
    have HB4 := Lib.hid (HB3.out.trans (hB.mono HB3.out.size))
    clear hB
    obtain ⟨w4, hw4⟩ : ∃ w4, w4 = w3.drewN n4 := ⟨_, rfl⟩
    rw [← hw4] at HQ4 HC4 HB4 ⊢
    clear hw4
    go_wp2_with (fail)
    refine (same_is Q Q vq vb true _ HQ4 HC4 hQl hQl HQR HQR ⟨fun _ => rfl, fun _ => rfl⟩).mono ?_
    rintro e w5 ⟨rfl, n5, rfl⟩
    have hB : Below w4.heap.size w4 (w4.drewN n5) := below_drewN (Below.refl _ _) n5
    have HB5 := Lib.hid (HB4.out.trans (hB.mono HB4.out.size))
    clear hB
    obtain ⟨w5, hw5⟩ : ∃ w5, w5 = w4.drewN n5 := ⟨_, rfl⟩
    rw [← hw5] at HB5 ⊢
    clear hw5
    go_wp2_with (fail)
    refine (awake_is _).mono ?_
    rintro e w6 ⟨rfl, hB⟩
    have HB6 := Lib.hid (HB5.out.trans (hB.mono HB5.out.size))
    clear hB
    go_wp2_with (fail)
    go_ret
    exact ⟨rfl, HB6.out⟩
  · have HW := Lib.hid hok
    clear hok
    go_wp2_with (fail)
    refine (Insert_arg Y _ _ HR1 (by omega) HW).mono ?_
    rintro e w2 ⟨rfl, rfl⟩
    go_wp2_with (fail)
    refine (rWord_is Y _ false _ HR1 (by omega) ⟨fun h => absurd h HW.out, fun h => by cases h⟩).mono ?_
    rintro e w3 ⟨rfl, rfl⟩
    go_wp2_with (fail)
    refine (awake_is _).mono ?_
    rintro e w4 ⟨rfl, hB⟩
    have HB4 := Lib.hid (HB1.out.trans (hB.mono HB1.out.size))
    clear hB
    go_wp2_with (fail)
    go_ret
    exact ⟨rfl, HB4.out⟩

set_option maxRecDepth 100000 in
theorem lifted (os : Os) (started : os.Started) (H : Type) (enc : TypeId × Value → H) :
    ReturnsInHanded {} Try.checked os 3 .any (Rows.tableauInsertsSpec.pre6 enc Try.prog Try.f3 Rows.tableauInsertsRow.domain false) (Rows.tableauInsertsSpec.post enc Try.prog Try.f3 false true false false) := by
  refine returnsInHanded_of_change (C := Try.checked) own started (by kernel_rfl) Try.func3
    (ChangeSpec.witness6 (enc := enc) (C := Try.checked) false ⟨#[], #[.slice none 0 0], []⟩ 8 (by kernel_rfl) (by kernel_rfl) (by kernel_rfl) (by kernel_rfl)) ?_
  intro W base args ds gs before hval0 hW hcnd _
  have hval : ∀ (j : Nat) t v, Try.f3.params[j]? = some t → args[j]? = some v → Value.okWide Try.prog W .any base t v := hval0
  have hW' := hW
  obtain ⟨p, q, hA0, hV, rfl, hfz, hnd⟩ := hW
  have hA : DataW.TrodAll enc Try.prog W 0 (fun _ => true) true Try.f3.params.toList args.toList ds p := hA0
  rw [Try.params3] at hA hval
  obtain ⟨v1, vs1, d1, ds1, p1, q1, hargs, rfl, rfl, h1, r1⟩ := trodAll_cons hA
  obtain ⟨rfl, rfl, rfl⟩ := trodAll_nil r1
  obtain rfl : args = #[v1] := by cases args; simp_all
  obtain ⟨rfl, rfl⟩ := trodVars_none hV
  have hlt := hW'.lt
  obtain ⟨Z1, hZ1⟩ := argI_of (hval 0 22 v1 rfl rfl) h1
  clear hA0 hval0
  simp only [List.append_nil] at hW'
  refine (walk v1 Z1 W hZ1).mono fun e W' ⟨he, hg⟩ => ?_
  subst he
  exact ⟨_, rfl, _, _, _, [], p1 ++ ([]), [], hW', trodAll_cons_mk (shut_bool Try.underlying4 _) trodAll_mk0, trodAll_cons_mk (Below.trod (by kernel_rfl) (by kernel_rfl) (by decide +kernel) h1 hg (fun x hx => hlt x (by simp [hx]))) trodAll_mk0, rfl, hg.frame _, fun h => by cases h⟩

theorem over : Rows.tableauInsertsRow.holds Try.pinned (OpenSpec.ofChange Rows.tableauInsertsSpec) :=
  OpenClaim.holds_of_wide 3 Try.f3 rfl rfl rfl rfl rfl rfl rfl ⟨rfl, rfl, rfl, rfl, rfl⟩ rfl rfl rfl rfl rfl (by kernel_rfl) Try.func3 (by kernel_rfl)
    (of_decide_eq_true (by kernel_rfl)) (by unfold Func.isWrapper; first | (rw [if_pos (by decide +kernel)]; kernel_rfl) | (rw [if_neg (by decide +kernel)]; exact ⟨rfl, rfl⟩))
    (fun os started H enc _ => lifted os started H enc)

theorem proved : Rows.TableauInsertsSaid := over

end tableauInserts
end Go.Proofs.Ytonphhienkepbaa
