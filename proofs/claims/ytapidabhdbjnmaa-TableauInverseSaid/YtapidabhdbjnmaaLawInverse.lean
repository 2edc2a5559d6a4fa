/- The tableaux of the inverse of a permutation are those of the permutation, swapped. No condition. -/
import Derived.Test.YtapidabhdbjnmaaRows
import Derived.Test.YtapidabhdbjnmaaChecked
import Derived.Test.YtapidabhdbjnmaaTq
import Derived.Test.YtapidabhdbjnmaaTt
import Derived.Test.YtapidabhdbjnmaaAwake
import Derived.ProofKit
import Derived.OpenShut
namespace Go.Proofs.Ytapidabhdbjnmaa

theorem T.pair_small (F : List Nat) (n : Nat) (h : n ≤ 1000000) : ((T.pair F n).1.length ≤ 1000000 ∧ ∀ X ∈ (T.pair F n).1, X.length ≤ 1000000) ∧ ((T.pair F n).2.length ≤ 1000000 ∧ ∀ X ∈ (T.pair F n).2, X.length ≤ 1000000) := by
  obtain ⟨k1, k2, k3, k4⟩ := T.pair_ok F n
  have h1 := T.len_le _ k1
  exact ⟨⟨by omega, fun X hX => by have := T.row_le _ X hX; omega⟩, by omega, fun X hX => by have := k4 X hX; omega⟩

namespace tableauInverse
open Go.ChangeShapes Go.WideShapes Go.ChangeAt Go.RowKit

theorem own : ownKnob Try.prog.godebug = none := by kernel_rfl

set_option maxRecDepth 100000 in
set_option maxHeartbeats 4000000 in
theorem walk (v : Value) (Z : List Int) (w : World) (hv : Hid (ArgI w v Z)) :
    Calls Try.prog 3 #[v] w fun e w' => e = .returned (.bool true) ∧ Below w.heap.size w w' := by
  obtain ⟨a0, n0, c0, hv0⟩ := hv.out.form
  subst hv0
  have hpm := Lib.hid (permutation_is 60 Z _ w (by omega) hv)
  obtain ⟨Y, hY⟩ : ∃ Y, Y = T.tameL 60 Z := ⟨_, rfl⟩
  obtain ⟨F, hF⟩ : ∃ F, F = T.perm Y := ⟨_, rfl⟩
  rw [← hY, ← hF] at hpm
  have hYl : Y.length ≤ 60 := by rw [hY]; exact (T.tameL_le 60 Z).1
  obtain ⟨o1, o2⟩ := T.perm_ok Y
  obtain ⟨n, hn⟩ : ∃ n, n = F.length := ⟨_, rfl⟩
  rw [← hF, ← hn] at o1 o2
  have hFY : F.length = Y.length := by rw [hF]; exact T.perm_length Y
  have hn60 : n ≤ 60 := by omega
  have HN := Lib.hid hn
  have HO1 := Lib.hid o1
  obtain ⟨G, hG⟩ : ∃ G, G = T.place F n := ⟨_, rfl⟩
  have hinv : T.Inv F G := by rw [hG, hn]; exact T.place_inv F (by rw [← hn]; exact o1) (by rw [← hn]; exact o2)
  have hGl : G.length = n := by rw [hinv.len, hn]
  have HGL := Lib.hid hGl
  have HGE := Lib.hid hG
  have HFW : Hid (∀ y ∈ F, y ≤ 1000) := fun y hy => by
    obtain ⟨i, hi, rfl⟩ := List.getElem_of_mem hy
    have := (o1 i (by omega)).2
    rw [T.Qget hi] at this; omega
  have HGW : Hid (∀ y ∈ G, y ≤ 1000) := fun y hy => by
    obtain ⟨i, hi, rfl⟩ := List.getElem_of_mem hy
    have := (hinv.b i (by omega)).2.1
    rw [T.Qget hi] at this; omega
  have hsw := T.pair_swap hinv
  obtain ⟨P, hP⟩ : ∃ P, P = (T.pair F F.length).1 := ⟨_, rfl⟩
  obtain ⟨Q, hQ⟩ : ∃ Q, Q = (T.pair F F.length).2 := ⟨_, rfl⟩
  obtain ⟨⟨p1, p2⟩, p3, p4⟩ := T.pair_small F F.length (by omega)
  rw [← hP] at p1 p2
  rw [← hQ] at p3 p4
  rw [← hP, ← hQ] at hsw
  have HP2 := Lib.hid p2
  have HQ2 := Lib.hid p4
  have HI := Lib.hid (fun (v : Value) (w : World) hr => Insert_ok F v w hr (by omega) HFW)
  have HJ := Lib.hid (fun (v : Value) (w : World) hr => Insert_ok G v w hr (by omega) HGW)
  rw [hsw] at HJ
  rw [← hP, ← hQ] at HI
  obtain ⟨i0, hi, hz0, hz1, hz2⟩ := info_parts Try.infoZ
  clear hv hY hF hYl o1 o2 hFY hG hinv hGl hsw hP hQ p2 p4
  go_enter Try.func3, Try.ntmps3
  go_wp2_with (fail)
  refine hpm.out.mono ?_
  rintro e w1 ⟨⟨v1, rfl, hNF⟩, hB1⟩
  obtain ⟨aF, cF, hvF, hcF, _⟩ := own_form hNF
  subst hvF
  have HB1 := Lib.hid hB1
  have HRF1 : Hid (Rd w1 (.slice aF n cF) 1 F.length (nats F)) := by
    show Rd _ _ _ _ _
    rw [HN.out]; exact hNF.rd
  rw [← HN.out] at hcF ⊢
  clear hNF hB1 hpm hn
  go_wp2_with (at_make; refine wpList_make_full _ rfl _ _ 22 rfl w1.heap.size 3 i0 (.int .i64 0) 1 Try.underlying22 hi hz0 hz1 .i64 .i64 _ _ n rfl rfl rfl rfl (by rw [hz2]; omega) (by unfold maxLen; omega) (Nat.le_refl _) ?_)
  intro w2 hown2 hgrow2
  obtain ⟨g, hg⟩ : ∃ g, g = w1.heap.size := ⟨_, rfl⟩
  have HR2 : Hid (RSt w1 w2 g n n (T.place F 0)) := by
    refine RSt.of_own ?_ (below_of_grown hgrow2)
    show World.ownsRow _ _ _ _ _ _ _
    rw [T.place, ← HN.out, ← nats_zeros, hg]; exact hown2
  rw [← hg]
  clear hown2 hgrow2 hg
  go_wp2_with (fail)
  go_loopw [5] (fun iv wx => ∃ (i : Nat), iv = .int .i64 i ∧ i ≤ n ∧ Hid (RSt w1 wx g n n (T.place F i))) (fun iv _ => n - (intOf iv).toNat)
  case atStart => exact ⟨0, rfl, by omega, HR2⟩
  case round =>
    obtain ⟨i, rfl, hik, HS⟩ := hrel
    by_cases hin : i < n
    · have hin1 : (i : Int) < (n : Int) := by omega
      obtain ⟨b, rfl, hb, ci⟩ := (HRF1.out.below HS.out.below (Nat.le_refl _)).at i (by rw [← HN.out]; exact hin)
      obtain ⟨h1, h2⟩ := HO1.out i hin
      obtain ⟨x, hx⟩ : ∃ x, x + 1 = F.getD i 0 := ⟨F.getD i 0 - 1, by omega⟩
      rw [← hx] at ci
      have hxn : x < n := by omega
      have hxm : ((x + 1 : Nat) : Int) - 1 = (x : Int) := by omega
      have hxn1 : (x : Int) < (n : Int) := by omega
      have d1 := HS.out.cell (j := x) hxn
      have d2 := HS.out.free x
      have HSN : Hid (RSt w1 (wr.setCell ⟨g, x, none⟩ (.int .i64 ((i + 1 : Nat) : Int))) g n n (T.place F (i + 1))) := by
        have h9 := HS.out.set x (i + 1)
        show RSt _ _ _ _ _ _
        rw [T.place, ← hx, Nat.add_sub_cancel]; exact h9
      obtain ⟨old, hold⟩ : ∃ old, old = (T.place F i).getD x 0 := ⟨_, rfl⟩
      rw [← hold] at d1
      clear hx h1 h2 hold
      go_wp2_with (fail)
      go_roundw
      case rel => exact ⟨i + 1, by go_num, by omega, HSN⟩
      case measure => simp [intOf]; omega
    · obtain rfl : i = n := by omega
      have HRG3 : Hid (Rd wr (.slice (some ⟨g, 0, none⟩) i i) 1 G.length (nats G)) := by
        have h9 := HS.out.new.rd
        show Rd _ _ _ _ _
        rw [← HGE.out] at h9; exact h9
      have HRF3 : Hid (Rd wr (.slice aF i cF) 1 F.length (nats F)) := HRF1.out.below HS.out.below (Nat.le_refl _)
      have HB3 : Hid (Below w.heap.size w wr) := below_step HB1.out HS.out.below
      clear hin HS HRF1 HB1 HR2
      go_wp2_with (fail)
      refine (HI.out _ _ HRF3).mono ?_
      rintro e w4 ⟨⟨vp, vq, rfl, hP, hQ⟩, hB⟩
      have HP := Lib.hid hP
      have HQ := Lib.hid hQ
      have HB4 : Hid (Below w.heap.size w w4) := below_step HB3.out hB
      have HRG4 : Hid (Rd w4 (.slice (some ⟨g, 0, none⟩) i i) 1 G.length (nats G)) := HRG3.out.below hB (Nat.le_refl _)
      clear hB hP hQ
      go_wp2_with (fail)
      refine (HJ.out _ _ HRG4).mono ?_
      rintro e w5 ⟨⟨va, vb, rfl, hA, hC⟩, hB⟩
      have HA := Lib.hid hA
      have HC := Lib.hid hC
      have HP5 : Hid (RdN w5 vp P) := HP.out.below hB
      have HQ5 : Hid (RdN w5 vq Q) := HQ.out.below hB
      have HB5 : Hid (Below w.heap.size w w5) := below_step HB4.out hB
      clear hB hA hC
      go_wp2_with (fail)
      refine (same_is Q Q va vq true _ HA HQ5 p3 p3 HQ2 HQ2 ⟨fun _ => rfl, fun _ => rfl⟩).mono ?_
      rintro e w6 ⟨rfl, n6, rfl⟩
      have hB : Below w5.heap.size w5 (w5.drewN n6) := below_drewN (Below.refl _ _) n6
      have HP6 : Hid (RdN (w5.drewN n6) vp P) := HP5.out.below hB
      have HC6 : Hid (RdN (w5.drewN n6) vb P) := HC.out.below hB
      have HB6 : Hid (Below w.heap.size w (w5.drewN n6)) := below_step HB5.out hB
      clear hB
      obtain ⟨w6, hw6⟩ : ∃ w6, w6 = w5.drewN n6 := ⟨_, rfl⟩
      rw [← hw6] at HP6 HC6 HB6 ⊢
      clear hw6
      go_wp2_with (fail)
      refine (same_is P P vb vp true _ HC6 HP6 p1 p1 HP2 HP2 ⟨fun _ => rfl, fun _ => rfl⟩).mono ?_
      rintro e w7 ⟨rfl, n7, rfl⟩
      have hB : Below w6.heap.size w6 (w6.drewN n7) := below_drewN (Below.refl _ _) n7
      have HB7 : Hid (Below w.heap.size w (w6.drewN n7)) := below_step HB6.out hB
      clear hB
      obtain ⟨w7, hw7⟩ : ∃ w7, w7 = w6.drewN n7 := ⟨_, rfl⟩
      rw [← hw7] at HB7 ⊢
      clear hw7
      go_wp2_with (fail)
      refine (awake_is _).mono ?_
      rintro e w8 ⟨rfl, hB⟩
      have HB8 : Hid (Below w.heap.size w w8) := below_step HB7.out hB
      clear hB
      go_wp2_with (fail)
      go_ret
      exact ⟨rfl, HB8.out⟩

set_option maxRecDepth 100000 in
theorem lifted (os : Os) (started : os.Started) (H : Type) (enc : TypeId × Value → H) :
    ReturnsInHanded {} Try.checked os 3 .any (Rows.tableauInverseSpec.pre6 enc Try.prog Try.f3 Rows.tableauInverseRow.domain false) (Rows.tableauInverseSpec.post enc Try.prog Try.f3 false true false false) := by
  refine returnsInHanded_of_change (C := Try.checked) own started (by kernel_rfl) Try.func3
    (ChangeSpec.witness6 (enc := enc) (C := Try.checked) false ⟨#[], #[.slice none 0 0], []⟩ 8 (by kernel_rfl) (by kernel_rfl) (by kernel_rfl) (by kernel_rfl)) ?_
  intro W base args ds gs before hval0 hW hcnd _
  have hval : ∀ (j : Nat) t v, Try.f3.params[j]? = some t → args[j]? = some v → Value.okWide Try.prog W .any base t v := hval0
  have hW' := hW
  obtain ⟨p, q, hA0, hV, rfl, hfz, hnd⟩ := hW
  have hA : DataW.TrodAll enc Try.prog W 0 (fun _ => true) true Try.f3.params.toList args.toList ds p := hA0
  rw [Try.params3] at hA hval
  obtain ⟨v1, vs1, d1, ds1, p1, q1, hargs, rfl, rfl, h1, r1⟩ := trodAll_cons hA
  obtain ⟨rfl, rfl, rfl⟩ := trodAll_nil r1
  obtain rfl : args = #[v1] := by cases args; simp_all
  obtain ⟨rfl, rfl⟩ := trodVars_none hV
  have hlt := hW'.lt
  obtain ⟨Z1, hZ1⟩ := argI_of (hval 0 22 v1 rfl rfl) h1
  clear hA0 hval0
  simp only [List.append_nil] at hW'
  refine (walk v1 Z1 W hZ1).mono fun e W' ⟨he, hg⟩ => ?_
  subst he
  exact ⟨_, rfl, _, _, _, [], p1 ++ ([]), [], hW', trodAll_cons_mk (shut_bool Try.underlying4 _) trodAll_mk0, trodAll_cons_mk (Below.trod (by kernel_rfl) (by kernel_rfl) (by decide +kernel) h1 hg (fun x hx => hlt x (by simp [hx]))) trodAll_mk0, rfl, hg.frame _, fun h => by cases h⟩

theorem over : Rows.tableauInverseRow.holds Try.pinned (OpenSpec.ofChange Rows.tableauInverseSpec) :=
  OpenClaim.holds_of_wide 3 Try.f3 rfl rfl rfl rfl rfl rfl rfl ⟨rfl, rfl, rfl, rfl, rfl⟩ rfl rfl rfl rfl rfl (by kernel_rfl) Try.func3 (by kernel_rfl)
    (of_decide_eq_true (by kernel_rfl)) (by unfold Func.isWrapper; first | (rw [if_pos (by decide +kernel)]; kernel_rfl) | (rw [if_neg (by decide +kernel)]; exact ⟨rfl, rfl⟩))
    (fun os started H enc _ => lifted os started H enc)

theorem proved : Rows.TableauInverseSaid := over

end tableauInverse
end Go.Proofs.Ytapidabhdbjnmaa

