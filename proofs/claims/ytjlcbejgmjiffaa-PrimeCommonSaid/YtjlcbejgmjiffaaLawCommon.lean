/- For any remainders and moduli, Common returns the minimum common number and the least common multiple, or the specified error. No condition. -/
import Derived.Test.YtjlcbejgmjiffaaArgs
import Derived.ProofKit
import Derived.OpenShut
namespace Go.Proofs.Ytjlcbejgmjiffaa.primeCommon
open Go.ChangeShapes Go.WideShapes Go.ChangeAt Go.RowKit

theorem own : ownKnob Try.prog.godebug = none := by kernel_rfl


theorem own_slice {w : World} {base size n : Nat} {e : TypeId} {v : Value} {xs : List Value} (h : w.ownsRow base e size v n xs) : ∃ (a : Option Addr) (cap : Nat), v = .slice a n cap := by
  rcases h.2 with ⟨h1, h2⟩ | ⟨g, cap, _, hv, _⟩
  · subst h2; exact ⟨none, 0, h1⟩
  · exact ⟨_, cap, hv⟩

theorem rests_list {R Q : List Int} (h : AreRests R Q) : ∃ L, Valid L ∧ R = (firsts L).map Int.ofNat ∧ Q = (seconds L).map Int.ofNat := by
  obtain ⟨h1, h2, h3⟩ := h
  have key : ∀ (R Q : List Int), R.length = Q.length → (∀ j (h : j < Q.length) (h' : j < R.length), IsRest R[j] Q[j]) → ∃ L : List (Nat × Nat), L.length = Q.length ∧ (∀ x ∈ L, x.1 < x.2 ∧ x.2 ≤ 2147483647) ∧ R = (firsts L).map Int.ofNat ∧ Q = (seconds L).map Int.ofNat := by
    intro R
    induction R with
    | nil =>
      intro Q hl _
      have : Q = [] := List.eq_nil_of_length_eq_zero (by simpa using hl.symm)
      subst this
      exact ⟨[], rfl, by simp, rfl, rfl⟩
    | cons r R ih =>
      intro Q hl hv
      match Q, hl, hv with
      | q :: Q, hl, hv =>
        obtain ⟨L, l1, l2, l3, l4⟩ := ih Q (by simpa using hl) (fun j hj hj' => by
          have := hv (j + 1) (by simpa using hj) (by simpa using hj')
          simpa using this)
        have h0 := hv 0 (by simp) (by simp)
        simp only [List.getElem_cons_zero] at h0
        obtain ⟨a1, a2, a3⟩ := h0
        refine ⟨(r.toNat, q.toNat) :: L, by simp [l1], ?_, ?_, ?_⟩
        · intro x hx
          rcases List.mem_cons.1 hx with rfl | hx
          · exact ⟨by show r.toNat < q.toNat; omega, by show q.toNat ≤ _; omega⟩
          · exact l2 x hx
        · rw [l3]; simp only [firsts, List.map_cons, List.cons.injEq]
          exact ⟨by show r = ((r.toNat : Nat) : Int); omega, by simp⟩
        · rw [l4]; simp only [seconds, List.map_cons, List.cons.injEq]
          exact ⟨by show q = ((q.toNat : Nat) : Int); omega, by simp⟩
  obtain ⟨L, l1, l2, l3, l4⟩ := key R Q h1 h3
  exact ⟨L, ⟨by omega, l2⟩, l3, l4⟩

set_option maxRecDepth 100000 in
set_option maxHeartbeats 4000000 in
theorem walk (vr vq : Value) (R Q R' Q' : List Int) (HR : Hid (R' = R.take 40)) (HQ : Hid (Q' = Q.take 40)) (w : World) (hr : Hid (ArgI w vr R)) (hq : Hid (ArgI w vq Q)) :
    Calls Try.prog 10 #[vr, vq] w fun e w' => e = .returned (.bool true) ∧ Below w.heap.size w w' := by
  obtain ⟨i0, hi, hz0, hz1, hz2⟩ := info_parts Try.infoI
  go_enter Try.func10, Try.ntmps10
  go_upto_region 2 with fail
  go_cut [5] (fun v wx => ∃ (W : World) (a : Option Addr) (cap : Nat), W = wx ∧ v = .slice a R'.length cap ∧ wx.ownsRow w.heap.size 3 1 v R'.length (intsZ R') ∧ Below w.heap.size w wx ∧ Below w.heap.size w wx)
  case first =>
    obtain ⟨hlen, hnil | ⟨a, cap, rfl, hc1, hc2, hcell⟩⟩ := hr.out
    · obtain ⟨rfl, rfl⟩ := hnil
      clear hlen
      go_wp2_with (at_builtin; refine wpList_append_own_none rfl _ _ 49 rfl w.heap.size 3 i0 1 Try.underlying49 hi _ 0 [] rfl (World.ownsRow_nil _ _ _ _) rfl ?_)
      go_meet
      have h0 : R' = [] := by rw [HR.out]; rfl
      rw [h0]
      exact ⟨_, none, 0, rfl, rfl, World.ownsRow_nil _ _ _ _, (Below.refl w.heap.size w), Below.refl _ _⟩
    · have HCELL := Lib.hid hcell
      clear hcell
      by_cases hle : R.length ≤ 40
      · have htk : Hid (R' = R) := HR.out.trans (List.take_of_length_le hle)
        have hbz := (Below.refl w.heap.size w).size
        go_wp2_with (at_builtin; refine wpList_append_own _ rfl _ _ 49 rfl w.heap.size 3 i0 (.int .i64 0) 1 8 Try.underlying49 hi hz0 hz1 hz2 rfl (by decide) _ 0 [] rfl (World.ownsRow_nil _ _ _ _) a R.length cap (intsZ R) rfl (by simp [intsZ]) ?c2 ?c3 ?c4 ?c5 ?c6 ?_)
        case c2 =>
          intro j u hj
          have hjl : j < R.length := by have := (List.getElem?_eq_some_iff.1 hj).1; simpa [intsZ] using this
          rw [intsZ_get R j hjl] at hj
          cases hj
          exact HCELL.out j hjl
        case c3 => intro u hu; unfold intsZ at hu; obtain ⟨z, _, rfl⟩ := List.mem_map.1 hu; rfl
        case c4 => unfold maxLen; omega
        case c5 => omega
        case c6 => first | exact Nat.le_refl _ | omega
        intro v' w1 hown hgrow _
        try simp only [Nat.zero_add, List.nil_append] at hown
        go_wp2_with (fail)
        go_meet
        obtain ⟨a', cap', hv⟩ := own_slice hown
        rw [htk.out]
        exact ⟨_, a', cap', rfl, hv, hown, (Below.refl w.heap.size w).trans ((Below.refl _ _).grown hgrow (by omega) (fun b hb => by simp [Value.ownBlock] at hb)), (Below.refl _ _).grown hgrow (by omega) (fun b hb => by simp [Value.ownBlock] at hb)⟩
      · have htk : Hid (R'.length = 40) := by show _ = _; rw [HR.out, List.length_take]; omega
        have hbz := (Below.refl w.heap.size w).size
        go_wp2_with (at_builtin; refine wpList_append_own _ rfl _ _ 49 rfl w.heap.size 3 i0 (.int .i64 0) 1 8 Try.underlying49 hi hz0 hz1 hz2 rfl (by decide) _ 0 [] rfl (World.ownsRow_nil _ _ _ _) a 40 cap (intsZ (R.take 40)) rfl (by simp [intsZ]; omega) ?c2 ?c3 ?c4 ?c5 ?c6 ?_)
        case c2 =>
          intro j u hj
          have hjl : j < (R.take 40).length := by have := (List.getElem?_eq_some_iff.1 hj).1; simpa [intsZ] using this
          rw [intsZ_get (R.take 40) j hjl] at hj
          cases hj
          rw [List.getElem_take]
          exact HCELL.out j (by rw [List.length_take] at hjl; omega)
        case c3 => intro u hu; unfold intsZ at hu; obtain ⟨z, _, rfl⟩ := List.mem_map.1 hu; rfl
        case c4 => unfold maxLen; omega
        case c5 => omega
        case c6 => first | exact Nat.le_refl _ | omega
        intro v' w1 hown hgrow _
        try simp only [Nat.zero_add, List.nil_append] at hown
        go_wp2_with (fail)
        go_meet
        obtain ⟨a', cap', hv⟩ := own_slice hown
        rw [htk.out]
        rw [← HR.out] at hown
        exact ⟨_, a', cap', rfl, hv, hown, (Below.refl w.heap.size w).trans ((Below.refl _ _).grown hgrow (by omega) (fun b hb => by simp [Value.ownBlock] at hb)), (Below.refl _ _).grown hgrow (by omega) (fun b hb => by simp [Value.ownBlock] at hb)⟩
  case rest =>
    obtain ⟨W1, a, cap, rfl, rfl, hown, hB, _⟩ := hcut
    have HRW := Lib.hid (And.intro hown hB)
    clear hown hB
    have hsz := HRW.out.2.size
    go_upto_region 3 with fail
    go_cut [6] (fun v wx => ∃ (W : World) (a : Option Addr) (cap : Nat), W = wx ∧ v = .slice a Q'.length cap ∧ wx.ownsRow W1.heap.size 3 1 v Q'.length (intsZ Q') ∧ Below w.heap.size w wx ∧ Below W1.heap.size W1 wx)
    case first =>
      obtain ⟨hlen, hnil | ⟨a, cap, rfl, hc1, hc2, hcell⟩⟩ := (hq.out.below HRW.out.2)
      · obtain ⟨rfl, rfl⟩ := hnil
        clear hlen
        go_wp2_with (at_builtin; refine wpList_append_own_none rfl _ _ 49 rfl W1.heap.size 3 i0 1 Try.underlying49 hi _ 0 [] rfl (World.ownsRow_nil _ _ _ _) rfl ?_)
        go_meet
        have h0 : Q' = [] := by rw [HQ.out]; rfl
        rw [h0]
        exact ⟨_, none, 0, rfl, rfl, World.ownsRow_nil _ _ _ _, HRW.out.2, Below.refl _ _⟩
      · have HCELL := Lib.hid hcell
        clear hcell
        by_cases hle : Q.length ≤ 40
        · have htk : Hid (Q' = Q) := HQ.out.trans (List.take_of_length_le hle)
          have hbz := HRW.out.2.size
          go_wp2_with (at_builtin; refine wpList_append_own _ rfl _ _ 49 rfl W1.heap.size 3 i0 (.int .i64 0) 1 8 Try.underlying49 hi hz0 hz1 hz2 rfl (by decide) _ 0 [] rfl (World.ownsRow_nil _ _ _ _) a Q.length cap (intsZ Q) rfl (by simp [intsZ]) ?c2 ?c3 ?c4 ?c5 ?c6 ?_)
          case c2 =>
            intro j u hj
            have hjl : j < Q.length := by have := (List.getElem?_eq_some_iff.1 hj).1; simpa [intsZ] using this
            rw [intsZ_get Q j hjl] at hj
            cases hj
            exact HCELL.out j hjl
          case c3 => intro u hu; unfold intsZ at hu; obtain ⟨z, _, rfl⟩ := List.mem_map.1 hu; rfl
          case c4 => unfold maxLen; omega
          case c5 => omega
          case c6 => first | exact Nat.le_refl _ | omega
          intro v' w1 hown hgrow _
          try simp only [Nat.zero_add, List.nil_append] at hown
          go_wp2_with (fail)
          go_meet
          obtain ⟨a', cap', hv⟩ := own_slice hown
          rw [htk.out]
          exact ⟨_, a', cap', rfl, hv, hown, HRW.out.2.trans ((Below.refl _ _).grown hgrow (by omega) (fun b hb => by simp [Value.ownBlock] at hb)), (Below.refl _ _).grown hgrow (by omega) (fun b hb => by simp [Value.ownBlock] at hb)⟩
        · have htk : Hid (Q'.length = 40) := by show _ = _; rw [HQ.out, List.length_take]; omega
          have hbz := HRW.out.2.size
          go_wp2_with (at_builtin; refine wpList_append_own _ rfl _ _ 49 rfl W1.heap.size 3 i0 (.int .i64 0) 1 8 Try.underlying49 hi hz0 hz1 hz2 rfl (by decide) _ 0 [] rfl (World.ownsRow_nil _ _ _ _) a 40 cap (intsZ (Q.take 40)) rfl (by simp [intsZ]; omega) ?c2 ?c3 ?c4 ?c5 ?c6 ?_)
          case c2 =>
            intro j u hj
            have hjl : j < (Q.take 40).length := by have := (List.getElem?_eq_some_iff.1 hj).1; simpa [intsZ] using this
            rw [intsZ_get (Q.take 40) j hjl] at hj
            cases hj
            rw [List.getElem_take]
            exact HCELL.out j (by rw [List.length_take] at hjl; omega)
          case c3 => intro u hu; unfold intsZ at hu; obtain ⟨z, _, rfl⟩ := List.mem_map.1 hu; rfl
          case c4 => unfold maxLen; omega
          case c5 => omega
          case c6 => first | exact Nat.le_refl _ | omega
          intro v' w1 hown hgrow _
          try simp only [Nat.zero_add, List.nil_append] at hown
          go_wp2_with (fail)
          go_meet
          obtain ⟨a', cap', hv⟩ := own_slice hown
          rw [htk.out]
          rw [← HQ.out] at hown
          exact ⟨_, a', cap', rfl, hv, hown, HRW.out.2.trans ((Below.refl _ _).grown hgrow (by omega) (fun b hb => by simp [Value.ownBlock] at hb)), (Below.refl _ _).grown hgrow (by omega) (fun b hb => by simp [Value.ownBlock] at hb)⟩
    case rest =>
      obtain ⟨W2, a2, cap2, rfl, rfl, hown2, hB2, hB12⟩ := hcut
      have hr2 : Hid (Rd W2 (.slice a R'.length cap) 1 R'.length (intsZ R')) := (Rd.of_own HRW.out.1).below hB12 (Nat.le_refl _)
      have hq2 : Hid (Rd W2 (.slice a2 Q'.length cap2) 1 Q'.length (intsZ Q')) := Rd.of_own hown2
      have HB2 := Lib.hid hB2
      clear hown2 hB2 hB12
      have hl1 : R'.length ≤ 40 := by rw [HR.out, List.length_take]; omega
      have hl2 : Q'.length ≤ 40 := by rw [HQ.out, List.length_take]; omega
      by_cases hA : AreRests R' Q'
      · obtain ⟨L, hLv, hLr, hLq⟩ := rests_list hA
        have hV := Lib.hid hLv
        have hlR : R'.length = L.length := by rw [hLr]; simp [firsts]
        have hlQ : Q'.length = L.length := by rw [hLq]; simp [seconds]
        have hr3 : Hid (Rd W2 (.slice a R'.length cap) 1 L.length (ints (firsts L))) := by
          have := hr2.out
          show Rd _ _ _ _ _
          rw [← intsZ_ofNat, ← hLr, ← hlR]
          exact this
        have hq3 : Hid (Rd W2 (.slice a2 Q'.length cap2) 1 L.length (ints (seconds L))) := by
          have := hq2.out
          show Rd _ _ _ _ _
          rw [← intsZ_ofNat, ← hLq, ← hlQ]
          exact this
        clear hLv hLr hLq hlR hlQ hA
        by_cases hs : M.small 1 (seconds L) = true
        · have HS := Lib.hid hs
          clear hs
          obtain ⟨o, ho⟩ : ∃ o, M.crt 0 1 L = o := ⟨_, rfl⟩
          have HO := Lib.hid ho
          clear ho
          cases o with
          | none =>
            go_wp2_with (fail)
            refine (Common_ok L _ _ _ _ hr3 hq3 hV HS HO).mono ?_
            rintro e w' ⟨rfl, n1, rfl⟩
            go_wp2_with (fail)
            refine (refCommon_ok L _ _ _ _ (hr3.out.below (below_drewN (Below.refl _ _) n1) (Nat.le_refl _)) (hq3.out.below (below_drewN (Below.refl _ _) n1) (Nat.le_refl _)) hV HS HO).mono ?_
            rintro e w' ⟨rfl, n2, rfl⟩
            go_wp2_with (go_at_call 19; refine (awake_is _).mono ?_; rintro e w3 ⟨rfl, hB⟩; have HB3 := Lib.hid hB; clear hB)
            go_ret
            have h1 := below_drewN HB2.out (n1 + n2)
            exact ⟨rfl, h1.trans (HB3.out.mono h1.size)⟩
          | some xa =>
            obtain ⟨x, al⟩ := xa
            go_wp2_with (fail)
            refine (Common_ok L _ _ _ _ hr3 hq3 hV HS HO).mono ?_
            rintro e w' ⟨rfl, n1, rfl⟩
            have hx : ((x : Int) == (x : Int)) = true := by simp
            have hal : ((al : Int) == (al : Int)) = true := by simp
            go_wp2_with (fail)
            refine (refCommon_ok L _ _ _ _ (hr3.out.below (below_drewN (Below.refl _ _) n1) (Nat.le_refl _)) (hq3.out.below (below_drewN (Below.refl _ _) n1) (Nat.le_refl _)) hV HS HO).mono ?_
            rintro e w' ⟨rfl, n2, rfl⟩
            go_wp2_with (go_at_call 19; refine (awake_is _).mono ?_; rintro e w3 ⟨rfl, hB⟩; have HB3 := Lib.hid hB; clear hB)
            go_ret
            have h1 := below_drewN HB2.out (n1 + n2)
            exact ⟨rfl, h1.trans (HB3.out.mono h1.size)⟩
        · have HS : Hid (M.small 1 (seconds L) = false) := by show _ = _; simpa using hs
          clear hs
          go_wp2_with (fail)
          refine (Common_big L _ _ _ hr3 hq3 hV HS).mono ?_
          rintro e w' ⟨rfl, n1, rfl⟩
          go_wp2_with (fail)
          refine (refCommon_big L _ _ _ (hr3.out.below (below_drewN (Below.refl _ _) n1) (Nat.le_refl _)) (hq3.out.below (below_drewN (Below.refl _ _) n1) (Nat.le_refl _)) hV HS).mono ?_
          rintro e w' ⟨rfl, n2, rfl⟩
          go_wp2_with (go_at_call 19; refine (awake_is _).mono ?_; rintro e w3 ⟨rfl, hB⟩; have HB3 := Lib.hid hB; clear hB)
          go_ret
          have h1 := below_drewN HB2.out (n1 + n2)
          exact ⟨rfl, h1.trans (HB3.out.mono h1.size)⟩
      · have HNA := Lib.hid hA
        clear hA
        go_wp2_with (fail)
        refine (Common_arg R' Q' _ _ _ hr2 hq2 (by omega) HNA).mono ?_
        rintro e w' ⟨rfl, n1, rfl⟩
        go_wp2_with (fail)
        refine (refCommon_arg R' Q' _ _ _ (hr2.out.below (below_drewN (Below.refl _ _) n1) (Nat.le_refl _)) (hq2.out.below (below_drewN (Below.refl _ _) n1) (Nat.le_refl _)) (by omega) (by omega) HNA).mono ?_
        rintro e w' ⟨rfl, n2, rfl⟩
        go_wp2_with (go_at_call 19; refine (awake_is _).mono ?_; rintro e w3 ⟨rfl, hB⟩; have HB3 := Lib.hid hB; clear hB)
        go_ret
        have h1 := below_drewN HB2.out (n1 + n2)
        exact ⟨rfl, h1.trans (HB3.out.mono h1.size)⟩


set_option maxRecDepth 100000 in
theorem lifted (os : Os) (started : os.Started) (H : Type) (enc : TypeId × Value → H) :
    ReturnsInHanded {} Try.checked os 10 .any (Rows.primeCommonSpec.pre6 enc Try.prog Try.f10 Rows.primeCommonRow.domain false) (Rows.primeCommonSpec.post enc Try.prog Try.f10 false true false false) := by
  refine returnsInHanded_of_change (C := Try.checked) own started (by kernel_rfl) Try.func10
    (ChangeSpec.witness6 (enc := enc) (C := Try.checked) false ⟨#[], #[.slice none 0 0, .slice none 0 0], []⟩ 8 (by kernel_rfl) (by kernel_rfl) (by kernel_rfl) (by kernel_rfl)) ?_
  intro W base args ds gs before hval0 hW hcnd _
  have hval : ∀ (j : Nat) t v, Try.f10.params[j]? = some t → args[j]? = some v → Value.okWide Try.prog W .any base t v := hval0
  have hW' := hW
  obtain ⟨p, q, hA0, hV, rfl, hfz, hnd⟩ := hW
  have hA : DataW.TrodAll enc Try.prog W 0 (fun _ => true) true Try.f10.params.toList args.toList ds p := hA0
  rw [Try.params10] at hA hval
  obtain ⟨v0, vs0, d0, ds0, p0, q0, hargs, rfl, rfl, h0, r0⟩ := trodAll_cons hA
  obtain ⟨v1, vs1, d1, ds1, p1, q1, rfl, rfl, rfl, h1, r1⟩ := trodAll_cons r0
  obtain ⟨rfl, rfl, rfl⟩ := trodAll_nil r1
  obtain rfl : args = #[v0, v1] := by cases args; simp_all
  obtain ⟨rfl, rfl⟩ := trodVars_none hV
  have hlt := hW'.lt
  obtain ⟨Z0, hZ0⟩ := argI_of (hval 0 49 v0 rfl rfl) h0
  obtain ⟨Z1, hZ1⟩ := argI_of (hval 1 49 v1 rfl rfl) h1
  clear hA0 hval0
  simp only [List.append_nil] at hW'
  refine (walk v0 v1 Z0 Z1 _ _ rfl rfl W hZ0 hZ1).mono fun e W' ⟨he, hg⟩ => ?_
  subst he
  exact ⟨_, rfl, _, _, _, [], p0 ++ (p1 ++ ([])), [], hW', trodAll_cons_mk (shut_bool Try.underlying4 _) trodAll_mk0, trodAll_cons_mk (Below.trod (by kernel_rfl) (by kernel_rfl) (by decide +kernel) h0 hg (fun x hx => hlt x (by simp [hx]))) (trodAll_cons_mk (Below.trod (by kernel_rfl) (by kernel_rfl) (by decide +kernel) h1 hg (fun x hx => hlt x (by simp [hx]))) trodAll_mk0), rfl, hg.frame _, fun h => by cases h⟩

theorem over : Rows.primeCommonRow.holds Try.pinned (OpenSpec.ofChange Rows.primeCommonSpec) :=
  OpenClaim.holds_of_wide 10 Try.f10 rfl rfl rfl rfl rfl rfl rfl ⟨rfl, rfl, rfl, rfl, rfl⟩ rfl rfl rfl rfl rfl (by kernel_rfl) Try.func10 (by kernel_rfl)
    (of_decide_eq_true (by kernel_rfl)) (by unfold Func.isWrapper; first | (rw [if_pos (by decide +kernel)]; kernel_rfl) | (rw [if_neg (by decide +kernel)]; exact ⟨rfl, rfl⟩))
    (fun os started H enc _ => lifted os started H enc)

theorem proved : Rows.PrimeCommonSaid := over

end Go.Proofs.Ytjlcbejgmjiffaa.primeCommon
