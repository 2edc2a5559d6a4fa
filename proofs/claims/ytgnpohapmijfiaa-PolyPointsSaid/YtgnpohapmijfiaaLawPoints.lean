/- For any field and list of points, Through returns the polynomial of minimum degree, or ErrArg. No condition. -/
import Derived.Test.YtgnpohapmijfiaaG20
import Derived.Test.YtgnpohapmijfiaaG13
import Derived.Test.YtgnpohapmijfiaaG09
import Derived.ProofKit
import Derived.OpenShut
namespace Go.Proofs.Ytgnpohapmijfiaa.polyPoints
open Go.ChangeShapes Go.WideShapes Go.ChangeAt Go.RowKit

theorem own : ownKnob Try.prog.godebug = none := by kernel_rfl


theorem flatP_one (T : List (Int × Int)) : ∀ u ∈ flatP T, u.oneCell' = true := fun u hu => by
  unfold flatP at hu
  obtain ⟨q, _, hq⟩ := List.mem_flatMap.1 hu
  simp at hq
  rcases hq with rfl | rfl <;> rfl
theorem Try.infoA : (Try.prog.info? 48).map (fun i => (i.zero, i.size, i.bytes)) = some (some (.agg #[.int .i64 0, .int .i64 0]), 2, 16) := by kernel_rfl

theorem flatP_cells {w : World} {ad : Addr} {Z : List (Int × Int)} {m : Nat} (_hm : m ≤ Z.length) (h : ∀ i (h : i < Z.length), w.cell? (ad.add (i * 2)) = some (.int .i64 Z[i].1) ∧ w.cell? (ad.add (i * 2 + 1)) = some (.int .i64 Z[i].2)) :
    ∀ j u, (flatP (Z.take m))[j]? = some u → w.cell? (ad.add j) = some u := fun j u hu => by
  have hj : j < (Z.take m).length * 2 := by
    rcases Nat.lt_or_ge j ((Z.take m).length * 2) with h1 | h1
    · exact h1
    · rw [List.getElem?_eq_none (by rw [flatP_length]; exact h1)] at hu; cases hu
  have hk : j / 2 < (Z.take m).length := by omega
  have hkZ : j / 2 < Z.length := by rw [List.length_take] at hk; omega
  have hg := flatP_get (Z.take m) (j / 2) hk
  have hc := h (j / 2) hkZ
  rw [List.getElem_take] at hg
  rcases Nat.mod_two_eq_zero_or_one j with h0 | h0
  · have e : j / 2 * 2 = j := by omega
    rw [e] at hg hc
    rw [hg.1] at hu
    rw [hc.1]; exact hu
  · have e : j / 2 * 2 + 1 = j := by omega
    rw [e] at hg hc
    rw [hg.2] at hu
    rw [hc.2]; exact hu

set_option maxRecDepth 100000 in
set_option maxHeartbeats 8000000 in
theorem walk (p : Int) (v : Value) (Z : List (Int × Int)) (w : World) (hv : Hid (ArgQ w v Z)) :
    Calls Try.prog 7 #[.int .i64 p, v] w fun e w' => e = .returned (.bool true) ∧ Below w.heap.size w w' := by
  obtain ⟨i1, hi1, hy0, hy1, hy2⟩ := info_parts Try.infoA
  obtain ⟨T, hT⟩ : ∃ T, T = Z.take 40 := ⟨_, rfl⟩
  obtain ⟨n, hn⟩ : ∃ n, n = T.length := ⟨_, rfl⟩
  have HTT := Lib.hid hT
  have HN := Lib.hid hn
  have hn40 : n ≤ 40 := by rw [hn, hT, List.length_take]; omega
  obtain ⟨t, ht⟩ : ∃ t : Bool, (FieldI p ↔ t = true) := by
    by_cases h : FieldI p
    · exact ⟨true, by simp [h]⟩
    · exact ⟨false, by simp [h]⟩
  have HFT := Lib.hid ht
  clear hT hn ht
  obtain ⟨a0, l0, cap0, hav, hA0⟩ : ∃ (a0 : Option Addr) (l0 cap0 : Nat), v = .slice a0 l0 cap0 ∧ Hid (l0 = Z.length ∧ ((a0 = none ∧ cap0 = 0 ∧ Z = []) ∨ ∃ ad, a0 = some ad ∧ l0 ≤ cap0 ∧ cap0 ≤ 9223372036854775807 ∧ ∀ i (h : i < Z.length), w.cell? (ad.add (i * 2)) = some (.int .i64 Z[i].1) ∧ w.cell? (ad.add (i * 2 + 1)) = some (.int .i64 Z[i].2))) := by
    rcases hv.out.2 with ⟨h1, h2⟩ | ⟨ad, cap, h1, h2, h3, h4⟩
    · exact ⟨none, 0, 0, h1, by rw [h2]; rfl, .inl ⟨rfl, rfl, h2⟩⟩
    · exact ⟨some ad, _, cap, h1, rfl, .inr ⟨ad, rfl, h2, h3, h4⟩⟩
  subst hav
  have hl0 : l0 ≤ 9223372036854775807 := by rw [hA0.out.1]; exact hv.out.1
  clear hv
  go_enter Try.func7, Try.ntmps7
  go_upto_region 2 with fail
  go_cut [5] (fun o wx => ∃ (a : Option Addr) (cap : Nat) (W1 : World), o = .slice a n cap ∧ W1 = wx ∧ Hid (Rd wx (.slice a n cap) 2 T.length (flatP T)) ∧ Hid (Below w.heap.size w wx))
  case first =>
    rcases hA0.out.2 with ⟨h1, h2, h3⟩ | ⟨ad, h1, hcap, hcap2, hcell⟩
    · have hz0 : l0 = 0 := by rw [hA0.out.1, h3]; rfl
      have hT0 : T = [] := by rw [HTT.out, h3]; rfl
      have hn0 : n = 0 := by rw [HN.out, hT0]; rfl
      subst h1 hz0 h2
      have HE0 := Lib.hid (And.intro hn0 hT0)
      have hR0 : Hid (Rd w (.slice none 0 0) 2 ([] : List (Int × Int)).length (flatP [])) := Rd.of_own (World.ownsRow_nil w w.heap.size 48 2)
      clear hA0 HTT HN h3 hT0 hn0
      go_wp2_with (fail)
      go_meet
      obtain ⟨e1, e2⟩ := HE0.out
      refine ⟨none, 0, _, by rw [e1]; rfl, rfl, ?_, Below.refl _ _⟩
      rw [e1, e2]; exact hR0
    · subst h1
      have hlZ := hA0.out.1
      have hnm : n = min l0 40 := by rw [HN.out, HTT.out, List.length_take, hlZ]; omega
      have HC : Hid (∀ j u, (flatP T)[j]? = some u → w.cell? (ad.add j) = some u) := by
        rw [HTT.out]
        have h := flatP_cells (m := min 40 Z.length) (by omega) hcell
        rw [← List.take_eq_take_min] at h
        exact h
      have H1 := Lib.hid (flatP_one T)
      have HL : Hid ((flatP T).length = n * 2) := by show _ = _; rw [flatP_length, HN.out]
      have hnc : n ≤ cap0 := by omega
      have hnl : n ≤ l0 := by omega
      by_cases h40 : l0 ≤ 40
      · have hd : ((40 : Int) < (l0 : Int)) = False := by simp; omega
        have hq1 : min (l0 : Int) 40 = (n : Int) := by omega
        have hq2 : n = l0 := by omega
        subst hq2
        clear hA0 hlZ hcell hnm
        go_wp2_with (at_builtin; refine wpList_append_own _ rfl _ _ 46 rfl w.heap.size 48 i1 (.agg #[.int .i64 0, .int .i64 0]) 2 16 Try.underlying46 hi1 hy0 hy1 hy2 rfl (by decide) _ 0 [] rfl (World.ownsRow_nil _ _ _ _) ad n cap0 (flatP T) rfl HL.out HC.out H1.out (by unfold maxLen; omega) (by omega) (by simp) ?_)
        intro v' w1 hown hgrow _
        have hB1 : Below w.heap.size w w1 := (Below.refl _ _).grown hgrow (Nat.le_refl _) (by intro g hg; simp [Value.ownBlock] at hg)
        obtain ⟨av, cv, hvv, _⟩ := own_form hown
        subst hvv
        have HR : Hid (∃ cv', Rd w1 (.slice av (0 + n) cv) 2 T.length (flatP T) ∧ Below w.heap.size w w1 ∧ cv' = cv) := ⟨_, by have h := Rd.of_own hown; rw [HN.out] at h ⊢; simpa using h, hB1, rfl⟩
        clear hown hgrow hB1
        go_wp2_with (fail)
        go_meet
        obtain ⟨_, hr1, hr2, _⟩ := HR.out
        exact ⟨av, cv, _, by simp, rfl, (show Rd w1 (.slice av n cv) 2 T.length (flatP T) by simpa using hr1), hr2⟩
      · have hd : ((40 : Int) < (l0 : Int)) = True := by simp; omega
        have hq1 : min (l0 : Int) 40 = 40 := by omega
        have hq2 : n = 40 := by omega
        have hq3 : (40 : Int) ≤ (l0 : Int) := by omega
        have hq4 : 40 ≤ cap0 := by omega
        subst hq2
        clear hA0 hlZ hcell hnm
        go_wp2_with (at_builtin; refine wpList_append_own _ rfl _ _ 46 rfl w.heap.size 48 i1 (.agg #[.int .i64 0, .int .i64 0]) 2 16 Try.underlying46 hi1 hy0 hy1 hy2 rfl (by decide) _ 0 [] rfl (World.ownsRow_nil _ _ _ _) ad 40 cap0 (flatP T) rfl HL.out HC.out H1.out (by unfold maxLen; omega) (by omega) (by simp) ?_)
        intro v' w1 hown hgrow _
        have hB1 : Below w.heap.size w w1 := (Below.refl _ _).grown hgrow (Nat.le_refl _) (by intro g hg; simp [Value.ownBlock] at hg)
        obtain ⟨av, cv, hvv, _⟩ := own_form hown
        subst hvv
        have HR : Hid (Rd w1 (.slice av 40 cv) 2 T.length (flatP T) ∧ Below w.heap.size w w1) := ⟨by have h := Rd.of_own hown; rw [← HN.out]; simpa using h, hB1⟩
        clear hown hgrow hB1
        go_wp2_with (fail)
        go_meet
        exact ⟨av, cv, _, by simp, rfl, HR.out.1, HR.out.2⟩
  case rest =>
    obtain ⟨a, cap, w1, rfl, rfl, HR1, HB1⟩ := hcut
    clear hA0
    have hT40 : T.length ≤ 40 := by have := HN.out; omega
    have HTL := Lib.hid hT40
    clear hT40
    go_wp2_with (fail)
    refine (Through_is p T t _ _ HR1 HTL.out HFT).mono ?_
    rintro x w2 ⟨⟨af, mf, cf, e, rfl, hTR⟩, hB2⟩
    have HTR := Lib.hid hTR
    have HR2 : Hid (Rd w2 (.slice a n cap) 2 T.length (flatP T)) := HR1.out.below hB2 (Nat.le_refl _)
    have HB2 := Lib.hid (HB1.out.trans (hB2.mono HB1.out.size))
    clear hTR hB2
    go_upto_region 4 with fail
    go_cut [8] (fun bv wx => ∃ (b : Bool) (W3 : World), bv = .bool b ∧ W3 = wx ∧ wx = w2 ∧ Hid (b = (!t || decide (33 < T.length))))
    case first =>
      clear HTR HTL
      have hnT := HN.out
      by_cases h33 : 33 < n
      · have hd33 : decide ((33 : Int) < (n : Int)) = true := by rw [decide_eq_true_iff]; omega
        have HE : Hid ((true : Bool) = (!t || decide (33 < T.length))) := by show _ = _; rw [← hnT, decide_eq_true h33]; cases t <;> rfl
        cases t with
        | true =>
          clear hnT h33
          go_wp2_with (fail)
          refine (rField_is p true _ (show Hid (FieldI p ↔ true = true) from ⟨fun _ => rfl, fun _ => HFT.out.2 trivial⟩)).mono ?_
          rintro e wz ⟨rfl, rfl⟩
          go_wp2_with (fail)
          go_meet
          exact ⟨true, _, rfl, rfl, rfl, HE⟩
        | false =>
          clear hnT h33
          go_wp2_with (fail)
          refine (rField_is p false _ HFT).mono ?_
          rintro e wz ⟨rfl, rfl⟩
          go_wp2_with (fail)
          go_meet
          exact ⟨true, _, rfl, rfl, rfl, HE⟩
      · have hd33 : decide ((33 : Int) < (n : Int)) = false := by rw [decide_eq_false_iff_not]; omega
        have HE : Hid ((!t) = (!t || decide (33 < T.length))) := by show _ = _; rw [← hnT, decide_eq_false h33]; cases t <;> rfl
        cases t with
        | true =>
          clear hnT h33
          go_wp2_with (fail)
          refine (rField_is p true _ (show Hid (FieldI p ↔ true = true) from ⟨fun _ => rfl, fun _ => HFT.out.2 trivial⟩)).mono ?_
          rintro e wz ⟨rfl, rfl⟩
          go_wp2_with (fail)
          go_meet
          exact ⟨false, _, rfl, rfl, rfl, HE⟩
        | false =>
          clear hnT h33
          go_wp2_with (fail)
          refine (rField_is p false _ HFT).mono ?_
          rintro e wz ⟨rfl, rfl⟩
          go_wp2_with (fail)
          go_meet
          exact ⟨true, _, rfl, rfl, rfl, HE⟩
    case rest =>
      obtain ⟨b, W3, rfl, rfl, rfl, HB0⟩ := hcut
      obtain ⟨B, hBd⟩ : ∃ B : Nat → Bool, B = allB p T (!t || decide (33 < T.length)) := ⟨_, rfl⟩
      have HBD := Lib.hid hBd
      have HBZ : Hid (b = B 0) := by show _ = _; rw [hBd, HB0.out]; rfl
      clear hBd
      have HC : Hid (∀ W, Below W3.heap.size W3 W → ∀ k (h : k < n), ∃ bb, a = some ⟨bb, 0, none⟩ ∧ W.cell? ⟨bb, k * 2, none⟩ = some (.int .i64 (ptX T k)) ∧ W.cell? ⟨bb, k * 2 + 1, none⟩ = some (.int .i64 (ptY T k))) := fun W hW k h => by
        have hk : k < T.length := by rw [← HN.out]; exact h
        obtain ⟨_, a', cap', hav, _, hcell⟩ := HR2.out
        injection hav with e1 e2 e3
        subst e1
        rcases hcell with h0 | ⟨bb, h1, h2, h3⟩
        · omega
        · have hf := flatP_get T k hk
          have ex : ptX T k = T[k].1 := by simp [ptX, List.getD, hk]
          have ey : ptY T k = T[k].2 := by simp [ptY, List.getD, hk]
          refine ⟨bb, h1, ?_, ?_⟩
          · rw [hW.cell (p := ⟨bb, k * 2, none⟩) h2, ex]; exact h3 _ _ hf.1
          · rw [hW.cell (p := ⟨bb, k * 2 + 1, none⟩) h2, ey]; exact h3 _ _ hf.2
      go_wp2_with (fail)
      go_loopw [8, 9] (fun bv iv wx => ∃ (i : Nat) (b : Bool), bv = .bool b ∧ iv = .int .i64 i ∧ i ≤ n ∧ Hid (b = B i) ∧ Hid (Below W3.heap.size W3 wx)) (fun _ iv _ => n - (intOf iv).toNat)
      case atStart => exact ⟨0, b, rfl, rfl, by omega, HBZ, Below.refl _ _⟩
      case round =>
        obtain ⟨i, b, rfl, rfl, hi, HBI, HBW⟩ := hrel
        by_cases hin : i < n
        · have hin1 : (i : Int) < (n : Int) := by omega
          obtain ⟨bb, hbb, c0, c1⟩ := HC.out _ HBW.out i hin
          subst hbb
          obtain ⟨x, hx⟩ : ∃ x, x = ptX T i := ⟨_, rfl⟩
          obtain ⟨y, hy⟩ : ∃ y, y = ptY T i := ⟨_, rfl⟩
          rw [← hx] at c0
          rw [← hy] at c1
          have HX := Lib.hid hx
          have HV : Hid (B (i + 1) = rowB p T b i i) := by show _ = _; rw [HBI.out, HBD.out]; rfl
          have HV0 : Hid (rowB p T b i 0 = (b || (decide (x < 0) || (decide (p ≤ x) || (decide (y < 0) || decide (p ≤ y)))))) := by show _ = _; rw [hx, hy]; rfl
          clear hx hy
          go_upto_region 8 with fail
          go_cut [8] (fun bv wx => ∃ (b1 : Bool) (W5 : World), bv = .bool b1 ∧ W5 = wx ∧ Hid (b1 = rowB p T b i 0) ∧ Hid (Below W3.heap.size W3 wx))
          case first =>
            cases b with
            | true =>
              have HE : Hid (true = rowB p T true i 0) := by show _ = _; rw [HV0.out]; rfl
              clear HV HV0
              go_wp2_with (fail)
              go_meet
              exact ⟨true, _, rfl, rfl, HE, HBW⟩
            | false =>
              by_cases x0 : x < 0
              · have e0 : decide (x < 0) = true := decide_eq_true x0
                have HE : Hid (true = rowB p T false i 0) := by show _ = _; rw [HV0.out, e0]; rfl
                clear HV HV0 x0
                go_wp2_with (fail)
                go_meet
                exact ⟨true, _, rfl, rfl, HE, HBW⟩
              · have e0 : decide (x < 0) = false := decide_eq_false x0
                by_cases x1 : p ≤ x
                · have e1 : decide (p ≤ x) = true := decide_eq_true x1
                  have HE : Hid (true = rowB p T false i 0) := by show _ = _; rw [HV0.out, e0, e1]; rfl
                  clear HV HV0 x0 x1
                  go_wp2_with (fail)
                  go_meet
                  exact ⟨true, _, rfl, rfl, HE, HBW⟩
                · have e1 : decide (p ≤ x) = false := decide_eq_false x1
                  by_cases x2 : y < 0
                  · have e2 : decide (y < 0) = true := decide_eq_true x2
                    have HE : Hid (true = rowB p T false i 0) := by show _ = _; rw [HV0.out, e0, e1, e2]; rfl
                    clear HV HV0 x0 x1 x2
                    go_wp2_with (fail)
                    go_meet
                    exact ⟨true, _, rfl, rfl, HE, HBW⟩
                  · have e2 : decide (y < 0) = false := decide_eq_false x2
                    obtain ⟨b4, hb4⟩ : ∃ b4, b4 = decide (p ≤ y) := ⟨_, rfl⟩
                    have e3 := hb4.symm
                    have HE : Hid (b4 = rowB p T false i 0) := by show _ = _; rw [HV0.out, e0, e1, e2, hb4]; rfl
                    clear HV HV0 x0 x1 x2 hb4
                    go_wp2_with (fail)
                    go_meet
                    exact ⟨b4, _, rfl, rfl, HE, HBW⟩
          case rest =>
            obtain ⟨b1, W5, rfl, rfl, HB1', HBW5⟩ := hcut
            clear HBW c0 c1 HBI
            go_wp2_with (fail)
            go_loopw [8, 10] (fun bv kv wx => ∃ (k : Nat) (b2 : Bool), bv = .bool b2 ∧ kv = .int .i64 k ∧ k ≤ i ∧ Hid (b2 = rowB p T b i k) ∧ Hid (Below W3.heap.size W3 wx)) (fun _ kv _ => i - (intOf kv).toNat)
            case atStart => exact ⟨0, b1, rfl, rfl, by omega, HB1', HBW5⟩
            case round =>
              obtain ⟨k, b2, rfl, rfl, hk, HB2', HBK⟩ := hrel
              by_cases hki : k < i
              · have hki1 : (k : Int) < (i : Int) := by omega
                have hkn1 : (k : Int) < (n : Int) := by omega
                obtain ⟨b', hb', c0, _⟩ := HC.out _ HBK.out i hin
                injection hb' with hb'; injection hb' with hb'; subst hb'
                obtain ⟨b', hb', k0, _⟩ := HC.out _ HBK.out k (by omega)
                injection hb' with hb'; injection hb' with hb'; subst hb'
                rw [← HX.out] at c0
                obtain ⟨z, hz⟩ : ∃ z, z = ptX T k := ⟨_, rfl⟩
                rw [← hz] at k0
                have HV1 : Hid (rowB p T b i (k + 1) = (b2 || (z == x))) := by show _ = _; rw [HB2'.out, hz, HX.out]; rfl
                clear hz
                cases b2 with
                | true =>
                  have HE : Hid (true = rowB p T b i (k + 1)) := by show _ = _; rw [HV1.out]; rfl
                  clear HV1
                  go_wp2_with (fail)
                  go_region
                  all_goals
                    go_wp2_with (fail)
                    go_roundw
                    case rel => exact ⟨k + 1, true, rfl, by go_num, by omega, HE, by first | exact HBK | exact HBK.out.drew | exact below_drewN HBK.out _⟩
                    case measure => simp [intOf]; omega
                | false =>
                  obtain ⟨b3, hb3⟩ : ∃ b3, b3 = (z == x) := ⟨_, rfl⟩
                  have e3 := hb3.symm
                  have HE : Hid (b3 = rowB p T b i (k + 1)) := by show _ = _; rw [HV1.out, hb3]; rfl
                  clear HV1 hb3
                  go_wp2_with (fail)
                  go_region
                  all_goals
                    go_wp2_with (fail)
                    go_roundw
                    case rel => exact ⟨k + 1, b3, rfl, by go_num, by omega, HE, by first | exact HBK | exact HBK.out.drew | exact below_drewN HBK.out _⟩
                    case measure => simp [intOf]; omega
              · obtain rfl : k = i := by omega
                have HE : Hid (b2 = B (k + 1)) := by show _ = _; rw [HB2'.out, HV.out]
                go_wp2_with (fail)
                go_roundw
                case rel => exact ⟨k + 1, b2, rfl, by go_num, by omega, HE, HBK⟩
                case measure => simp [intOf]; omega
        · obtain rfl : i = n := by omega
          have HB9' : Hid (Below w.heap.size w wr) := HB2.out.trans (HBW.out.mono HB2.out.size)
          cases b with
          | true =>
            have hme : mf = 0 ∧ e = 2 := by
              have hb := HBI.out
              rw [HBD.out, HN.out] at hb
              rcases HTR.out with h | h
              · rw [h.1] at hb; cases hb
              · exact h.2
            obtain ⟨rfl, rfl⟩ := hme
            clear HTR HBI HC
            go_wp2_with (fail)
            refine (awake_is _).mono ?_
            rintro e w9 ⟨rfl, hB⟩
            have HB9 := Lib.hid (HB9'.out.trans (hB.mono HB9'.out.size))
            clear hB
            go_wp2_with (fail)
            go_ret
            exact ⟨rfl, HB9.out⟩
          | false =>
            have hok : ∃ (q : Nat) (L : List (Nat × Nat)), p = q ∧ M.Pr q ∧ q ≤ 1021 ∧ T = upP L ∧ L.length ≤ 33 ∧ Q.Pts q L ∧ e = 0 ∧ mf = (Q.thrAt q L L.length).1.length ∧ NewL w1 W3 (.slice af mf cf) (Q.thrAt q L L.length).1 := by
              have hb := HBI.out
              rw [HBD.out, HN.out] at hb
              rcases HTR.out with h | h
              · exact h.2
              · rw [h.1] at hb; cases hb
            obtain ⟨q, L, rfl, hP, hq, hTL, hL33, hPts, rfl, rfl, hNew⟩ := hok
            have HP := Lib.hid hP
            have HPT := Lib.hid hPts
            have hp2 : 2 ≤ q := hP.1
            have hnL : i = L.length := by rw [HN.out, hTL, upP_length]
            have HLG : Hid (Q.lagS q L L.length = (Q.thrAt q L L.length).1) := Q.lag_is hP hPts
            obtain ⟨F, hF⟩ : ∃ F, F = (Q.thrAt q L L.length).1 := ⟨_, rfl⟩
            have hFl : F.length ≤ 33 := by
              rw [hF, ← Q.lag_is hP hPts]; have := Q.lagS_len (p := q) (by omega) L L.length (Nat.le_refl _); omega
            rw [← hF] at HLG hNew ⊢
            have HRF : Hid (Rd wr (.slice af F.length cf) 1 F.length (nats F)) := (hNew.rd).below HBW.out (Nat.le_refl _)
            have HRL : Hid (Rd wr (.slice a i cap) 2 L.length (flatP (upP L))) := by
              have h := HR2.out.below HBW.out (Nat.le_refl _)
              rw [hTL, upP_length] at h; exact h
            clear hP hPts hTL hnL hF hNew HTR HBI HC
            go_wp2_with (fail)
            refine (rThrough_is q L _ _ HP hq HRL hL33 HPT).mono ?_
            rw [HLG.out]
            rintro x w4 ⟨⟨vg, rfl, hN4⟩, hB4⟩
            have HB4 := Lib.hid (HB9'.out.trans (hB4.mono HB9'.out.size))
            have HRF4 : Hid (Rd w4 (.slice af F.length cf) 1 F.length (nats F)) := HRF.out.below hB4 (Nat.le_refl _)
            have HRG4 : Hid (Rd w4 vg 1 F.length (nats F)) := hN4.rd
            obtain ⟨ag, cg, hvg⟩ := hN4.rd.shape
            subst hvg
            clear hN4 hB4
            go_wp2_with (fail)
            refine (Same_is F F _ _ true _ HRF4 HRG4 (by omega) (by omega) ⟨fun _ => rfl, fun _ => rfl⟩).mono ?_
            rintro x w5 ⟨rfl, nn, hw⟩
            have HB5 : Hid (Below w.heap.size w w5) := by rw [hw]; exact below_drewN HB4.out _
            clear hw
            go_wp2_with (fail)
            refine (awake_is _).mono ?_
            rintro e w9 ⟨rfl, hB⟩
            have HB9 := Lib.hid (HB5.out.trans (hB.mono HB5.out.size))
            clear hB
            go_wp2_with (fail)
            go_ret
            exact ⟨rfl, HB9.out⟩


set_option maxRecDepth 100000 in
theorem lifted (os : Os) (started : os.Started) (H : Type) (enc : TypeId × Value → H) :
    ReturnsInHanded {} Try.checked os 7 .any (Rows.polyPointsSpec.pre6 enc Try.prog Try.f7 Rows.polyPointsRow.domain false) (Rows.polyPointsSpec.post enc Try.prog Try.f7 false true false false) := by
  refine returnsInHanded_of_change (C := Try.checked) own started (by kernel_rfl) Try.func7
    (ChangeSpec.witness6 (enc := enc) (C := Try.checked) false ⟨#[], #[.int .i64 0, .slice none 0 0], []⟩ 8 (by kernel_rfl) (by kernel_rfl) (by kernel_rfl) (by kernel_rfl)) ?_
  intro W base args ds gs before hval0 hW hcnd _
  have hval : ∀ (j : Nat) t v, Try.f7.params[j]? = some t → args[j]? = some v → Value.okWide Try.prog W .any base t v := hval0
  have hW' := hW
  obtain ⟨p, q, hA0, hV, rfl, hfz, hnd⟩ := hW
  have hA : DataW.TrodAll enc Try.prog W 0 (fun _ => true) true Try.f7.params.toList args.toList ds p := hA0
  rw [Try.params7] at hA hval
  obtain ⟨v0, vs0, d0, ds0, p0, q0, hargs, rfl, rfl, h0, r0⟩ := trodAll_cons hA
  obtain ⟨v1, vs1, d1, ds1, p1, q1, rfl, rfl, rfl, h1, r1⟩ := trodAll_cons r0
  obtain ⟨rfl, rfl, rfl⟩ := trodAll_nil r1
  obtain rfl : args = #[v0, v1] := by cases args; simp_all
  obtain ⟨rfl, rfl⟩ := trodVars_none hV
  have hlt := hW'.lt
  obtain ⟨a0, rfl, rfl, rfl, w0⟩ := open_int Try.underlying3 (hval 0 3 v0 rfl rfl) h0
  obtain ⟨Z1, hZ1⟩ := argQ_of (hval 1 46 v1 rfl rfl) h1
  clear hA0 hval0
  simp only [List.append_nil] at hW'
  refine (walk a0 v1 Z1 W hZ1).mono fun e W' ⟨he, hg⟩ => ?_
  subst he
  exact ⟨_, rfl, _, _, _, [], [] ++ (p1 ++ ([])), [], hW', trodAll_cons_mk (shut_bool Try.underlying4 _) trodAll_mk0, trodAll_cons_mk (shut_int Try.underlying3 w0) (trodAll_cons_mk (Below.trod (by kernel_rfl) (by kernel_rfl) (by decide +kernel) h1 hg (fun x hx => hlt x (by simp [hx]))) trodAll_mk0), rfl, hg.frame _, fun h => by cases h⟩

theorem over : Rows.polyPointsRow.holds Try.pinned (OpenSpec.ofChange Rows.polyPointsSpec) :=
  OpenClaim.holds_of_wide 7 Try.f7 rfl rfl rfl rfl rfl rfl rfl ⟨rfl, rfl, rfl, rfl, rfl⟩ rfl rfl rfl rfl rfl (by kernel_rfl) Try.func7 (by kernel_rfl)
    (of_decide_eq_true (by kernel_rfl)) (by unfold Func.isWrapper; first | (rw [if_pos (by decide +kernel)]; kernel_rfl) | (rw [if_neg (by decide +kernel)]; exact ⟨rfl, rfl⟩))
    (fun os started H enc _ => lifted os started H enc)

theorem proved : Rows.PolyPointsSaid := over

end Go.Proofs.Ytgnpohapmijfiaa.polyPoints
