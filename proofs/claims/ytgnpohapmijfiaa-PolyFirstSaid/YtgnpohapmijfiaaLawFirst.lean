/- For any field and degree, First returns the first monic irreducible polynomial, or ErrArg. No condition. -/
import Derived.Test.YtgnpohapmijfiaaG19
import Derived.Test.YtgnpohapmijfiaaG10
import Derived.ProofKit
import Derived.OpenShut
namespace Go.Proofs.Ytgnpohapmijfiaa.polyFirst
open Go.ChangeShapes Go.WideShapes Go.ChangeAt Go.RowKit

theorem own : ownKnob Try.prog.godebug = none := by kernel_rfl


set_option maxRecDepth 100000 in
set_option maxHeartbeats 1000000 in
theorem First_arg (p n : Int) (w : World) (h : Hid (¬ (FieldI p ∧ 1 ≤ n ∧ n ≤ 32))) :
    Calls Try.prog 38 #[.int .i64 p, .int .i64 n] w fun x w' => x = .returned (.tuple #[.slice none 0 0, .int .i64 2]) ∧ Below w.heap.size w w' := by
  by_cases hf : FieldI p
  · have hfi := Lib.hid hf
    have hde : Hid (decide (1 ≤ n ∧ n ≤ 32) = false) := by show _ = _; rw [decide_eq_false_iff_not]; exact fun hc => h.out ⟨hf, hc⟩
    clear hf h
    go_enter Try.func38, Try.ntmps38
    go_wp2_with (fail)
    refine (isField_yes p w hfi).mono ?_
    rintro e w1 ⟨rfl, hB1⟩
    have HB1 := Lib.hid hB1
    clear hB1
    go_wp2_with (fail)
    refine (isDegree_is n w1).mono ?_
    rintro e w1' ⟨rfl, rfl⟩
    rw [hde.out]
    go_wp2_with (fail)
    go_ret2
    exact ⟨rfl, HB1.out⟩
  · have hfi := Lib.hid hf
    clear hf h
    go_enter Try.func38, Try.ntmps38
    go_wp2_with (fail)
    refine (isField_no p w hfi).mono ?_
    rintro e w1 ⟨rfl, hB1⟩
    have HB1 := Lib.hid hB1
    clear hB1
    go_wp2_with (fail)
    go_ret2
    exact ⟨rfl, HB1.out⟩

theorem rep_getD (c : Nat) (L : List Nat) (i : Nat) : (List.replicate i c ++ L.drop i).getD i 0 = L.getD i 0 := by
  rw [List.getD_eq_getElem?_getD, List.getElem?_append_right (by simp), List.length_replicate, Nat.sub_self, List.getElem?_drop, Nat.add_zero, ← List.getD_eq_getElem?_getD]
theorem rep_set (c x : Nat) (L : List Nat) (i : Nat) (h : i < L.length) : (List.replicate i c ++ L.drop i).set i x = List.replicate i c ++ x :: L.drop (i + 1) := by
  rw [List.set_append, if_neg (by simp), List.length_replicate, Nat.sub_self, List.drop_eq_getElem_cons h]; rfl
theorem rep_next (c : Nat) (L : List Nat) (i : Nat) : List.replicate i c ++ c :: L.drop (i + 1) = List.replicate (i + 1) c ++ L.drop (i + 1) := by
  rw [List.replicate_succ', List.append_assoc]; rfl
theorem zeros_pre {G : List Nat} {i : Nat} (h : i < G.length) (hz : ∀ j, j < i → G.getD j 0 = 0) : G = List.replicate i 0 ++ G.getD i 0 :: G.drop (i + 1) := by
  have e1 : G = G.take i ++ G.drop i := (List.take_append_drop i G).symm
  have e2 : G.take i = List.replicate i 0 := by
    refine List.ext_getElem (by simp; omega) fun j h1 h2 => ?_
    have hj : j < i := by simpa using h2
    have := hz j hj
    rw [Q.getD_get (by omega)] at this
    simp [this]
  rw [e2, List.drop_eq_getElem_cons h] at e1
  rw [Q.getD_get h]; exact e1

set_option maxRecDepth 100000 in
set_option maxHeartbeats 8000000 in
theorem walk (p n0 : Int) (w : World) :
    Calls Try.prog 9 #[.int .i64 p, .int .i64 n0] w fun e w' => e = .returned (.bool true) ∧ Below w.heap.size w w' := by
  go_enter Try.func9, Try.ntmps9
  by_cases hok : FieldI p ∧ 1 ≤ n0 ∧ n0 ≤ 32
  · obtain ⟨hf, hn1, hn2⟩ := hok
    obtain ⟨q, rfl⟩ := Int.eq_ofNat_of_zero_le (show 0 ≤ p by have := hf.1; omega)
    obtain ⟨n, rfl⟩ := Int.eq_ofNat_of_zero_le (show 0 ≤ n0 by omega)
    have HF := Lib.hid hf
    have hp2 : 2 ≤ q := by have := hf.1; omega
    have hq : q ≤ 1021 := by have := hf.2.1; omega
    have HP : Hid (M.Pr q) := by have := hf.2.2; rw [Int.toNat_natCast] at this; exact this
    have hm1 : 1 ≤ n := by omega
    have hm2 : n ≤ 32 := by omega
    have hd1 : decide ((n : Int) < 1) = false := by rw [decide_eq_false_iff_not]; omega
    have hd2 : decide ((33 : Int) ≤ (n : Int)) = false := by rw [decide_eq_false_iff_not]; omega
    clear hf hn1 hn2
    obtain ⟨r, hR⟩ := Q.first_exists HP.out hm1
    obtain ⟨N, hN⟩ := hR.ok
    have HFO : Hid (Q.FirstOk q (r ++ [1]) N (List.replicate n 0 ++ [1])) := hN
    have HR := Lib.hid hR
    obtain ⟨S, hS⟩ : ∃ S, S = r ++ [1] := ⟨_, rfl⟩
    have hSl : S.length = n + 1 := by rw [hS]; simp [hR.len]
    have HPS : Hid (Q.Pol q S) := by rw [hS]; exact Q.monic_pol hp2 hR.red
    have HS1 : Hid (S.getD n 0 = 1) := by show _ = _; rw [hS]; have := hR.len; simp [List.getD, ← this]
    have HIS : Hid (Q.Irr q S) := by rw [hS]; exact hR.irr
    have HPB : Hid (polyB (q : Int) (up S) = true) := (args1_of HP.out hq HPS.out (by omega)).2 _ (by simp)
    rw [← hS] at HFO
    have HSE := Lib.hid hS
    have HSL := Lib.hid hSl
    obtain ⟨i0, hi0, hz0, hz1, hz2⟩ := info_parts Try.infoZ
    clear hN hR hS
    go_wp2_with (fail)
    refine (First_ok q n N S _ HP hq hm1 hm2 HFO).mono ?_
    rintro e w1 ⟨⟨vf, rfl, hNf⟩, hB1⟩
    have HB1 := Lib.hid hB1
    have HRS : Hid (Rd w1 vf 1 S.length (nats S)) := hNf.rd
    obtain ⟨af, cf, hvf, hcf, hcf2, _⟩ := own_form hNf
    subst hvf
    obtain ⟨gf, hgf, hgf1, hgf2, hgf3, _⟩ := own_cells (L := S) hNf (by omega)
    subst hgf
    have hc1 : w1.cell? ⟨gf, n, none⟩ = some (.int .i64 1) := by
      have := hgf3 n (by omega)
      rw [HS1.out] at this; exact this
    have HRZ : Hid (Rd w1 (.slice (some ⟨gf, 0, none⟩) (n + 1) cf) 1 (up S).length (zs (up S))) := by
      have h := HRS.out.zs
      show Rd _ _ _ _ _
      rw [← hSl]; exact h
    have HRS' : Hid (Rd w1 (.slice (some ⟨gf, 0, none⟩) (n + 1) cf) 1 S.length (nats S)) := by show Rd _ _ _ _ _; rw [← hSl]; exact HRS.out
    have HUL : Hid ((up S).length ≤ 1000000) := by show _ ≤ _; rw [up_length]; omega
    rw [hSl] at hcf ⊢
    clear hNf hB1 hgf3 HRS hgf1
    have hn1b : ((n + 1 : Nat) : Int) = (n : Int) + 1 := by omega
    have hnz : (n : Int) < (n : Int) + 1 := by omega
    have hne : (((n : Int) + 1) != ((n : Int) + 1)) = false := by simp
    have hS34 : S.length ≤ 34 := by omega
    clear hSl
    go_wp2_with (fail)
    refine (rField_is (q : Int) true _ ⟨fun _ => rfl, fun _ => HF.out⟩).mono ?_
    rintro e wz ⟨rfl, rfl⟩
    go_wp2_with (fail)
    refine (rPoly_is (q : Int) _ (up S) true _ HRZ HUL.out HPB).mono ?_
    rintro e wz2 ⟨rfl, rfl⟩
    go_wp2_with (fail)
    refine (rIrr_is q S _ true _ HP hq HRS' HPS hS34 ⟨fun _ => rfl, fun _ => HIS.out⟩).mono ?_
    rintro e w2 ⟨rfl, hB2⟩
    have HB2 := Lib.hid (HB1.out.trans (hB2.mono HB1.out.size))
    have HCS : Hid (∀ j u, (nats S)[j]? = some u → w2.cell? ((⟨gf, 0, none⟩ : Addr).add j) = some u) := fun j u hu => by
      have h := HRS'.out.below hB2 (Nat.le_refl _)
      have hj : j < S.length := by
        rcases Nat.lt_or_ge j S.length with h1 | h1
        · exact h1
        · rw [List.getElem?_eq_none (by rw [nats_length]; exact h1)] at hu; cases hu
      obtain ⟨b, hb, _, hc⟩ := h.at j hj
      injection hb with hb; injection hb with hb; subst hb
      rw [nats_get S j hj] at hu
      rw [Q.getD_get hj] at hc
      have hadd : (⟨gf, 0, none⟩ : Addr).add j = ⟨gf, j, none⟩ := by unfold Addr.add; split <;> simp_all
      rw [← hu, hadd]; first | exact hc | simpa using hc
    have HNL : Hid ((nats S).length = (n + 1) * 1) := by show _ = _; rw [nats_length, HSL.out]; omega
    have H1C := Lib.hid (nats_one S)
    clear hB2
    go_wp2_with (at_builtin; refine wpList_append_own _ rfl _ _ 22 rfl w.heap.size 3 i0 (.int .i64 0) 1 8 Try.underlying22 hi0 hz0 hz1 hz2 rfl (by decide) _ 0 [] rfl (World.ownsRow_nil _ _ _ _) ⟨gf, 0, none⟩ (n + 1) cf (nats S) rfl HNL.out HCS.out H1C.out (by unfold maxLen; omega) (by omega) HB2.out.size ?_)
    intro v' w3 hown3 hgrow3 _
    obtain ⟨a3, cap3, hv3, _, _, hg3⟩ := own_form hown3
    obtain ⟨g, hg, hg1, hg2⟩ := hg3 (by omega)
    subst hg
    subst hv3
    have HB3 : Hid (Below w.heap.size w w3) := HB2.out.grown hgrow3 HB2.out.size fun b hb => by simp [Value.ownBlock] at hb
    have HG0 : Hid (RSt w w3 g (n + 1) cap3 (r ++ [1])) := by show RSt _ _ _ _ _ _; rw [← HSE.out]; exact RSt.of_own hown3 HB3.out
    have HI0 : Hid (r.length = n ∧ Q.Red q r ∧ Q.numP q r ≤ Q.numP q r) := ⟨HR.out.len, HR.out.red, Nat.le_refl _⟩
    clear hown3 hgrow3 hg3 hg1 hg2
    go_wp2_with (fail)
    go_loopw [8] (fun kv wx => ∃ (k : Nat) (G : List Nat), kv = .int .i64 k ∧ k ≤ 60 ∧ Hid (RSt w wx g (n + 1) cap3 (G ++ [1])) ∧ Hid (G.length = n ∧ Q.Red q G ∧ Q.numP q G ≤ Q.numP q r)) (fun kv _ => 60 - (intOf kv).toNat)
    case atStart => exact ⟨0, r, rfl, by omega, HG0, HI0⟩
    case round =>
      obtain ⟨k, G, rfl, hk, HS, HI⟩ := hrel
      by_cases hlt : k < 60
      · have HI00 : Hid (RSt w wr g (n + 1) cap3 (List.replicate 0 (q - 1) ++ (G ++ [1]).drop 0)) := HS.out
        have HZ0 : Hid (∀ j, j < 0 → G.getD j 0 = 0) := fun j hj => by omega
        go_wp2_with (fail)
        go_loopw [9] (fun iv wx => ∃ (i : Nat), iv = .int .i64 i ∧ i ≤ n ∧ Hid (RSt w wx g (n + 1) cap3 (List.replicate i (q - 1) ++ (G ++ [1]).drop i)) ∧ Hid (∀ j, j < i → G.getD j 0 = 0)) (fun iv _ => n - (intOf iv).toNat)
        case atStart => exact ⟨0, rfl, by omega, HI00, HZ0⟩
        case round =>
          obtain ⟨i, rfl, hi, HT, HZ⟩ := hrel
          by_cases hin : i < n
          · have hiG : i < G.length := by have := HI.out.1; omega
            obtain ⟨x, hx⟩ : ∃ x, x = G.getD i 0 := ⟨_, rfl⟩
            have hc := HT.out.cell (show i < n + 1 by omega)
            have hfr := HT.out.free i
            have hgx : (G ++ [1]).getD i 0 = x := by
              rw [hx, List.getD_eq_getElem?_getD, List.getElem?_append_left hiG, ← List.getD_eq_getElem?_getD]
            rw [rep_getD, hgx] at hc
            have hxq : x < q := by rw [hx]; exact HI.out.2.1.getD (by omega) _
            have hil : (i : Int) < (n : Int) + 1 := by omega
            have HXE := Lib.hid hx
            by_cases hx0 : x = 0
            · have t1 : ((x : Int) == 0) = true := by simp [hx0]
              obtain ⟨q1, hq1⟩ : ∃ q1, q1 = q - 1 := ⟨_, rfl⟩
              have hq1I : (q : Int) - 1 = (q1 : Int) := by omega
              have HT2 : Hid (RSt w (wr.setCell ⟨g, i, none⟩ (.int .i64 (q1 : Int))) g (n + 1) cap3 (List.replicate (i + 1) (q - 1) ++ (G ++ [1]).drop (i + 1))) := by
                have h := HT.out.set i q1
                rw [rep_set _ _ _ _ (by simp; omega), hq1, rep_next] at h
                rw [hq1]; exact h
              have HZ2 : Hid (∀ j, j < i + 1 → G.getD j 0 = 0) := fun j hj => by
                by_cases e : j = i
                · rw [e, ← hx]; exact hx0
                · exact HZ.out j (by omega)
              clear hx hgx hx0 hq1
              go_wp2_with (fail)
              go_roundw
              case rel => exact ⟨i + 1, by go_num, by omega, HT2, HZ2⟩
              case measure => simp [intOf]; omega
            · have t1 : ((x : Int) == 0) = false := by rw [beq_eq_false_iff_ne]; omega
              have t2 : ((i : Int) == (n : Int)) = false := by rw [beq_eq_false_iff_ne]; omega
              obtain ⟨x1, hx1⟩ : ∃ x1, x = x1 + 1 := ⟨x - 1, by omega⟩
              have hx1I : (x : Int) - 1 = (x1 : Int) := by omega
              obtain ⟨K, hK⟩ : ∃ K, K = List.replicate i (q - 1) ++ x1 :: G.drop (i + 1) := ⟨_, rfl⟩
              have hKl : K.length = n := by rw [hK]; have := HI.out.1; simp; omega
              have hKr : Q.Red q K := fun u hu => by
                rw [hK] at hu
                rcases List.mem_append.1 hu with h | h
                · rw [(List.mem_replicate.1 h).2]; omega
                · rcases List.mem_cons.1 h with h | h
                  · omega
                  · exact HI.out.2.1 u (List.mem_of_mem_drop h)
              have hKn : Q.numP q K + 1 = Q.numP q G := by
                rw [hK, Q.num_pred (by omega)]
                have h := zeros_pre hiG HZ.out
                rw [← hx, hx1] at h
                rw [← h]
              have HT2 : Hid (RSt w (wr.setCell ⟨g, i, none⟩ (.int .i64 (x1 : Int))) g (n + 1) cap3 (K ++ [1])) := by
                have h := HT.out.set i x1
                rw [rep_set _ _ _ _ (by simp; omega)] at h
                have e : (G ++ [1]).drop (i + 1) = G.drop (i + 1) ++ [1] := by rw [List.drop_append_of_le_length (by omega)]
                rw [e] at h
                rw [hK, List.append_assoc, List.cons_append]; exact h
              have HIK : Hid (K.length = n ∧ Q.Red q K ∧ Q.numP q K ≤ Q.numP q r) := ⟨hKl, hKr, by have := HI.out.2.2; omega⟩
              have HNI : Hid (¬ Q.Irr q (K ++ [1])) := HR.out.no K hKl hKr (by rw [Q.num_zero]; omega) (by have := HI.out.2.2; omega)
              have HPK : Hid (Q.Pol q (K ++ [1])) := Q.monic_pol hp2 hKr
              have hKL : (K ++ [1]).length ≤ 34 := by rw [List.length_append, hKl]; simp; omega
              have HRK : Hid (Rd (wr.setCell ⟨g, i, none⟩ (.int .i64 (x1 : Int))) (.slice (some ⟨g, 0, none⟩) (n + 1) cap3) 1 (K ++ [1]).length (nats (K ++ [1]))) := HT2.out.new.rd
              clear hx hgx hx0 hx1 hK hKl hKr hKn
              go_wp2_with (fail)
              refine (rIrr_is q (K ++ [1]) _ false _ HP hq HRK HPK hKL ⟨fun h => absurd h HNI.out, fun h => by cases h⟩).mono ?_
              rintro e w5 ⟨rfl, hB5⟩
              have HT3 : Hid (RSt w w5 g (n + 1) cap3 (K ++ [1])) := HT2.out.low hB5
              clear hB5
              go_wp2_with (fail)
              go_roundw
              case rel => exact ⟨k + 1, K, by go_num, by omega, HT3, HIK⟩
              case measure => simp [intOf]; omega
          · have hin2 : i = n := by omega
            subst hin2
            have t2 : ((i : Int) == (i : Int)) = true := by simp
            have HBZ : Hid (Below w.heap.size w wr) := HT.out.below
            go_wp2_with (fail)
            refine (awake_is _).mono ?_
            rintro e w9 ⟨rfl, hB⟩
            have HB9 := Lib.hid (HBZ.out.trans (hB.mono HBZ.out.size))
            clear hB
            go_wp2_with (fail)
            go_ret
            exact ⟨rfl, HB9.out⟩
      · have h60 : k = 60 := by omega
        subst h60
        have HBZ : Hid (Below w.heap.size w wr) := HS.out.below
        go_wp2_with (fail)
        refine (awake_is _).mono ?_
        rintro e w9 ⟨rfl, hB⟩
        have HB9 := Lib.hid (HBZ.out.trans (hB.mono HBZ.out.size))
        clear hB
        go_wp2_with (fail)
        go_ret
        exact ⟨rfl, HB9.out⟩
  · have HNOK := Lib.hid hok
    clear hok
    go_wp2_with (fail)
    refine (First_arg p n0 _ HNOK).mono ?_
    rintro e w1 ⟨rfl, hB⟩
    have HB1 := Lib.hid hB
    clear hB
    by_cases hf : FieldI p
    · have HF := Lib.hid hf
      by_cases hn1 : n0 < 1
      · have hd1 : decide (n0 < 1) = true := by rw [decide_eq_true_iff]; exact hn1
        clear hf
        go_wp2_with (fail)
        refine (rField_is p true _ ⟨fun _ => rfl, fun _ => HF.out⟩).mono ?_
        rintro e wz ⟨rfl, rfl⟩
        go_wp2_with (fail)
        refine (awake_is _).mono ?_
        rintro e w9 ⟨rfl, hB⟩
        have HB9 := Lib.hid (HB1.out.trans (hB.mono HB1.out.size))
        clear hB
        go_wp2_with (fail)
        go_ret
        exact ⟨rfl, HB9.out⟩
      · have hd1 : decide (n0 < 1) = false := by rw [decide_eq_false_iff_not]; exact hn1
        have hn33 : (33 : Int) ≤ n0 := by
          refine Classical.byContradiction fun hc => HNOK.out ⟨hf, by omega, by omega⟩
        have hd2 : decide ((33 : Int) ≤ n0) = true := by rw [decide_eq_true_iff]; exact hn33
        clear hf
        go_wp2_with (fail)
        refine (rField_is p true _ ⟨fun _ => rfl, fun _ => HF.out⟩).mono ?_
        rintro e wz ⟨rfl, rfl⟩
        go_wp2_with (fail)
        refine (awake_is _).mono ?_
        rintro e w9 ⟨rfl, hB⟩
        have HB9 := Lib.hid (HB1.out.trans (hB.mono HB1.out.size))
        clear hB
        go_wp2_with (fail)
        go_ret
        exact ⟨rfl, HB9.out⟩
    · have HF := Lib.hid hf
      clear hf
      go_wp2_with (fail)
      refine (rField_is p false _ ⟨fun h => absurd h HF.out, fun h => by cases h⟩).mono ?_
      rintro e wz ⟨rfl, rfl⟩
      go_wp2_with (fail)
      refine (awake_is _).mono ?_
      rintro e w9 ⟨rfl, hB⟩
      have HB9 := Lib.hid (HB1.out.trans (hB.mono HB1.out.size))
      clear hB
      go_wp2_with (fail)
      go_ret
      exact ⟨rfl, HB9.out⟩


set_option maxRecDepth 100000 in
theorem lifted (os : Os) (started : os.Started) (H : Type) (enc : TypeId × Value → H) :
    ReturnsInHanded {} Try.checked os 9 .any (Rows.polyFirstSpec.pre6 enc Try.prog Try.f9 Rows.polyFirstRow.domain false) (Rows.polyFirstSpec.post enc Try.prog Try.f9 false true false false) := by
  refine returnsInHanded_of_change (C := Try.checked) own started (by kernel_rfl) Try.func9
    (ChangeSpec.witness6 (enc := enc) (C := Try.checked) false ⟨#[], #[.int .i64 0, .int .i64 0], []⟩ 8 (by kernel_rfl) (by kernel_rfl) (by kernel_rfl) (by kernel_rfl)) ?_
  intro W base args ds gs before hval0 hW hcnd _
  have hval : ∀ (j : Nat) t v, Try.f9.params[j]? = some t → args[j]? = some v → Value.okWide Try.prog W .any base t v := hval0
  have hW' := hW
  obtain ⟨p, q, hA0, hV, rfl, hfz, hnd⟩ := hW
  have hA : DataW.TrodAll enc Try.prog W 0 (fun _ => true) true Try.f9.params.toList args.toList ds p := hA0
  rw [Try.params9] at hA hval
  obtain ⟨v0, vs0, d0, ds0, p0, q0, hargs, rfl, rfl, h0, r0⟩ := trodAll_cons hA
  obtain ⟨v1, vs1, d1, ds1, p1, q1, rfl, rfl, rfl, h1, r1⟩ := trodAll_cons r0
  obtain ⟨rfl, rfl, rfl⟩ := trodAll_nil r1
  obtain rfl : args = #[v0, v1] := by cases args; simp_all
  obtain ⟨rfl, rfl⟩ := trodVars_none hV
  have hlt := hW'.lt
  obtain ⟨a0, rfl, rfl, rfl, w0⟩ := open_int Try.underlying3 (hval 0 3 v0 rfl rfl) h0
  obtain ⟨a1, rfl, rfl, rfl, w1⟩ := open_int Try.underlying3 (hval 1 3 v1 rfl rfl) h1
  clear hA0 hval0
  simp only [List.append_nil] at hW'
  refine (walk a0 a1 W).mono fun e W' ⟨he, hg⟩ => ?_
  subst he
  exact ⟨_, rfl, _, _, _, [], [] ++ ([] ++ ([])), [], hW', trodAll_cons_mk (shut_bool Try.underlying4 _) trodAll_mk0, trodAll_cons_mk (shut_int Try.underlying3 w0) (trodAll_cons_mk (shut_int Try.underlying3 w1) trodAll_mk0), rfl, hg.frame _, fun h => by cases h⟩

theorem over : Rows.polyFirstRow.holds Try.pinned (OpenSpec.ofChange Rows.polyFirstSpec) :=
  OpenClaim.holds_of_wide 9 Try.f9 rfl rfl rfl rfl rfl rfl rfl ⟨rfl, rfl, rfl, rfl, rfl⟩ rfl rfl rfl rfl rfl (by kernel_rfl) Try.func9 (by kernel_rfl)
    (of_decide_eq_true (by kernel_rfl)) (by unfold Func.isWrapper; first | (rw [if_pos (by decide +kernel)]; kernel_rfl) | (rw [if_neg (by decide +kernel)]; exact ⟨rfl, rfl⟩))
    (fun os started H enc _ => lifted os started H enc)

theorem proved : Rows.PolyFirstSaid := over

end Go.Proofs.Ytgnpohapmijfiaa.polyFirst
