/- Walks and plain mathematics: RefJ, PwPtA. -/
import Derived.Test.YtgnpohapmijfiaaG19
import Derived.Test.YtgnpohapmijfiaaG18
import Derived.Test.YtgnpohapmijfiaaG11
import Derived.Deep.Slices
import Derived.ProofKit
import Derived.OpenShut
namespace Go.Proofs.Ytgnpohapmijfiaa
open Go.RowKit
set_option maxRecDepth 100000 in
set_option maxHeartbeats 4000000 in
theorem rThrough_is (p : Nat) (L : List (Nat × Nat)) (v : Value) (w : World) (hP : Hid (M.Pr p)) (hp2 : p ≤ 1021) (hr : Hid (Rd w v 2 L.length (flatP (upP L)))) (hlen : L.length ≤ 33) (hL : Hid (Q.Pts p L)) :
    Calls Try.prog 35 #[.int .i64 p, v] w (RetL w (Q.lagS p L L.length)) := by
  have hp : 2 ≤ p := hP.out.1
  obtain ⟨_, a, cap, hav, hcap, hcell⟩ := hr.out
  subst hav
  obtain ⟨n, hn⟩ : ∃ n, n = L.length := ⟨_, rfl⟩
  have HN := Lib.hid hn
  have HC : Hid (∀ k (h : k < L.length), ∃ b, a = some ⟨b, 0, none⟩ ∧ b < w.heap.size ∧ w.cell? ⟨b, k * 2, none⟩ = some (.int .i64 (Q.xAt L k : Int)) ∧ w.cell? ⟨b, k * 2 + 1, none⟩ = some (.int .i64 (Q.yAt L k : Int))) := fun k h => by
    rcases hcell with h0 | ⟨b, h1, h2, h3⟩
    · omega
    · have hf := flatP_get (upP L) k (by rw [upP_length]; exact h)
      have e : (upP L)[k]'(by rw [upP_length]; exact h) = ((Q.xAt L k : Int), (Q.yAt L k : Int)) := by
        simp [upP, Q.xAt, Q.yAt, List.getD, h]
      rw [e] at hf
      exact ⟨b, h1, h2, h3 _ _ hf.1, h3 _ _ hf.2⟩
  rw [← hn] at hcap hlen ⊢
  clear hn hcell hr
  go_enter Try.func35, Try.ntmps35
  go_wp2_with (fail)
  go_loopw [5, 6] (fun ov iv wx => ∃ (i m cp : Nat) (ao : Option Addr), ov = .slice ao m cp ∧ iv = .int .i64 i ∧ i ≤ n ∧ Hid (m = (Q.lagS p L i).length) ∧ Hid (LSt w wx (.slice ao m cp) (Q.lagS p L i))) (fun _ iv _ => n - (intOf iv).toNat)
  case atStart => exact ⟨0, 0, 0, none, rfl, rfl, by omega, rfl, LSt.start w⟩
  case round =>
    obtain ⟨i, m, cp, ao, rfl, rfl, hi, HM, HO⟩ := hrel
    by_cases hlt : i < n
    · have hiL : i < L.length := by have := HN.out; omega
      obtain ⟨b, hb0, hb, c0, c1⟩ := HC.out i hiL
      obtain ⟨y, hy⟩ : ∃ y, y = Q.yAt L i := ⟨_, rfl⟩
      obtain ⟨xi, hxi⟩ : ∃ x, x = Q.xAt L i := ⟨_, rfl⟩
      have hxip : xi < p := by rw [hxi]; exact hL.out.xs i hiL
      have hyp : y < p := by rw [hy]; exact hL.out.ys i hiL
      have hin : (i : Int) < (n : Int) := by omega
      have c1r : wr.cell? ⟨b, i * 2 + 1, none⟩ = some (.int .i64 (y : Int)) := by rw [hy]; exact (HO.out.2.cell (p := ⟨b, i * 2 + 1, none⟩) hb).trans c1
      have hA : a = some ⟨b, 0, none⟩ := hb0
      subst hA
      have HY := Lib.hid hy
      have HXI := Lib.hid hxi
      obtain ⟨W1, hW1⟩ : ∃ W1, W1 = wr.alloc (.cells #[.int .i64 (y : Int)] 3) := ⟨_, rfl⟩
      have HB1 : Hid (Below w.heap.size w W1) := by rw [hW1]; exact HO.out.2.alloc HO.out.2.size _
      have HT1 : Hid (NewL w W1 (.slice (some ⟨wr.heap.size, 0, none⟩) 1 1) [y]) := by rw [hW1]; exact (show NewL wr _ _ _ from lit1_own wr y).from HO.out.2.size
      have HO1 : Hid (NewL w W1 (.slice ao m cp) (Q.lagS p L i)) := by rw [hW1]; exact HO.out.1.keep ((Below.refl _ _).alloc (Nat.le_refl _) _)
      clear hy hxi c0 c1
      go_wp2_with (fail)
      rw [← hW1]
      clear hW1
      have HS0 : Hid (∀ W, Below w.heap.size w W → W.cell? ⟨b, i * 2, none⟩ = some (.int .i64 (xi : Int)) ∧ ∀ k, k < n → W.cell? ⟨b, k * 2, none⟩ = some (.int .i64 (Q.xAt L k : Int))) := fun W hW => by
        have hk : ∀ k, k < n → W.cell? ⟨b, k * 2, none⟩ = some (.int .i64 (Q.xAt L k : Int)) := fun k hk => by
          obtain ⟨b', hb', hl', k0, _⟩ := HC.out k (by have := HN.out; omega)
          injection hb' with hb'; injection hb' with hb'; subst hb'
          exact (hW.cell (p := ⟨b, k * 2, none⟩) hl').trans k0
        exact ⟨by rw [HXI.out]; exact hk i hlt, hk⟩
      have HLT : Hid ((1 : Nat) = (Q.lagT p L i 0).length ∧ (1 : Nat) = Q.lagB p L i 0) := ⟨rfl, rfl⟩
      have HT0 : Hid (NewL w W1 (.slice (some ⟨wr.heap.size, 0, none⟩) 1 1) (Q.lagT p L i 0)) := by show NewL _ _ _ _; rw [Q.lagT, ← HY.out]; exact HT1.out
      clear HT1
      go_loopw [7, 8, 9] (fun tv bv kv wx => ∃ (k mt ct by' : Nat) (t : Option Addr), tv = .slice t mt ct ∧ bv = .int .i64 by' ∧ kv = .int .i64 k ∧ k ≤ n ∧ Hid (mt = (Q.lagT p L i k).length ∧ by' = Q.lagB p L i k) ∧ Hid (NewL w wx (.slice t mt ct) (Q.lagT p L i k)) ∧ Hid (NewL w wx (.slice ao m cp) (Q.lagS p L i)) ∧ Hid (Below w.heap.size w wx)) (fun _ _ kv _ => n - (intOf kv).toNat)
      case atStart => exact ⟨0, 1, 1, 1, _, rfl, rfl, rfl, by omega, HLT, HT0, HO1, HB1⟩
      case round =>
        obtain ⟨k, mt, ct, by', t, rfl, rfl, rfl, hk, HMT, HT, HOK, HB⟩ := hrel
        by_cases hkn : k < n
        · have hkn1 : (k : Int) < (n : Int) := by omega
          have ck := (HS0.out _ HB.out).2 k hkn
          have ci := (HS0.out _ HB.out).1
          have hkL : k < L.length := by have := HN.out; omega
          obtain ⟨x, hx⟩ : ∃ x, x = Q.xAt L k := ⟨_, rfl⟩
          rw [← hx] at ck
          have hxp : x < p := by rw [hx]; exact hL.out.xs k hkL
          have HX := Lib.hid hx
          by_cases hki : k = i
          · have hd : ((k : Int) != (i : Int)) = false := by rw [bne_eq_false_iff_eq]; omega
            have HT2 : Hid (NewL w wr (.slice t mt ct) (Q.lagT p L i (k + 1))) := by show NewL _ _ _ _; rw [Q.lagT, if_pos hki]; exact HT.out
            have HM2 : Hid (mt = (Q.lagT p L i (k + 1)).length ∧ by' = Q.lagB p L i (k + 1)) := by show _ ∧ _; rw [Q.lagT, Q.lagB, if_pos hki, if_pos hki]; exact HMT.out
            clear hki hx
            go_wp2_with (fail)
            go_roundw
            case rel => exact ⟨k + 1, mt, ct, by', t, rfl, rfl, by go_num, by omega, HM2, HT2, HOK, HB⟩
            case measure => simp [intOf]; omega
          · have hd : ((k : Int) != (i : Int)) = true := by rw [bne_iff_ne]; omega
            obtain ⟨T, hT⟩ : ∃ T, T = Q.lagT p L i k := ⟨_, rfl⟩
            rw [← hT] at HT HMT
            have HTT := Lib.hid hT
            have hTl : T.length ≤ 40 := by rw [hT]; have := Q.lagT_len (p := p) (L := L) (i := i) k; omega
            have HTR : Hid (Q.Red p T) := by rw [hT]; exact Q.lagT_red (by omega) (by rw [← HY.out]; exact hyp) k
            have HTP : Hid (Q.Pol p (Q.trim T)) := HTR.out.trim
            have HLP : Hid (Q.Pol p (Q.lin p x)) := Q.pol_lin hp x
            have htl : (Q.trim T).length ≤ 40 := by rw [Q.trim_length]; have := Q.trimLen_le T; omega
            have hM1 := HMT.out.1
            have HB' := HMT.out.2
            have hby : by' < p := by rw [HB']; exact Q.lagB_lt hp k
            subst hM1
            obtain ⟨l0, hl0⟩ : ∃ l0, l0 = (p - x) % p := ⟨_, rfl⟩
            obtain ⟨d0, hd0⟩ : ∃ d0, d0 = p - x := ⟨_, rfl⟩
            have hw1 : IntKind.i64.wrap ((p : Int) - (x : Int)) = (d0 : Int) := by rw [IntWalk.i64_in _ (by omega)]; omega
            have hw2 : (d0 : Int).tmod (p : Int) = (l0 : Int) := by rw [Int.tmod_eq_emod_of_nonneg (by omega), hl0, hd0]; rfl
            have hw2' : (d0 : Int) % (p : Int) = (l0 : Int) := by rw [hl0, hd0]; rfl
            have hl0p : l0 < p := by rw [hl0]; exact Nat.mod_lt _ (by omega)
            have hw2'' : IntKind.i64.wrap (l0 : Int) = (l0 : Int) := IntWalk.i64_in _ (by omega)
            have hpz2 : ¬ (p : Int) = 0 := by omega
            have hpz3 : ¬ p = 0 := by omega
            have hpz4 : (p == 0) = false := by rw [beq_eq_false_iff_ne]; omega
            have hpz5 : ¬ (0 : Int) = (p : Int) := by omega
            have hw8 : d0 % p = l0 := by rw [hl0, hd0]
            have hw9 : IntKind.i64.wrap ((d0 : Int).tmod (p : Int)) = (l0 : Int) := by rw [hw2]; exact hw2''
            have hd01 : d0 ≤ p := by omega
            have hlin : Q.lin p x = [l0, 1] := by rw [hl0]; rfl
            have hpz : ((p : Int) == 0) = false := by rw [beq_eq_false_iff_ne]; omega
            have HRT : Hid (∀ W, Below wr.heap.size wr W → Rd W (.slice t T.length ct) 1 T.length (nats T)) := fun W h => HT.out.rd.below h (Nat.le_refl _)
            rw [hlin] at HLP
            have HO2 : Hid (∀ W : World, W.heap.size = wr.heap.size → Rd (W.alloc (.cells #[.int .i64 (l0 : Int), .int .i64 1] 3)) (.slice (some ⟨wr.heap.size, 0, none⟩) 2 2) 1 [l0, 1].length (nats [l0, 1])) := fun W h => by
              rw [← h]; exact Rd.of_own (lit2_own W l0 1)
            have HK : Hid (∀ W, Below wr.heap.size wr W → W.cell? ⟨b, k * 2, none⟩ = some (.int .i64 (x : Int))) := fun W h => (h.cell (p := ⟨b, k * 2, none⟩) (World.block_lt_of_cell? wr _ ck)).trans ck
            obtain ⟨q, hq⟩ : ∃ q, q = xi + p - x := ⟨_, rfl⟩
            obtain ⟨u, hu⟩ : ∃ u, u = by' * q % p := ⟨_, rfl⟩
            have HNX : Hid (Q.prodP' p (Q.trim T) [l0, 1] = Q.lagT p L i (k + 1) ∧ u = Q.lagB p L i (k + 1)) := by
              refine ⟨?_, ?_⟩
              · rw [Q.lagT, if_neg hki, ← hT, ← hx, hlin]
              · rw [Q.lagB, if_neg hki, ← HB', ← hx, hu, hq, ← HXI.out]
            have hm : (0 : Int) ≤ (by' : Int) * (q : Int) ∧ (by' : Int) * (q : Int) ≤ 2082840 := by
              have h := Nat.mul_le_mul (show by' ≤ 1020 by omega) (show q ≤ 2042 by omega)
              rw [← Int.natCast_mul]; constructor <;> omega
            have hw3 : IntKind.i64.wrap ((xi : Int) - (x : Int)) = (xi : Int) - (x : Int) := IntWalk.i64_in _ (by omega)
            have hw4 : IntKind.i64.wrap ((xi : Int) - (x : Int) + (p : Int)) = (q : Int) := by rw [IntWalk.i64_in _ (by omega)]; omega
            have hw4' : (xi : Int) - (x : Int) + (p : Int) = (q : Int) := by omega
            have hw5 : IntKind.i64.wrap ((by' : Int) * (q : Int)) = (by' : Int) * (q : Int) := IntWalk.i64_in _ (by omega)
            have hw6 : ((by' : Int) * (q : Int)) % (p : Int) = (u : Int) := by rw [hu]; simp
            have hw7 : ((by' : Int) * (q : Int)).tmod (p : Int) = (u : Int) := by rw [Int.tmod_eq_emod_of_nonneg (by omega)]; exact hw6
            clear hT hx HB' hl0 hlin hki hd0 hq hu
            go_wp2_with (fail)
            go_region_held3 (fun w' => w'.cell? ⟨b, k * 2, none⟩ = some (.int .i64 (x : Int))) (go_keep)
              (first
                | (go_at_call 55; refine (rtrim_is T _ _ (HRT.out _ (by (first | exact Below.refl _ _ | exact (Below.refl _ _).drew | exact below_drewN (Below.refl _ _) _ | exact ((Below.refl _ _).drew).alloc (by simp) _ | exact (below_drewN (Below.refl _ _) _).alloc (by simp) _ | exact (Below.refl _ _).alloc (by simp) _ | exact hK1 | exact hK1.drew | exact below_drewN hK1 _ | exact hK1.alloc hK1.size _ | exact (hK1.drew).alloc (hK1.drew).size _ | exact (below_drewN hK1 _).alloc (below_drewN hK1 _).size _))) (by omega)).mono ?_; rintro e w1 ⟨⟨v1, rfl, hN1⟩, hB1⟩; obtain ⟨a1, cp1, hv1⟩ := hN1.rd.shape; subst hv1; have hK1 : Below wr.heap.size wr w1 := own_step (by (first | exact Below.refl _ _ | exact (Below.refl _ _).drew | exact below_drewN (Below.refl _ _) _ | exact ((Below.refl _ _).drew).alloc (by simp) _ | exact (below_drewN (Below.refl _ _) _).alloc (by simp) _ | exact (Below.refl _ _).alloc (by simp) _ | exact hK1 | exact hK1.drew | exact below_drewN hK1 _ | exact hK1.alloc hK1.size _ | exact (hK1.drew).alloc (hK1.drew).size _ | exact (below_drewN hK1 _).alloc (below_drewN hK1 _).size _)) hB1; have k1 := HK.out _ hK1; have HN1 := Lib.hid hN1.rd; try (have HLI : Hid (Rd w1 (.slice (some ⟨wr.heap.size, 0, none⟩) 2 2) 1 [l0, 1].length (nats [l0, 1])) := (by first | exact (HO2.out _ (by simp)).below hB1 (Nat.le_refl _) | exact ((HO2.out _ (by simp)).below (Below.refl _ _).drew (Nat.le_refl _)).below hB1 (Nat.le_refl _) | exact ((HO2.out _ (by simp)).below (below_drewN (Below.refl _ _) _) (Nat.le_refl _)).below hB1 (Nat.le_refl _))); clear hN1 hB1)
                | (go_at_call 27; refine (rMul_is p (Q.trim T) [l0, 1] _ _ _ hP hp2 (HN1.out.below (by (first | exact Below.refl _ _ | exact (Below.refl _ _).drew | exact below_drewN (Below.refl _ _) _ | exact ((Below.refl _ _).drew).alloc (Nat.le_refl _) _ | exact (below_drewN (Below.refl _ _) _).alloc (Nat.le_refl _) _ | exact (Below.refl _ _).alloc (Nat.le_refl _) _)) (Nat.le_refl _)) (by first | exact Rd.of_own (lit2_own _ l0 1) | exact HLI.out.below (by (first | exact Below.refl _ _ | exact (Below.refl _ _).drew | exact below_drewN (Below.refl _ _) _ | exact ((Below.refl _ _).drew).alloc (Nat.le_refl _) _ | exact (below_drewN (Below.refl _ _) _).alloc (Nat.le_refl _) _ | exact (Below.refl _ _).alloc (Nat.le_refl _) _)) (Nat.le_refl _)) HTP HLP (by omega) (by simp)).mono ?_; rintro e w2 ⟨⟨v2, rfl, hN2⟩, hB2⟩; obtain ⟨a2, cp2, hv2⟩ := hN2.rd.shape; subst hv2; have hK2 : Below wr.heap.size wr w2 := own_step (by (first | exact Below.refl _ _ | exact (Below.refl _ _).drew | exact below_drewN (Below.refl _ _) _ | exact ((Below.refl _ _).drew).alloc (by simp) _ | exact (below_drewN (Below.refl _ _) _).alloc (by simp) _ | exact (Below.refl _ _).alloc (by simp) _ | exact hK1 | exact hK1.drew | exact below_drewN hK1 _ | exact hK1.alloc hK1.size _ | exact (hK1.drew).alloc (hK1.drew).size _ | exact (below_drewN hK1 _).alloc (below_drewN hK1 _).size _)) hB2; have k2 := HK.out _ hK2; have HE2 : Hid (Below wr.heap.size wr w2 ∧ NewL w w2 (.slice a2 (Q.prodP' p (Q.trim T) [l0, 1]).length cp2) (Q.prodP' p (Q.trim T) [l0, 1])) := ⟨hK2, hN2.from (Nat.le_trans HB.out.size (by (first | exact hK1.size | (simp; done) | (simp; exact hK1.size) | exact Nat.le_trans hK1.size (by simp) | exact (hK1.drew).size)))⟩; clear hN2 hB2 hK2 hK1))
            all_goals
              have HB2 : Hid (Below w.heap.size w w2) := HB.out.trans (HE2.out.1.mono HB.out.size)
              have HO2' : Hid (NewL w w2 (.slice ao m cp) (Q.lagS p L i)) := HOK.out.keep HE2.out.1
              have HT2 : Hid (NewL w w2 (.slice a2 (Q.prodP' p (Q.trim T) [l0, 1]).length cp2) (Q.lagT p L i (k + 1))) := by show NewL _ _ _ _; rw [← HNX.out.1]; exact HE2.out.2
              have ci2 := (HS0.out _ HB2.out).1
              clear hw1 hw2 hw2'
              go_wp2_with (fail)
              go_region
              all_goals
                go_wp2_with (fail)
                go_roundw
                case rel => exact ⟨k + 1, _, cp2, u, a2, rfl, rfl, by go_num, by omega, ⟨by rw [HNX.out.1], HNX.out.2⟩, by first | exact HT2 | exact HT2.out.keep (Below.refl _ _).drew | exact HT2.out.keep (below_drewN (Below.refl _ _) _), by first | exact HO2' | exact HO2'.out.keep (Below.refl _ _).drew | exact HO2'.out.keep (below_drewN (Below.refl _ _) _), by first | exact HB2 | exact HB2.out.drew | exact below_drewN HB2.out _⟩
                case measure => simp [intOf]; omega
        · obtain rfl : k = n := by omega
          obtain ⟨T, hT⟩ : ∃ T, T = Q.lagT p L i k := ⟨_, rfl⟩
          rw [← hT] at HT HMT
          have hTl : T.length ≤ 40 := by rw [hT]; have := Q.lagT_len (p := p) (L := L) (i := i) k; omega
          have HTR : Hid (Q.Red p T) := by rw [hT]; exact Q.lagT_red (by omega) (by rw [← HY.out]; exact hyp) k
          have hM1 := HMT.out.1
          have HB' := HMT.out.2
          have hby : by' < p := by rw [HB']; exact Q.lagB_lt hp k
          have hby0 : by' ≠ 0 := by rw [HB']; exact Q.lagB_ne hP.out hL.out hiL k (by have := HN.out; omega)
          have hiv := (Q.inv_spec hP.out hby hby0).1
          have HNX : Hid (Q.sumP p (Q.lagS p L i) (Q.scaleP p T (Q.invM p by')) = Q.lagS p L (i + 1)) := by
            show _ = _
            rw [Q.lagS, hT, HB', ← HN.out]
          obtain ⟨iv, hiv'⟩ : ∃ iv, iv = Q.invM p by' := ⟨_, rfl⟩
          have HIV := Lib.hid hiv'
          rw [← hiv'] at hiv HNX
          subst hM1
          have hmS := HM.out
          subst hmS
          have hsl : (Q.lagS p L i).length ≤ 33 := by have := Q.lagS_len (p := p) (by omega) L i (by omega); have := HN.out; omega
          have hcl : (Q.scaleP p T iv).length ≤ 40 := by have := Q.scaleP_le p T iv; omega
          have HSP : Hid (Q.Red p (Q.scaleP p T iv)) := (Q.scaleP_pol (by omega) T iv).red
          have HSR : Hid (Q.Red p (Q.lagS p L i)) := (Q.lagS_pol (by omega) L i).red
          have HRT : Hid (Rd wr (.slice t T.length ct) 1 T.length (nats T)) := HT.out.rd
          clear hT HB' hiv'
          go_wp2_with (fail)
          refine (rinverse_is p by' _ hP hp2 hby hby0).mono ?_
          rintro e w1 ⟨rfl, rfl⟩
          rw [← HIV.out]
          go_wp2_with (fail)
          refine (rScale_is p iv T _ _ hp hp2 hiv HRT HTR (by omega)).mono ?_
          rintro e w2 ⟨⟨v2, rfl, hN2⟩, hB2⟩
          obtain ⟨a2, cp2, hv2⟩ := hN2.rd.shape
          subst hv2
          have HR2 : Hid (Rd w2 (.slice a2 (Q.scaleP p T iv).length cp2) 1 (Q.scaleP p T iv).length (nats (Q.scaleP p T iv))) := hN2.rd
          have HRO : Hid (Rd w2 (.slice ao (Q.lagS p L i).length cp) 1 (Q.lagS p L i).length (nats (Q.lagS p L i))) := (HOK.out.keep hB2).rd
          have HB2 : Hid (Below w.heap.size w w2) := HB.out.trans (hB2.mono HB.out.size)
          clear hN2 hB2
          go_wp2_with (fail)
          refine (rAdd_is p (Q.lagS p L i) (Q.scaleP p T iv) _ _ _ hp hp2 HRO HR2 HSR HSP (by omega) (by omega)).mono ?_
          rintro e w3 ⟨⟨v3, rfl, hN3⟩, hB3⟩
          obtain ⟨a3, cp3, hv3⟩ := hN3.rd.shape
          subst hv3
          have HS3 : Hid (LSt w w3 (.slice a3 (Q.sumP p (Q.lagS p L i) (Q.scaleP p T iv)).length cp3) (Q.lagS p L (i + 1))) := by
            refine ⟨?_, HB2.out.trans (hB3.mono HB2.out.size)⟩
            have h := hN3.from (w0 := w) HB2.out.size
            rw [HNX.out] at h ⊢; exact h
          have HM3 : Hid ((Q.sumP p (Q.lagS p L i) (Q.scaleP p T iv)).length = (Q.lagS p L (i + 1)).length) := by show _ = _; rw [HNX.out]
          clear hN3 hB3
          go_wp2_with (fail)
          go_roundw
          case rel => exact ⟨i + 1, _, cp3, a3, rfl, by go_num, by omega, HM3, HS3⟩
          case measure => simp [intOf]; omega
    · obtain rfl : i = n := by omega
      have hfin := HO.out
      go_wp2_with (fail)
      go_ret
      exact ⟨⟨_, rfl, hfin.1⟩, hfin.2⟩
end Go.Proofs.Ytgnpohapmijfiaa

namespace Go.Proofs.Ytgnpohapmijfiaa
open Go.RowKit

/-- v reads as the pairs Z. -/
def ArgQ (w : World) (v : Value) (Z : List (Int × Int)) : Prop :=
  Z.length ≤ 9223372036854775807 ∧ ((v = .slice none 0 0 ∧ Z = []) ∨
    ∃ (a : Addr) (cap : Nat), v = .slice (some a) Z.length cap ∧ Z.length ≤ cap ∧ cap ≤ 9223372036854775807 ∧ ∀ i (h : i < Z.length), w.cell? (a.add (i * 2)) = some (.int .i64 Z[i].1) ∧ w.cell? (a.add (i * 2 + 1)) = some (.int .i64 Z[i].2))

theorem Try.cellsQ : Try.prog.cellsOf 48 = 2 := by kernel_rfl
theorem Try.cellsQi : Try.prog.cellsOf 3 = 1 := by kernel_rfl

section
open Go.ChangeShapes Go.WideShapes
set_option maxRecDepth 100000 in
theorem argQ_of {H : Type} {enc : TypeId × Value → H} {W : World} {base : Nat} {v : Value} {d : DataW H} {p : List MemPlace} (hv : Value.okWide Try.prog W .any base 46 v)
    (h : DataW.Trod enc Try.prog W 0 (fun _ => true) true 46 v d p) : ∃ Z, ArgQ W v Z := by
  obtain ⟨a0, len, cap, rfl⟩ := okWide_slice Try.underlying46 hv
  obtain ⟨fuel, hf⟩ := h
  rcases Go.Deep.open_slice Try.underlying46 hf with ⟨hcs, hx⟩ | ⟨a, len', cap', m, n, D, Pl, hcs, _, hl, hm, hmm, hx, hall⟩
  · simp only [Value.cells, List.cons.injEq, and_true] at hcs
    rw [hcs]
    exact ⟨[], by simp, .inl ⟨rfl, rfl⟩⟩
  · simp only [Value.cells, List.cons.injEq, and_true] at hcs
    rw [hcs]
    simp only [if_true] at hmm
    unfold maxLen at hm
    have each : ∀ i, i < len' → ∃ q : Int × Int, W.cell? (a.add (i * 2)) = some (.int .i64 q.1) ∧ W.cell? (a.add (i * 2 + 1)) = some (.int .i64 q.2) := by
      intro i hi
      obtain ⟨cs', h1, h2⟩ := hall i (by omega)
      rw [Try.cellsQ] at h1
      obtain ⟨_, hlen, hcell⟩ := World.cells?_some h1
      obtain ⟨xs, k, _, _, _, hxl, hf⟩ := DataW.trod_array Try.underlying48 h2
      match xs, hxl, cs', hlen with
      | [y0, y1], _, [v0, v1], _ =>
        have g0 := hf 0 (by omega)
        have g1 := hf 1 (by omega)
        simp [Try.cellsQi] at g0 g1
        obtain ⟨z0, e0, _, _⟩ := DataW.trod_int Try.underlying3 g0
        obtain ⟨z1, e1, _, _⟩ := DataW.trod_int Try.underlying3 g1
        have c0 := hcell 0 (by omega)
        have c1 := hcell 1 (by omega)
        rw [Go.Deep.add_add] at c0 c1
        simp only [List.cons.injEq, and_true] at e0 e1
        subst e0 e1
        exact ⟨(z0, z1), by simpa using c0, by simpa using c1⟩
    obtain ⟨q, hq⟩ := Go.Deep.choose_lt each
    refine ⟨(List.range len').map q, by simp; omega, .inr ⟨a, cap', by simp, by simp; omega, by omega, fun i hi => ?_⟩⟩
    have hi' : i < len' := by simpa using hi
    have := hq i hi'
    simpa using this
end

/-! ### What the law computes -/
def ptX (T : List (Int × Int)) (i : Nat) : Int := (T.getD i (0, 0)).1
def ptY (T : List (Int × Int)) (i : Nat) : Int := (T.getD i (0, 0)).2
def ptOk (p : Int) (T : List (Int × Int)) (i : Nat) : Prop := 0 ≤ ptX T i ∧ ptX T i < p ∧ 0 ≤ ptY T i ∧ ptY T i < p
def rowB (p : Int) (T : List (Int × Int)) (b : Bool) (i : Nat) : Nat → Bool
  | 0 => b || (decide (ptX T i < 0) || (decide (p ≤ ptX T i) || (decide (ptY T i < 0) || decide (p ≤ ptY T i))))
  | k + 1 => rowB p T b i k || (ptX T k == ptX T i)
def allB (p : Int) (T : List (Int × Int)) (b : Bool) : Nat → Bool
  | 0 => b
  | i + 1 => rowB p T (allB p T b i) i i

theorem rowB_false (p : Int) (T : List (Int × Int)) (b : Bool) (i : Nat) : ∀ k, rowB p T b i k = false ↔ b = false ∧ ptOk p T i ∧ ∀ j, j < k → ptX T j ≠ ptX T i
  | 0 => by
    simp only [rowB, Bool.or_eq_false_iff, decide_eq_false_iff_not, ptOk]
    constructor
    · rintro ⟨h1, h2, h3, h4, h5⟩; exact ⟨h1, ⟨by omega, by omega, by omega, by omega⟩, fun j hj => by omega⟩
    · rintro ⟨h1, ⟨h2, h3, h4, h5⟩, _⟩; exact ⟨h1, by omega, by omega, by omega, by omega⟩
  | k + 1 => by
    simp only [rowB, Bool.or_eq_false_iff, rowB_false p T b i k, beq_eq_false_iff_ne]
    constructor
    · rintro ⟨⟨h1, h2, h3⟩, h4⟩
      refine ⟨h1, h2, fun j hj => ?_⟩
      by_cases e : j = k
      · rw [e]; exact h4
      · exact h3 j (by omega)
    · rintro ⟨h1, h2, h3⟩; exact ⟨⟨h1, h2, fun j hj => h3 j (by omega)⟩, h3 k (by omega)⟩

theorem allB_false (p : Int) (T : List (Int × Int)) (b : Bool) : ∀ n, allB p T b n = false ↔ b = false ∧ ∀ i, i < n → ptOk p T i ∧ ∀ j, j < i → ptX T j ≠ ptX T i
  | 0 => by simp [allB]
  | n + 1 => by
    rw [allB, rowB_false, allB_false p T b n]
    constructor
    · rintro ⟨⟨h1, h2⟩, h3, h4⟩
      refine ⟨h1, fun i hi => ?_⟩
      by_cases e : i = n
      · rw [e]; exact ⟨h3, h4⟩
      · exact h2 i (by omega)
    · rintro ⟨h1, h2⟩; exact ⟨⟨h1, fun i hi => h2 i (by omega)⟩, (h2 n (by omega)).1, (h2 n (by omega)).2⟩

theorem ptsB_true (p : Int) : ∀ (T : List (Int × Int)) (S : List Int), ptsB p S T = true → ∀ i, i < T.length → ptOk p T i ∧ ptX T i ∉ S ∧ ∀ j, j < i → ptX T j ≠ ptX T i
  | [], _, _ => fun i hi => by simp at hi
  | q :: T, S, h => fun i hi => by
    simp only [ptsB, Bool.and_eq_true, decide_eq_true_eq, Bool.not_eq_true', decide_eq_false_iff_not] at h
    obtain ⟨⟨⟨h1, h2⟩, h3⟩, h4⟩ := h
    have ih := ptsB_true p T _ h4
    cases i with
    | zero => exact ⟨⟨h1.1, h1.2, h2.1, h2.2⟩, h3, fun j hj => by omega⟩
    | succ i =>
      have := ih i (by simpa using hi)
      refine ⟨this.1, fun hc => this.2.1 (List.mem_cons_of_mem _ hc), fun j hj => ?_⟩
      cases j with
      | zero => exact fun e => this.2.1 (by rw [show ptX T i = q.1 from e.symm]; exact List.mem_cons_self ..)
      | succ j => exact this.2.2 j (by omega)

def natP (T : List (Int × Int)) : List (Nat × Nat) := T.map fun q => (q.1.toNat, q.2.toNat)
theorem natP_len (T : List (Int × Int)) : (natP T).length = T.length := by simp [natP]
theorem natP_at (T : List (Int × Int)) (i : Nat) (h : i < T.length) : Q.xAt (natP T) i = (ptX T i).toNat ∧ Q.yAt (natP T) i = (ptY T i).toNat := by
  simp [Q.xAt, Q.yAt, natP, ptX, ptY, List.getD, h]

theorem good_pts {p : Nat} {T : List (Int × Int)} (h : ∀ i, i < T.length → ptOk p T i ∧ ∀ j, j < i → ptX T j ≠ ptX T i) : T = upP (natP T) ∧ Q.Pts p (natP T) := by
  refine ⟨?_, ⟨fun i hi => ?_, fun i hi => ?_, fun i k hi hk => ?_⟩⟩
  · apply List.ext_getElem
    · rw [upP_length, natP_len]
    · intro i h1 h2
      have := (h i h1).1
      simp only [ptOk, ptX, ptY, List.getD, List.getElem?_eq_getElem h1, Option.getD_some] at this
      simp only [upP, natP, List.getElem_map]
      refine Prod.ext ?_ ?_
      · show T[i].1 = _; simp only; omega
      · show T[i].2 = _; simp only; omega
  · rw [natP_len] at hi
    have := (h i hi).1
    rw [(natP_at T i hi).1]; unfold ptOk at this; omega
  · rw [natP_len] at hi
    have := (h i hi).1
    rw [(natP_at T i hi).2]; unfold ptOk at this; omega
  · rw [natP_len] at hi
    have h1 := (h i hi).1
    have h2 := (h k (by omega)).1
    have h3 := (h i hi).2 k hk
    rw [(natP_at T i hi).1, (natP_at T k (by omega)).1]; unfold ptOk at h1 h2; omega

/-- What Through gives back. -/
def ThrR (p : Int) (T : List (Int × Int)) (t : Bool) (w w1 : World) (af : Option Addr) (mf cf : Nat) (e : Int) : Prop :=
  (allB p T (!t || decide (33 < T.length)) T.length = false ∧ ∃ (q : Nat) (L : List (Nat × Nat)), p = q ∧ M.Pr q ∧ q ≤ 1021 ∧ T = upP L ∧ L.length ≤ 33 ∧ Q.Pts q L ∧ e = 0 ∧ mf = (Q.thrAt q L L.length).1.length ∧ NewL w w1 (.slice af mf cf) (Q.thrAt q L L.length).1) ∨
  (allB p T (!t || decide (33 < T.length)) T.length = true ∧ mf = 0 ∧ e = 2)

set_option maxRecDepth 100000 in
set_option maxHeartbeats 4000000 in
theorem Through_arg (p : Int) (T : List (Int × Int)) (v : Value) (w : World) (hr : Hid (Rd w v 2 T.length (flatP T))) (hl : T.length ≤ 40) (hn : Hid (¬ (FieldI p ∧ (decide (T.length ≤ 33) && ptsB p [] T) = true))) :
    Calls Try.prog 34 #[.int .i64 p, v] w fun x w' => x = .returned (.tuple #[.slice none 0 0, .int .i64 2]) ∧ Below w.heap.size w w' := by
  obtain ⟨_, a, cap, hav, hcap, _⟩ := hr.out
  subst hav
  by_cases hf : FieldI p
  · have HF := Lib.hid hf
    have hf1 := hf.1
    have hf2 := hf.2.1
    have HT : Hid ((decide (T.length ≤ 33) && ptsB p [] T) = false) := by show _ = _; rw [Bool.eq_false_iff]; exact fun h => hn.out ⟨hf, h⟩
    obtain ⟨n, hnn⟩ : ∃ n, n = T.length := ⟨_, rfl⟩
    have HN := Lib.hid hnn
    have HR : Hid (Rd w (.slice a n cap) 2 T.length (flatP T)) := by show Rd _ _ _ _ _; rw [hnn]; exact hr.out
    rw [← hnn]
    clear hf hn hnn hr
    go_enter Try.func34, Try.ntmps34
    go_wp2_with (fail)
    refine (isField_yes p w HF).mono ?_
    rintro e w1 ⟨rfl, hB1⟩
    have HB1 := Lib.hid hB1
    have HR2 : Hid (Rd w1 (.slice a n cap) 2 T.length (flatP T)) := HR.out.below hB1 (Nat.le_refl _)
    clear hB1
    go_wp2_with (fail)
    refine (arePoints_is p T _ false _ (by omega) (by omega) HR2 (by have := HN.out; omega) HT).mono ?_
    rintro e w2 ⟨rfl, hB2⟩
    have HB2 := Lib.hid (HB1.out.trans (hB2.mono HB1.out.size))
    clear hB2
    go_wp2_with (fail)
    go_ret2
    exact ⟨rfl, HB2.out⟩
  · have HF : Hid (¬ FieldI p) := hf
    clear hf hn hr
    go_enter Try.func34, Try.ntmps34
    go_wp2_with (fail)
    refine (isField_no p w HF).mono ?_
    rintro e w1 ⟨rfl, hB1⟩
    have HB1 := Lib.hid hB1
    clear hB1
    go_wp2_with (fail)
    go_ret2
    exact ⟨rfl, HB1.out⟩

theorem Through_is (p : Int) (T : List (Int × Int)) (t : Bool) (v : Value) (w : World) (hr : Hid (Rd w v 2 T.length (flatP T))) (hl : T.length ≤ 40) (ht : Hid (FieldI p ↔ t = true)) :
    Calls Try.prog 34 #[.int .i64 p, v] w fun x w' => (∃ (af : Option Addr) (mf cf : Nat) (e : Int), x = .returned (.tuple #[.slice af mf cf, .int .i64 e]) ∧ ThrR p T t w w' af mf cf e) ∧ Below w.heap.size w w' := by
  by_cases hg : allB p T (!t || decide (33 < T.length)) T.length = false
  · obtain ⟨h1, h2⟩ := (allB_false _ _ _ _).1 hg
    simp only [Bool.or_eq_false_iff, Bool.not_eq_false', decide_eq_false_iff_not] at h1
    have hf := ht.out.2 h1.1
    obtain ⟨q, rfl⟩ := Int.eq_ofNat_of_zero_le (show 0 ≤ p by have := hf.1; omega)
    have hP : M.Pr q := by have := hf.2.2; rw [Int.toNat_natCast] at this; exact this
    have hq : q ≤ 1021 := by have := hf.2.1; omega
    obtain ⟨g1, g2⟩ := good_pts h2
    have hl33 : (natP T).length ≤ 33 := by rw [natP_len]; omega
    refine (Through_ok q (natP T) v w hP hq (by rw [← g1, natP_len]; exact hr) hl33 g2).mono ?_
    rintro x w' ⟨⟨vf, rfl, hN⟩, hB⟩
    obtain ⟨af, cf, hvf⟩ := hN.rd.shape
    subst hvf
    exact ⟨⟨_, _, _, _, rfl, .inl ⟨hg, q, natP T, rfl, hP, hq, g1, hl33, g2, rfl, rfl, hN⟩⟩, hB⟩
  · have hg' : allB p T (!t || decide (33 < T.length)) T.length = true := by simpa using hg
    refine (Through_arg p T v w hr hl fun hc => ?_).mono ?_
    · refine hg ((allB_false _ _ _ _).2 ⟨?_, ?_⟩)
      · have h1 := ht.out.1 hc.1
        have h2 := hc.2
        simp only [Bool.and_eq_true, decide_eq_true_eq] at h2
        rw [h1]; simp; omega
      · have h2 := hc.2
        simp only [Bool.and_eq_true, decide_eq_true_eq] at h2
        exact fun i hi => ⟨(ptsB_true p T [] h2.2 i hi).1, (ptsB_true p T [] h2.2 i hi).2.2⟩
    · rintro x w' ⟨rfl, hB⟩
      exact ⟨⟨none, 0, 0, 2, rfl, .inr ⟨hg', rfl, rfl⟩⟩, hB⟩

end Go.Proofs.Ytgnpohapmijfiaa
