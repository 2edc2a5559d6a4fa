/- Walks and plain mathematics: PwXgcd, PwGcdApi, RefE. -/
import Derived.Test.YtgnpohapmijfiaaG04
import Derived.Test.YtgnpohapmijfiaaG13
namespace Go.Proofs.Ytgnpohapmijfiaa
open Go.RowKit

theorem Q.dif_le' (p : Nat) (hp : 0 < p) (f g : List Nat) : (Q.difP p f g).length ≤ max f.length g.length := Q.dif_len hp

set_option maxRecDepth 100000 in
set_option maxHeartbeats 2000000 in
theorem divisorWith_ok (p n : Nat) (F G RR AA : List Nat) (v1 v2 : Value) (w : World) (hP : Hid (M.Pr p)) (hp2 : p ≤ 1021) (h1 : Hid (Rd w v1 1 F.length (nats F))) (h2 : Hid (Rd w v2 1 G.length (nats G)))
    (hF : Hid (Q.Pol p F)) (hG : Hid (Q.Pol p G)) (hl1 : F.length ≤ 33) (hl2 : G.length ≤ 33) (hD : Hid (Q.xgcdLoop p n F G [1] [] = some (RR, AA))) :
    Calls Try.prog 58 #[.int .i64 p, v1, v2] w (RetD w (Q.monicP p RR) (Q.gcdA p RR AA)) := by
  have hp : 2 ≤ p := hP.out.1
  obtain ⟨a1, cap1, hv1⟩ := h1.out.shape
  obtain ⟨a2, cap2, hv2⟩ := h2.out.shape
  subst hv1 hv2
  have HO : Hid (Rd (w.alloc (.cells #[.int .i64 1] 3)) (.slice (some ⟨w.heap.size, 0, none⟩) 1 1) 1 [1].length (nats [1])) := Rd.of_own (lit1_own w 1)
  have HA : Hid (Below w.heap.size w (w.alloc (.cells #[.int .i64 1] 3))) := (Below.refl _ _).alloc (Nat.le_refl _) _
  have h1' : Hid (Rd (w.alloc (.cells #[.int .i64 1] 3)) (.slice a1 F.length cap1) 1 F.length (nats F)) := h1.out.below HA.out (Nat.le_refl _)
  have h2' : Hid (Rd (w.alloc (.cells #[.int .i64 1] 3)) (.slice a2 G.length cap2) 1 G.length (nats G)) := h2.out.below HA.out (Nat.le_refl _)
  have HN0 : Hid (Rd (w.alloc (.cells #[.int .i64 1] 3)) (.slice none 0 0) 1 ([] : List Nat).length (nats [])) := ⟨rfl, _, _, rfl, Nat.le_refl _, .inl rfl⟩
  have HP1 : Hid (Q.Pol p [1]) := Q.pol_const (by omega) (by omega)
  clear h1 h2
  go_enter Try.func58, Try.ntmps58
  go_wp2_with (fail)
  go_loopw [8, 9, 10, 11] (fun xr xs xa xb wr => ∃ (ar az aa ab : Option Addr) (cr cs ca cb nr ns na nb : Nat) (R S A B : List Nat), xr = .slice ar nr cr ∧ xs = .slice az ns cs ∧ xa = .slice aa na ca ∧ xb = .slice ab nb cb ∧ nr ≤ 33 ∧ ns ≤ 33 ∧ na ≤ 2000 - 40 * ns ∧ nb ≤ 2000 - 40 * ns ∧ Hid (nr = R.length ∧ ns = S.length ∧ na = A.length ∧ nb = B.length) ∧ Hid (Rd wr (.slice ar nr cr) 1 R.length (nats R)) ∧ Hid (Rd wr (.slice az ns cs) 1 S.length (nats S)) ∧ Hid (Rd wr (.slice aa na ca) 1 A.length (nats A)) ∧ Hid (Rd wr (.slice ab nb cb) 1 B.length (nats B)) ∧ Hid (Q.Pol p R) ∧ Hid (Q.Pol p S) ∧ Hid (Q.Pol p A) ∧ Hid (Q.Pol p B) ∧ Hid (Below w.heap.size w wr) ∧ Hid (∃ j, Q.xgcdLoop p j R S A B = some (RR, AA))) (fun _ xs _ _ _ => match xs with | .slice _ k _ => k | _ => 0)
  case atStart => exact ⟨_, _, _, _, _, _, _, _, _, _, _, _, F, G, [1], [], rfl, rfl, rfl, rfl, hl1, hl2, by omega, by omega, ⟨rfl, rfl, rfl, rfl⟩, h1', h2', HO, HN0, hF, hG, HP1, Q.Pol.nil p, HA, ⟨n, hD.out⟩⟩
  case round =>
    obtain ⟨ar, az, aa, ab, cr, cs, ca, cb, nr, ns, na, nb, R, S, A, B, rfl, rfl, rfl, rfl, hnr, hns, hna, hnb, HL, HR, HS, HAA, HBB, PR, PS, PA, PB, HB, HJ⟩ := hrel
    by_cases h0 : 0 < ns
    · have hS0 : S.length ≠ 0 := by have := HL.out; omega
      have hstep : Hid (∃ j, Q.xgcdLoop p j S (Q.divP p R S).2 B (Q.difP p A (Q.prodP' p (Q.divP p R S).1 B)) = some (RR, AA)) := by
        obtain ⟨j, hj⟩ := HJ.out
        cases j with
        | zero => simp [Q.xgcdLoop] at hj
        | succ j => rw [Q.xgcdLoop, if_neg hS0] at hj; exact ⟨j, hj⟩
      have hdiv := Q.div_is hP.out PR.out PS.out hS0
      obtain ⟨dq, hdq⟩ : ∃ dq, dq = (Q.divP p R S).1 := ⟨_, rfl⟩
      obtain ⟨dr, hdr⟩ : ∃ dr, dr = (Q.divP p R S).2 := ⟨_, rfl⟩
      rw [← hdq, ← hdr] at hstep hdiv
      have HDD := Lib.hid (And.intro hdq hdr)
      have HPQ : Hid (Q.Pol p dq) := hdiv.qpol
      have HPD : Hid (Q.Pol p dr) := hdiv.rpol
      have hql : dq.length ≤ 33 := by rw [hdiv.qlen]; have := HL.out; omega
      have hrl : dr.length < ns := by have := hdiv.rlen; have := HL.out; omega
      have HPP : Hid (Q.Pol p (Q.prodP' p dq B)) := Q.pol_prod hP.out hdiv.qpol PB.out
      have hpl : (Q.prodP' p dq B).length ≤ 33 + nb := by
        by_cases hz : dq.length = 0 ∨ B.length = 0
        · rw [Q.prod_nil hz]; simp
        · rw [Q.prod_length (by omega) (by omega)]; have := HL.out; omega
      have hdl := Q.dif_le' p (by omega) A (Q.prodP' p dq B)
      have hdl2 : (Q.difP p A (Q.prodP' p dq B)).length ≤ 2000 - 40 * dr.length := by have := HL.out; omega
      have HPX : Hid (Q.Pol p (Q.difP p A (Q.prodP' p dq B))) := Q.pol_dif (by omega) _ _
      have hdec : decide ((0 : Int) < (ns : Int)) = true := by rw [decide_eq_true_iff]; omega
      clear hdiv hdq hdr hdl
      go_wp2_with (fail)
      refine (divide_is p R S _ _ _ hP hp2 HR HS PR.out.red PS (by have := HL.out; omega) hS0).mono ?_
      rintro e w1 ⟨⟨vq, vr, rfl, hNq, hNr⟩, hB⟩
      rw [← HDD.out.1] at hNq
      rw [← HDD.out.2] at hNr
      have HB1 := Lib.hid (HB.out.trans (hB.mono HB.out.size))
      have HQ1 : Hid (Rd w1 vq 1 dq.length (nats dq)) := hNq.rd
      have HR1 : Hid (Rd w1 vr 1 dr.length (nats dr)) := hNr.rd
      have HS1 : Hid (Rd w1 (.slice az ns cs) 1 S.length (nats S)) := HS.out.below hB (Nat.le_refl _)
      have HA1 : Hid (Rd w1 (.slice aa na ca) 1 A.length (nats A)) := HAA.out.below hB (Nat.le_refl _)
      have HBb1 : Hid (Rd w1 (.slice ab nb cb) 1 B.length (nats B)) := HBB.out.below hB (Nat.le_refl _)
      obtain ⟨a5, c5, hv5⟩ := hNq.rd.shape
      obtain ⟨a6, c6, hv6⟩ := hNr.rd.shape
      subst hv5 hv6
      clear hNq hNr hB
      go_wp2_with (fail)
      refine (product_is p dq B _ _ _ hp hp2 HQ1 HBb1 HPQ.out.red PB.out.red (by omega) (by have := HL.out; omega)).mono ?_
      rintro e w2 ⟨⟨vm, rfl, hNm⟩, hB⟩
      have HB2 := Lib.hid (HB1.out.trans (hB.mono HB1.out.size))
      have HM2 : Hid (Rd w2 vm 1 (Q.prodP' p dq B).length (nats (Q.prodP' p dq B))) := hNm.rd
      have HR2 : Hid (Rd w2 (.slice a6 dr.length c6) 1 dr.length (nats dr)) := HR1.out.below hB (Nat.le_refl _)
      have HS2 : Hid (Rd w2 (.slice az ns cs) 1 S.length (nats S)) := HS1.out.below hB (Nat.le_refl _)
      have HA2 : Hid (Rd w2 (.slice aa na ca) 1 A.length (nats A)) := HA1.out.below hB (Nat.le_refl _)
      have HBb2 : Hid (Rd w2 (.slice ab nb cb) 1 B.length (nats B)) := HBb1.out.below hB (Nat.le_refl _)
      obtain ⟨a7, c7, hv7⟩ := hNm.rd.shape
      subst hv7
      clear hNm hB
      go_wp2_with (fail)
      refine (difference_is p A (Q.prodP' p dq B) _ _ _ hp hp2 HA2 HM2 PA.out.red HPP.out.red (by have := HL.out; omega) (by omega)).mono ?_
      rintro e w3 ⟨⟨vx, rfl, hNx⟩, hB⟩
      have HB3 := Lib.hid (HB2.out.trans (hB.mono HB2.out.size))
      have HX3 : Hid (Rd w3 vx 1 (Q.difP p A (Q.prodP' p dq B)).length (nats (Q.difP p A (Q.prodP' p dq B)))) := hNx.rd
      have HR3 : Hid (Rd w3 (.slice a6 dr.length c6) 1 dr.length (nats dr)) := HR2.out.below hB (Nat.le_refl _)
      have HS3 : Hid (Rd w3 (.slice az ns cs) 1 S.length (nats S)) := HS2.out.below hB (Nat.le_refl _)
      have HBb3 : Hid (Rd w3 (.slice ab nb cb) 1 B.length (nats B)) := HBb2.out.below hB (Nat.le_refl _)
      obtain ⟨a8, c8, hv8⟩ := hNx.rd.shape
      subst hv8
      clear hNx hB
      go_wp2_with (fail)
      go_roundw
      case rel => exact ⟨_, _, _, _, _, _, _, _, _, _, _, _, S, dr, B, _, rfl, rfl, rfl, rfl, hns, by omega, by omega, hdl2, ⟨HL.out.2.1, rfl, HL.out.2.2.2, rfl⟩, HS3, HR3, HBb3, HX3, PS, HPD, PB, HPX, HB3, hstep⟩
      case measure => exact hrl
    · have hd : decide ((0 : Int) < (ns : Int)) = false := by rw [decide_eq_false_iff_not]; omega
      have hd2 : decide (0 < ns) = false := by simpa using h0
      have HE : Hid (RR = R ∧ AA = A) := by
        obtain ⟨j, hj⟩ := HJ.out
        cases j with
        | zero => simp [Q.xgcdLoop] at hj
        | succ j =>
          rw [Q.xgcdLoop, if_pos (by have := HL.out; omega)] at hj
          injection hj with hj; injection hj with h1 h2
          exact ⟨h1.symm, h2.symm⟩
      have hcl : (Q.monicC p R).length ≤ 1 := by unfold Q.monicC; split <;> simp
      have HCR : Hid (Q.Red p (Q.monicC p R)) := by
        show Q.Red _ _
        by_cases hz : R.length = 0
        · rw [Q.monicC, if_pos hz]; intro x hx; simp at hx
        · obtain ⟨c, e1, e2, _⟩ := Q.monicC_pol hP.out PR.out hz
          rw [e1]; intro x hx; simp at hx; omega
      have hnae : na = A.length := HL.out.2.2.1
      have HNAE := Lib.hid hnae
      clear hnae h0
      go_wp2_with (fail)
      refine (monic_ok p R _ _ hP hp2 HR PR (by have := HL.out; omega)).mono ?_
      rintro e w1 ⟨⟨vd, vc, rfl, hNd, hNc⟩, hB⟩
      have HB1 := Lib.hid (HB.out.trans (hB.mono HB.out.size))
      have HD1 : Hid (NewL w w1 vd (Q.monicP p R)) := hNd.from HB.out.size
      have HC1 : Hid (Rd w1 vc 1 (Q.monicC p R).length (nats (Q.monicC p R))) := hNc.rd
      have HA1 : Hid (Rd w1 (.slice aa na ca) 1 A.length (nats A)) := HAA.out.below hB (Nat.le_refl _)
      obtain ⟨a5, c5, hv5⟩ := hNd.rd.shape
      obtain ⟨a6, c6, hv6⟩ := hNc.rd.shape
      subst hv5 hv6
      clear hNd hNc hB
      go_wp2_with (fail)
      refine (product_is p A (Q.monicC p R) _ _ _ hp hp2 HA1 HC1 PA.out.red HCR.out (by have := HNAE.out; omega) (by omega)).mono ?_
      rintro e w2 ⟨⟨vm, rfl, hNm⟩, hB⟩
      have HB2 := Lib.hid (HB1.out.trans (hB.mono HB1.out.size))
      have HD2 : Hid (NewL w w2 (.slice a5 (Q.monicP p R).length c5) (Q.monicP p R)) := HD1.out.keep hB
      have HM2 : Hid (NewL w w2 vm (Q.gcdA p R A)) := hNm.from HB1.out.size
      obtain ⟨a7, c7, hv7⟩ := hNm.rd.shape
      subst hv7
      clear hNm hB
      go_wp2_with (fail)
      go_ret2
      rw [HE.out.1, HE.out.2]
      exact ⟨⟨_, _, rfl, HD2.out, HM2.out⟩, HB2.out⟩

end Go.Proofs.Ytgnpohapmijfiaa

namespace Go.Proofs.Ytgnpohapmijfiaa
open Go.RowKit

/-- Three new lists, and no error. -/
def RetT (w : World) (d a b : List Nat) (x : Ending) (w' : World) : Prop := (∃ vd va vb, x = .returned (.tuple #[vd, va, vb, .int .i64 0]) ∧ NewL w w' vd d ∧ NewL w w' va a ∧ NewL w w' vb b) ∧ Below w.heap.size w w'

set_option maxRecDepth 100000 in
set_option maxHeartbeats 2000000 in
theorem Gcd_ok (p : Nat) (F G RR AA : List Nat) (v1 v2 : Value) (w : World) (hP : Hid (M.Pr p)) (hp2 : p ≤ 1021) (h1 : Hid (Rd w v1 1 F.length (nats F))) (h2 : Hid (Rd w v2 1 G.length (nats G))) (hF : Hid (Q.Pol p F)) (hG : Hid (Q.Pol p G)) (hl1 : F.length ≤ 33) (hl2 : G.length ≤ 33)
    (hD : Hid (Q.xgcdLoop p (G.length + 1) F G [1] [] = some (RR, AA))) (hX : Hid (Q.XgIs p F G RR AA)) :
    Calls Try.prog 30 #[.int .i64 p, v1, v2] w (RetT w (Q.monicP p RR) (Q.gcdA p RR AA) (Q.gcdB p F G RR AA)) := by
  have hp : 2 ≤ p := hP.out.1
  have hM := Lib.hid (rdM2 (T := 22) h1.out.zs h2.out.zs)
  have hB : Hid (Below w.heap.size w (w.alloc (.cells #[v1, v2] 22))) := (Below.refl _ _).alloc (Nat.le_refl _) _
  have hls : Hid (∀ Z ∈ [up F, up G], Z.length ≤ 1000000) := by intro Z hZ; simp at hZ; rcases hZ with rfl | rfl <;> (rw [up_length]; omega)
  have ht : Hid (Args2 p (up F) (up G)) := args2_of hP.out hp2 hF.out hG.out hl1 hl2
  obtain ⟨a1, cap1, hv1⟩ := h1.out.shape
  obtain ⟨a2, cap2, hv2⟩ := h2.out.shape
  subst hv1 hv2
  go_enter Try.func30, Try.ntmps30
  go_wp2_with (fail)
  refine (arePolys_yes p _ [up F, up G] _ hM (by simp) hls ht).mono ?_
  rintro e w1 ⟨rfl, hB1⟩
  have HB := Lib.hid (hB.out.trans (hB1.mono (by simp)))
  have h1' : Hid (Rd w1 (.slice a1 F.length cap1) 1 F.length (nats F)) := h1.out.below HB.out (Nat.le_refl _)
  have h2' : Hid (Rd w1 (.slice a2 G.length cap2) 1 G.length (nats G)) := h2.out.below HB.out (Nat.le_refl _)
  clear hB1 hM h1 h2 hB
  go_wp2_with (fail)
  refine (divisorWith_ok p _ F G RR AA _ _ _ hP hp2 h1' h2' hF hG hl1 hl2 hD).mono ?_
  rintro e w2 ⟨⟨vd, va, rfl, hNd, hNa⟩, hB⟩
  have HB2 := Lib.hid (HB.out.trans (hB.mono HB.out.size))
  have HD2 : Hid (NewL w w2 vd (Q.monicP p RR)) := hNd.from HB.out.size
  have HA2 : Hid (NewL w w2 va (Q.gcdA p RR AA)) := hNa.from HB.out.size
  have HF2 : Hid (Rd w2 (.slice a1 F.length cap1) 1 F.length (nats F)) := h1'.out.below hB (Nat.le_refl _)
  have HG2 : Hid (Rd w2 (.slice a2 G.length cap2) 1 G.length (nats G)) := h2'.out.below hB (Nat.le_refl _)
  obtain ⟨a3, c3, hv3⟩ := hNd.rd.shape
  obtain ⟨a4, c4, hv4⟩ := hNa.rd.shape
  subst hv3 hv4
  clear hNd hNa hB h1' h2'
  by_cases hg0 : G.length = 0
  · have hz : ((G.length : Int) == 0) = true := by rw [beq_iff_eq]; omega
    have HGB : Hid (Q.gcdB p F G RR AA = []) := by show _ = _; rw [Q.gcdB, if_pos hg0]
    clear hg0
    go_wp2_with (fail)
    refine bodyPost_ret (v := .tuple #[.slice a3 (Q.monicP p RR).length c3, .slice a4 (Q.gcdA p RR AA).length c4, .slice none 0 0, .int .i64 0]) (by simp [results, Try.results30, go_sem]) rfl ?_
    rw [HGB.out]
    exact ⟨⟨_, _, _, rfl, HD2.out, HA2.out, NewL.nil _ _⟩, HB2.out⟩
  · have hz : ((G.length : Int) == 0) = false := by rw [beq_eq_false_iff_ne]; omega
    have hbd := hX.out.bound hg0
    have hR0 : RR.length ≠ 0 := by
      intro h
      have := (Q.gcdP_is hP.out hF.out hG.out).zero.1 (by rw [hX.out.gcd, Q.monicP, if_pos h])
      rw [this.2] at hg0; simp at hg0
    have hmp := Q.monic_is hP.out hX.out.rpol hR0
    have hDl : (Q.monicP p RR).length ≤ 33 := by rw [hmp.2.2.1]; omega
    obtain ⟨c, hc1, hc2, hc3, _⟩ := Q.monicC_pol hP.out hX.out.rpol hR0
    have HPA : Hid (Q.Pol p (Q.gcdA p RR AA)) := by
      show Q.Pol _ _
      rw [Q.gcdA, hc1]; exact Q.pol_prod hP.out hX.out.apol (Q.pol_const hc2 hc3)
    have hAl : (Q.gcdA p RR AA).length ≤ 33 := by
      rw [Q.gcdA, hc1]
      by_cases h0 : AA.length = 0
      · rw [Q.prod_nil (.inl h0)]; simp
      · rw [Q.prod_length h0 (by simp)]; simp; omega
    have HPM : Hid (Q.Pol p (Q.monicP p RR)) := hmp.1
    have HPAF : Hid (Q.Pol p (Q.prodP' p (Q.gcdA p RR AA) F)) := Q.pol_prod hP.out HPA.out hF.out
    have hAF : (Q.prodP' p (Q.gcdA p RR AA) F).length ≤ 66 := by
      by_cases h0 : (Q.gcdA p RR AA).length = 0 ∨ F.length = 0
      · rw [Q.prod_nil h0]; simp
      · rw [Q.prod_length (by omega) (by omega)]; omega
    obtain ⟨X, hXX⟩ : ∃ X, X = Q.difP p (Q.monicP p RR) (Q.prodP' p (Q.gcdA p RR AA) F) := ⟨_, rfl⟩
    have hXl : X.length ≤ 66 := by rw [hXX]; exact Nat.le_trans (Q.dif_le' p (by omega) _ _) (by omega)
    have HPX : Hid (Q.Pol p X) := by rw [hXX]; exact Q.pol_dif (by omega) _ _
    have HGB : Hid (Q.gcdB p F G RR AA = (Q.divP p X G).1) := by show _ = _; rw [Q.gcdB, if_neg hg0, ← hXX]
    have HXX := Lib.hid hXX
    have HD2r : Hid (Rd w2 (.slice a3 (Q.monicP p RR).length c3) 1 (Q.monicP p RR).length (nats (Q.monicP p RR))) := HD2.out.rd
    have HA2r : Hid (Rd w2 (.slice a4 (Q.gcdA p RR AA).length c4) 1 (Q.gcdA p RR AA).length (nats (Q.gcdA p RR AA))) := HA2.out.rd
    clear hbd hR0 hmp hc1 hc2 hc3 hXX
    go_wp2_with (fail)
    refine (product_is p (Q.gcdA p RR AA) F _ _ _ hp hp2 HA2r HF2 HPA.out.red hF.out.red (by omega) (by omega)).mono ?_
    rintro e w3 ⟨⟨vm, rfl, hNm⟩, hB⟩
    have HB3 := Lib.hid (HB2.out.trans (hB.mono HB2.out.size))
    have HM3 : Hid (Rd w3 vm 1 (Q.prodP' p (Q.gcdA p RR AA) F).length (nats (Q.prodP' p (Q.gcdA p RR AA) F))) := hNm.rd
    have HD3 : Hid (NewL w w3 (.slice a3 (Q.monicP p RR).length c3) (Q.monicP p RR)) := HD2.out.keep hB
    have HA3 : Hid (NewL w w3 (.slice a4 (Q.gcdA p RR AA).length c4) (Q.gcdA p RR AA)) := HA2.out.keep hB
    have HD3r : Hid (Rd w3 (.slice a3 (Q.monicP p RR).length c3) 1 (Q.monicP p RR).length (nats (Q.monicP p RR))) := HD3.out.rd
    have HG3 : Hid (Rd w3 (.slice a2 G.length cap2) 1 G.length (nats G)) := HG2.out.below hB (Nat.le_refl _)
    obtain ⟨a5, c5, hv5⟩ := hNm.rd.shape
    subst hv5
    clear hNm hB
    go_wp2_with (fail)
    refine (difference_is p (Q.monicP p RR) _ _ _ _ hp hp2 HD3r HM3 HPM.out.red HPAF.out.red (by omega) (by omega)).mono ?_
    rintro e w4 ⟨⟨vx, rfl, hNx⟩, hB⟩
    rw [← HXX.out] at hNx
    have HB4 := Lib.hid (HB3.out.trans (hB.mono HB3.out.size))
    have HX4 : Hid (Rd w4 vx 1 X.length (nats X)) := hNx.rd
    have HD4 : Hid (NewL w w4 (.slice a3 (Q.monicP p RR).length c3) (Q.monicP p RR)) := HD3.out.keep hB
    have HA4 : Hid (NewL w w4 (.slice a4 (Q.gcdA p RR AA).length c4) (Q.gcdA p RR AA)) := HA3.out.keep hB
    have HG4 : Hid (Rd w4 (.slice a2 G.length cap2) 1 G.length (nats G)) := HG3.out.below hB (Nat.le_refl _)
    obtain ⟨a6, c6, hv6⟩ := hNx.rd.shape
    subst hv6
    clear hNx hB
    go_wp2_with (fail)
    refine (divide_is p X G _ _ _ hP hp2 HX4 HG4 HPX.out.red hG (by omega) hg0).mono ?_
    rintro e w5 ⟨⟨vq, vr, rfl, hNq, hNr⟩, hB⟩
    have HB5 := Lib.hid (HB4.out.trans (hB.mono HB4.out.size))
    have HQ5 : Hid (NewL w w5 vq (Q.gcdB p F G RR AA)) := by show NewL _ _ _ _; rw [HGB.out]; exact hNq.from HB4.out.size
    have HD5 : Hid (NewL w w5 (.slice a3 (Q.monicP p RR).length c3) (Q.monicP p RR)) := HD4.out.keep hB
    have HA5 : Hid (NewL w w5 (.slice a4 (Q.gcdA p RR AA).length c4) (Q.gcdA p RR AA)) := HA4.out.keep hB
    obtain ⟨a7, c7, hv7⟩ := hNq.rd.shape
    obtain ⟨a8, c8, hv8⟩ := hNr.rd.shape
    subst hv7 hv8
    clear hNq hNr hB
    go_wp2_with (fail)
    refine bodyPost_ret (v := .tuple #[.slice a3 (Q.monicP p RR).length c3, .slice a4 (Q.gcdA p RR AA).length c4, .slice a7 (Q.divP p X G).1.length c7, .int .i64 0]) (by simp [results, Try.results30, go_sem]) rfl ?_
    exact ⟨⟨_, _, _, rfl, HD5.out, HA5.out, HQ5.out⟩, HB5.out⟩

set_option maxRecDepth 100000 in
set_option maxHeartbeats 1000000 in
theorem Gcd_arg (p : Int) (Z1 Z2 : List Int) (v1 v2 : Value) (w : World) (h1 : Hid (Rd w v1 1 Z1.length (zs Z1))) (h2 : Hid (Rd w v2 1 Z2.length (zs Z2))) (hl1 : Z1.length ≤ 1000000) (hl2 : Z2.length ≤ 1000000) (hn : Hid (¬ Args2 p Z1 Z2)) :
    Calls Try.prog 30 #[.int .i64 p, v1, v2] w fun x w' => x = .returned (.tuple #[.slice none 0 0, .slice none 0 0, .slice none 0 0, .int .i64 2]) ∧ Below w.heap.size w w' := by
  have hM := Lib.hid (rdM2 (T := 22) h1.out h2.out)
  have hB : Hid (Below w.heap.size w (w.alloc (.cells #[v1, v2] 22))) := (Below.refl _ _).alloc (Nat.le_refl _) _
  have hls : Hid (∀ Z ∈ [Z1, Z2], Z.length ≤ 1000000) := by intro Z hZ; simp at hZ; rcases hZ with rfl | rfl <;> assumption
  obtain ⟨a1, cap1, rfl⟩ := h1.out.shape
  obtain ⟨a2, cap2, rfl⟩ := h2.out.shape
  go_enter Try.func30, Try.ntmps30
  go_wp2_with (fail)
  refine (arePolys_no p _ [Z1, Z2] _ hM (by simp) hls hn).mono ?_
  rintro e w1 ⟨rfl, hB1⟩
  have HB := Lib.hid (hB.out.trans (hB1.mono (by simp)))
  clear hB1
  go_wp2_with (fail)
  refine bodyPost_ret (v := .tuple #[.slice none 0 0, .slice none 0 0, .slice none 0 0, .int .i64 2]) (by simp [results, Try.results30, go_sem]) rfl ?_
  exact ⟨rfl, HB.out⟩

set_option maxRecDepth 100000 in
set_option maxHeartbeats 1000000 in
theorem rMonic_is (p : Nat) (F : List Nat) (v1 : Value) (w : World) (hP : Hid (M.Pr p)) (hp2 : p ≤ 1021) (h1 : Hid (Rd w v1 1 F.length (nats F))) (hF : Hid (Q.Pol p F)) (hl1 : F.length ≤ 100000) :
    Calls Try.prog 93 #[.int .i64 p, v1] w (RetL w (Q.monicP p F)) := by
  have hp : 2 ≤ p := hP.out.1
  obtain ⟨a1, cap1, hv1⟩ := h1.out.shape
  subst hv1
  by_cases h0 : F.length = 0
  · have hz : ((F.length : Int) == 0) = true := by rw [beq_iff_eq]; omega
    have HE : Hid (Q.monicP p F = []) := by show _ = _; rw [Q.monicP, if_pos h0]
    clear h0
    go_enter Try.func93, Try.ntmps93
    go_wp2_with (fail)
    go_ret
    rw [HE.out]
    exact ⟨⟨_, rfl, NewL.nil _ _⟩, Below.refl _ _⟩
  · have hz : ((F.length : Int) == 0) = false := by rw [beq_eq_false_iff_ne]; omega
    obtain ⟨n, hn⟩ : ∃ n, F.length = n + 1 := ⟨F.length - 1, by omega⟩
    obtain ⟨b, rfl, hb, hc⟩ := h1.out.at n (by omega)
    have hne := hF.out.ne h0
    have hlt := hF.out.red.getD (show 0 < p by omega) (F.length - 1)
    rw [show F.length - 1 = n by omega] at hne hlt
    have hinv := Q.inv_spec hP.out hlt hne
    obtain ⟨x, hx⟩ : ∃ x, x = F.getD n 0 := ⟨_, rfl⟩
    rw [← hx] at hc hne hlt hinv
    obtain ⟨i, hi⟩ : ∃ i, i = Q.invM p x := ⟨_, rfl⟩
    have hip : i < p := by rw [hi]; exact hinv.1
    have HI := Lib.hid hi
    have HE : Hid (Q.scaleP p F i = Q.monicP p F) := by
      show _ = _
      rw [hi, hx, ← Q.scale_monic hP.out hF.out h0, show F.length - 1 = n by omega]
    have hnl : (F.length : Int) - 1 = (n : Int) := by omega
    have hnl2 : (n : Int) < (F.length : Int) := by omega
    clear hi hx hinv hn h0
    go_enter Try.func93, Try.ntmps93
    go_wp2_with (fail)
    refine (rinverse_is p x _ hP hp2 hlt hne).mono ?_
    rintro e wz ⟨rfl, hwz⟩
    subst hwz
    rw [← HI.out]
    go_wp2_with (fail)
    refine (rScale_is p i F _ _ hp hp2 hip h1 hF.out.red hl1).mono ?_
    rintro e w2 ⟨⟨v, rfl, hN⟩, hB⟩
    rw [HE.out] at hN
    have HR := Lib.hid (And.intro hN hB)
    obtain ⟨a2, c2, hv2⟩ := hN.rd.shape
    subst hv2
    clear hN hB
    go_wp2_with (fail)
    go_ret
    exact ⟨⟨_, rfl, HR.out.1⟩, HR.out.2⟩

set_option maxRecDepth 100000 in
set_option maxHeartbeats 2000000 in
theorem rgcd_ok (p n : Nat) (F G D : List Nat) (v1 v2 : Value) (w : World) (hP : Hid (M.Pr p)) (hp2 : p ≤ 1021) (h1 : Hid (Rd w v1 1 F.length (nats F))) (h2 : Hid (Rd w v2 1 G.length (nats G)))
    (hF : Hid (Q.Pol p F)) (hG : Hid (Q.Pol p G)) (hl1 : F.length ≤ 100000) (hl2 : G.length ≤ 100000) (hD : Hid (Q.gcdLoop p n F G = some D)) :
    Calls Try.prog 60 #[.int .i64 p, v1, v2] w (RetL w D) := by
  have hp : 2 ≤ p := hP.out.1
  obtain ⟨a1, cap1, hv1⟩ := h1.out.shape
  obtain ⟨a2, cap2, hv2⟩ := h2.out.shape
  subst hv1 hv2
  go_enter Try.func60, Try.ntmps60
  go_wp2_with (fail)
  go_loopw [1, 2] (fun x y wr => ∃ (a b : Option Addr) (cp cq m k : Nat) (f g : List Nat), x = .slice a m cp ∧ y = .slice b k cq ∧ m ≤ 100000 ∧ k ≤ 100000 ∧ Hid (m = f.length ∧ k = g.length) ∧ Hid (Rd wr (.slice a m cp) 1 f.length (nats f)) ∧ Hid (Rd wr (.slice b k cq) 1 g.length (nats g)) ∧ Hid (Q.Pol p f) ∧ Hid (Q.Pol p g) ∧ Hid (Below w.heap.size w wr) ∧ Hid (∃ j, Q.gcdLoop p j f g = some D)) (fun _ y _ => match y with | .slice _ k _ => k | _ => 0)
  case atStart => exact ⟨_, _, _, _, _, _, F, G, rfl, rfl, hl1, hl2, ⟨rfl, rfl⟩, h1, h2, hF, hG, Below.refl _ _, ⟨n, hD.out⟩⟩
  case round =>
    obtain ⟨a, b, cp, cq, m, k, f, g, rfl, rfl, hm, hk, HMK, HR1, HR2, Hf, Hg, HB, HJ⟩ := hrel
    by_cases h0 : 0 < k
    · have hg0 : g.length ≠ 0 := by have := HMK.out.2; omega
      obtain ⟨dr, hdr⟩ : ∃ dr, dr = (Q.divP p f g).2 := ⟨_, rfl⟩
      have HDR := Lib.hid hdr
      have hstep : Hid (∃ j, Q.gcdLoop p j g dr = some D) := by
        obtain ⟨j, hj⟩ := HJ.out
        cases j with
        | zero => simp [Q.gcdLoop] at hj
        | succ j => rw [Q.gcdLoop, if_neg hg0] at hj; exact ⟨j, by rw [hdr]; exact hj⟩
      have hdiv := Q.div_is hP.out Hf.out Hg.out hg0
      rw [← hdr] at hdiv
      have HPR : Hid (Q.Pol p dr) := hdiv.rpol
      have hrk : dr.length < k := by have := HMK.out.2; have := hdiv.rlen; omega
      have hdec : decide ((0 : Int) < (k : Int)) = true := by rw [decide_eq_true_iff]; omega
      clear hdiv hdr
      go_wp2_with (fail)
      refine (rDiv_is p f g _ _ _ hP hp2 HR1 HR2 Hf Hg (by have := HMK.out.1; omega) hg0).mono ?_
      rintro e w1 ⟨⟨vq, vr, rfl, hNq, hNr⟩, hB⟩
      rw [← HDR.out] at hNr
      have HN : Hid (Rd w1 vr 1 dr.length (nats dr)) := hNr.rd
      have HR2' : Hid (Rd w1 (.slice b k cq) 1 g.length (nats g)) := HR2.out.below hB (Nat.le_refl _)
      have HB' : Hid (Below w.heap.size w w1) := HB.out.trans (hB.mono HB.out.size)
      obtain ⟨a3, cap3, hv3⟩ := hNq.rd.shape
      obtain ⟨a4, cap4, hv4⟩ := hNr.rd.shape
      subst hv3 hv4
      clear hNq hNr hB
      go_wp2_with (fail)
      go_roundw
      case rel => exact ⟨_, _, _, _, _, _, g, dr, rfl, rfl, hk, by omega, ⟨HMK.out.2, rfl⟩, HR2', HN, Hg, HPR, HB', hstep⟩
      case measure => exact hrk
    · have hd : decide (0 < k) = false := by simpa using h0
      have hd2 : decide ((0 : Int) < (k : Int)) = false := by rw [decide_eq_false_iff_not]; omega
      have hk0 : k = 0 := by omega
      have HE : Hid (D = Q.monicP p f) := by
        obtain ⟨j, hj⟩ := HJ.out
        cases j with
        | zero => simp [Q.gcdLoop] at hj
        | succ j => rw [Q.gcdLoop, if_pos (by have := HMK.out.2; omega)] at hj; injection hj with hj; exact hj.symm
      clear hk0
      go_wp2_with (fail)
      refine (rMonic_is p f _ _ hP hp2 HR1 Hf (by have := HMK.out.1; omega)).mono ?_
      rintro e w1 ⟨⟨vq, rfl, hq⟩, hB⟩
      have HN : Hid (NewL w w1 vq (Q.monicP p f) ∧ Below w.heap.size w w1) := ⟨hq.from HB.out.size, HB.out.trans (hB.mono HB.out.size)⟩
      obtain ⟨a3, cap3, hv3⟩ := hq.rd.shape
      subst hv3
      clear hq hB
      go_wp2_with (fail)
      go_ret
      rw [HE.out]
      exact ⟨⟨_, rfl, HN.out.1⟩, HN.out.2⟩

theorem rgcd_is (p : Nat) (F G : List Nat) (v1 v2 : Value) (w : World) (hP : Hid (M.Pr p)) (hp2 : p ≤ 1021) (h1 : Hid (Rd w v1 1 F.length (nats F))) (h2 : Hid (Rd w v2 1 G.length (nats G)))
    (hF : Hid (Q.Pol p F)) (hG : Hid (Q.Pol p G)) (hl1 : F.length ≤ 100000) (hl2 : G.length ≤ 100000) :
    Calls Try.prog 60 #[.int .i64 p, v1, v2] w (RetL w (Q.gcdP p F G)) := by
  obtain ⟨d, hd, _⟩ := Q.gcdLoop_is hP.out (G.length + 1) hF.out hG.out (by omega)
  have e : Q.gcdP p F G = d := by unfold Q.gcdP; rw [hd]; rfl
  rw [e]
  exact rgcd_ok p _ F G d v1 v2 w hP hp2 h1 h2 hF hG hl1 hl2 hd

end Go.Proofs.Ytgnpohapmijfiaa

namespace Go.Proofs.Ytgnpohapmijfiaa
open Go.RowKit

theorem rPoly_yes (p : Nat) (F : List Nat) (v : Value) (w : World) (hr : Hid (Rd w v 1 F.length (nats F))) (hF : Hid (Q.Pol p F)) (hl : F.length ≤ 33) :
    Calls Try.prog 23 #[.int .i64 p, v] w fun x w' => x = .returned (.bool true) ∧ w = w' :=
  rPoly_is p v (up F) true w hr.out.zs (by rw [up_length]; omega) ((polyB_iff p _).2 ⟨F, rfl, hF.out, hl⟩)

set_option maxRecDepth 100000 in
set_option maxHeartbeats 4000000 in
theorem IsGcd_yes (p : Nat) (F G D A B : List Nat) (vf vg vd va vb : Value) (w : World) (hP : Hid (M.Pr p)) (hp2 : p ≤ 1021) (hF : Hid (Q.Pol p F)) (hG : Hid (Q.Pol p G)) (hl1 : F.length ≤ 33) (hl2 : G.length ≤ 33)
    (hf : Hid (Rd w vf 1 F.length (nats F))) (hg : Hid (Rd w vg 1 G.length (nats G))) (hd : Hid (Rd w vd 1 D.length (nats D))) (ha : Hid (Rd w va 1 A.length (nats A))) (hb : Hid (Rd w vb 1 B.length (nats B)))
    (hO : Hid (Q.GcdOut p F G D A B)) (hD : Hid (Q.Pol p D)) (hld : D.length ≤ 33) (hla : A.length ≤ 33) (hlb : B.length ≤ 33) :
    Calls Try.prog 31 #[.int .i64 p, vf, vg, vd, va, vb] w fun x w' => x = .returned (.bool true) ∧ Below w.heap.size w w' := by
  have hp : 2 ≤ p := hP.out.1
  obtain ⟨a1, c1, hv1⟩ := hf.out.shape
  obtain ⟨a2, c2, hv2⟩ := hg.out.shape
  obtain ⟨a3, c3, hv3⟩ := hd.out.shape
  obtain ⟨a4, c4, hv4⟩ := ha.out.shape
  obtain ⟨a5, c5, hv5⟩ := hb.out.shape
  subst hv1 hv2 hv3 hv4 hv5
  have HPA : Hid (Q.Pol p A) := hO.out.apol
  have HPB : Hid (Q.Pol p B) := hO.out.bpol
  have HPAF : Hid (Q.Pol p (Q.prodP' p A F)) := Q.pol_prod hP.out HPA.out hF.out
  have HPBG : Hid (Q.Pol p (Q.prodP' p B G)) := Q.pol_prod hP.out HPB.out hG.out
  have hAF : (Q.prodP' p A F).length ≤ 66 := by
    by_cases h0 : A.length = 0 ∨ F.length = 0
    · rw [Q.prod_nil h0]; simp
    · rw [Q.prod_length (by omega) (by omega)]; omega
  have hBG : (Q.prodP' p B G).length ≤ 66 := by
    by_cases h0 : B.length = 0 ∨ G.length = 0
    · rw [Q.prod_nil h0]; simp
    · rw [Q.prod_length (by omega) (by omega)]; omega
  have HSD : Hid (Q.sumP p (Q.prodP' p A F) (Q.prodP' p B G) = D) := hO.out.comb
  have HGD : Hid (Q.gcdP p F G = D) := hO.out.isgcd.symm
  go_enter Try.func31, Try.ntmps31
  go_wp2_with (fail)
  refine (rPoly_yes p D _ _ hd hD hld).mono ?_
  rintro e wz ⟨rfl, rfl⟩
  go_wp2_with (fail)
  refine (rPoly_yes p A _ _ ha HPA hla).mono ?_
  rintro e wz ⟨rfl, rfl⟩
  go_wp2_with (fail)
  refine (rPoly_yes p B _ _ hb HPB hlb).mono ?_
  rintro e wz ⟨rfl, rfl⟩
  go_wp2_with (fail)
  refine (rgcd_is p F G _ _ _ hP hp2 hf hg hF hG (by omega) (by omega)).mono ?_
  rintro e w1 ⟨⟨vx, rfl, hN⟩, hB⟩
  rw [HGD.out] at hN
  have HB1 := Lib.hid hB
  have HX1 : Hid (Rd w1 vx 1 D.length (nats D)) := hN.rd
  have hf1 : Hid (Rd w1 (.slice a1 F.length c1) 1 F.length (nats F)) := hf.out.below hB (Nat.le_refl _)
  have hg1 : Hid (Rd w1 (.slice a2 G.length c2) 1 G.length (nats G)) := hg.out.below hB (Nat.le_refl _)
  have hd1 : Hid (Rd w1 (.slice a3 D.length c3) 1 D.length (nats D)) := hd.out.below hB (Nat.le_refl _)
  have ha1 : Hid (Rd w1 (.slice a4 A.length c4) 1 A.length (nats A)) := ha.out.below hB (Nat.le_refl _)
  have hb1 : Hid (Rd w1 (.slice a5 B.length c5) 1 B.length (nats B)) := hb.out.below hB (Nat.le_refl _)
  obtain ⟨a6, c6, hv6⟩ := hN.rd.shape
  subst hv6
  clear hN hB hf hg hd ha hb
  go_wp2_with (fail)
  refine (Same_is D D _ _ true _ hd1 HX1 (by omega) (by omega) ⟨fun _ => rfl, fun _ => rfl⟩).mono ?_
  rintro e w2 ⟨rfl, n2, hw2⟩
  have HB12 : Hid (Below w1.heap.size w1 w2) := by rw [hw2]; exact below_drewN (Below.refl _ _) _
  have HB2 := Lib.hid (HB1.out.trans (HB12.out.mono HB1.out.size))
  have hf2 : Hid (Rd w2 (.slice a1 F.length c1) 1 F.length (nats F)) := hf1.out.below HB12.out (Nat.le_refl _)
  have hg2 : Hid (Rd w2 (.slice a2 G.length c2) 1 G.length (nats G)) := hg1.out.below HB12.out (Nat.le_refl _)
  have hd2 : Hid (Rd w2 (.slice a3 D.length c3) 1 D.length (nats D)) := hd1.out.below HB12.out (Nat.le_refl _)
  have ha2 : Hid (Rd w2 (.slice a4 A.length c4) 1 A.length (nats A)) := ha1.out.below HB12.out (Nat.le_refl _)
  have hb2 : Hid (Rd w2 (.slice a5 B.length c5) 1 B.length (nats B)) := hb1.out.below HB12.out (Nat.le_refl _)
  clear hw2 hf1 hg1 hd1 ha1 hb1 HX1
  go_wp2_with (fail)
  refine (rMul_is p A F _ _ _ hP hp2 ha2 hf2 HPA hF (by omega) (by omega)).mono ?_
  rintro e w3 ⟨⟨vm, rfl, hN⟩, hB⟩
  have HB3 := Lib.hid (HB2.out.trans (hB.mono HB2.out.size))
  have HM3 : Hid (Rd w3 vm 1 (Q.prodP' p A F).length (nats (Q.prodP' p A F))) := hN.rd
  have hf3 : Hid (Rd w3 (.slice a1 F.length c1) 1 F.length (nats F)) := hf2.out.below hB (Nat.le_refl _)
  have hg3 : Hid (Rd w3 (.slice a2 G.length c2) 1 G.length (nats G)) := hg2.out.below hB (Nat.le_refl _)
  have hd3 : Hid (Rd w3 (.slice a3 D.length c3) 1 D.length (nats D)) := hd2.out.below hB (Nat.le_refl _)
  have hb3 : Hid (Rd w3 (.slice a5 B.length c5) 1 B.length (nats B)) := hb2.out.below hB (Nat.le_refl _)
  obtain ⟨a7, c7, hv7⟩ := hN.rd.shape
  subst hv7
  clear hN hB
  go_wp2_with (fail)
  refine (rMul_is p B G _ _ _ hP hp2 hb3 hg3 HPB hG (by omega) (by omega)).mono ?_
  rintro e w4 ⟨⟨vn, rfl, hN⟩, hB⟩
  have HB4 := Lib.hid (HB3.out.trans (hB.mono HB3.out.size))
  have HN4 : Hid (Rd w4 vn 1 (Q.prodP' p B G).length (nats (Q.prodP' p B G))) := hN.rd
  have HM4 : Hid (Rd w4 (.slice a7 (Q.prodP' p A F).length c7) 1 (Q.prodP' p A F).length (nats (Q.prodP' p A F))) := HM3.out.below hB (Nat.le_refl _)
  have hf4 : Hid (Rd w4 (.slice a1 F.length c1) 1 F.length (nats F)) := hf3.out.below hB (Nat.le_refl _)
  have hg4 : Hid (Rd w4 (.slice a2 G.length c2) 1 G.length (nats G)) := hg3.out.below hB (Nat.le_refl _)
  have hd4 : Hid (Rd w4 (.slice a3 D.length c3) 1 D.length (nats D)) := hd3.out.below hB (Nat.le_refl _)
  obtain ⟨a8, c8, hv8⟩ := hN.rd.shape
  subst hv8
  clear hN hB
  go_wp2_with (fail)
  refine (rAdd_is p (Q.prodP' p A F) (Q.prodP' p B G) _ _ _ hp hp2 HM4 HN4 HPAF.out.red HPBG.out.red (by omega) (by omega)).mono ?_
  rintro e w5 ⟨⟨vs, rfl, hN⟩, hB⟩
  rw [HSD.out] at hN
  have HB5 := Lib.hid (HB4.out.trans (hB.mono HB4.out.size))
  have HS5 : Hid (Rd w5 vs 1 D.length (nats D)) := hN.rd
  have hf5 : Hid (Rd w5 (.slice a1 F.length c1) 1 F.length (nats F)) := hf4.out.below hB (Nat.le_refl _)
  have hg5 : Hid (Rd w5 (.slice a2 G.length c2) 1 G.length (nats G)) := hg4.out.below hB (Nat.le_refl _)
  have hd5 : Hid (Rd w5 (.slice a3 D.length c3) 1 D.length (nats D)) := hd4.out.below hB (Nat.le_refl _)
  obtain ⟨a9, c9, hv9⟩ := hN.rd.shape
  subst hv9
  clear hN hB
  go_wp2_with (fail)
  refine (Same_is D D _ _ true _ HS5 hd5 (by omega) (by omega) ⟨fun _ => rfl, fun _ => rfl⟩).mono ?_
  rintro e w6 ⟨rfl, n6, hw6⟩
  have HB56 : Hid (Below w5.heap.size w5 w6) := by rw [hw6]; exact below_drewN (Below.refl _ _) _
  have HB6 := Lib.hid (HB5.out.trans (HB56.out.mono HB5.out.size))
  have hf6 : Hid (Rd w6 (.slice a1 F.length c1) 1 F.length (nats F)) := hf5.out.below HB56.out (Nat.le_refl _)
  have hg6 : Hid (Rd w6 (.slice a2 G.length c2) 1 G.length (nats G)) := hg5.out.below HB56.out (Nat.le_refl _)
  have hd6 : Hid (Rd w6 (.slice a3 D.length c3) 1 D.length (nats D)) := hd5.out.below HB56.out (Nat.le_refl _)
  clear hw6 HS5 HM4 HN4 HM3
  by_cases hg0 : G.length = 0
  · have hz : ((G.length : Int) == 0) = true := by rw [beq_iff_eq]; omega
    have hA0 := hO.out.g0 hg0
    have hzb : ((B.length : Int) == 0) = true := by rw [beq_iff_eq]; omega
    have hmn : min (F.length : Int) 1 = (A.length : Int) := by omega
    have hzz : ((A.length : Int) == (A.length : Int)) = true := by simp
    clear hA0 hg0
    go_wp2_with (fail)
    go_ret
    exact ⟨by first | rfl | simp, HB6.out⟩
  · have hz : ((G.length : Int) == 0) = false := by rw [beq_eq_false_iff_ne]; omega
    by_cases hf0 : F.length = 0
    · have hzf : ((F.length : Int) == 0) = true := by rw [beq_iff_eq]; omega
      have hA0 := hO.out.f0 hg0 hf0
      have hza : ((A.length : Int) == 0) = true := by rw [beq_iff_eq]; omega
      have hzb : ((B.length : Int) == 1) = true := by rw [beq_iff_eq]; omega
      clear hA0 hg0 hf0
      go_wp2_with (fail)
      go_ret
      exact ⟨by first | rfl | simp, HB6.out⟩
    · have hzf : ((F.length : Int) == 0) = false := by rw [beq_eq_false_iff_ne]; omega
      have hbd := hO.out.bound hg0 hf0
      have hD0 : D.length ≠ 0 := by
        intro h
        have h1 := (Q.gcdP_is hP.out hF.out hG.out).zero.1 (by rw [HGD.out]; exact List.eq_nil_of_length_eq_zero h)
        rw [h1.1] at hf0; simp at hf0
      have hdx := Q.div_is hP.out hF.out hD.out hD0
      have hdy := Q.div_is hP.out hG.out hD.out hD0
      obtain ⟨x, hx⟩ : ∃ x, x = (Q.divP p F D).1 := ⟨_, rfl⟩
      obtain ⟨y, hy⟩ : ∃ y, y = (Q.divP p G D).1 := ⟨_, rfl⟩
      rw [← hx, ← hy] at hbd
      have HXY := Lib.hid (And.intro hx hy)
      have HBD := Lib.hid hbd
      clear hx hy hdx hdy hbd
      go_wp2_with (fail)
      refine (rDiv_is p F D _ _ _ hP hp2 hf6 hd6 hF hD (by omega) hD0).mono ?_
      rintro e w7 ⟨⟨vq, vr, rfl, hNq, hNr⟩, hB⟩
      rw [← HXY.out.1] at hNq
      have HB7 := Lib.hid (HB6.out.trans (hB.mono HB6.out.size))
      have hg7 : Hid (Rd w7 (.slice a2 G.length c2) 1 G.length (nats G)) := hg6.out.below hB (Nat.le_refl _)
      have hd7 : Hid (Rd w7 (.slice a3 D.length c3) 1 D.length (nats D)) := hd6.out.below hB (Nat.le_refl _)
      obtain ⟨a10, c10, hv10⟩ := hNq.rd.shape
      obtain ⟨a11, c11, hv11⟩ := hNr.rd.shape
      subst hv10 hv11
      clear hNq hNr hB
      go_wp2_with (fail)
      refine (rDiv_is p G D _ _ _ hP hp2 hg7 hd7 hG hD (by omega) hD0).mono ?_
      rintro e w8 ⟨⟨vq, vr, rfl, hNq, hNr⟩, hB⟩
      rw [← HXY.out.2] at hNq
      have HB8 := Lib.hid (HB7.out.trans (hB.mono HB7.out.size))
      obtain ⟨a12, c12, hv12⟩ := hNq.rd.shape
      obtain ⟨a13, c13, hv13⟩ := hNr.rd.shape
      subst hv12 hv13
      clear hNq hNr hB
      by_cases h11 : x.length = 1 ∧ y.length = 1
      · have hAB := HBD.out
        rw [if_pos h11] at hAB
        have hzx : ((x.length : Int) == 1) = true := by rw [beq_iff_eq]; omega
        have hzy : ((y.length : Int) == 1) = true := by rw [beq_iff_eq]; omega
        have hza : ((A.length : Int) == 0) = true := by rw [beq_iff_eq]; omega
        have hzb : ((B.length : Int) == 1) = true := by rw [beq_iff_eq]; omega
        clear hAB h11
        go_wp2_with (fail)
        go_ret
        exact ⟨by first | rfl | (simp; done) | (simp; have h9 := HAB.out; omega), HB8.out⟩
      · have hAB := HBD.out
        rw [if_neg h11] at hAB
        have HAB := Lib.hid hAB
        clear hAB
        by_cases hx1 : x.length = 1
        · have hzx : ((x.length : Int) == 1) = true := by rw [beq_iff_eq]; omega
          have hzy : ((y.length : Int) == 1) = false := by rw [beq_eq_false_iff_ne]; omega
          by_cases hA : A.length = 0
          · by_cases hBz : B.length = 0
            · have hza : ((A.length : Int) == 0) = true := by rw [beq_iff_eq]; omega
              have hzb : ((B.length : Int) == 0) = true := by rw [beq_iff_eq]; omega
              clear h11
              go_wp2_with (fail)
              go_ret
              exact ⟨by first | rfl | (simp; done) | (simp; have h9 := HAB.out; omega), HB8.out⟩
            · have hza : ((A.length : Int) == 0) = true := by rw [beq_iff_eq]; omega
              have hzb : ((B.length : Int) == 0) = false := by rw [beq_eq_false_iff_ne]; omega
              have hlb2 : decide (B.length < x.length) = true := by rw [decide_eq_true_iff]; have := HAB.out.2; omega
              clear h11
              go_wp2_with (fail)
              go_ret
              exact ⟨by first | rfl | (simp; done) | (simp; have h9 := HAB.out; omega), HB8.out⟩
          · by_cases hBz : B.length = 0
            · have hza : ((A.length : Int) == 0) = false := by rw [beq_eq_false_iff_ne]; omega
              have hla2 : decide (A.length < y.length) = true := by rw [decide_eq_true_iff]; have := HAB.out.1; omega
              have hzb : ((B.length : Int) == 0) = true := by rw [beq_iff_eq]; omega
              clear h11
              go_wp2_with (fail)
              go_ret
              exact ⟨by first | rfl | (simp; done) | (simp; have h9 := HAB.out; omega), HB8.out⟩
            · have hza : ((A.length : Int) == 0) = false := by rw [beq_eq_false_iff_ne]; omega
              have hla2 : decide (A.length < y.length) = true := by rw [decide_eq_true_iff]; have := HAB.out.1; omega
              have hzb : ((B.length : Int) == 0) = false := by rw [beq_eq_false_iff_ne]; omega
              have hlb2 : decide (B.length < x.length) = true := by rw [decide_eq_true_iff]; have := HAB.out.2; omega
              clear h11
              go_wp2_with (fail)
              go_ret
              exact ⟨by first | rfl | (simp; done) | (simp; have h9 := HAB.out; omega), HB8.out⟩
        · have hzx : ((x.length : Int) == 1) = false := by rw [beq_eq_false_iff_ne]; omega
          by_cases hA : A.length = 0
          · by_cases hBz : B.length = 0
            · have hza : ((A.length : Int) == 0) = true := by rw [beq_iff_eq]; omega
              have hzb : ((B.length : Int) == 0) = true := by rw [beq_iff_eq]; omega
              clear h11
              go_wp2_with (fail)
              go_ret
              exact ⟨by first | rfl | (simp; done) | (simp; have h9 := HAB.out; omega), HB8.out⟩
            · have hza : ((A.length : Int) == 0) = true := by rw [beq_iff_eq]; omega
              have hzb : ((B.length : Int) == 0) = false := by rw [beq_eq_false_iff_ne]; omega
              have hlb2 : decide (B.length < x.length) = true := by rw [decide_eq_true_iff]; have := HAB.out.2; omega
              clear h11
              go_wp2_with (fail)
              go_ret
              exact ⟨by first | rfl | (simp; done) | (simp; have h9 := HAB.out; omega), HB8.out⟩
          · by_cases hBz : B.length = 0
            · have hza : ((A.length : Int) == 0) = false := by rw [beq_eq_false_iff_ne]; omega
              have hla2 : decide (A.length < y.length) = true := by rw [decide_eq_true_iff]; have := HAB.out.1; omega
              have hzb : ((B.length : Int) == 0) = true := by rw [beq_iff_eq]; omega
              clear h11
              go_wp2_with (fail)
              go_ret
              exact ⟨by first | rfl | (simp; done) | (simp; have h9 := HAB.out; omega), HB8.out⟩
            · have hza : ((A.length : Int) == 0) = false := by rw [beq_eq_false_iff_ne]; omega
              have hla2 : decide (A.length < y.length) = true := by rw [decide_eq_true_iff]; have := HAB.out.1; omega
              have hzb : ((B.length : Int) == 0) = false := by rw [beq_eq_false_iff_ne]; omega
              have hlb2 : decide (B.length < x.length) = true := by rw [decide_eq_true_iff]; have := HAB.out.2; omega
              clear h11
              go_wp2_with (fail)
              go_ret
              exact ⟨by first | rfl | (simp; done) | (simp; have h9 := HAB.out; omega), HB8.out⟩

end Go.Proofs.Ytgnpohapmijfiaa
