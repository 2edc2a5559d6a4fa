/- Walks and plain mathematics: RefD, PwTame. -/
import Derived.Test.YtgnpohapmijfiaaG10
import Derived.Test.YtgnpohapmijfiaaG11
namespace Go.Proofs.Ytgnpohapmijfiaa
open Go.RowKit

theorem Q.trim_take {F : List Nat} {n : Nat} (h : ∀ i, n ≤ i → F.getD i 0 = 0) {p : Nat} (_hp : 0 < p) (hr : Q.Red p F) : Q.trim F = Q.trim (F.take n) := by
  refine hr.trim.ext (hr.take n).trim fun i => ?_
  rw [Q.trim_getD, Q.trim_getD, Q.getD_take]
  split
  · rfl
  · next h1 => exact h i (by omega)

set_option maxRecDepth 100000 in
set_option maxHeartbeats 1000000 in
theorem rDiv_short (p : Nat) (F G : List Nat) (v1 v2 : Value) (w : World) (h1 : Hid (Rd w v1 1 F.length (nats F))) (h2 : Hid (Rd w v2 1 G.length (nats G))) (hF : Hid (Q.trim F = F)) (hl1 : F.length ≤ 100000) (hlt : F.length < G.length) :
    Calls Try.prog 29 #[.int .i64 p, v1, v2] w (RetD w [] F) := by
  obtain ⟨_, a1, cap1, rfl, hcap1, _⟩ := h1.out
  obtain ⟨_, a2, cap2, rfl, hcap2, _⟩ := h2.out
  have HC1 : Hid (∀ i, i < F.length → ∃ b, a1 = some ⟨b, 0, none⟩ ∧ b < w.heap.size ∧ w.cell? ⟨b, i, none⟩ = some (.int .i64 (F.getD i 0 : Nat))) := fun i hi => h1.out.at i hi
  obtain ⟨i0, hi, hz0, hz1, hz2⟩ := info_parts Try.infoZ
  have hd : decide (F.length < G.length) = true := by simpa using hlt
  have hd2 : decide ((F.length : Int) < (G.length : Int)) = true := by rw [decide_eq_true_iff]; omega
  have H1' := Lib.hid (nats_one F)
  have HLN : Hid ((nats F).length = F.length * 1) := by show _ = _; rw [nats_length]; omega
  have HRR : Hid (∀ (v' : Value) (w1 : World), w1.ownsRow w.heap.size 3 1 v' F.length (nats F) → Below w.heap.size w w1 → NewL w w1 v' F ∧ Below w.heap.size w w1) := fun v' w1 h1 h2 => ⟨h1, h2⟩
  clear h1 h2
  rcases a1 with _ | ad
  · have hF0 : F = [] := by
      cases F with
      | nil => rfl
      | cons x F => obtain ⟨b, h, _⟩ := HC1.out 0 (by simp); cases h
    subst hF0
    go_enter Try.func29, Try.ntmps29
    go_wp2_with (fail)
    refine (rtrim_is [] _ _ ⟨rfl, _, _, rfl, Nat.zero_le _, .inl rfl⟩ (by simp)).mono ?_
    rintro e w5 ⟨⟨v5, rfl, hN5⟩, hB5⟩
    have HR : Hid (NewL w w5 v5 [] ∧ Below w.heap.size w w5) := ⟨hN5, hB5⟩
    obtain ⟨a6, cap6, hv6⟩ := hN5.rd.shape
    subst hv6
    clear hN5 hB5
    go_wp2_with (fail)
    go_ret2
    exact ⟨⟨_, _, rfl, NewL.nil _ _, HR.out.1⟩, HR.out.2⟩
  · have HC : Hid (∀ j u, (nats F)[j]? = some u → w.cell? (ad.add j) = some u) := fun j u hu => by
      have := take_cells (n := F.length) HC1.out j u
      rw [List.take_length] at this
      exact this hu
    go_enter Try.func29, Try.ntmps29
    go_wp2_with (at_builtin; refine wpList_append_own _ rfl _ _ 22 rfl w.heap.size 3 i0 (.int .i64 0) 1 8 Try.underlying22 hi hz0 hz1 hz2 rfl (by decide) _ 0 [] rfl (World.ownsRow_nil _ _ _ _) ad F.length cap1 (nats F) rfl HLN.out HC.out H1'.out (by unfold maxLen; omega) (by omega) (by simp) ?_)
    intro v' w1 hown hgrow _
    have hB1 : Below w.heap.size w w1 := (Below.refl _ _).grown hgrow (Nat.le_refl _) (by intro g hg; simp [Value.ownBlock] at hg)
    have HN1 : Hid (NewL w w1 v' F ∧ Below w.heap.size w w1) := ⟨by unfold NewL; simpa using hown, hB1⟩
    obtain ⟨a6, cap6, hv6⟩ := HN1.out.1.rd.shape
    subst hv6
    have HRD : Hid (Rd w1 (.slice a6 F.length cap6) 1 F.length (nats F)) := HN1.out.1.rd
    clear hown hgrow hB1
    go_wp2_with (fail)
    refine (rtrim_is F _ _ HRD (by omega)).mono ?_
    rintro e w5 ⟨⟨v5, rfl, hN5⟩, hB5⟩
    rw [hF.out] at hN5
    have HR : Hid (NewL w w5 v5 F ∧ Below w.heap.size w w5) := ⟨hN5.from HN1.out.2.size, HN1.out.2.trans (hB5.mono HN1.out.2.size)⟩
    obtain ⟨a7, cap7, hv7⟩ := hN5.rd.shape
    subst hv7
    clear hN5 hB5
    go_wp2_with (fail)
    go_ret2
    exact ⟨⟨_, _, rfl, NewL.nil _ _, HR.out.1⟩, HR.out.2⟩

set_option maxRecDepth 100000 in
set_option maxHeartbeats 2000000 in
theorem rDiv_long (p : Nat) (F G : List Nat) (v1 v2 : Value) (w : World) (hP : Hid (M.Pr p)) (hp2 : p ≤ 1021) (h1 : Hid (Rd w v1 1 F.length (nats F))) (h2 : Hid (Rd w v2 1 G.length (nats G)))
    (hF : Hid (Q.Pol p F)) (hG : Hid (Q.Pol p G)) (hl1 : F.length ≤ 100000) (hg0 : G.length ≠ 0) (hge : G.length ≤ F.length) :
    Calls Try.prog 29 #[.int .i64 p, v1, v2] w (RetD w (Q.divP p F G).1 (Q.divP p F G).2) := by
  have hp : 2 ≤ p := hP.out.1
  obtain ⟨_, a1, cap1, rfl, hcap1, hcell1⟩ := h1.out
  obtain ⟨_, a2, cap2, rfl, hcap2, hcell2⟩ := h2.out
  rcases hcell1 with h0 | ⟨b1, rfl, hb1, hc1⟩
  · omega
  rcases hcell2 with h0 | ⟨b2, rfl, hb2, hc2⟩
  · omega
  have HC2 := Lib.hid hc2
  have HCF : Hid (∀ j u, (nats F)[j]? = some u → w.cell? ((⟨b1, 0, none⟩ : Addr).add j) = some u) := fun j u hu => by
    have hadd : (⟨b1, 0, none⟩ : Addr).add j = ⟨b1, j, none⟩ := by unfold Addr.add; split <;> simp_all
    rw [hadd]; exact hc1 j u hu
  clear hc2 hc1 h1 h2
  have hne := hG.out.ne hg0
  have hgp : G.getD (G.length - 1) 0 < p := hG.out.red.getD (by omega) _
  obtain ⟨gl, hgl⟩ : ∃ gl, gl = G.getD (G.length - 1) 0 := ⟨_, rfl⟩
  rw [← hgl] at hne hgp
  have hcl : w.cell? ⟨b2, G.length - 1, none⟩ = some (.int .i64 (gl : Int)) := by
    have e : G.getD (G.length - 1) 0 = G[G.length - 1] := Q.getD_get (by omega)
    rw [HC2.out _ _ (nats_get G (G.length - 1) (by omega)), ← e, ← hgl]
  obtain ⟨inv, hinv⟩ : ∃ inv, inv = Q.invM p gl := ⟨_, rfl⟩
  have hinvs := Q.inv_spec hP.out hgp hne
  have hinvp : inv < p := by rw [hinv]; exact hinvs.1
  obtain ⟨fin, hfin⟩ : ∃ fin, fin = Q.divLoopR p inv G (F.length - (G.length - 1)) F [] := ⟨_, rfl⟩
  have hfl : fin = Q.divLoop p inv G (F.length - (G.length - 1)) F [] := by rw [hfin]; exact Q.divLoopR_is (by omega) inv G _ F [] hF.out.red
  have HFIN := Lib.hid hfin
  have hdo := Q.divLoop_ok hp hg0 hG.out.red (inv := inv) (by rw [hinv, ← hgl]; exact hinvs.2.1) (F.length - (G.length - 1)) F [] hF.out.red (by omega) (fun k hk => Q.getD_out (by omega))
  rw [← hfl] at hdo
  have HE : Hid (Q.divP p F G = (fin.2, Q.trim fin.1)) := by
    show _ = _
    rw [Q.divP, if_neg (by omega), ← hgl, ← hinv, ← hfl, Q.trim_take hdo.top (by omega) hdo.red]
  have hdi := Q.div_is hP.out hF.out hG.out hg0
  have HQT : Hid (Q.trim fin.2 = fin.2) := by
    have := hdi.qpol; rw [HE.out] at this; exact Q.trim_of_pol this
  have HINV := Lib.hid hinv
  clear hfin hfl hinvs hinv hdo hdi
  obtain ⟨m1, hm1⟩ : ∃ m1, m1 = F.length := ⟨_, rfl⟩
  obtain ⟨m2, hm2⟩ : ∃ m2, m2 = G.length := ⟨_, rfl⟩
  have HM := Lib.hid (And.intro hm1 hm2)
  have HGL := Lib.hid hgl
  rw [HE.out]
  rw [← hm1] at hl1 hge hcap1 ⊢
  rw [← hm2] at hcap2 hg0 hge hcl ⊢
  have HNF : Hid ((nats F).length = m1 * 1) := by show _ = _; rw [nats_length, hm1]; omega
  have HOF := Lib.hid (nats_one F)
  clear hm1 hm2 hgl
  have hdec : decide (m1 < m2) = false := by simpa using hge
  have hdec2 : decide ((m1 : Int) < (m2 : Int)) = false := by rw [decide_eq_false_iff_not]; omega
  obtain ⟨lst, hlst⟩ : ∃ lst, m2 = lst + 1 := ⟨m2 - 1, by omega⟩
  have hl2 : (m2 : Int) - 1 = (lst : Int) := by omega
  have hl3 : (lst : Int) < (m2 : Int) := by omega
  obtain ⟨N, hN⟩ : ∃ N, N = m1 - lst := ⟨_, rfl⟩
  have hNN : (m1 : Int) - (m2 : Int) + 1 = (N : Int) := by omega
  have hNb : N ≤ 1000000 := by omega
  have hN1 : N + lst = m1 := by omega
  rw [show m2 - 1 = lst by omega] at hcl
  clear hN hlst
  obtain ⟨i0, hi, hz0, hz3, hz4⟩ := info_parts Try.infoZ
  have HCL := Lib.hid hcl
  clear hcl
  go_enter Try.func29, Try.ntmps29
  go_wp2_with (at_builtin; refine wpList_append_own _ rfl _ _ 22 rfl w.heap.size 3 i0 (.int .i64 0) 1 8 Try.underlying22 hi hz0 hz3 hz4 rfl (by decide) _ 0 [] rfl (World.ownsRow_nil _ _ _ _) ⟨b1, 0, none⟩ m1 cap1 (nats F) rfl HNF.out HCF.out HOF.out (by unfold maxLen; omega) (by omega) (by simp) ?_)
  intro v' w1 hown hgrow _
  have hB1 : Below w.heap.size w w1 := (Below.refl _ _).grown hgrow (Nat.le_refl _) (by intro g hg; simp [Value.ownBlock] at hg)
  have hown' : w1.ownsRow w.heap.size 3 1 v' m1 (nats F) := by simpa using hown
  obtain ⟨ar, capr, hvr, hcr, hcr2, hblk⟩ := own_form hown'
  obtain ⟨gr, har, hgr1, hgr2⟩ := hblk (by omega)
  subst hvr har
  have HR1 : Hid (RSt w w1 gr m1 capr F) := ⟨hown', hB1⟩
  have hcl1 : w1.cell? ⟨b2, lst, none⟩ = some (.int .i64 (gl : Int)) := by rw [hB1.cell (p := ⟨b2, lst, none⟩) hb2]; exact HCL.out
  clear hown hgrow hB1 hown' hblk
  go_wp2_with (at_make; refine wpList_make_full _ rfl _ _ 22 rfl w.heap.size 3 i0 (.int .i64 0) 1 Try.underlying22 hi hz0 hz3 .i64 .i64 _ _ N rfl rfl rfl rfl (by rw [hz4]; omega) (by unfold maxLen; omega) HR1.out.below.size ?_)
  intro w2 hown2 hgrow2
  obtain ⟨gq, hgq⟩ : ∃ gq, gq = w1.heap.size := ⟨_, rfl⟩
  have hB12 : Below w1.heap.size w1 w2 := below_of_grown hgrow2
  have HR2 : Hid (RSt w w2 gr m1 capr F) := HR1.out.low hB12
  have hcl2 : w2.cell? ⟨b2, lst, none⟩ = some (.int .i64 (gl : Int)) := by
    rw [hB12.cell (p := ⟨b2, lst, none⟩) (Nat.lt_of_lt_of_le hb2 HR1.out.below.size)]; exact hcl1
  have HQ2 : Hid (RSt w w2 gq N N (List.replicate N 0)) := by
    refine ⟨?_, HR2.out.below⟩
    rw [← nats_zeros, hgq]
    exact hown2
  clear hown2 hgrow2
  rw [← hgq] at hgr2 ⊢
  have hgrq : gr ≠ gq := by omega
  have hwq : w.heap.size ≤ gq := by have := HR1.out.below.size; omega
  have HI : Hid (∀ W : World, Calls Try.prog 57 #[.int .i64 p, .int .i64 gl] W fun x w' => x = .returned (.int .i64 (inv : Int)) ∧ w' = W) := fun W => by rw [HINV.out]; exact rinverse_is p gl W hP hp2 hgp hne
  clear hB12 hgq hcl1
  go_wp2_with (fail)
  refine (HI.out _).mono ?_
  rintro e w2' ⟨rfl, hw2⟩
  subst hw2
  clear hcl2
  go_wp2_with (fail)
  go_loopw [11] (fun i wr => ∃ (k : Int) (j : Nat) (R q : List Nat), i = .int .i64 k ∧ Hid (k = (j : Int) - 1) ∧ j ≤ N ∧ Hid (RSt w wr gr m1 capr R) ∧ Hid (RSt w wr gq N N (List.replicate j 0 ++ q)) ∧ Hid (Q.Red p R) ∧ Hid (fin = Q.divLoopR p inv G j R q)) (fun i _ => (intOf i + 1).toNat)
  case atStart => exact ⟨_, N, F, [], rfl, by show _ = _; rfl, by omega, HR2, (by show RSt _ _ _ _ _ _; rw [List.append_nil]; exact HQ2.out), hF.out.red, (by show _ = _; rw [HFIN.out, ← HM.out.1, ← HM.out.2]; congr 1; omega)⟩
  case round =>
    obtain ⟨k, j, R, q, rfl, HK, hj, HR, HQ, HRed, HF⟩ := hrel
    by_cases hj0 : j = 0
    · subst hj0
      have hk := HK.out
      obtain rfl : k = -1 := by omega
      have hfe : Hid (fin.1 = R ∧ fin.2 = q) := by have := HF.out; rw [Q.divLoopR] at this; rw [this]; exact ⟨rfl, rfl⟩
      have hql : Hid (RSt w wr gq N N q) := by have := HQ.out; rw [List.replicate_zero, List.nil_append] at this; exact this
      have HQD : Hid (Rd wr (.slice (some ⟨gq, 0, none⟩) N N) 1 q.length (nats q)) := hql.out.new.rd
      have HRD : Hid (Rd wr (.slice (some ⟨gr, 0, none⟩) m1 capr) 1 R.length (nats R)) := HR.out.new.rd
      have HLL : Hid (q.length = N ∧ R.length = m1) := ⟨hql.out.len, HR.out.len⟩
      clear hk
      go_wp2_with (fail)
      refine (rtrim_is q _ _ HQD (by have := HLL.out; omega)).mono ?_
      rintro e w5 ⟨⟨v5, rfl, hN5⟩, hB5⟩
      have HB5 := Lib.hid (HR.out.below.trans (hB5.mono HR.out.below.size))
      have HN5 : Hid (NewL w w5 v5 fin.2) := by
        have := hN5.from HR.out.below.size
        rw [← hfe.out.2, HQT.out] at this; exact this
      have HRD5 : Hid (Rd w5 (.slice (some ⟨gr, 0, none⟩) m1 capr) 1 R.length (nats R)) := HRD.out.below hB5 (Nat.le_refl _)
      obtain ⟨a6, cap6, hv6⟩ := hN5.rd.shape
      subst hv6
      clear hN5 hB5
      go_wp2_with (fail)
      refine (rtrim_is R _ _ HRD5 (by have := HLL.out; omega)).mono ?_
      rintro e w6 ⟨⟨v6, rfl, hN6⟩, hB6⟩
      have HB6 := Lib.hid (HB5.out.trans (hB6.mono HB5.out.size))
      have HN6 : Hid (NewL w w6 v6 (Q.trim fin.1)) := by
        have := hN6.from HB5.out.size
        rw [← hfe.out.1] at this; exact this
      have HN56 : Hid (NewL w w6 (.slice a6 (Q.trim q).length cap6) fin.2) := HN5.out.keep hB6
      obtain ⟨a7, cap7, hv7⟩ := hN6.rd.shape
      subst hv7
      clear hN6 hB6
      go_wp2_with (fail)
      go_ret2
      exact ⟨⟨_, _, rfl, HN56.out, HN6.out⟩, HB6.out⟩
    · obtain ⟨i, rfl⟩ : ∃ i, j = i + 1 := ⟨j - 1, by omega⟩
      obtain rfl : k = (i : Int) := by have := HK.out; omega
      have hiN : i < N := by omega
      have hil : i + lst < m1 := by omega
      have hil3 : (i : Int) + (m2 : Int) - 1 = ((i + lst : Nat) : Int) := by omega
      obtain ⟨t, ht⟩ : ∃ t : Nat, t = i + lst := ⟨_, rfl⟩
      rw [← ht] at hil hil3
      have htm : (t : Int) < (m1 : Int) := by omega
      obtain ⟨z, hz⟩ : ∃ z, z = R.getD t 0 := ⟨_, rfl⟩
      have hzp : z < p := by rw [hz]; exact HRed.out.getD (by omega) _
      have c1 : wr.cell? ⟨gr, t, none⟩ = some (.int .i64 (z : Int)) := by rw [HR.out.cell hil, hz]
      obtain ⟨c, hc⟩ : ∃ c, c = z * inv % p := ⟨_, rfl⟩
      have hcp : c < p := by rw [hc]; exact Nat.mod_lt _ (by omega)
      have hcc : (z : Int) * (inv : Int) % (p : Int) = (c : Int) := by rw [hc]; simp
      have hm := mul_bd1021 z inv p hzp hinvp hp2
      have hzp0 : ((p : Int) == 0) = false := by simp; omega
      have HC : Hid (R.getD (i + (G.length - 1)) 0 * inv % p = c) := by show _ = _; rw [← HM.out.2, show i + (m2 - 1) = t by omega, ← hz, hc]
      have hq1 : wr.cell? ⟨gq, i, none⟩ = some (.int .i64 ((List.replicate (i + 1) 0 ++ q).getD i 0 : Nat)) := HQ.out.cell hiN
      have hq2 : wr.frozen? ⟨gq, i, none⟩ = false := HQ.out.free i
      obtain ⟨old, hold⟩ : ∃ old, old = (List.replicate (i + 1) 0 ++ q).getD i 0 := ⟨_, rfl⟩
      rw [← hold] at hq1
      have HQ' : Hid (RSt w (wr.setCell ⟨gq, i, none⟩ (.int .i64 (c : Int))) gq N N (List.replicate i 0 ++ (c :: q))) := by
        have := HQ.out.set i c; rw [Q.set_repl] at this; exact this
      have HR' : Hid (RSt w (wr.setCell ⟨gq, i, none⟩ (.int .i64 (c : Int))) gr m1 capr R) := HR.out.other hwq hgrq _
      have HFF : Hid (fin = Q.divLoopR p inv G i (Q.takeAway p c i G R) (c :: q)) := by
        have h := HF.out
        rw [Q.divLoopR, HC.out] at h
        exact h
      have hiN2 : (i : Int) < (N : Int) := by omega
      have hi0 : decide ((0 : Int) ≤ (i : Int)) = true := by rw [decide_eq_true_iff]; omega
      have HTL := Lib.hid ht
      clear hold hc hz ht
      go_wp2_with (fail)
      generalize wr.setCell ⟨gq, i, none⟩ (.int .i64 (c : Int)) = ws at HQ' HR' ⊢
      obtain ⟨T, hT⟩ : ∃ T, T = p - c := ⟨_, rfl⟩
      have hTT : (p : Int) - (c : Int) = (T : Int) := by omega
      have hTb : T ≤ 1021 := by omega
      have HT := Lib.hid hT
      clear hT
      go_loopw [13] (fun kv wx => ∃ (k : Nat), kv = .int .i64 k ∧ k ≤ m2 ∧ Hid (RSt w wx gr m1 capr (Q.takeAway p c i (G.take k) R)) ∧ Hid (RSt w wx gq N N (List.replicate i 0 ++ (c :: q)))) (fun kv _ => m2 - (intOf kv).toNat)
      case atStart => exact ⟨0, rfl, by omega, by show RSt _ _ _ _ _ _; rw [List.take_zero, Q.takeAway_zero]; exact HR'.out, HQ'⟩
      case round =>
        obtain ⟨k, rfl, hk, HRk, HQk⟩ := hrel
        by_cases hkm : k < m2
        · have hkG : k < G.length := by have := HM.out.2; omega
          have hlen : i + G.length ≤ R.length := by have := HM.out.2; have := HR.out.len; have := HTL.out; omega
          obtain ⟨y, hy⟩ : ∃ y, y = G.getD k 0 := ⟨_, rfl⟩
          have hyp : y < p := by rw [hy]; exact hG.out.red.getD (by omega) k
          have c2 : wr.cell? ⟨b2, k, none⟩ = some (.int .i64 (y : Int)) := by
            rw [HRk.out.below.cell (p := ⟨b2, k, none⟩) hb2, HC2.out _ _ (nats_get G k hkG), hy, Q.getD_get hkG]
          obtain ⟨s, hs⟩ : ∃ s : Nat, s = i + k := ⟨_, rfl⟩
          have hsm : s < m1 := by have := HTL.out; omega
          obtain ⟨x, hx⟩ : ∃ x, x = R.getD s 0 := ⟨_, rfl⟩
          have hxp : x < p := by rw [hx]; exact HRed.out.getD (by omega) _
          have c3 : wr.cell? ⟨gr, s, none⟩ = some (.int .i64 (x : Int)) := by
            rw [HRk.out.cell hsm, hs, Q.takeAway_at p c i G R k hkG hlen, hx, hs]
          have hfr : wr.frozen? ⟨gr, s, none⟩ = false := HRk.out.free _
          have hsk : (i : Int) + (k : Int) = (s : Int) := by omega
          have hsk2 : IntKind.i64.wrap ((i : Int) + (k : Int)) = (s : Int) := by rw [hsk]; exact IntWalk.i64_in _ (by omega)
          have hsk3 : ((i : Int) + (k : Int)).toNat = s := by omega
          have hsk4 : (s : Int) < (m1 : Int) := by omega
          have hTy : 0 ≤ (T : Int) * (y : Int) ∧ (T : Int) * (y : Int) ≤ 1042441 := by
            have h1 : T * y ≤ 1021 * 1021 := Nat.mul_le_mul hTb (by omega)
            have h2 : (T : Int) * (y : Int) = ((T * y : Nat) : Int) := by simp
            omega
          obtain ⟨u, hu⟩ : ∃ u : Nat, u = (x + T * y) % p := ⟨_, rfl⟩
          have hue : ((x : Int) + (T : Int) * (y : Int)) % (p : Int) = (u : Int) := by rw [hu]; simp
          have hw0 : IntKind.i64.wrap ((p : Int) - (c : Int)) = (T : Int) := by rw [hTT]; exact IntWalk.i64_in _ (by omega)
          have hw1 : IntKind.i64.wrap ((T : Int) * (y : Int)) = (T : Int) * (y : Int) := IntWalk.i64_in _ (by omega)
          have hw2 : IntKind.i64.wrap ((x : Int) + (T : Int) * (y : Int)) = (x : Int) + (T : Int) * (y : Int) := IntWalk.i64_in _ (by omega)
          have HSTEP : Hid (RSt w (wr.setCell ⟨gr, s, none⟩ (.int .i64 (u : Int))) gr m1 capr (Q.takeAway p c i (G.take (k + 1)) R)) := by
            show RSt _ _ _ _ _ _
            rw [← Q.takeAway_step p c i G R k hkG hlen, ← hs, ← hx, ← hy, ← HT.out, ← hu]
            exact HRk.out.set _ _
          have HQS : Hid (RSt w (wr.setCell ⟨gr, s, none⟩ (.int .i64 (u : Int))) gq N N (List.replicate i 0 ++ (c :: q))) := HQk.out.other hgr1 (Ne.symm hgrq) _
          have hk3 : (k : Int) < (m2 : Int) := by omega
          clear hy hx hu hs
          go_wp2_with (fail)
          go_region
          all_goals
            go_wp2_with (fail)
            go_roundw
            case rel => exact ⟨k + 1, by go_num, by omega, HSTEP.out.low (Below.refl _ _).drew, HQS.out.low (Below.refl _ _).drew⟩
            case measure => simp [intOf]; omega
        · obtain rfl : k = m2 := by omega
          have HRE : Hid (RSt w wr gr m1 capr (Q.takeAway p c i G R)) := by
            have := HRk.out
            rw [List.take_of_length_le (by have := HM.out.2; omega)] at this; exact this
          go_wp2_with (fail)
          go_roundw
          case rel => exact ⟨_, i, Q.takeAway p c i G R, c :: q, rfl, by show _ = _; rfl, by omega, HRE, HQk, Q.takeAway_red (by omega) HRed.out, HFF⟩
          case measure => simp [intOf]

theorem rDiv_is (p : Nat) (F G : List Nat) (v1 v2 : Value) (w : World) (hP : Hid (M.Pr p)) (hp2 : p ≤ 1021) (h1 : Hid (Rd w v1 1 F.length (nats F))) (h2 : Hid (Rd w v2 1 G.length (nats G)))
    (hF : Hid (Q.Pol p F)) (hG : Hid (Q.Pol p G)) (hl1 : F.length ≤ 100000) (hg0 : G.length ≠ 0) :
    Calls Try.prog 29 #[.int .i64 p, v1, v2] w (RetD w (Q.divP p F G).1 (Q.divP p F G).2) := by
  by_cases hlt : F.length < G.length
  · have e : Q.divP p F G = ([], F) := by rw [Q.divP, if_pos hlt]
    rw [e]
    exact rDiv_short p F G v1 v2 w h1 h2 (Q.trim_of_pol hF.out) hl1 hlt
  · exact rDiv_long p F G v1 v2 w hP hp2 h1 h2 hF hG hl1 hg0 (by omega)

end Go.Proofs.Ytgnpohapmijfiaa

namespace Go.Proofs.Ytgnpohapmijfiaa
open Go.RowKit

def two64 : Int := 18446744073709551616
def modv (x n : Int) : Int := x % two64 % n
theorem modv_bd (x n : Int) (hn : 1 ≤ n) : 0 ≤ modv x n ∧ modv x n < n :=
  ⟨Int.emod_nonneg _ (by omega), Int.emod_lt_of_pos _ (by omega)⟩
theorem wrap_u64 (x : Int) : IntKind.u64.wrap x = x % two64 := rfl

theorem mod_is (x n : Int) (w : World) (hn : 1 ≤ n) (hn2 : n ≤ 4611686018427387904) :
    Calls Try.prog 44 #[.int .i64 x, .int .i64 n] w fun e w' => e = .returned (.int .i64 (modv x n)) ∧ w = w' := by
  go_enter Try.func44, Try.ntmps44
  go_wp2
  go_ret
  refine ⟨ret_i ?_, rfl⟩
  have h0 : 0 ≤ x % two64 := Int.emod_nonneg _ (by unfold two64; omega)
  have hb := modv_bd x n hn
  rw [wrap_u64, Int.tmod_eq_emod_of_nonneg h0]
  exact IntWalk.wrap64_in _ ⟨by unfold modv at hb; omega, by unfold modv at hb; omega⟩

set_option maxRecDepth 100000 in
set_option maxHeartbeats 1000000 in
theorem field_is (p : Int) (w : World) :
    Calls Try.prog 40 #[.int .i64 p] w fun e w' => (∃ q : Nat, e = .returned (.int .i64 q) ∧ M.Pr q ∧ q ≤ 1021) ∧ w = w' := by
  by_cases hf : FieldI p
  · obtain ⟨q, rfl⟩ := Int.eq_ofNat_of_zero_le (show 0 ≤ p by have := hf.1; omega)
    have hq : q ≤ 1021 := by have := hf.2.1; omega
    have HP : Hid (M.Pr q) := by have := hf.2.2; rw [Int.toNat_natCast] at this; exact this
    have HF := Lib.hid hf
    clear hf
    go_enter Try.func40, Try.ntmps40
    go_wp2_with (fail)
    refine (rField_is (q : Int) true _ ⟨fun _ => rfl, fun _ => HF.out⟩).mono ?_
    rintro e w' ⟨rfl, rfl⟩
    go_wp2_with (fail)
    go_ret
    exact ⟨⟨q, rfl, HP.out, hq⟩, rfl⟩
  · have HF := Lib.hid hf
    have hb := modv_bd p 9 (by omega)
    obtain ⟨m, hm⟩ : ∃ m, m = modv p 9 := ⟨_, rfl⟩
    have HM := Lib.hid hm
    rw [← hm] at hb
    have hcase : m = 0 ∨ m = 1 ∨ m = 2 ∨ m = 3 ∨ m = 4 ∨ m = 5 ∨ m = 6 ∨ m = 7 ∨ m = 8 := by omega
    clear hf hm hb
    go_enter Try.func40, Try.ntmps40
    go_wp2_with (fail)
    refine (rField_is p false _ ⟨fun h => absurd h HF.out, fun h => by cases h⟩).mono ?_
    rintro e w' ⟨rfl, rfl⟩
    rcases hcase with rfl | rfl | rfl | rfl | rfl | rfl | rfl | rfl | rfl
    · have hx : ∀ W : World, (Instr.index 80 (.agg #[.int .i64 2, .int .i64 3, .int .i64 5, .int .i64 7, .int .i64 11, .int .i64 13, .int .i64 101, .int .i64 1019, .int .i64 1021]) (.int .i64 0)).run Try.prog W = .ok (.int .i64 2) W := by
        intro W; simp [Instr.index, run_underlying Try.underlying80, asIntOf, go_sem]
      go_wp2_with (fail)
      refine (mod_is p 9 _ (by omega) (by omega)).mono ?_
      rintro e w' ⟨rfl, rfl⟩
      rw [← HM.out]
      go_wp2_with (fail)
      go_ret
      exact ⟨⟨2, rfl, Q.pr_small (by omega) (by decide +kernel), by omega⟩, rfl⟩
    · have hx : ∀ W : World, (Instr.index 80 (.agg #[.int .i64 2, .int .i64 3, .int .i64 5, .int .i64 7, .int .i64 11, .int .i64 13, .int .i64 101, .int .i64 1019, .int .i64 1021]) (.int .i64 1)).run Try.prog W = .ok (.int .i64 3) W := by
        intro W; simp [Instr.index, run_underlying Try.underlying80, asIntOf, go_sem]
      go_wp2_with (fail)
      refine (mod_is p 9 _ (by omega) (by omega)).mono ?_
      rintro e w' ⟨rfl, rfl⟩
      rw [← HM.out]
      go_wp2_with (fail)
      go_ret
      exact ⟨⟨3, rfl, Q.pr_small (by omega) (by decide +kernel), by omega⟩, rfl⟩
    · have hx : ∀ W : World, (Instr.index 80 (.agg #[.int .i64 2, .int .i64 3, .int .i64 5, .int .i64 7, .int .i64 11, .int .i64 13, .int .i64 101, .int .i64 1019, .int .i64 1021]) (.int .i64 2)).run Try.prog W = .ok (.int .i64 5) W := by
        intro W; simp [Instr.index, run_underlying Try.underlying80, asIntOf, go_sem]
      go_wp2_with (fail)
      refine (mod_is p 9 _ (by omega) (by omega)).mono ?_
      rintro e w' ⟨rfl, rfl⟩
      rw [← HM.out]
      go_wp2_with (fail)
      go_ret
      exact ⟨⟨5, rfl, Q.pr_small (by omega) (by decide +kernel), by omega⟩, rfl⟩
    · have hx : ∀ W : World, (Instr.index 80 (.agg #[.int .i64 2, .int .i64 3, .int .i64 5, .int .i64 7, .int .i64 11, .int .i64 13, .int .i64 101, .int .i64 1019, .int .i64 1021]) (.int .i64 3)).run Try.prog W = .ok (.int .i64 7) W := by
        intro W; simp [Instr.index, run_underlying Try.underlying80, asIntOf, go_sem]
      go_wp2_with (fail)
      refine (mod_is p 9 _ (by omega) (by omega)).mono ?_
      rintro e w' ⟨rfl, rfl⟩
      rw [← HM.out]
      go_wp2_with (fail)
      go_ret
      exact ⟨⟨7, rfl, Q.pr_small (by omega) (by decide +kernel), by omega⟩, rfl⟩
    · have hx : ∀ W : World, (Instr.index 80 (.agg #[.int .i64 2, .int .i64 3, .int .i64 5, .int .i64 7, .int .i64 11, .int .i64 13, .int .i64 101, .int .i64 1019, .int .i64 1021]) (.int .i64 4)).run Try.prog W = .ok (.int .i64 11) W := by
        intro W; simp [Instr.index, run_underlying Try.underlying80, asIntOf, go_sem]
      go_wp2_with (fail)
      refine (mod_is p 9 _ (by omega) (by omega)).mono ?_
      rintro e w' ⟨rfl, rfl⟩
      rw [← HM.out]
      go_wp2_with (fail)
      go_ret
      exact ⟨⟨11, rfl, Q.pr_small (by omega) (by decide +kernel), by omega⟩, rfl⟩
    · have hx : ∀ W : World, (Instr.index 80 (.agg #[.int .i64 2, .int .i64 3, .int .i64 5, .int .i64 7, .int .i64 11, .int .i64 13, .int .i64 101, .int .i64 1019, .int .i64 1021]) (.int .i64 5)).run Try.prog W = .ok (.int .i64 13) W := by
        intro W; simp [Instr.index, run_underlying Try.underlying80, asIntOf, go_sem]
      go_wp2_with (fail)
      refine (mod_is p 9 _ (by omega) (by omega)).mono ?_
      rintro e w' ⟨rfl, rfl⟩
      rw [← HM.out]
      go_wp2_with (fail)
      go_ret
      exact ⟨⟨13, rfl, Q.pr_small (by omega) (by decide +kernel), by omega⟩, rfl⟩
    · have hx : ∀ W : World, (Instr.index 80 (.agg #[.int .i64 2, .int .i64 3, .int .i64 5, .int .i64 7, .int .i64 11, .int .i64 13, .int .i64 101, .int .i64 1019, .int .i64 1021]) (.int .i64 6)).run Try.prog W = .ok (.int .i64 101) W := by
        intro W; simp [Instr.index, run_underlying Try.underlying80, asIntOf, go_sem]
      go_wp2_with (fail)
      refine (mod_is p 9 _ (by omega) (by omega)).mono ?_
      rintro e w' ⟨rfl, rfl⟩
      rw [← HM.out]
      go_wp2_with (fail)
      go_ret
      exact ⟨⟨101, rfl, Q.pr_small (by omega) (by decide +kernel), by omega⟩, rfl⟩
    · have hx : ∀ W : World, (Instr.index 80 (.agg #[.int .i64 2, .int .i64 3, .int .i64 5, .int .i64 7, .int .i64 11, .int .i64 13, .int .i64 101, .int .i64 1019, .int .i64 1021]) (.int .i64 7)).run Try.prog W = .ok (.int .i64 1019) W := by
        intro W; simp [Instr.index, run_underlying Try.underlying80, asIntOf, go_sem]
      go_wp2_with (fail)
      refine (mod_is p 9 _ (by omega) (by omega)).mono ?_
      rintro e w' ⟨rfl, rfl⟩
      rw [← HM.out]
      go_wp2_with (fail)
      go_ret
      exact ⟨⟨1019, rfl, Q.pr_small (by omega) (by decide +kernel), by omega⟩, rfl⟩
    · have hx : ∀ W : World, (Instr.index 80 (.agg #[.int .i64 2, .int .i64 3, .int .i64 5, .int .i64 7, .int .i64 11, .int .i64 13, .int .i64 101, .int .i64 1019, .int .i64 1021]) (.int .i64 8)).run Try.prog W = .ok (.int .i64 1021) W := by
        intro W; simp [Instr.index, run_underlying Try.underlying80, asIntOf, go_sem]
      go_wp2_with (fail)
      refine (mod_is p 9 _ (by omega) (by omega)).mono ?_
      rintro e w' ⟨rfl, rfl⟩
      rw [← HM.out]
      go_wp2_with (fail)
      go_ret
      exact ⟨⟨1021, rfl, Q.pr_small (by omega) (by decide +kernel), by omega⟩, rfl⟩

/-- The numbers that tame makes of a list. -/
def Q.tameL (p most : Nat) (Z : List Int) : List Nat := (Z.take most).map fun z => (modv z p).toNat

theorem Q.tameL_red {p : Nat} (hp : 0 < p) (most : Nat) (Z : List Int) : Q.Red p (Q.tameL p most Z) := by
  intro x hx
  obtain ⟨z, _, rfl⟩ := List.mem_map.1 hx
  have := modv_bd z p (by omega)
  omega

def lenOf : Value → Nat
  | .slice _ n _ => n
  | _ => 0

/-- A slice that came in, at a plain address. -/
theorem ArgI.plain {w : World} {v : Value} {Z : List Int} (h : ArgI w v Z) : (Z = [] ∧ ∃ a cap, v = .slice a 0 cap) ∨ ∃ b off cap, v = .slice (some ⟨b, off, none⟩) Z.length cap ∧ Z.length ≤ cap ∧ b < w.heap.size ∧ ∀ i (hi : i < Z.length), w.cell? ⟨b, off + i, none⟩ = some (.int .i64 Z[i]) := by
  rcases h.2 with ⟨h1, h2⟩ | ⟨a, cap, h1, h2, h3, h4⟩
  · exact .inl ⟨h2, none, 0, h1⟩
  · by_cases h0 : Z.length = 0
    · exact .inl ⟨List.eq_nil_of_length_eq_zero h0, some a, cap, by rw [h1, h0]⟩
    · right
      obtain ⟨b, off, spot⟩ := a
      have hc0 := h4 0 (by omega)
      have hspot : spot = none := by simpa [Addr.add] using World.cell?_spot hc0
      subst hspot
      refine ⟨b, off, cap, h1, h2, ?_, fun i hi => ?_⟩
      · exact World.block_lt_of_cell? w _ hc0
      · rw [← Go.WideShapes.add_plain]; exact h4 i hi

set_option maxRecDepth 100000 in
set_option maxHeartbeats 2000000 in
theorem tame_is (p most : Nat) (Z : List Int) (v : Value) (w : World) (hp : 2 ≤ p) (hp2 : p ≤ 1021) (hmost : most ≤ 1000) (hv : Hid (ArgI w v Z)) :
    Calls Try.prog 41 #[.int .i64 p, v, .int .i64 most] w (RetL w (Q.trim (Q.tameL p most Z))) := by
  obtain ⟨a1, len, cap1, hv1, hlen, hcapl, HC1⟩ : ∃ (a1 : Option Addr) (len cap1 : Nat), v = .slice a1 len cap1 ∧ len = Z.length ∧ len ≤ cap1 ∧ Hid (∀ i (hi : i < Z.length), ∃ b off, a1 = some ⟨b, off, none⟩ ∧ b < w.heap.size ∧ w.cell? ⟨b, off + i, none⟩ = some (.int .i64 Z[i])) := by
    rcases hv.out.plain with ⟨rfl, a, cap, h⟩ | ⟨b, off, cap, h1, h2, h3, h4⟩
    · exact ⟨a, 0, cap, h, rfl, Nat.zero_le _, fun i hi => by simp at hi⟩
    · exact ⟨_, _, _, h1, rfl, h2, fun i hi => ⟨b, off, rfl, h3, h4 i hi⟩⟩
  subst hv1
  have hmaxl : len ≤ 9223372036854775807 := by rw [hlen]; exact hv.out.1
  clear hv
  obtain ⟨C, hC⟩ : ∃ C, C = Q.tameL p most Z := ⟨_, rfl⟩
  obtain ⟨n, hn⟩ : ∃ n, n = min len most := ⟨_, rfl⟩
  have hCl : C.length = n := by rw [hC, Q.tameL, List.length_map, List.length_take, hn, hlen]; omega
  have hCr : Hid (Q.Red p C) := by rw [hC]; exact Q.tameL_red (by omega) most Z
  have hCg : Hid (∀ i (hi : i < Z.length), i < n → (C.getD i 0 : Int) = modv Z[i] p) := fun i hi hin => by
    have h1 : i < C.length := by rw [hCl]; exact hin
    rw [Q.getD_get h1]
    subst hC
    simp only [Q.tameL, List.getElem_map, List.getElem_take]
    have := modv_bd Z[i] p (by omega)
    omega
  have hnl : n ≤ len := by omega
  have hnm : n ≤ most := by omega
  have hnor : n = len ∨ n = most := by omega
  have HLEN := Lib.hid hlen
  have HCQ := Lib.hid hC
  have HCL := Lib.hid hCl
  have HNOR := Lib.hid hnor
  obtain ⟨T, hT⟩ : ∃ T, T = Q.trimLen C := ⟨_, rfl⟩
  have hTn : T ≤ n := by rw [hT, ← hCl]; exact Q.trimLen_le C
  have HT0 : Hid (∀ j, T ≤ j → C.getD j 0 = 0) := fun j hj => Q.trimLen_zero C j (by omega)
  have HT1 : Hid (0 < T → C.getD (T - 1) 0 ≠ 0) := fun h => by rw [hT]; exact Q.trimLen_last C (by omega)
  have HTE := Lib.hid hT
  clear hC hCl hlen hn hnor hT
  obtain ⟨i0, hi, hz0, hz1, hz2⟩ := info_parts Try.infoZ
  go_enter Try.func41, Try.ntmps41
  go_wp2_with (fail)
  go_loopw [7, 8] (fun lv iv wx => ∃ (k : Nat), iv = .int .i64 k ∧ k ≤ n ∧ Hid (LSt w wx lv (C.take k))) (fun _ iv _ => n - (intOf iv).toNat)
  case atStart => exact ⟨0, rfl, by omega, by show LSt _ _ _ _; rw [List.take_zero]; exact LSt.start w⟩
  case round =>
    obtain ⟨k, rfl, hk, HS⟩ := hrel
    have hkl : (C.take k).length = k := by rw [List.length_take, HCL.out]; omega
    obtain ⟨a3, cap3, hv3, hc3, hc4⟩ := HS.out.shape
    subst hv3
    rw [hkl] at HS hc3 ⊢
    by_cases hlt : k < n
    · have hkZ : k < Z.length := by have := HLEN.out; omega
      obtain ⟨b1, off, rfl, hb1, c1'⟩ := HC1.out k hkZ
      have hg := hCg.out k hkZ hlt
      obtain ⟨z, hz⟩ : ∃ z, z = Z[k] := ⟨_, rfl⟩
      rw [← hz] at c1' hg
      have c1 : wr.cell? ⟨b1, off + k, none⟩ = some (.int .i64 z) := by rw [HS.out.2.cell (p := ⟨b1, off + k, none⟩) hb1, c1']
      obtain ⟨y, hy⟩ : ∃ y, y = C.getD k 0 := ⟨_, rfl⟩
      rw [← hy] at hg
      have HG := Lib.hid hg
      have HT : Hid (C.take (k + 1) = C.take k ++ [y]) := by
        show _ = _
        rw [List.take_succ_eq_append_getElem (by rw [HCL.out]; exact hlt), ← Q.getD_get (by rw [HCL.out]; exact hlt), hy]
      have HOWN : Hid (wr.ownsRow w.heap.size 3 1 (.slice a3 k cap3) k (nats (C.take k))) := by
        have := HS.out.1; unfold NewL at this; rw [hkl] at this; exact this
      have HKL := Lib.hid hkl
      have hklt : (k : Int) < (len : Int) := by omega
      have hklt2 : (k : Int) < (most : Int) := by omega
      clear hy hz hg hkl c1'
      go_wp2_with (fail)
      refine (mod_is z (p : Int) _ (by omega) (by omega)).mono ?_
      rintro e w' ⟨rfl, rfl⟩
      rw [← HG.out]
      go_wp2_with (at_builtin; refine wpList_append_own _ rfl _ _ 22 rfl w.heap.size 3 i0 (.int .i64 0) 1 8 Try.underlying22 hi hz0 hz1 hz2 rfl (by decide) _ _ _ rfl (HOWN.out.alloc _) ⟨wr.heap.size, 0, none⟩ 1 1 [.int .i64 y] rfl rfl ?c1 ?c2 ?c3 ?c4 ?c5 ?_)
      case c1 => exact cell_one_new _ _ _
      case c2 => intro u hu; simp at hu; rw [hu]; rfl
      case c3 => unfold maxLen; omega
      case c4 => omega
      case c5 => have := HS.out.2.size; simp; omega
      intro v' w3 hown3 hgrow3 _
      have HS4 : Hid (LSt w w3 v' (C.take (k + 1))) := by
        show LSt _ _ _ _
        rw [HT.out]
        exact HS.out.push (by rw [HKL.out]) hown3 hgrow3
      obtain ⟨a4, cap4, hv4, _⟩ := HS4.out.shape
      rw [List.length_take, HCL.out, show min (k + 1) n = k + 1 by omega] at hv4
      subst hv4
      clear hown3 hgrow3
      go_wp2_with (fail)
      go_roundw
      case rel => exact ⟨k + 1, by go_num, by omega, HS4⟩
      case measure => simp [intOf]; omega
    · obtain rfl : k = n := by omega
      have HOUT : Hid (NewL w wr (.slice a3 k cap3) (C.take k) ∧ Below w.heap.size w wr) := HS.out
      clear hkl HS
      by_cases hkl : k < len
      · have hd1 : decide (k < len) = true := by simpa using hkl
        have hd2 : decide ((k : Int) < (most : Int)) = false := by rw [decide_eq_false_iff_not]; have := HNOR.out; omega
        have hd3 : decide (k < most) = false := by rw [decide_eq_false_iff_not]; have := HNOR.out; omega
        have hd4 : ¬ k < most := by have := HNOR.out; omega
        go_wp2_with (fail)
        go_loopw [7] (fun lv wx => ∃ (j : Nat), lv = .slice a3 j cap3 ∧ T ≤ j ∧ j ≤ k ∧ Hid (NewL w wr (.slice a3 j cap3) (C.take j)) ∧ wx = wr) (fun lv _ => lenOf lv)
        case atStart => exact ⟨k, rfl, hTn, Nat.le_refl _, HOUT.out.1, by first | rfl | trivial⟩
        case round =>
          obtain ⟨j, rfl, hj1, hj2, HJ, rfl⟩ := hrel
          have HJR : Hid (Rd wr (.slice a3 j cap3) 1 (C.take j).length (nats (C.take j))) := HJ.out.rd
          have HJL : Hid ((C.take j).length = j) := by show _ = _; rw [List.length_take, HCL.out]; omega
          by_cases hlt2 : T < j
          · obtain ⟨i, rfl⟩ : ∃ i, j = i + 1 := ⟨j - 1, by omega⟩
            obtain ⟨b, rfl, hb, c⟩ := Rd.at (n := i + 1) (by have := HJR.out; exact this) i (by rw [HJL.out]; omega)
            rw [Q.getD_take, if_pos (by omega), HT0.out i (by omega)] at c
            have hp1 : decide ((0 : Int) < ((i + 1 : Nat) : Int)) = true := by rw [decide_eq_true_iff]; omega
            have hi1 : ((i + 1 : Nat) : Int) - 1 = (i : Int) := by omega
            have hi2 : (i : Int) < ((i + 1 : Nat) : Int) := by omega
            have hic : i ≤ cap3 := by omega
            have HJ2 : Hid (NewL w wr (.slice (some ⟨b, 0, none⟩) i cap3) (C.take i)) := by
              have h0 : wr.ownsRow w.heap.size 3 1 (.slice (some ⟨b, 0, none⟩) (i + 1) cap3) (i + 1) (nats (C.take (i + 1))) := by
                have := HJ.out; unfold NewL at this; rw [HJL.out] at this; exact this
              have h1 := own_cut h0 (show i ≤ i + 1 by omega)
              rw [Nat.mul_one, ← nats_take, List.take_take, show min i (i + 1) = i by omega] at h1
              show World.ownsRow _ _ _ _ _ _ _
              rw [List.length_take, HCL.out, show min i k = i by omega]
              exact h1
            go_wp2_with (fail)
            go_roundw
            case rel => exact ⟨i, by first | rfl | go_num, by omega, by omega, HJ2, by first | rfl | trivial⟩
            case measure => simp [lenOf]
          · obtain rfl : j = T := by omega
            have HEND : Hid (NewL w wr (.slice a3 j cap3) (Q.trim (Q.tameL p most Z))) := by
              have := HJ.out
              show NewL _ _ _ _
              rw [← HCQ.out, Q.trim, ← HTE.out]; exact this
            by_cases h0 : j = 0
            · subst h0
              go_wp2_with (fail)
              go_ret
              exact ⟨⟨_, rfl, HEND.out⟩, HOUT.out.2⟩
            · obtain ⟨i, hi'⟩ : ∃ i, j = i + 1 := ⟨j - 1, by omega⟩
              obtain ⟨b, rfl, hb, c⟩ := Rd.at (n := j) (by have := HJR.out; exact this) i (by rw [HJL.out]; omega)
              rw [Q.getD_take, if_pos (by omega)] at c
              obtain ⟨x, hx⟩ : ∃ x, x = C.getD i 0 := ⟨_, rfl⟩
              have hx0 : ((x : Int) == 0) = false := by
                rw [beq_eq_false_iff_ne, hx]
                have := HT1.out (by omega)
                rw [hi', Nat.add_sub_cancel] at this
                omega
              rw [← hx] at c
              have hp1 : decide ((0 : Int) < (j : Int)) = true := by rw [decide_eq_true_iff]; omega
              have hi1 : (j : Int) - 1 = (i : Int) := by omega
              have hi2 : (i : Int) < (j : Int) := by omega
              clear hx hi'
              go_wp2_with (fail)
              go_ret
              exact ⟨⟨_, rfl, HEND.out⟩, HOUT.out.2⟩
      · have hd1 : decide ((k : Int) < (len : Int)) = false := by rw [decide_eq_false_iff_not]; omega
        go_wp2_with (fail)
        go_loopw [7] (fun lv wx => ∃ (j : Nat), lv = .slice a3 j cap3 ∧ T ≤ j ∧ j ≤ k ∧ Hid (NewL w wr (.slice a3 j cap3) (C.take j)) ∧ wx = wr) (fun lv _ => lenOf lv)
        case atStart => exact ⟨k, rfl, hTn, Nat.le_refl _, HOUT.out.1, by first | rfl | trivial⟩
        case round =>
          obtain ⟨j, rfl, hj1, hj2, HJ, rfl⟩ := hrel
          have HJR : Hid (Rd wr (.slice a3 j cap3) 1 (C.take j).length (nats (C.take j))) := HJ.out.rd
          have HJL : Hid ((C.take j).length = j) := by show _ = _; rw [List.length_take, HCL.out]; omega
          by_cases hlt2 : T < j
          · obtain ⟨i, rfl⟩ : ∃ i, j = i + 1 := ⟨j - 1, by omega⟩
            obtain ⟨b, rfl, hb, c⟩ := Rd.at (n := i + 1) (by have := HJR.out; exact this) i (by rw [HJL.out]; omega)
            rw [Q.getD_take, if_pos (by omega), HT0.out i (by omega)] at c
            have hp1 : decide ((0 : Int) < ((i + 1 : Nat) : Int)) = true := by rw [decide_eq_true_iff]; omega
            have hi1 : ((i + 1 : Nat) : Int) - 1 = (i : Int) := by omega
            have hi2 : (i : Int) < ((i + 1 : Nat) : Int) := by omega
            have hic : i ≤ cap3 := by omega
            have HJ2 : Hid (NewL w wr (.slice (some ⟨b, 0, none⟩) i cap3) (C.take i)) := by
              have h0 : wr.ownsRow w.heap.size 3 1 (.slice (some ⟨b, 0, none⟩) (i + 1) cap3) (i + 1) (nats (C.take (i + 1))) := by
                have := HJ.out; unfold NewL at this; rw [HJL.out] at this; exact this
              have h1 := own_cut h0 (show i ≤ i + 1 by omega)
              rw [Nat.mul_one, ← nats_take, List.take_take, show min i (i + 1) = i by omega] at h1
              show World.ownsRow _ _ _ _ _ _ _
              rw [List.length_take, HCL.out, show min i k = i by omega]
              exact h1
            go_wp2_with (fail)
            go_roundw
            case rel => exact ⟨i, by first | rfl | go_num, by omega, by omega, HJ2, by first | rfl | trivial⟩
            case measure => simp [lenOf]
          · obtain rfl : j = T := by omega
            have HEND : Hid (NewL w wr (.slice a3 j cap3) (Q.trim (Q.tameL p most Z))) := by
              have := HJ.out
              show NewL _ _ _ _
              rw [← HCQ.out, Q.trim, ← HTE.out]; exact this
            by_cases h0 : j = 0
            · subst h0
              go_wp2_with (fail)
              go_ret
              exact ⟨⟨_, rfl, HEND.out⟩, HOUT.out.2⟩
            · obtain ⟨i, hi'⟩ : ∃ i, j = i + 1 := ⟨j - 1, by omega⟩
              obtain ⟨b, rfl, hb, c⟩ := Rd.at (n := j) (by have := HJR.out; exact this) i (by rw [HJL.out]; omega)
              rw [Q.getD_take, if_pos (by omega)] at c
              obtain ⟨x, hx⟩ : ∃ x, x = C.getD i 0 := ⟨_, rfl⟩
              have hx0 : ((x : Int) == 0) = false := by
                rw [beq_eq_false_iff_ne, hx]
                have := HT1.out (by omega)
                rw [hi', Nat.add_sub_cancel] at this
                omega
              rw [← hx] at c
              have hp1 : decide ((0 : Int) < (j : Int)) = true := by rw [decide_eq_true_iff]; omega
              have hi1 : (j : Int) - 1 = (i : Int) := by omega
              have hi2 : (i : Int) < (j : Int) := by omega
              clear hx hi'
              go_wp2_with (fail)
              go_ret
              exact ⟨⟨_, rfl, HEND.out⟩, HOUT.out.2⟩

theorem Q.tame_len (p most : Nat) (Z : List Int) : (Q.trim (Q.tameL p most Z)).length ≤ most := by
  rw [Q.trim_length]
  refine Nat.le_trans (Q.trimLen_le _) ?_
  rw [Q.tameL, List.length_map, List.length_take]; omega

theorem tame_two {w X W w1 w2 : World} {vA vB : Value} {Fa Fb : List Nat} (hA : Below w.heap.size w X) (h0 : Below X.heap.size X W) (hNA : NewL W w1 vA Fa) (hB1 : Below W.heap.size W w1) (hNB : NewL w1 w2 vB Fb) (hB2 : Below w1.heap.size w1 w2) :
    NewL w w2 vA Fa ∧ NewL w w2 vB Fb ∧ Below w.heap.size w w2 := by
  have s1 := hA.size
  have s2 := h0.size
  have s3 := hB1.size
  refine ⟨own_kept (own_base hNA (by omega)) hB2, own_base hNB (by omega), ((hA.trans (h0.mono s1)).trans (hB1.mono (by omega))).trans (hB2.mono (by omega))⟩

end Go.Proofs.Ytgnpohapmijfiaa
