/- The walk over the reference's Insert. -/
import Derived.Test.YtonphhienkepbaaTg
namespace Go.Proofs.Ytonphhienkepbaa
open Go.RowKit

/-- What a function that returns two lists of rows returns. -/
def RetPq (w : World) (P Q : List (List Nat)) (x : Ending) (w' : World) : Prop := (∃ vp vq, x = .returned (.tuple #[vp, vq]) ∧ RdN w' vp P ∧ RdN w' vq Q) ∧ Below w.heap.size w w'

set_option maxRecDepth 100000 in
set_option maxHeartbeats 4000000 in
theorem rInsert_is (F : List Nat) (v : Value) (w : World) (hr : Hid (Rd w v 1 F.length (nats F))) (hl : F.length ≤ 60) :
    Calls Try.prog 8 #[v] w (RetPq w (T.pair F F.length).1 (T.pair F F.length).2) := by
  obtain ⟨a0, cap0, hv0⟩ := hr.out.shape
  subst hv0
  obtain ⟨n, hn⟩ : ∃ n, n = F.length := ⟨_, rfl⟩
  have HR : Hid (Rd w (.slice a0 n cap0) 1 F.length (nats F)) := by show Rd _ _ _ _ _; rw [hn]; exact hr.out
  rw [← hn] at hl ⊢
  have HN := Lib.hid hn
  clear hn hr
  obtain ⟨i0, hi, hz0, hz1, hz2⟩ := info_parts Try.infoZ
  obtain ⟨i1, hi1, hy0, hy1, hy2⟩ := info_parts Try.infoS
  have HPR := Lib.hid (T.pair_ok F)
  have HP0 : Hid (RdN w (.slice none 0 0) (T.pair F 0).1) := RdN.nil w
  have HQ0 : Hid (Tab w w (.slice none 0 0) [] (T.pair F 0).2) := Tab.nil (Below.refl _ _)
  go_enter Try.func8, Try.ntmps8
  go_wp2_with (fail)
  go_loopw [4, 5, 6] (fun pv qv iv wx => ∃ (i np cp nq cq : Nat) (ap aq : Option Addr) (vs : List Value), pv = .slice ap np cp ∧ qv = .slice aq nq cq ∧ iv = .int .i64 i ∧ i ≤ n ∧ nq ≤ 60 ∧ Hid (nq = (T.pair F i).2.length) ∧ Hid (RdN wx (.slice ap np cp) (T.pair F i).1) ∧ Hid (Tab w wx (.slice aq nq cq) vs (T.pair F i).2)) (fun _ _ iv _ => n - (intOf iv).toNat)
  case atStart => exact ⟨0, 0, 0, 0, 0, none, none, [], rfl, rfl, rfl, by omega, by omega, rfl, HP0, HQ0⟩
  case round =>
    obtain ⟨i, np, cp, nq, cq, ap, aq, vs, rfl, rfl, rfl, hi2, hnq, HNQ, HP, HQ⟩ := hrel
    by_cases hin : i < n
    · obtain ⟨b0, hb0, hbl0, hc0⟩ := (HR.out.below HQ.out.m.below (Nat.le_refl _)).at i (by rw [← HN.out]; exact hin)
      subst hb0
      obtain ⟨x, hx⟩ : ∃ x, x = F.getD i 0 := ⟨_, rfl⟩
      rw [← hx] at hc0
      obtain ⟨P, hP⟩ : ∃ P, P = (T.pair F i).1 := ⟨_, rfl⟩
      obtain ⟨Qs, hQ⟩ : ∃ Qs, Qs = (T.pair F i).2 := ⟨_, rfl⟩
      obtain ⟨o1, o2, o3, o4⟩ := HPR.out i
      rw [← hP] at o1 o2 o3 HP
      rw [← hQ] at o3 o4 HQ HNQ
      have HPO := Lib.hid o1
      have hPl : P.length ≤ 60 := by have := T.len_le P o1; omega
      have HPX : Hid (∀ X ∈ P, X.length ≤ 99) := fun X hX => by have := T.row_le P X hX; omega
      obtain ⟨G, hG⟩ : ∃ G, G = (T.ins P x).2 := ⟨_, rfl⟩
      obtain ⟨P', hP'⟩ : ∃ P', P' = (T.ins P x).1 := ⟨_, rfl⟩
      have hGle : G ≤ nq := by rw [hG, HNQ.out, o3]; exact (T.ins_ok P x o1).2.2.1
      have HP2 : Hid ((T.pair F (i + 1)).1 = P') := by show _ = _; rw [T.pair_p, ← hP, ← hx, hP']
      have HQN : Hid (G = nq → (T.pair F (i + 1)).2 = Qs ++ [[i + 1]]) := fun h => by
        rw [T.pair_new F i (by rw [← hP, ← hx, ← hG, ← hQ, h]; exact HNQ.out), ← hQ]
      have HQO : Hid (G ≠ nq → (T.pair F (i + 1)).2 = Qs.set G (Qs.getD G [] ++ [i + 1])) := fun h => by
        rw [T.pair_old F i (by rw [← hP, ← hx, ← hG, ← hQ, ← HNQ.out]; exact h), ← hQ, ← hP, ← hx, ← hG]
      have hn1 : (T.pair F (i + 1)).2.length ≤ 60 := by
        obtain ⟨p1, p2, p3, _⟩ := HPR.out (i + 1)
        have := T.len_le _ p1
        omega
      have HN1 := Lib.hid hn1
      have HQX : Hid (∀ X ∈ Qs, X.length ≤ 60) := fun X hX => by have := o4 X hX; omega
      have hrc := Lib.hid (rins_is P x (.slice ap np cp) wr HP HPO (by omega) HPX)
      rw [← hG, ← hP'] at hrc
      obtain ⟨k1, hk1⟩ : ∃ k1, k1 = i + 1 := ⟨_, rfl⟩
      rw [← hk1] at HQN HQO HP2 HN1
      have hk2 : (i : Int) + 1 = (k1 : Int) := by omega
      have HK1 := Lib.hid hk1
      have hin1 : (i : Int) < (n : Int) := by omega
      have hk60 : k1 ≤ 60 := by omega
      clear hx hP hQ o1 o2 o3 o4 hG hP' hn1 hk1
      go_wp2_with (fail)
      refine hrc.out.mono ?_
      rintro e w4 ⟨v4, vs4, rfl, hT4⟩
      obtain ⟨a4, c4, hv4, _⟩ := own_form hT4.m.own
      subst hv4
      have HT4 := Lib.hid hT4
      have HQ4 : Hid (Tab w w4 (.slice aq nq cq) vs Qs) := HQ.out.low hT4.m.below
      have HLT : Hid (∀ g, (Value.slice aq nq cq).ownBlock = some g → g < wr.heap.size) := fun g hg => (HQ.out.m.own.lt g hg).2
      have HLR : Hid (∀ u ∈ vs, ∀ g, u.ownBlock = some g → g < wr.heap.size) := HQ.out.lt
      have hsz : w.heap.size ≤ w4.heap.size := HQ4.out.m.below.size
      clear hT4
      by_cases hGn : G = nq
      · have hd : ((G : Int) == (nq : Int)) = true := by rw [hGn]; simp
        have HQ2 : Hid ((T.pair F k1).2 = Qs ++ [[k1]]) := HQN.out hGn
        have hB1 : Below w4.heap.size w4 (w4.alloc (.cells #[.int .i64 (k1 : Int)] 3)) := (Below.refl _ _).alloc (Nat.le_refl _) _
        have HT5 : Hid (Tab w (w4.alloc (.cells #[.int .i64 (k1 : Int)] 3)) (.slice aq nq cq) vs Qs) := HQ4.out.low hB1
        have HH5 : Hid (Holds wr.heap.size w4 (w4.alloc (.cells #[.int .i64 (k1 : Int)] 3))) := (Holds.refl _ _).below hB1
        have HO5 : Hid ((w4.alloc (.cells #[.int .i64 (k1 : Int)] 3)).ownsRow w.heap.size 3 1 (.slice (some ⟨w4.heap.size, 0, none⟩) 1 1) [k1].length (nats [k1])) := own_base (lit1_own w4 k1) hsz
        have HF5 : Hid (∀ g, (Value.slice (some ⟨w4.heap.size, 0, none⟩) 1 1).ownBlock = some g → ∀ t ∈ vs, t.ownBlock ≠ some g) := fun g hg t ht e => by
          have h9 := HQ4.out.lt t ht g e
          simp [Value.ownBlock] at hg
          omega
        have HCN := cell_one_new (w4.alloc (.cells #[.int .i64 (k1 : Int)] 3)) (.slice (some ⟨w4.heap.size, 0, none⟩) 1 1) 22
        rw [show (w4.alloc (.cells #[.int .i64 (k1 : Int)] 3)).heap.size = w4.heap.size + 1 by simp] at HCN
        have HCN := Lib.hid HCN
        clear hGn hB1
        go_wp2_with ((at_builtin; refine wpList_append_own _ rfl _ _ 24 rfl w.heap.size 22 i1 (.slice none 0 0) 1 24 Try.underlying24 hi1 hy0 hy1 hy2 rfl (by decide) _ _ _ rfl (HT5.out.m.own.alloc _) ⟨w4.heap.size + 1, 0, none⟩ 1 1 [.slice (some ⟨w4.heap.size, 0, none⟩) 1 1] rfl rfl HCN.out (by intro u hu; simp at hu; rw [hu]; rfl) (by unfold maxLen; have := HNQ.out; omega) (by have := HNQ.out; omega) (by simp; omega) ?_))
        intro v6 w6 hown6 hgrow6 _
        have HT6 : Hid (Tab w w6 v6 (vs ++ [.slice (some ⟨w4.heap.size, 0, none⟩) 1 1]) (T.pair F k1).2) := by
          show Tab _ _ _ _ _
          rw [HQ2.out]
          exact HT5.out.push HO5.out HF5.out hown6 hgrow6
        have HP6 : Hid (RdN w6 (.slice a4 P'.length c4) (T.pair F k1).1) := by
          show RdN _ _ _
          rw [HP2.out]
          exact HT4.out.holds ((HH5.out.below ((Below.refl _ _).alloc (Nat.le_refl _) _)).grown hgrow6 HLT.out)
        have HN6 : Hid (nq + 1 = (T.pair F k1).2.length) := by show _ = _; rw [HQ2.out, List.length_append, ← HNQ.out]; rfl
        obtain ⟨a6, c6, hv6, _⟩ := own_form hown6
        subst hv6
        have hN7 : nq + 1 ≤ 60 := by rw [HN6.out]; exact HN1.out
        rw [← HNQ.out] at HT6 ⊢
        clear hown6 hgrow6
        go_wp2_with (fail)
        go_roundw
        case rel => exact ⟨k1, P'.length, c4, nq + 1, c6, a4, a6, _, rfl, rfl, by first | rfl | go_num, by omega, hN7, HN6, HP6, HT6⟩
        case measure => simp [intOf]; have := HK1.out; omega
      · have hd : ((G : Int) == (nq : Int)) = false := by rw [beq_eq_false_iff_ne]; omega
        have hGq : G < Qs.length := by rw [← HNQ.out]; omega
        obtain ⟨b, n', cap', a, cp, e, hn', hbl, e1, e2, e3, e4⟩ := HQ4.out.cell hGq
        injection e with e5 e6 e7
        subst e5 e6 e7
        obtain ⟨Y, hY⟩ : ∃ Y, Y = Qs.getD G [] := ⟨_, rfl⟩
        have HQ2 : Hid ((T.pair F k1).2 = Qs.set G (Y ++ [k1])) := by show _ = _; rw [HQO.out hGn, hY]
        have hYl := HQX.out Y (by rw [hY]; exact T.getD_mem _ _ hGq)
        rw [← hY] at e1 e2 e3
        obtain ⟨m, hm⟩ : ∃ m, m = Y.length := ⟨_, rfl⟩
        rw [← hm] at e1 e2 hYl
        have HE2 := Lib.hid e2
        have HE3 : Hid (w4.ownsRow w.heap.size 3 1 (.slice a m cp) m (nats Y)) := by show World.ownsRow _ _ _ _ _ _ _; rw [hm]; exact e3
        have HM := Lib.hid hm
        have hGn1 : (G : Int) < (nq : Int) := by omega
        clear hY e2 e3 hm hn' hGn hGq
        go_wp2_with ((at_builtin; refine wpList_append_own_at _ rfl _ _ 22 rfl w.heap.size 3 i0 (.int .i64 0) 1 8 Try.underlying22 hi hz0 hz1 hz2 rfl (by decide) _ _ _ rfl (HE3.out.alloc _) ⟨w4.heap.size, 0, none⟩ 1 1 [.int .i64 (k1 : Int)] rfl rfl (cell_one_new _ _ _) (by intro u hu; simp at hu; rw [hu]; rfl) (by unfold maxLen; omega) (by omega) (by simp; omega) ?_))
        intro v6 w6 hown6 hgrow6 _ hat6
        have hBa : Below w4.heap.size w4 (w4.alloc (.cells #[.int .i64 (k1 : Int)] 3)) := (Below.refl _ _).alloc (Nat.le_refl _) _
        obtain ⟨q1, q2⟩ := HQ4.out.outer HE2.out hBa hgrow6
        have hown7 : w6.ownsRow w.heap.size 3 1 v6 (Y ++ [k1]).length (nats (Y ++ [k1])) := by
          rw [nats_append, List.length_append, ← HM.out]
          exact hown6
        have HT7 : Hid (Tab w (w6.setCell ⟨b, G, none⟩ v6) (.slice (some ⟨b, 0, none⟩) nq cq) (vs.set G v6) (T.pair F k1).2) := by
          show Tab _ _ _ _ _
          rw [HQ2.out]
          refine HQ4.out.grow HE2.out hBa hgrow6 hown7 ?_
          rcases hat6 with h9 | h9
          · exact .inl h9
          · exact .inr ⟨_, h9, by simp⟩
        have HP7 : Hid (RdN (w6.setCell ⟨b, G, none⟩ v6) (.slice a4 P'.length c4) (T.pair F k1).1) := by
          show RdN _ _ _
          rw [HP2.out]
          exact HT4.out.holds ((((Holds.refl _ _).below hBa).grown hgrow6 (fun g hg => HLR.out _ (List.mem_of_getElem? HE2.out) g hg)).set (HLT.out b rfl))
        have HN7 : Hid (nq = (T.pair F k1).2.length) := by show _ = _; rw [HQ2.out, List.length_set]; exact HNQ.out
        obtain ⟨a6, c6, hv6, _⟩ := own_form hown6
        subst hv6
        clear hown6 hgrow6 hat6 hown7 hBa
        go_wp2_with (fail)
        go_roundw
        case rel => exact ⟨k1, P'.length, c4, nq, cq, a4, _, _, rfl, rfl, by first | rfl | go_num, by omega, hnq, HN7, HP7, HT7⟩
        case measure => simp [intOf]; have := HK1.out; omega
    · obtain rfl : n = i := by omega
      have HB := Lib.hid HQ.out.m.below
      have HQR : Hid (RdN wr (.slice aq nq cq) (T.pair F n).2) := HQ.out.m.rd
      clear HQ hin
      go_wp2_with (fail)
      go_ret2
      exact ⟨⟨_, _, rfl, HP.out, HQR.out⟩, HB.out⟩

end Go.Proofs.Ytonphhienkepbaa
