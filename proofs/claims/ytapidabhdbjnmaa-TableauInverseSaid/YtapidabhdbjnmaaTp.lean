/- The walk over the program's pairOf and Insert. -/
import Derived.Test.YtapidabhdbjnmaaTk
namespace Go.Proofs.Ytapidabhdbjnmaa
open Go.RowKit

theorem T.set_new (Q : List (List Nat)) (k : Nat) : (Q ++ [[]]).set Q.length ((Q ++ [[]]).getD Q.length [] ++ [k]) = Q ++ [[k]] := by
  rw [List.set_append_right _ _ (Nat.le_refl _), Nat.sub_self]
  simp

/-- What pairOf returns. -/
def RetPt (w : World) (P Q : List (List Nat)) (x : Ending) (w' : World) : Prop := ∃ vp vq vsp vsq, x = .returned (.tuple #[vp, vq]) ∧ Tab w w' vp vsp P ∧ Tab w w' vq vsq Q ∧ ∀ g, PB vp vsp g → ¬ PB vq vsq g

set_option maxRecDepth 100000 in
set_option maxHeartbeats 4000000 in
theorem pairOf_is (F : List Nat) (v : Value) (w : World) (hr : Hid (Rd w v 1 F.length (nats F))) (hl : F.length ≤ 60) :
    Calls Try.prog 26 #[v] w (RetPt w (T.pair F F.length).1 (T.pair F F.length).2) := by
  obtain ⟨a0, cap0, hv0⟩ := hr.out.shape
  subst hv0
  obtain ⟨n, hn⟩ : ∃ n, n = F.length := ⟨_, rfl⟩
  have HR : Hid (Rd w (.slice a0 n cap0) 1 F.length (nats F)) := by show Rd _ _ _ _ _; rw [hn]; exact hr.out
  rw [← hn] at hl ⊢
  have HN := Lib.hid hn
  clear hn hr
  obtain ⟨i0, hi, hz0, hz1, hz2⟩ := info_parts Try.infoZ
  obtain ⟨i1, hi1, hy0, hy1, hy2⟩ := info_parts Try.infoS
  have HPR := Lib.hid (T.pair_ok F)
  have HP0 : Hid (Tab w w (.slice none 0 0) [] (T.pair F 0).1) := Tab.nil (Below.refl _ _)
  have HQ0 : Hid (Tab w w (.slice none 0 0) [] (T.pair F 0).2) := Tab.nil (Below.refl _ _)
  have HD0 : Hid (∀ g, PB (.slice none 0 0) [] g → ¬ PB (.slice none 0 0) [] g) := fun g hg => by
    rcases hg with h | ⟨u, hu, _⟩
    · simp [Value.ownBlock] at h
    · simp at hu
  go_enter Try.func26, Try.ntmps26
  go_wp2_with (fail)
  go_loopw [2, 3, 9] (fun pv qv iv wx => ∃ (i np cp nq cq : Nat) (ap aq : Option Addr) (vsp vsq : List Value), pv = .slice ap np cp ∧ qv = .slice aq nq cq ∧ iv = .int .i64 i ∧ i ≤ n ∧ np ≤ 60 ∧ nq ≤ 60 ∧ Hid (np = (T.pair F i).1.length) ∧ Hid (nq = (T.pair F i).2.length) ∧ Hid (Tab w wx (.slice ap np cp) vsp (T.pair F i).1) ∧ Hid (Tab w wx (.slice aq nq cq) vsq (T.pair F i).2) ∧ Hid (∀ g, PB (.slice ap np cp) vsp g → ¬ PB (.slice aq nq cq) vsq g)) (fun _ _ iv _ => n - (intOf iv).toNat)
  case atStart => exact ⟨0, 0, 0, 0, 0, none, none, [], [], rfl, rfl, rfl, by omega, by omega, by omega, rfl, rfl, HP0, HQ0, HD0⟩
  case round =>
    obtain ⟨i, np, cp, nq, cq, ap, aq, vsp, vsq, rfl, rfl, rfl, hi2, hnp, hnq, HNP, HNQ, HP, HQ, HD⟩ := hrel
    by_cases hin : i < n
    · obtain ⟨b0, hb0, hbl0, hc0⟩ := (HR.out.below HQ.out.m.below (Nat.le_refl _)).at i (by rw [← HN.out]; exact hin)
      subst hb0
      obtain ⟨x, hx⟩ : ∃ x, x = F.getD i 0 := ⟨_, rfl⟩
      rw [← hx] at hc0
      obtain ⟨P, hP⟩ : ∃ P, P = (T.pair F i).1 := ⟨_, rfl⟩
      obtain ⟨Qs, hQ⟩ : ∃ Qs, Qs = (T.pair F i).2 := ⟨_, rfl⟩
      obtain ⟨o1, o2, o3, o4⟩ := HPR.out i
      rw [← hP] at o1 o2 o3 HP HNP
      rw [← hQ] at o3 o4 HQ HNQ
      have HPO := Lib.hid o1
      have hPl : P.length ≤ 60 := by have := T.len_le P o1; omega
      have HPX : Hid (∀ X ∈ P, X.length ≤ 99) := fun X hX => by have := T.row_le P X hX; omega
      obtain ⟨G, hG⟩ : ∃ G, G = (T.ins P x).2 := ⟨_, rfl⟩
      obtain ⟨P', hP'⟩ : ∃ P', P' = (T.ins P x).1 := ⟨_, rfl⟩
      have hGle : G ≤ nq := by rw [hG, HNQ.out, o3]; exact (T.ins_ok P x o1).2.2.1
      have HP2 : Hid ((T.pair F (i + 1)).1 = P') := by show _ = _; rw [T.pair_p, ← hP, ← hx, hP']
      have HQN : Hid (G = nq → (Qs ++ [[]]).set G ((Qs ++ [[]]).getD G [] ++ [i + 1]) = (T.pair F (i + 1)).2) := fun h => by
        rw [T.pair_new F i (by rw [← hP, ← hx, ← hG, ← hQ, h]; exact HNQ.out), ← hQ, h, HNQ.out, T.set_new]
      have HQO : Hid (G ≠ nq → Qs.set G (Qs.getD G [] ++ [i + 1]) = (T.pair F (i + 1)).2) := fun h => by
        rw [T.pair_old F i (by rw [← hP, ← hx, ← hG, ← hQ, ← HNQ.out]; exact h), ← hQ, ← hP, ← hx, ← hG]
      have HN1 : Hid ((T.pair F (i + 1)).1.length ≤ 60 ∧ (T.pair F (i + 1)).2.length ≤ 60) := by
        obtain ⟨p1, p2, p3, _⟩ := HPR.out (i + 1)
        have := T.len_le _ p1
        exact ⟨by omega, by omega⟩
      have HQX : Hid (∀ X ∈ Qs, X.length ≤ 60) := fun X hX => by have := o4 X hX; omega
      have hrc := Lib.hid (insert_is P x (.slice ap np cp) vsp w wr HP HPO (by omega) HPX)
      rw [← hG, ← hP'] at hrc
      obtain ⟨k1, hk1⟩ : ∃ k1, k1 = i + 1 := ⟨_, rfl⟩
      rw [← hk1] at HQN HQO HP2 HN1
      have hk2 : (i : Int) + 1 = (k1 : Int) := by omega
      have HK1 := Lib.hid hk1
      have hin1 : (i : Int) < (n : Int) := by omega
      have hk60 : k1 ≤ 60 := by omega
      clear hx hP hQ o1 o2 o3 o4 hG hP' hk1
      go_wp2_with (fail)
      refine hrc.out.mono ?_
      rintro e w4 ⟨v4, vs4, rfl, hT4, hFr4, hPB4⟩
      rw [← HP2.out] at hT4
      obtain ⟨ap4, cp4, hv4, _⟩ := own_form hT4.m.own
      subst hv4
      obtain ⟨np4, hnp⟩ : ∃ np4, np4 = (T.pair F k1).1.length := ⟨_, rfl⟩
      rw [← hnp] at hT4 hPB4 ⊢
      have HNP4 := Lib.hid hnp
      have hnp4 : np4 ≤ 60 := by rw [hnp]; exact HN1.out.1
      have HP4 := Lib.hid hT4
      have HQ4 : Hid (Tab w w4 (.slice aq nq cq) vsq Qs) := HQ.out.frame hFr4 hT4.m.below (fun g hg h => HD.out g h hg)
      have HD4 : Hid (∀ g, PB (.slice ap4 np4 cp4) vs4 g → ¬ PB (.slice aq nq cq) vsq g) := fun g hg hq => by
        rcases hPB4 g hg with h9 | h9
        · exact HD.out g h9 hq
        · have := (HQ.out.pb hq).1; omega
      have hsz4 : w.heap.size ≤ w4.heap.size := hT4.m.below.size
      clear hT4 hFr4 hPB4 hnp hrc
      by_cases hGn : G = nq
      · have hd : ((G : Int) == (nq : Int)) = true := by rw [hGn]; simp
        have HQR : Hid ((Qs ++ [[]]).set G ((Qs ++ [[]]).getD G [] ++ [k1]) = (T.pair F k1).2) := HQN.out hGn
        have HGN := Lib.hid hGn
        clear hGn
        go_wp2_with ((at_builtin; refine wpList_append_own_at _ rfl _ _ 24 rfl w.heap.size 22 i1 (.slice none 0 0) 1 24 Try.underlying24 hi1 hy0 hy1 hy2 rfl (by decide) _ _ _ rfl (HQ4.out.m.own.alloc _) ⟨w4.heap.size, 0, none⟩ 1 1 [.slice none 0 0] rfl rfl (cell_one_new _ _ _) (by intro u hu; simp at hu; rw [hu]; rfl) (by unfold maxLen; have := HNQ.out; omega) (by have := HNQ.out; omega) (by simp; omega) ?_))
        intro v5 Wq hown5 hgrow5 _ hat5
        have HQ5 : Hid (Tab w Wq v5 (vsq ++ [.slice none 0 0]) (Qs ++ [[]])) := HQ4.out.push (World.ownsRow_nil _ _ _ _) (fun g hg => by simp [Value.ownBlock] at hg) hown5 hgrow5
        have HF5 : Hid (Frame (PB (.slice aq nq cq) vsq) w4 Wq) := ((Frame.refl _ _).below ((Below.refl _ _).alloc (Nat.le_refl _) _)).grown hgrow5 fun g hg => .inl (.inl hg)
        have HPB5 : Hid (∀ g, PB v5 (vsq ++ [.slice none 0 0]) g → PB (.slice aq nq cq) vsq g ∨ w4.heap.size ≤ g) := fun g hg => by
          rcases hg with h9 | ⟨u, hu, h9⟩
          · rcases hat5 with h7 | h7
            · exact .inl (.inl (by rw [← h7]; exact h9))
            · rw [h7] at h9
              injection h9 with h9
              right
              rw [← h9]; first | omega | (simp; omega)
          · rcases List.mem_append.1 hu with h8 | h8
            · exact .inl (.inr ⟨u, h8, h9⟩)
            · simp at h8
              subst h8
              simp [Value.ownBlock] at h9
        obtain ⟨aq5, cq5, hv5, _⟩ := own_form hown5
        subst hv5
        obtain ⟨Q5, hQ5⟩ : ∃ Q5, Q5 = Qs ++ [[]] := ⟨_, rfl⟩
        obtain ⟨vs5, hvs5⟩ : ∃ vs5, vs5 = vsq ++ [Value.slice none 0 0] := ⟨_, rfl⟩
        obtain ⟨nq5, hnq⟩ : ∃ nq5, nq5 = Qs.length + 1 := ⟨_, rfl⟩
        rw [← hQ5] at HQR HQ5
        rw [← hvs5] at HQ5 HPB5
        rw [← hnq] at HQ5 HPB5 ⊢
        have HN5 : Hid (nq5 = Q5.length) := by show _ = _; rw [hQ5, hnq]; simp
        have hnq5 : nq5 ≤ 60 := by
          have h9 : (T.pair F k1).2.length ≤ 60 := HN1.out.2
          rw [← HQR.out, List.length_set] at h9
          rw [HN5.out]; exact h9
        have HX5 : Hid (∀ X ∈ Q5, X.length ≤ 60) := fun X hX => by
          rw [hQ5] at hX
          rcases List.mem_append.1 hX with h9 | h9
          · exact HQX.out X h9
          · simp at h9; subst h9; simp
        have hGq : G < Q5.length := by rw [← HN5.out, hnq, ← HNQ.out]; have := HGN.out; omega
        have hGq5 : G < nq5 := by rw [HN5.out]; exact hGq
        clear hown5 hgrow5 hat5 hQ5 hvs5 hnq
        obtain ⟨b, n', cap', a, cp, e, hn', hbl, e1, e2, e3, e4⟩ := HQ5.out.cell hGq
        injection e with e5 e6 e7
        subst e5 e6 e7
        obtain ⟨Y, hY⟩ : ∃ Y, Y = Q5.getD G [] := ⟨_, rfl⟩
        have hYl := HX5.out Y (by rw [hY]; exact T.getD_mem _ _ hGq)
        rw [← hY] at e1 e2 e3 HQR
        obtain ⟨m, hm⟩ : ∃ m, m = Y.length := ⟨_, rfl⟩
        rw [← hm] at e1 e2 hYl
        have HE2 := Lib.hid e2
        have HE3 : Hid (Wq.ownsRow w.heap.size 3 1 (.slice a m cp) m (nats Y)) := by show World.ownsRow _ _ _ _ _ _ _; rw [hm]; exact e3
        have HM := Lib.hid hm
        have hsz5 : w.heap.size ≤ Wq.heap.size := HQ5.out.m.below.size
        have hGn1 : (G : Int) < (nq5 : Int) := by omega
        clear hY e2 e3 hm hn' hGq
        go_wp2_with ((at_builtin; refine wpList_append_own_at _ rfl _ _ 22 rfl w.heap.size 3 i0 (.int .i64 0) 1 8 Try.underlying22 hi hz0 hz1 hz2 rfl (by decide) _ _ _ rfl (HE3.out.alloc _) ⟨Wq.heap.size, 0, none⟩ 1 1 [.int .i64 (k1 : Int)] rfl rfl (cell_one_new _ _ _) (by intro u hu; simp at hu; rw [hu]; rfl) (by unfold maxLen; omega) (by omega) (by simp; omega) ?_))
        intro v6 w6 hown6 hgrow6 _ hat6
        have hBa : Below Wq.heap.size Wq (Wq.alloc (.cells #[.int .i64 (k1 : Int)] 3)) := (Below.refl _ _).alloc (Nat.le_refl _) _
        obtain ⟨q1, q2⟩ := HQ5.out.outer HE2.out hBa hgrow6
        have hown7 : w6.ownsRow w.heap.size 3 1 v6 (Y ++ [k1]).length (nats (Y ++ [k1])) := by
          rw [nats_append, List.length_append, ← HM.out]
          exact hown6
        have HT7 : Hid (Tab w (w6.setCell ⟨b, G, none⟩ v6) (.slice (some ⟨b, 0, none⟩) nq5 cq5) (vs5.set G v6) (T.pair F k1).2) := by
          show Tab _ _ _ _ _
          rw [← HQR.out]
          refine HQ5.out.grow HE2.out hBa hgrow6 hown7 ?_
          rcases hat6 with h9 | h9
          · exact .inl h9
          · exact .inr ⟨_, h9, by simp⟩
        have hSg : ∀ g, (Value.slice a m cp).ownBlock = some g → PB (.slice aq nq cq) vsq g ∨ w4.heap.size ≤ g := fun g hg => HPB5.out g (.inr ⟨_, List.mem_of_getElem? HE2.out, hg⟩)
        have HF7 : Hid (Frame (PB (.slice aq nq cq) vsq) w4 (w6.setCell ⟨b, G, none⟩ v6)) :=
          ((HF5.out.below hBa).grown hgrow6 hSg).set (p := ⟨b, G, none⟩) (HPB5.out b (.inl rfl)) v6
        have HP7 : Hid (Tab w (w6.setCell ⟨b, G, none⟩ v6) (.slice ap4 np4 cp4) vs4 (T.pair F k1).1) := HP4.out.frame HF7.out HT7.out.m.below HD4.out
        have HD7 : Hid (∀ g, PB (.slice ap4 np4 cp4) vs4 g → ¬ PB (.slice (some ⟨b, 0, none⟩) nq5 cq5) (vs5.set G v6) g) := fun g hg hq => by
          have h1 := (HP4.out.pb hg).1
          have h2 := HD4.out g hg
          have h3 : PB (.slice aq nq cq) vsq g ∨ w4.heap.size ≤ g := by
            rcases hq with h9 | ⟨u, hu, h9⟩
            · exact HPB5.out g (.inl h9)
            · rcases List.mem_or_eq_of_mem_set hu with h8 | h8
              · exact HPB5.out g (.inr ⟨u, h8, h9⟩)
              · rw [h8] at h9
                rcases hat6 with h7 | h7
                · exact hSg g (by rw [← h7]; exact h9)
                · rw [h7] at h9
                  injection h9 with h9
                  right
                  have h10 := HF5.out.1
                  rw [← h9]; first | omega | (simp; omega)
          rcases h3 with h3 | h3
          · exact h2 h3
          · omega
        have HN7 : Hid (nq5 = (T.pair F k1).2.length) := by show _ = _; rw [← HQR.out, List.length_set]; exact HN5.out
        obtain ⟨a6, c6, hv6, _⟩ := own_form hown6
        subst hv6
        clear hown6 hgrow6 hat6 hown7 hBa hSg
        go_wp2_with (fail)
        go_roundw
        case rel => exact ⟨k1, np4, cp4, nq5, cq5, ap4, _, vs4, _, rfl, rfl, by first | rfl | go_num, by omega, hnp4, hnq5, HNP4, HN7, HP7, HT7, HD7⟩
        case measure => simp [intOf]; have := HK1.out; omega
      · have hd : ((G : Int) == (nq : Int)) = false := by rw [beq_eq_false_iff_ne]; omega
        have HQR : Hid (Qs.set G (Qs.getD G [] ++ [k1]) = (T.pair F k1).2) := HQO.out hGn
        have HF5 : Hid (Frame (PB (.slice aq nq cq) vsq) w4 w4) := Frame.refl _ _
        have HPB5 : Hid (∀ g, PB (.slice aq nq cq) vsq g → PB (.slice aq nq cq) vsq g ∨ w4.heap.size ≤ g) := fun g hg => .inl hg
        have hGq : G < Qs.length := by rw [← HNQ.out]; omega
        clear hGn
        obtain ⟨b, n', cap', a, cp, e, hn', hbl, e1, e2, e3, e4⟩ := HQ4.out.cell hGq
        injection e with e5 e6 e7
        subst e5 e6 e7
        obtain ⟨Y, hY⟩ : ∃ Y, Y = Qs.getD G [] := ⟨_, rfl⟩
        have hYl := HQX.out Y (by rw [hY]; exact T.getD_mem _ _ hGq)
        rw [← hY] at e1 e2 e3 HQR
        obtain ⟨m, hm⟩ : ∃ m, m = Y.length := ⟨_, rfl⟩
        rw [← hm] at e1 e2 hYl
        have HE2 := Lib.hid e2
        have HE3 : Hid (w4.ownsRow w.heap.size 3 1 (.slice a m cp) m (nats Y)) := by show World.ownsRow _ _ _ _ _ _ _; rw [hm]; exact e3
        have HM := Lib.hid hm
        have hsz5 : w.heap.size ≤ w4.heap.size := HQ4.out.m.below.size
        have hGn1 : (G : Int) < (nq : Int) := by omega
        clear hY e2 e3 hm hn' hGq
        go_wp2_with ((at_builtin; refine wpList_append_own_at _ rfl _ _ 22 rfl w.heap.size 3 i0 (.int .i64 0) 1 8 Try.underlying22 hi hz0 hz1 hz2 rfl (by decide) _ _ _ rfl (HE3.out.alloc _) ⟨w4.heap.size, 0, none⟩ 1 1 [.int .i64 (k1 : Int)] rfl rfl (cell_one_new _ _ _) (by intro u hu; simp at hu; rw [hu]; rfl) (by unfold maxLen; omega) (by omega) (by simp; omega) ?_))
        intro v6 w6 hown6 hgrow6 _ hat6
        have hBa : Below w4.heap.size w4 (w4.alloc (.cells #[.int .i64 (k1 : Int)] 3)) := (Below.refl _ _).alloc (Nat.le_refl _) _
        obtain ⟨q1, q2⟩ := HQ4.out.outer HE2.out hBa hgrow6
        have hown7 : w6.ownsRow w.heap.size 3 1 v6 (Y ++ [k1]).length (nats (Y ++ [k1])) := by
          rw [nats_append, List.length_append, ← HM.out]
          exact hown6
        have HT7 : Hid (Tab w (w6.setCell ⟨b, G, none⟩ v6) (.slice (some ⟨b, 0, none⟩) nq cq) (vsq.set G v6) (T.pair F k1).2) := by
          show Tab _ _ _ _ _
          rw [← HQR.out]
          refine HQ4.out.grow HE2.out hBa hgrow6 hown7 ?_
          rcases hat6 with h9 | h9
          · exact .inl h9
          · exact .inr ⟨_, h9, by simp⟩
        have hSg : ∀ g, (Value.slice a m cp).ownBlock = some g → PB (.slice (some ⟨b, 0, none⟩) nq cq) vsq g ∨ w4.heap.size ≤ g := fun g hg => HPB5.out g (.inr ⟨_, List.mem_of_getElem? HE2.out, hg⟩)
        have HF7 : Hid (Frame (PB (.slice (some ⟨b, 0, none⟩) nq cq) vsq) w4 (w6.setCell ⟨b, G, none⟩ v6)) :=
          ((HF5.out.below hBa).grown hgrow6 hSg).set (p := ⟨b, G, none⟩) (HPB5.out b (.inl rfl)) v6
        have HP7 : Hid (Tab w (w6.setCell ⟨b, G, none⟩ v6) (.slice ap4 np4 cp4) vs4 (T.pair F k1).1) := HP4.out.frame HF7.out HT7.out.m.below HD4.out
        have HD7 : Hid (∀ g, PB (.slice ap4 np4 cp4) vs4 g → ¬ PB (.slice (some ⟨b, 0, none⟩) nq cq) (vsq.set G v6) g) := fun g hg hq => by
          have h1 := (HP4.out.pb hg).1
          have h2 := HD4.out g hg
          have h3 : PB (.slice (some ⟨b, 0, none⟩) nq cq) vsq g ∨ w4.heap.size ≤ g := by
            rcases hq with h9 | ⟨u, hu, h9⟩
            · exact HPB5.out g (.inl h9)
            · rcases List.mem_or_eq_of_mem_set hu with h8 | h8
              · exact HPB5.out g (.inr ⟨u, h8, h9⟩)
              · rw [h8] at h9
                rcases hat6 with h7 | h7
                · exact hSg g (by rw [← h7]; exact h9)
                · rw [h7] at h9
                  injection h9 with h9
                  right
                  have h10 := HF5.out.1
                  rw [← h9]; first | omega | (simp; omega)
          rcases h3 with h3 | h3
          · exact h2 h3
          · omega
        have HN7 : Hid (nq = (T.pair F k1).2.length) := by show _ = _; rw [← HQR.out, List.length_set]; exact HNQ.out
        obtain ⟨a6, c6, hv6, _⟩ := own_form hown6
        subst hv6
        clear hown6 hgrow6 hat6 hown7 hBa hSg
        go_wp2_with (fail)
        go_roundw
        case rel => exact ⟨k1, np4, cp4, nq, cq, ap4, _, vs4, _, rfl, rfl, by first | rfl | go_num, by omega, hnp4, hnq, HNP4, HN7, HP7, HT7, HD7⟩
        case measure => simp [intOf]; have := HK1.out; omega
    · obtain rfl : n = i := by omega
      clear hin
      go_wp2_with (fail)
      go_ret2
      exact ⟨_, _, vsp, vsq, rfl, HP.out, HQ.out, HD.out⟩

end Go.Proofs.Ytapidabhdbjnmaa
