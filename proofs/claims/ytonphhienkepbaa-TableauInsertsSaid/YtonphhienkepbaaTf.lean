/- The walk over the reference's insert. -/
import Derived.Test.YtonphhienkepbaaTe
namespace Go.Proofs.Ytonphhienkepbaa
open Go.RowKit

/-- What a function that makes rows and a number returns. -/
def RetTi (w : World) (Ms : List (List Nat)) (g : Nat) (x : Ending) (w' : World) : Prop := ∃ v' vs, x = .returned (.tuple #[v', .int .i64 (g : Int)]) ∧ Tab w w' v' vs Ms

set_option maxRecDepth 100000 in
set_option maxHeartbeats 4000000 in
theorem rins_is (Ms : List (List Nat)) (x0 : Nat) (v : Value) (w : World) (hr : Hid (RdN w v Ms)) (hok : Hid (T.Ok Ms)) (hl : Ms.length ≤ 99) (hls : Hid (∀ X ∈ Ms, X.length ≤ 99)) :
    Calls Try.prog 15 #[v, .int .i64 (x0 : Int)] w (RetTi w (T.ins Ms x0).1 (T.ins Ms x0).2) := by
  have hcp := Lib.hid (rCopy_is Ms v w hr (by omega) (fun X hX => ⟨(hok.out X hX).1, by have := hls.out X hX; omega⟩))
  obtain ⟨a0, cap0, hv0⟩ : ∃ a c, v = .slice a Ms.length c := by obtain ⟨vs, h, _⟩ := hr.out; exact h.shape
  subst hv0
  obtain ⟨n, hn⟩ : ∃ n, n = Ms.length := ⟨_, rfl⟩
  rw [← hn] at hcp hl ⊢
  have HN := Lib.hid hn
  have HLS : Hid (∀ X ∈ Ms, X.length ≤ 99) := hls
  clear hn hr hls
  obtain ⟨i0, hi, hz0, hz1, hz2⟩ := info_parts Try.infoZ
  obtain ⟨i1, hi1, hy0, hy1, hy2⟩ := info_parts Try.infoS
  have HA0 := Lib.hid (T.At.start hok.out x0)
  go_enter Try.func15, Try.ntmps15
  go_wp2_with (fail)
  refine hcp.out.mono ?_
  rintro e w1 ⟨v1, vs1, rfl, hT1⟩
  obtain ⟨a1, c1, hv1, hcc1, hcc2, _⟩ := own_form hT1.m.own
  subst hv1
  rw [← HN.out] at hT1 hcc1 ⊢
  have HT1 := Lib.hid hT1
  have HL1 : Hid (∀ X ∈ Ms, X.length ≤ 99) := HLS
  clear hT1 hcp
  go_wp2_with (fail)
  go_loopw [1, 6] (fun xv iv wx => ∃ (x i : Nat) (vs : List Value) (Ns : List (List Nat)), xv = .int .i64 (x : Int) ∧ iv = .int .i64 i ∧ i ≤ n ∧ Hid (Tab w wx (.slice a1 n c1) vs Ns) ∧ Hid (T.At Ms x0 Ns x i) ∧ Hid (∀ X ∈ Ns, X.length ≤ 99)) (fun _ iv _ => n - (intOf iv).toNat)
  case atStart => exact ⟨x0, 0, vs1, Ms, rfl, rfl, by omega, HT1, HA0, HL1⟩
  case round =>
    obtain ⟨x, i, vs, Ns, rfl, rfl, hi2, HT, HA, HLN⟩ := hrel
    have hNl : Ns.length = n := by rw [HA.out.1]; exact HN.out.symm
    by_cases hin : i < n
    · have hiN : i < Ns.length := by omega
      obtain ⟨b, n', cap', a, cp, e, hn', hbl, e1, e2, e3, e4⟩ := HT.out.cell hiN
      injection e with e5 e6 e7
      subst e5 e6 e7
      obtain ⟨Y, hY⟩ : ∃ Y, Y = Ns.getD i [] := ⟨_, rfl⟩
      have hYo := HA.out.ok hiN
      have hYl := HLN.out Y (by rw [hY]; simp [List.getD, hiN])
      rw [← hY] at e1 e2 e3 hYo
      obtain ⟨m, hm⟩ : ∃ m, m = Y.length := ⟨_, rfl⟩
      have hm0 : m ≠ 0 := by rw [hm]; exact hYo.1
      obtain ⟨gY, rfl, hg1, hg2, hgc, hgf⟩ := own_cells (n := m) (by rw [hm]; exact e3) (by omega)
      rw [← hm] at e1 e2 hYl
      have HE2 := Lib.hid e2
      have HE3 : Hid (wr.ownsRow w.heap.size 3 1 (.slice (some ⟨gY, 0, none⟩) m cp) m (nats Y)) := by show World.ownsRow _ _ _ _ _ _ _; rw [hm]; exact e3
      have HY := Lib.hid hY
      have HM := Lib.hid hm
      have HGC := Lib.hid hgc
      have hmc : m ≤ cp := by obtain ⟨_, _, e, h9, _⟩ := own_form HE3.out; injection e with _ _ e; omega
      have hin1 : (i : Int) < (n : Int) := by omega
      obtain ⟨K, hK⟩ : ∃ K, K = T.pos x Y := ⟨_, rfl⟩
      have HK := Lib.hid hK
      have HPL : Hid (∀ j, j < K → Y.getD j 0 ≤ x) := fun j hj => T.pos_lt x Y j (by omega)
      have HPA : Hid (K < m → x < Y.getD K 0) := fun h => by rw [hK]; exact T.pos_at x Y (by omega)
      have hKm : K ≤ m := by rw [hK, hm]; exact T.pos_le x Y
      clear hY hYo e2 e3 hm hgc hn' hK
      go_wp2_with (fail)
      go_loop [7] (fun kv => ∃ (k : Nat), kv = .int .i64 k ∧ k ≤ K) (fun kv => K - (intOf kv).toNat)
      case atStart => exact ⟨0, rfl, by omega⟩
      case round =>
        obtain ⟨k, rfl, hk⟩ := hrel
        by_cases hkK : k < K
        · have c2 : wr.cell? ⟨gY, k, none⟩ = some (.int .i64 (Y.getD k 0 : Nat)) := HGC.out k (by omega)
          obtain ⟨y, hy⟩ : ∃ y, y = Y.getD k 0 := ⟨_, rfl⟩
          have hyx : y ≤ x := by rw [hy]; exact HPL.out k hkK
          rw [← hy] at c2
          have hkm : (k : Int) < (m : Int) := by omega
          have hyx1 : (y : Int) ≤ (x : Int) := by omega
          clear hy
          go_wp2_with (fail)
          go_round
          case rel => exact ⟨k + 1, by go_num, by omega⟩
          case measure => simp [intOf]; omega
        · obtain rfl : K = k := by omega
          by_cases hKf : K = m
          · obtain rfl : m = K := hKf.symm
            have HRES : Hid ((T.ins Ms x0).1 = Ns.set i (Y ++ [x]) ∧ (T.ins Ms x0).2 = i) := by
              have h9 := HA.out.last hiN (by rw [← HY.out, ← HK.out, HM.out])
              rw [← HY.out] at h9
              exact h9
            clear hKf
            go_wp2_with ((at_builtin; refine wpList_append_own_at _ rfl _ _ 22 rfl w.heap.size 3 i0 (.int .i64 0) 1 8 Try.underlying22 hi hz0 hz1 hz2 rfl (by decide) _ _ _ rfl (HE3.out.alloc _) ⟨wr.heap.size, 0, none⟩ 1 1 [.int .i64 (x : Int)] rfl rfl (cell_one_new _ _ _) (by intro u hu; simp at hu; rw [hu]; rfl) (by unfold maxLen; omega) (by omega) (by simp; have h8 := HT.out.m.below.size; omega) ?_))
            intro v4 w4 hown4 hgrow4 _ hat4
            have hBa : Below wr.heap.size wr (wr.alloc (.cells #[.int .i64 (x : Int)] 3)) := (Below.refl _ _).alloc (Nat.le_refl _) _
            obtain ⟨q1, q2⟩ := HT.out.outer HE2.out hBa hgrow4
            have hown5 : w4.ownsRow w.heap.size 3 1 v4 (Y ++ [x]).length (nats (Y ++ [x])) := by
              rw [nats_append, List.length_append, ← HM.out]
              exact hown4
            have HT4 : Hid (Tab w (w4.setCell ⟨b, i, none⟩ v4) (.slice (some ⟨b, 0, none⟩) n c1) (vs.set i v4) (T.ins Ms x0).1) := by
              show Tab _ _ _ _ _
              rw [HRES.out.1]
              refine HT.out.grow HE2.out hBa hgrow4 hown5 ?_
              rcases hat4 with h9 | h9
              · exact .inl h9
              · exact .inr ⟨_, h9, by simp⟩
            have HG : Hid ((T.ins Ms x0).2 = i) := HRES.out.2
            obtain ⟨a4, c4, hv4, _⟩ := own_form hown4
            subst hv4
            clear hown4 hgrow4 hat4 hown5 hBa
            go_wp2_with (fail)
            go_ret2
            rw [HG.out]
            exact ⟨_, _, rfl, HT4.out⟩
          · have hKl : K < m := by omega
            have c2 : wr.cell? ⟨gY, K, none⟩ = some (.int .i64 (Y.getD K 0 : Nat)) := HGC.out K hKl
            have f2 : wr.frozen? ⟨gY, K, none⟩ = false := hgf K
            obtain ⟨y, hy⟩ : ∃ y, y = Y.getD K 0 := ⟨_, rfl⟩
            have hyx : x < y := by rw [hy]; exact HPA.out hKl
            rw [← hy] at c2
            have hkm : (K : Int) < (m : Int) := by omega
            have hyx1 : ¬ (y : Int) ≤ (x : Int) := by omega
            have hKm1 : ((K : Int) == (m : Int)) = false := by rw [beq_eq_false_iff_ne]; omega
            have HTn : Hid (Tab w (wr.setCell ⟨gY, K, none⟩ (.int .i64 (x : Int))) (.slice (some ⟨b, 0, none⟩) n c1) vs (Ns.set i (Y.set K x))) := by
              have h9 := HT.out.put (j := K) (x := x) (by rw [← HY.out, ← HM.out]; exact HE2.out) hiN
              rw [← HY.out] at h9
              exact h9
            have HAn : Hid (T.At Ms x0 (Ns.set i (Y.set K x)) y (i + 1)) := by
              have h9 := HA.out.next hiN (by rw [← HY.out, ← HK.out, ← HM.out]; exact hKl)
              rw [← HY.out, ← HK.out, ← hy] at h9
              exact h9
            have HLn : Hid (∀ X ∈ Ns.set i (Y.set K x), X.length ≤ 99) := fun X hX => by
              rcases List.mem_or_eq_of_mem_set hX with h9 | h9
              · exact HLN.out X h9
              · rw [h9, List.length_set, ← HM.out]; exact hYl
            clear hy hKf
            go_wp2_with (fail)
            go_roundw
            case rel => exact ⟨y, i + 1, vs, _, rfl, by go_num, by omega, HTn, HAn, HLn⟩
            case measure => simp [intOf]; omega
    · obtain rfl : n = i := by omega
      have HRES : Hid ((T.ins Ms x0).1 = Ns ++ [[x]] ∧ (T.ins Ms x0).2 = n) := HA.out.new hNl.symm
      have hB1 : Below wr.heap.size wr (wr.alloc (.cells #[.int .i64 (x : Int)] 3)) := (Below.refl _ _).alloc (Nat.le_refl _) _
      have HT2 : Hid (Tab w (wr.alloc (.cells #[.int .i64 (x : Int)] 3)) (.slice a1 n c1) vs Ns) := HT.out.low hB1
      have HO2 : Hid ((wr.alloc (.cells #[.int .i64 (x : Int)] 3)).ownsRow w.heap.size 3 1 (.slice (some ⟨wr.heap.size, 0, none⟩) 1 1) [x].length (nats [x])) := own_base (lit1_own wr x) HT.out.m.below.size
      have HF2 : Hid (∀ g, (Value.slice (some ⟨wr.heap.size, 0, none⟩) 1 1).ownBlock = some g → ∀ t ∈ vs, t.ownBlock ≠ some g) := fun g hg t ht e => by
        have h9 := HT.out.lt t ht g e
        simp [Value.ownBlock] at hg
        omega
      have hsz : w.heap.size ≤ wr.heap.size := HT.out.m.below.size
      have HCN := cell_one_new (wr.alloc (.cells #[.int .i64 (x : Int)] 3)) (.slice (some ⟨wr.heap.size, 0, none⟩) 1 1) 22
      rw [show (wr.alloc (.cells #[.int .i64 (x : Int)] 3)).heap.size = wr.heap.size + 1 by simp] at HCN
      have HCN := Lib.hid HCN
      have HNL := Lib.hid hNl
      clear hB1 hNl hin
      go_wp2_with ((at_builtin; refine wpList_append_own _ rfl _ _ 24 rfl w.heap.size 22 i1 (.slice none 0 0) 1 24 Try.underlying24 hi1 hy0 hy1 hy2 rfl (by decide) _ _ _ rfl (HT2.out.m.own.alloc _) ⟨wr.heap.size + 1, 0, none⟩ 1 1 [.slice (some ⟨wr.heap.size, 0, none⟩) 1 1] rfl rfl HCN.out (by intro u hu; simp at hu; rw [hu]; rfl) (by unfold maxLen; have := HNL.out; omega) (by have := HNL.out; omega) (by simp; omega) ?_))
      intro v5 w5 hown5 hgrow5 _
      have HT5 : Hid (Tab w w5 v5 (vs ++ [.slice (some ⟨wr.heap.size, 0, none⟩) 1 1]) (T.ins Ms x0).1) := by
        show Tab _ _ _ _ _
        rw [HRES.out.1]
        exact HT2.out.push HO2.out HF2.out hown5 hgrow5
      have HG : Hid ((T.ins Ms x0).2 = n) := HRES.out.2
      obtain ⟨a5, c5, hv5, _⟩ := own_form hown5
      subst hv5
      clear hown5 hgrow5
      go_wp2_with (fail)
      go_ret2
      rw [HG.out]
      exact ⟨_, _, rfl, HT5.out⟩

end Go.Proofs.Ytonphhienkepbaa
