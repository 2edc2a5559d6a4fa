/- The walks over clearColumn and its closure. -/
import Derived.Test.YtbehihanhfmmhaaGreatG07
import Derived.Deep.RegionHeld3
import Derived.BigRegion
namespace Go.Proofs.YtbehihanhfmmhaaGreat
open Go.RowKit

theorem clearJ_is (p T x y B B2 : Nat) (w : World) (hp : 2 ≤ p) (hp2 : p ≤ 1021) (hx : x < p) (hy : y < p) (hT : T ≤ 1021) (hc : w.cell? ⟨B, 0, none⟩ = some (.int .i64 (p : Int))) (hc2 : w.cell? ⟨B2, 0, none⟩ = some (.int .i64 (T : Int))) :
    Calls Tryz.prog 103 #[.int .i64 x, .int .i64 y, .pointer (some ⟨B2, 0, none⟩), .pointer (some ⟨B, 0, none⟩)] w fun e w' => e = .returned (.int .i64 (((x + T * y) % p : Nat) : Int)) ∧ w = w' := by
  have hz : ((p : Int) == 0) = false := by simp; omega
  have hm : (0 : Int) ≤ (T : Int) * (y : Int) ∧ (T : Int) * (y : Int) ≤ 1042441 := by
    have h1 : T * y ≤ 1021 * 1021 := Nat.mul_le_mul hT (by omega)
    have h2 : (T : Int) * (y : Int) = ((T * y : Nat) : Int) := by simp
    omega
  go_enter Tryz.func103, Tryz.ntmps103
  go_wp2_with (fail)
  go_ret
  exact ⟨ret_i (by simp), rfl⟩

set_option maxRecDepth 100000 in
set_option maxHeartbeats 2000000 in
theorem combClear_is (p B B2 T : Nat) (F G : List Nat) (v1 v2 : Value) (w : World) (hp : 2 ≤ p) (hp2 : p ≤ 1021) (h1 : Hid (Rd w v1 1 F.length (nats F))) (h2 : Hid (Rd w v2 1 G.length (nats G)))
    (hF : Hid (Q.Red p F)) (hG : Hid (Q.Red p G)) (hl1 : F.length ≤ 1000000) (hl2 : G.length ≤ 1000000) (hc : w.cell? ⟨B, 0, none⟩ = some (.int .i64 (p : Int))) (hT : T ≤ 1021) (hc2 : w.cell? ⟨B2, 0, none⟩ = some (.int .i64 (T : Int))):
    Calls Tryz.prog 78 #[v1, v2, .int .i64 0, .func (.func 103) #[] #[.pointer (some ⟨B2, 0, none⟩), .pointer (some ⟨B, 0, none⟩)]] w fun x w' => (∃ v, x = .returned v ∧ w'.ownsRow w.heap.size 3 1 v (Q.comb (fun a b => (a + T * b) % p) F G).length (nats (Q.comb (fun a b => (a + T * b) % p) F G))) ∧ Below w.heap.size w w' := by
  obtain ⟨_, a1, cap1, rfl, hcap1, hcell1⟩ := h1.out
  obtain ⟨_, a2, cap2, rfl, hcap2, hcell2⟩ := h2.out
  have HC1 := Lib.hid hcell1
  have HC2 := Lib.hid hcell2
  clear hcell1 hcell2 h1 h2
  obtain ⟨H0, hH0⟩ : ∃ H0, Q.comb (fun a b => (a + T * b) % p) F G = H0 := ⟨_, rfl⟩
  have HH := Lib.hid hH0
  rw [hH0]
  have hn : max F.length G.length = H0.length := by rw [← hH0, Q.comb_length]
  clear hH0
  obtain ⟨n, hnn⟩ : ∃ n, n = H0.length := ⟨_, rfl⟩
  obtain ⟨m1, hm1⟩ : ∃ m1, m1 = F.length := ⟨_, rfl⟩
  obtain ⟨m2, hm2⟩ : ∃ m2, m2 = G.length := ⟨_, rfl⟩
  rw [← hm1, ← hm2, ← hnn] at hn
  have hN := Lib.hid (And.intro hnn (And.intro hm1 hm2))
  rw [← hnn]
  rw [← hm1] at hl1 hcap1 ⊢
  rw [← hm2] at hl2 hcap2 ⊢
  clear hnn hm1 hm2
  have hb1 : m1 ≤ n := by omega
  have hb2 : m2 ≤ n := by omega
  have hb3 : n ≤ 1000000 := by omega
  have hmx : (if m1 < m2 then (m2 : Int) else (m1 : Int)) = (n : Int) := by split <;> omega
  have hmx2 : max (m1 : Int) (m2 : Int) = (n : Int) := by omega
  have hor : n = m1 ∨ n = m2 := by omega
  have HOR := Lib.hid hor
  clear hn hor
  obtain ⟨i0, hi, hz0, hz1, hz2⟩ := info_parts Tryz.infoZ
  have hBl : B < w.heap.size := World.block_lt_of_cell? w _ hc
  have hcB := Lib.hid hc
  have hB2l : B2 < w.heap.size := World.block_lt_of_cell? w _ hc2
  have hcB2 := Lib.hid hc2
  clear hc2
  clear hc
  go_enter Tryz.func78, Tryz.ntmps78
  go_wp2_with (at_make; refine wpList_make_full _ rfl _ _ 22 rfl w.heap.size 3 i0 (.int .i64 0) 1 Tryz.underlying22 hi hz0 hz1 .i64 .i64 _ _ n rfl rfl rfl rfl (by rw [hz2]; omega) (by unfold maxLen; omega) (Nat.le_refl _) ?_)
  intro w0 hown0 hgrow0
  have hB0 := below_of_grown hgrow0
  have hst : Hid (CSt w w0 w.heap.size n 0 H0) := ⟨by simpa [Value.cells, toList_madeCells_one, nats] using hown0, hB0, by have := hN.out.1; omega⟩
  clear hown0 hgrow0 hB0
  go_wp2_with (fail)
  go_loopw [21] (fun i wr => ∃ (k : Nat), i = .int .i64 k ∧ k ≤ n ∧ Hid (CSt w wr w.heap.size n k H0)) (fun i _ => n - (intOf i).toNat)
  case atStart => exact ⟨0, rfl, by omega, hst⟩
  case round =>
    obtain ⟨k, rfl, hk, HS⟩ := hrel
    by_cases hlt : k < n
    · have hcell := HS.out.cell hlt
      have hfr := HS.out.free k
      have hBc : wr.cell? ⟨B, 0, none⟩ = some (.int .i64 (p : Int)) := by rw [HS.out.below.cell (p := ⟨B, 0, none⟩) hBl]; exact hcB.out
      have hBc2 : wr.cell? ⟨B2, 0, none⟩ = some (.int .i64 (T : Int)) := by rw [HS.out.below.cell (p := ⟨B2, 0, none⟩) hB2l]; exact hcB2.out
      have hkH : k < H0.length := by have := hN.out.1; omega
      obtain ⟨x, hx⟩ : ∃ x, x = F.getD k 0 := ⟨_, rfl⟩
      obtain ⟨y, hy⟩ : ∃ y, y = G.getD k 0 := ⟨_, rfl⟩
      have hxp : x < p := by rw [hx]; exact hF.out.getD (by omega) k
      have hyp : y < p := by rw [hy]; exact hG.out.getD (by omega) k
      have HV : Hid (H0[k] = (fun a b => (a + T * b) % p) x y) := by
        show _ = _
        have := HH.out
        subst this
        rw [hx, hy, Q.comb_get]
      have hX : ¬ k < m1 → x = 0 := fun h => by rw [hx]; exact Q.getD_out (by have := hN.out.2.1; omega)
      have hY : ¬ k < m2 → y = 0 := fun h => by rw [hy]; exact Q.getD_out (by have := hN.out.2.2; omega)
      have HX : Hid (k < m1 → ∃ b, a1 = some ⟨b, 0, none⟩ ∧ wr.cell? ⟨b, k, none⟩ = some (.int .i64 (x : Int))) := fun h => by
        rcases HC1.out with h0 | ⟨b, hb, hbl, hcl⟩
        · have := hN.out.2.1; omega
        · have hkl : k < F.length := by have := hN.out.2.1; omega
          refine ⟨b, hb, ?_⟩
          rw [HS.out.below.cell (p := ⟨b, k, none⟩) hbl, hcl _ _ (nats_get F k hkl), hx, Q.getD_get hkl]
      have HY : Hid (k < m2 → ∃ b, a2 = some ⟨b, 0, none⟩ ∧ wr.cell? ⟨b, k, none⟩ = some (.int .i64 (y : Int))) := fun h => by
        rcases HC2.out with h0 | ⟨b, hb, hbl, hcl⟩
        · have := hN.out.2.2; omega
        · have hkl : k < G.length := by have := hN.out.2.2; omega
          refine ⟨b, hb, ?_⟩
          rw [HS.out.below.cell (p := ⟨b, k, none⟩) hbl, hcl _ _ (nats_get G k hkl), hy, Q.getD_get hkl]
      clear hx hy
      have hend : Hid (∀ z : Nat, z = (fun a b => (a + T * b) % p) x y → CSt w (wr.setCell ⟨w.heap.size, k, none⟩ (.int .i64 (z : Int))) w.heap.size n (k + 1) H0) := fun z hz => by
        rw [hz, ← HV.out]; exact HS.out.store hkH
      by_cases hk1 : k < m1
      · obtain ⟨b1, rfl, c1⟩ := HX.out hk1
        clear hX
        by_cases hk2 : k < m2
        · obtain ⟨b2, rfl, c2⟩ := HY.out hk2
          clear hY
          go_wp2_with (go_at_call 103; refine (clearJ_is p T x y B B2 _ hp hp2 (by omega) (by omega) hT hBc hBc2).mono ?_; rintro e w' ⟨rfl, rfl⟩)
          go_roundw
          case rel => exact ⟨k + 1, by go_num, by omega, hend.out _ (by simp)⟩
          case measure => simp [intOf]; omega
        · obtain rfl := hY hk2
          have hd2 : decide (k < m2) = false := by simpa using hk2
          clear hY
          go_wp2_with (go_at_call 103; refine (clearJ_is p T x 0 B B2 _ hp hp2 (by omega) (by omega) hT hBc hBc2).mono ?_; rintro e w' ⟨rfl, rfl⟩)
          go_roundw
          case rel => exact ⟨k + 1, by go_num, by omega, hend.out _ (by simp)⟩
          case measure => simp [intOf]; omega
      · obtain rfl := hX hk1
        have hd1 : decide (k < m1) = false := by simpa using hk1
        clear hX
        have hk2 : k < m2 := by rcases HOR.out with h | h <;> omega
        obtain ⟨b2, rfl, c2⟩ := HY.out hk2
        clear hY
        go_wp2_with (go_at_call 103; refine (clearJ_is p T 0 y B B2 _ hp hp2 (by omega) (by omega) hT hBc hBc2).mono ?_; rintro e w' ⟨rfl, rfl⟩)
        go_roundw
        case rel => exact ⟨k + 1, by go_num, by omega, hend.out _ (by simp)⟩
        case measure => simp [intOf]; omega
    · obtain rfl : k = n := by omega
      go_wp2_with (fail)
      go_ret
      exact ⟨⟨_, rfl, HS.out.done⟩, HS.out.below⟩

end Go.Proofs.YtbehihanhfmmhaaGreat
