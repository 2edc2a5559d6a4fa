/- Walks and plain mathematics: PwBase, PwComb, PwCombine, Words, PwProd, PwProduct, PwDiv, PwDivide, PwGcd, PwField, PwApi, PwMore. -/
import Derived.Test.YtbehihanhfmmhaaGreatG03
import Derived.Deep.AppendLies
import Derived.Laws.OwnMore
import Derived.OwnWalk
import Derived.OneCell
import Derived.Outline
import Derived.Below
import Derived.Deep.Draws
import Derived.Lib.Hide
namespace Go.Proofs.YtbehihanhfmmhaaGreat
open Go.RowKit

/-- Lists of ints, and of numbers, as cells. -/
def zs (Z : List Int) : List Value := Z.map fun q => Value.int .i64 q
def nats (F : List Nat) : List Value := F.map fun (q : Nat) => Value.int .i64 (q : Int)

theorem zs_get (Z : List Int) (k : Nat) (h : k < Z.length) : (zs Z)[k]? = some (.int .i64 Z[k]) := by simp [zs, h]
theorem nats_get (F : List Nat) (k : Nat) (h : k < F.length) : (nats F)[k]? = some (.int .i64 (F[k] : Int)) := by simp [nats, h]
theorem nats_zs (F : List Nat) : nats F = zs (F.map fun (x : Nat) => (x : Int)) := by simp [nats, zs]
theorem nats_length (F : List Nat) : (nats F).length = F.length := by simp [nats]
theorem zs_length (Z : List Int) : (zs Z).length = Z.length := by simp [zs]
theorem nats_take (F : List Nat) (n : Nat) : nats (F.take n) = (nats F).take n := by simp [nats]
theorem nats_append (F G : List Nat) : nats (F ++ G) = nats F ++ nats G := by simp [nats]
theorem nats_set (F : List Nat) (i x : Nat) : nats (F.set i x) = (nats F).set i (.int .i64 (x : Int)) := by simp [nats, List.map_set]

theorem ret_bb {a b : Bool} (h : a = b) : Ending.returned (.bool a) = .returned (.bool b) := by rw [h]
theorem ret_sl {a : Option Addr} {n m c : Nat} (h : n = m) : Ending.returned (.slice a n c) = .returned (.slice a m c) := by rw [h]

/-! ### Coefficients -/
theorem isCoefficient_is (p c : Int) (t : Bool) (w : World) (ht : Hid ((decide (0 ≤ c) && decide (c < p)) = t)) :
    Calls Tryz.prog 58 #[.int .i64 p, .int .i64 c] w fun x w' => x = .returned (.bool t) ∧ w = w' := by
  by_cases h0 : 0 ≤ c
  · have hd : decide (0 ≤ c) = true := by simpa using h0
    go_enter Tryz.func58, Tryz.ntmps58
    go_wp2_with (fail)
    go_ret
    have := ht.out
    rw [hd, Bool.true_and] at this
    exact ⟨ret_bb this, rfl⟩
  · have hd : decide (0 ≤ c) = false := by simpa using h0
    go_enter Tryz.func58, Tryz.ntmps58
    go_wp2_with (fail)
    go_ret
    have := ht.out
    rw [hd, Bool.false_and] at this
    exact ⟨ret_bb this, rfl⟩

/-- What Go's isPoly asks. -/
def polyB (p : Int) (Z : List Int) : Bool := decide (Z.length ≤ 33) && (Z.all (fun c => decide (0 ≤ c) && decide (c < p)) && (Z.length == 0 || Z.getD (Z.length - 1) 0 != 0))

set_option maxRecDepth 100000 in
set_option maxHeartbeats 1000000 in
theorem isPoly_is (p : Int) (v : Value) (Z : List Int) (t : Bool) (w : World) (hr : Hid (Rd w v 1 Z.length (zs Z))) (hlen : Z.length ≤ 1000000) (ht : Hid (polyB p Z = t)) :
    Calls Tryz.prog 33 #[.int .i64 p, v] w fun x w' => x = .returned (.bool t) ∧ w = w' := by
  obtain ⟨_, a, cap, hv, hcap, hcell⟩ := hr.out
  subst hv
  have HC := Lib.hid hcell
  clear hcell hr
  obtain ⟨m, hm⟩ : ∃ m, m = Z.length := ⟨_, rfl⟩
  have HM := Lib.hid hm
  rw [← hm] at hcap hlen ⊢
  clear hm
  by_cases h33 : m ≤ 33
  · have hd : decide ((33 : Int) < (m : Int)) = false := by simp; omega
    go_enter Tryz.func33, Tryz.ntmps33
    go_wp2_with (fail)
    go_loop [12] (fun i => ∃ (k : Nat), i = .int .i64 k ∧ k ≤ m ∧ Hid (∀ j (h : j < Z.length), j < k → 0 ≤ Z[j] ∧ Z[j] < p)) (fun i => m - (intOf i).toNat)
    case atStart => exact ⟨0, rfl, by omega, fun j _ hj => by omega⟩
    case round =>
      obtain ⟨k, rfl, hk, HK⟩ := hrel
      by_cases hlt : k < m
      · rcases HC.out with h0 | ⟨b, rfl, hb, hcell⟩
        · have := HM.out; omega
        have hkl : k < Z.length := by have := HM.out; omega
        have c0 : w.cell? ⟨b, k, none⟩ = some (.int .i64 Z[k]) := hcell _ _ (zs_get Z k hkl)
        clear hcell
        obtain ⟨c, hck⟩ : ∃ c, c = Z[k] := ⟨_, rfl⟩
        rw [← hck] at c0
        have HCK := Lib.hid hck
        clear hck
        by_cases hin : 0 ≤ c ∧ c < p
        · have HIN := Lib.hid hin
          have HB : Hid ((decide (0 ≤ c) && decide (c < p)) = true) := by show _ = _; simp [hin.1, hin.2]
          clear hin
          go_wp2_with (go_at_call 58; refine (isCoefficient_is _ _ _ _ HB).mono ?_; rintro e w' ⟨rfl, rfl⟩)
          go_round
          case rel =>
            refine ⟨k + 1, by go_num, by omega, fun j hj hjk => ?_⟩
            by_cases e1 : j = k
            · subst e1; rw [← HCK.out]; exact HIN.out
            · exact HK.out j hj (by omega)
          case measure => simp [intOf]; omega
        · have HB : Hid ((decide (0 ≤ c) && decide (c < p)) = false) := by
            show _ = _
            rw [Bool.eq_false_iff]; intro h; simp at h; exact hin h
          have hf : Hid (t = false) := by
            show _ = _
            rw [← ht.out, polyB]
            have : (Z.all fun c => decide (0 ≤ c) && decide (c < p)) = false := by
              rw [List.all_eq_false]
              exact ⟨Z[k], List.getElem_mem hkl, by rw [← HCK.out, HB.out]; simp⟩
            rw [this]; simp
          clear hin
          go_wp2_with (go_at_call 58; refine (isCoefficient_is _ _ _ _ HB).mono ?_; rintro e w' ⟨rfl, rfl⟩)
          go_ret
          exact ⟨ret_bb hf.out.symm, rfl⟩
      · obtain rfl : k = m := by omega
        have hall : Hid ((Z.all fun c => decide (0 ≤ c) && decide (c < p)) = true) := by
          show _ = _
          rw [List.all_eq_true]
          intro x hx
          obtain ⟨j, hj, rfl⟩ := List.getElem_of_mem hx
          have := HK.out j hj (by have := HM.out; omega)
          simp [this.1, this.2]
        by_cases h0 : k = 0
        · have hz : ((k : Int) == 0) = true := by simp [h0]
          have hf : Hid (t = true) := by
            show _ = _
            have h1 := HM.out
            have h2 : (Z.length == 0) = true := by rw [beq_iff_eq]; omega
            have h3 : decide (Z.length ≤ 33) = true := decide_eq_true (by omega)
            rw [← ht.out, polyB, hall.out, h2, h3]; rfl
          clear h0
          go_wp2_with (fail)
          go_ret
          exact ⟨ret_bb hf.out.symm, rfl⟩
        · have hz : ((k : Int) == 0) = false := by simp; omega
          rcases HC.out with h1 | ⟨b, rfl, hb, hcell⟩
          · have := HM.out; omega
          have hkl : k - 1 < Z.length := by have := HM.out; omega
          have c0 : w.cell? ⟨b, k - 1, none⟩ = some (.int .i64 Z[k - 1]) := hcell _ _ (zs_get Z (k - 1) hkl)
          clear hcell
          obtain ⟨c, hck⟩ : ∃ c, c = Z[k - 1] := ⟨_, rfl⟩
          rw [← hck] at c0
          have hf : Hid (t = (c != 0)) := by
            show _ = _
            have h1 := HM.out
            have h2 : Z.getD (k - 1) 0 = c := by rw [hck]; simp [List.getD, hkl]
            rw [← ht.out, polyB, hall.out, ← h1, h2]
            have h3 : (k == 0) = false := by simpa using h0
            simp [h3, h33]
          clear hck
          have hk1 : (0 : Int) ≤ (k : Int) - 1 := by omega
          have hk2 : ((k : Int) - 1).toNat = k - 1 := by omega
          go_wp2_with (fail)
          go_ret
          exact ⟨ret_bb hf.out.symm, rfl⟩
  · have hd : decide ((33 : Int) < (m : Int)) = true := by simp; omega
    have hf : Hid (t = false) := by
      show _ = _
      have h1 := HM.out
      rw [← ht.out, polyB]
      have : decide (Z.length ≤ 33) = false := by simp; omega
      rw [this]; simp
    go_enter Tryz.func33, Tryz.ntmps33
    go_wp2_with (fail)
    go_ret
    exact ⟨ret_bb hf.out.symm, rfl⟩

end Go.Proofs.YtbehihanhfmmhaaGreat

namespace Go.Proofs.YtbehihanhfmmhaaGreat
open Go.RowKit

theorem Tryz.infoZ : (Tryz.prog.info? 3).map (fun i => (i.zero, i.size, i.bytes)) = some (some (.int .i64 0), 1, 8) := by kernel_rfl

set_option maxRecDepth 100000 in
set_option maxHeartbeats 1000000 in
theorem trim_is (F : List Nat) (a : Option Addr) (m cap : Nat) (w : World) (hm : Hid (m = F.length)) (hr : Hid (Rd w (.slice a m cap) 1 F.length (nats F))) (hlen : m ≤ 1000000) (hc : m ≤ cap) (hc2 : cap ≤ 9223372036854775807) :
    Calls Tryz.prog 60 #[.slice a m cap] w fun x w' => x = .returned (.slice a (Q.trimLen F) cap) ∧ w = w' := by
  have HL := Lib.hid (Q.trimLen_le F)
  obtain ⟨_, a', cap', hv, hcap, hcell⟩ := hr.out
  have HC := Lib.hid hcell
  have HV := Lib.hid hv
  clear hcell hr hv hcap
  go_enter Tryz.func60, Tryz.ntmps60
  go_wp2_with (fail)
  go_loop [3] (fun i => ∃ (k : Nat), i = .int .i64 k ∧ k ≤ m ∧ Hid (∀ j, k ≤ j → F.getD j 0 = 0)) (fun i => (intOf i).toNat)
  case atStart => exact ⟨m, rfl, by omega, fun j hj => Q.getD_out (by have := hm.out; omega)⟩
  case round =>
    obtain ⟨k, rfl, hk, HK⟩ := hrel
    by_cases h0 : 0 < k
    · have hd : decide (0 < k) = true := by simpa using h0
      rcases HC.out with h1 | ⟨b, hb1, hb, hcell⟩
      · have := hm.out; omega
      have ha : a = some ⟨b, 0, none⟩ := by have := HV.out; simp only [Value.slice.injEq] at this; rw [this.1]; exact hb1
      subst ha
      have hkl : k - 1 < F.length := by have := hm.out; omega
      have c0 : w.cell? ⟨b, k - 1, none⟩ = some (.int .i64 (F[k - 1] : Int)) := hcell _ _ (nats_get F (k - 1) hkl)
      obtain ⟨c, hck⟩ : ∃ c, c = F[k - 1] := ⟨_, rfl⟩
      rw [← hck] at c0
      have HCK : Hid (F.getD (k - 1) 0 = c) := by show _ = _; rw [hck]; exact Q.getD_get hkl
      have hk1 : (0 : Int) ≤ (k : Int) - 1 := by omega
      have hk2 : ((k : Int) - 1).toNat = k - 1 := by omega
      clear hcell hck hb1
      by_cases hc0 : c = 0
      · have hz : ((c : Int) == 0) = true := by simp [hc0]
        have HZ := Lib.hid hc0
        clear hc0
        go_wp2_with (fail)
        go_round
        case rel =>
          refine ⟨k - 1, by have : ((k - 1 : Nat) : Int) = (k : Int) - 1 := by omega
                            rw [this], by omega, fun j hj => ?_⟩
          by_cases e1 : j = k - 1
          · subst e1; rw [HCK.out, HZ.out]
          · exact HK.out j (by omega)
        case measure => simp [intOf]; omega
      · have hz : ((c : Int) == 0) = false := by simp; omega
        have HT : Hid (Q.trimLen F = k) := by
          refine Q.trimLen_eq HK.out (.inr ?_)
          rw [HCK.out]; exact hc0
        clear hc0
        go_wp2_with (fail)
        go_ret
        exact ⟨ret_sl HT.out.symm, rfl⟩
    · obtain rfl : k = 0 := by omega
      have HT : Hid (Q.trimLen F = 0) := Q.trimLen_eq HK.out (.inl rfl)
      go_wp2_with (fail)
      go_ret
      exact ⟨ret_sl HT.out.symm, rfl⟩

/-! ### The closures -/
theorem mod_nat (a p : Nat) : ((a : Int) % (p : Int)) = ((a % p : Nat) : Int) := rfl

theorem subJ_is (p x y B : Nat) (w : World) (hp : 2 ≤ p) (hp2 : p ≤ 1021) (hx : x < p) (hy : y < p) (hc : w.cell? ⟨B, 0, none⟩ = some (.int .i64 (p : Int))) :
    Calls Tryz.prog 79 #[.int .i64 x, .int .i64 y, .pointer (some ⟨B, 0, none⟩)] w fun e w' => e = .returned (.int .i64 (((x + p - y) % p : Nat) : Int)) ∧ w = w' := by
  have hz : ((p : Int) == 0) = false := by simp; omega
  have h0 : 0 ≤ (x : Int) - (y : Int) + (p : Int) := by omega
  go_enter Tryz.func79, Tryz.ntmps79
  go_wp2_with (fail)
  go_ret
  exact ⟨ret_i (by rw [← mod_nat]; congr 1; omega), rfl⟩

end Go.Proofs.YtbehihanhfmmhaaGreat

namespace Go.Proofs.YtbehihanhfmmhaaGreat
open Go.RowKit

theorem below_of_grown {w w' : World} (h : w.grownBy w' none) : Below w.heap.size w w' := ⟨h.os, h.tape, h.output, h.size, fun b hb => h.block b hb (by simp)⟩

/-- A list under way: its first k numbers lie in block g, then zeros. -/
structure CSt (w wr : World) (g n k : Nat) (H : List Nat) : Prop where
  own : wr.ownsRow w.heap.size 3 1 (.slice (some ⟨g, 0, none⟩) n n) n (nats (H.take k ++ List.replicate (n - k) 0))
  below : Below w.heap.size w wr
  len : H.length = n

theorem CSt.cell {w wr : World} {g n k : Nat} {H : List Nat} (h : CSt w wr g n k H) (hk : k < n) : wr.cell? ⟨g, k, none⟩ = some (.int .i64 0) := by
  rw [h.own.cellAt k (by omega)]
  have := h.len
  simp [nats, List.getElem?_append, List.getElem?_replicate]
  rw [if_neg (by omega), if_pos (by omega)]

theorem CSt.free {w wr : World} {g n k : Nat} {H : List Nat} (h : CSt w wr g n k H) (j : Nat) : wr.frozen? ⟨g, j, none⟩ = false := h.own.frozenAt j

theorem CSt.store {w wr : World} {g n k : Nat} {H : List Nat} (h : CSt w wr g n k H) (hk : k < H.length) : CSt w (wr.setCell ⟨g, k, none⟩ (.int .i64 (H[k] : Int))) g n (k + 1) H := by
  have hl := h.len
  have hg : w.heap.size ≤ g := (h.own.lt g rfl).1
  refine ⟨?_, h.below.trans ((Below.refl _ _).setCell hg _), h.len⟩
  have := (h.own.stored k (.int .i64 (H[k] : Int))).1
  rw [← nats_set] at this
  have e : (H.take k ++ List.replicate (n - k) 0).set k H[k] = H.take (k + 1) ++ List.replicate (n - (k + 1)) 0 := by
    rw [List.set_append, if_neg (by rw [List.length_take]; omega), List.length_take, show k - min k H.length = 0 by omega, List.take_succ_eq_append_getElem hk, show n - k = n - (k + 1) + 1 by omega, List.replicate_succ, List.set_cons_zero, List.append_assoc]
    rfl
  rw [e] at this
  exact this

theorem CSt.done {w wr : World} {g n : Nat} {H : List Nat} (h : CSt w wr g n n H) : wr.ownsRow w.heap.size 3 1 (.slice (some ⟨g, 0, none⟩) n n) n (nats H) := by
  have := h.own
  rw [Nat.sub_self, List.replicate_zero, List.append_nil, List.take_of_length_le (by rw [h.len]; omega)] at this
  exact this

set_option maxRecDepth 100000 in
set_option maxHeartbeats 2000000 in
theorem combDif_is (p B : Nat) (F G : List Nat) (v1 v2 : Value) (w : World) (hp : 2 ≤ p) (hp2 : p ≤ 1021) (h1 : Hid (Rd w v1 1 F.length (nats F))) (h2 : Hid (Rd w v2 1 G.length (nats G)))
    (hF : Hid (Q.Red p F)) (hG : Hid (Q.Red p G)) (hl1 : F.length ≤ 1000000) (hl2 : G.length ≤ 1000000) (hc : w.cell? ⟨B, 0, none⟩ = some (.int .i64 (p : Int))) :
    Calls Tryz.prog 78 #[v1, v2, .int .i64 0, .func (.func 79) #[] #[.pointer (some ⟨B, 0, none⟩)]] w fun x w' => (∃ v, x = .returned v ∧ w'.ownsRow w.heap.size 3 1 v (Q.comb (fun a b => (a + p - b) % p) F G).length (nats (Q.comb (fun a b => (a + p - b) % p) F G))) ∧ Below w.heap.size w w' := by
  obtain ⟨_, a1, cap1, rfl, hcap1, hcell1⟩ := h1.out
  obtain ⟨_, a2, cap2, rfl, hcap2, hcell2⟩ := h2.out
  have HC1 := Lib.hid hcell1
  have HC2 := Lib.hid hcell2
  clear hcell1 hcell2 h1 h2
  obtain ⟨H0, hH0⟩ : ∃ H0, Q.comb (fun a b => (a + p - b) % p) F G = H0 := ⟨_, rfl⟩
  have HH := Lib.hid hH0
  rw [hH0]
  have hn : max F.length G.length = H0.length := by rw [← hH0, Q.comb_length]
  clear hH0
  obtain ⟨n, hnn⟩ : ∃ n, n = H0.length := ⟨_, rfl⟩
  obtain ⟨m1, hm1⟩ : ∃ m1, m1 = F.length := ⟨_, rfl⟩
  obtain ⟨m2, hm2⟩ : ∃ m2, m2 = G.length := ⟨_, rfl⟩
  rw [← hm1, ← hm2, ← hnn] at hn
  have hN := Lib.hid (And.intro hnn (And.intro hm1 hm2))
  rw [← hnn]
  rw [← hm1] at hl1 hcap1 ⊢
  rw [← hm2] at hl2 hcap2 ⊢
  clear hnn hm1 hm2
  have hb1 : m1 ≤ n := by omega
  have hb2 : m2 ≤ n := by omega
  have hb3 : n ≤ 1000000 := by omega
  have hmx : (if m1 < m2 then (m2 : Int) else (m1 : Int)) = (n : Int) := by split <;> omega
  have hor : n = m1 ∨ n = m2 := by omega
  have HOR := Lib.hid hor
  clear hn hor
  obtain ⟨i0, hi, hz0, hz1, hz2⟩ := info_parts Tryz.infoZ
  have hBl : B < w.heap.size := World.block_lt_of_cell? w _ hc
  have hcB := Lib.hid hc
  
  clear hc
  go_enter Tryz.func78, Tryz.ntmps78
  go_wp2_with (at_make; refine wpList_make_full _ rfl _ _ 22 rfl w.heap.size 3 i0 (.int .i64 0) 1 Tryz.underlying22 hi hz0 hz1 .i64 .i64 _ _ n rfl rfl rfl rfl (by rw [hz2]; omega) (by unfold maxLen; omega) (Nat.le_refl _) ?_)
  intro w0 hown0 hgrow0
  have hB0 := below_of_grown hgrow0
  have hst : Hid (CSt w w0 w.heap.size n 0 H0) := ⟨by simpa [Value.cells, toList_madeCells_one, nats] using hown0, hB0, by have := hN.out.1; omega⟩
  clear hown0 hgrow0 hB0
  go_wp2_with (fail)
  go_loopw [21] (fun i wr => ∃ (k : Nat), i = .int .i64 k ∧ k ≤ n ∧ Hid (CSt w wr w.heap.size n k H0)) (fun i _ => n - (intOf i).toNat)
  case atStart => exact ⟨0, rfl, by omega, hst⟩
  case round =>
    obtain ⟨k, rfl, hk, HS⟩ := hrel
    by_cases hlt : k < n
    · have hcell := HS.out.cell hlt
      have hfr := HS.out.free k
      have hBc : wr.cell? ⟨B, 0, none⟩ = some (.int .i64 (p : Int)) := by rw [HS.out.below.cell (p := ⟨B, 0, none⟩) hBl]; exact hcB.out
      
      have hkH : k < H0.length := by have := hN.out.1; omega
      obtain ⟨x, hx⟩ : ∃ x, x = F.getD k 0 := ⟨_, rfl⟩
      obtain ⟨y, hy⟩ : ∃ y, y = G.getD k 0 := ⟨_, rfl⟩
      have hxp : x < p := by rw [hx]; exact hF.out.getD (by omega) k
      have hyp : y < p := by rw [hy]; exact hG.out.getD (by omega) k
      have HV : Hid (H0[k] = (fun a b => (a + p - b) % p) x y) := by
        show _ = _
        have := HH.out
        subst this
        rw [hx, hy, Q.comb_get]
      have hX : ¬ k < m1 → x = 0 := fun h => by rw [hx]; exact Q.getD_out (by have := hN.out.2.1; omega)
      have hY : ¬ k < m2 → y = 0 := fun h => by rw [hy]; exact Q.getD_out (by have := hN.out.2.2; omega)
      have HX : Hid (k < m1 → ∃ b, a1 = some ⟨b, 0, none⟩ ∧ wr.cell? ⟨b, k, none⟩ = some (.int .i64 (x : Int))) := fun h => by
        rcases HC1.out with h0 | ⟨b, hb, hbl, hcl⟩
        · have := hN.out.2.1; omega
        · have hkl : k < F.length := by have := hN.out.2.1; omega
          refine ⟨b, hb, ?_⟩
          rw [HS.out.below.cell (p := ⟨b, k, none⟩) hbl, hcl _ _ (nats_get F k hkl), hx, Q.getD_get hkl]
      have HY : Hid (k < m2 → ∃ b, a2 = some ⟨b, 0, none⟩ ∧ wr.cell? ⟨b, k, none⟩ = some (.int .i64 (y : Int))) := fun h => by
        rcases HC2.out with h0 | ⟨b, hb, hbl, hcl⟩
        · have := hN.out.2.2; omega
        · have hkl : k < G.length := by have := hN.out.2.2; omega
          refine ⟨b, hb, ?_⟩
          rw [HS.out.below.cell (p := ⟨b, k, none⟩) hbl, hcl _ _ (nats_get G k hkl), hy, Q.getD_get hkl]
      clear hx hy
      have hend : Hid (∀ z : Nat, z = (fun a b => (a + p - b) % p) x y → CSt w (wr.setCell ⟨w.heap.size, k, none⟩ (.int .i64 (z : Int))) w.heap.size n (k + 1) H0) := fun z hz => by
        rw [hz, ← HV.out]; exact HS.out.store hkH
      by_cases hk1 : k < m1
      · obtain ⟨b1, rfl, c1⟩ := HX.out hk1
        clear hX
        by_cases hk2 : k < m2
        · obtain ⟨b2, rfl, c2⟩ := HY.out hk2
          clear hY
          go_wp2_with (go_at_call 79; refine (subJ_is p x y B _ hp hp2 (by omega) (by omega) hBc).mono ?_; rintro e w' ⟨rfl, rfl⟩)
          go_roundw
          case rel => exact ⟨k + 1, by go_num, by omega, hend.out _ (by simp)⟩
          case measure => simp [intOf]; omega
        · obtain rfl := hY hk2
          have hd2 : decide (k < m2) = false := by simpa using hk2
          clear hY
          go_wp2_with (go_at_call 79; refine (subJ_is p x 0 B _ hp hp2 (by omega) (by omega) hBc).mono ?_; rintro e w' ⟨rfl, rfl⟩)
          go_roundw
          case rel => exact ⟨k + 1, by go_num, by omega, hend.out _ (by simp)⟩
          case measure => simp [intOf]; omega
      · obtain rfl := hX hk1
        have hd1 : decide (k < m1) = false := by simpa using hk1
        clear hX
        have hk2 : k < m2 := by rcases HOR.out with h | h <;> omega
        obtain ⟨b2, rfl, c2⟩ := HY.out hk2
        clear hY
        go_wp2_with (go_at_call 79; refine (subJ_is p 0 y B _ hp hp2 (by omega) (by omega) hBc).mono ?_; rintro e w' ⟨rfl, rfl⟩)
        go_roundw
        case rel => exact ⟨k + 1, by go_num, by omega, hend.out _ (by simp)⟩
        case measure => simp [intOf]; omega
    · obtain rfl : k = n := by omega
      go_wp2_with (fail)
      go_ret
      exact ⟨⟨_, rfl, HS.out.done⟩, HS.out.below⟩

end Go.Proofs.YtbehihanhfmmhaaGreat

namespace Go.Proofs.YtbehihanhfmmhaaGreat
open Go.RowKit

theorem own_cut {w : World} {base size n k cap : Nat} {e : TypeId} {a : Option Addr} {xs : List Value} (h : w.ownsRow base e size (.slice a n cap) n xs) (hk : k ≤ n) :
    w.ownsRow base e size (.slice a k cap) k (xs.take (k * size)) := by
  have hl := h.1
  have hks : k * size ≤ n * size := Nat.mul_le_mul_right _ hk
  refine ⟨by rw [List.length_take]; omega, ?_⟩
  rcases h.2 with ⟨h1, h2⟩ | ⟨g, cap', cur, h1, h2, h3, h4, h5, h6, h7⟩
  · injection h1 with h1 h3 h4
    subst h1 h4
    obtain rfl : k = 0 := by omega
    exact .inl ⟨rfl, rfl⟩
  · injection h1 with h1 h8 h9
    subst h1 h9
    exact .inr ⟨g, cap, cur, rfl, h2, h3, by omega, h5, h6, by rw [← h7, List.take_take]; congr 1; omega⟩

theorem own_base {w : World} {base b size n : Nat} {e : TypeId} {v : Value} {xs : List Value} (h : w.ownsRow base e size v n xs) (hb : b ≤ base) : w.ownsRow b e size v n xs := by
  refine ⟨h.1, ?_⟩
  rcases h.2 with h2 | ⟨g, cap, cur, h3, h4, h5⟩
  · exact .inl h2
  · exact .inr ⟨g, cap, cur, h3, by omega, h5⟩

theorem own_form {w : World} {base size n : Nat} {e : TypeId} {v : Value} {xs : List Value} (h : w.ownsRow base e size v n xs) : ∃ a cap, v = .slice a n cap ∧ n ≤ cap ∧ cap ≤ 9223372036854775807 ∧ (0 < n → ∃ g, a = some ⟨g, 0, none⟩ ∧ base ≤ g ∧ g < w.heap.size) := by
  rcases h.2 with ⟨h1, h2⟩ | ⟨g, cap', cur, h1, h2, h3, h4, h5, h6, h7⟩
  · subst h2; exact ⟨none, 0, h1, Nat.le_refl _, by omega, fun h => by omega⟩
  · unfold maxLen at h5
    exact ⟨_, cap', h1, h4, h5, fun _ => ⟨g, rfl, h2, (Array.getElem?_eq_some_iff.1 h3).1⟩⟩

/-- Memory that Below leaves alone: a row that lay below. -/
theorem own_low {w w' : World} {base size n B : Nat} {e : TypeId} {v : Value} {xs : List Value} (h : w.ownsRow base e size v n xs) (hB : Below B w w') (hlt : ∀ g, v.ownBlock = some g → g < B) : w'.ownsRow base e size v n xs := by
  refine ⟨h.1, ?_⟩
  rcases h.2 with h2 | ⟨g, cap, cur, h3, h4, h5, h6⟩
  · exact .inl h2
  · exact .inr ⟨g, cap, cur, h3, h4, by rw [hB.block g (hlt g (by rw [h3]; rfl))]; exact h5, h6⟩

theorem own_kept {w w' : World} {base size n : Nat} {e : TypeId} {v : Value} {xs : List Value} (h : w.ownsRow base e size v n xs) (hB : Below w.heap.size w w') : w'.ownsRow base e size v n xs :=
  own_low h hB fun g hg => (h.lt g hg).2

end Go.Proofs.YtbehihanhfmmhaaGreat

namespace Go.Proofs.YtbehihanhfmmhaaGreat
open Go.RowKit

/-- A new list of numbers. -/
def NewL (w w' : World) (v : Value) (F : List Nat) : Prop := w'.ownsRow w.heap.size 3 1 v F.length (nats F)

theorem NewL.rd {w w' : World} {v : Value} {F : List Nat} (h : NewL w w' v F) : Rd w' v 1 F.length (nats F) := Rd.of_own h
theorem NewL.from {w0 w w' : World} {v : Value} {F : List Nat} (h : NewL w w' v F) (hb : w0.heap.size ≤ w.heap.size) : NewL w0 w' v F := own_base h hb
theorem NewL.keep {w w1 w2 : World} {v : Value} {F : List Nat} (h : NewL w w1 v F) (hB : Below w1.heap.size w1 w2) : NewL w w2 v F := own_kept h hB
theorem NewL.nil (w w' : World) : NewL w w' (.slice none 0 0) [] := World.ownsRow_nil _ _ _ _

/-- What a function that makes one new list returns. -/
def RetL (w : World) (F : List Nat) (x : Ending) (w' : World) : Prop := (∃ v, x = .returned v ∧ NewL w w' v F) ∧ Below w.heap.size w w'

theorem trim_ret {w w1 : World} {v : Value} {H : List Nat} (h : w1.ownsRow w.heap.size 3 1 v H.length (nats H)) (hl : H.length ≤ 1000000) (hB : Below w.heap.size w w1) :
    ∃ a cap, v = .slice a H.length cap ∧ Calls Tryz.prog 60 #[.slice a H.length cap] w1 fun x w' => (x = .returned (.slice a (Q.trimLen H) cap) ∧ NewL w w1 (.slice a (Q.trimLen H) cap) (Q.trim H) ∧ Below w.heap.size w w1) ∧ w1 = w' := by
  obtain ⟨a, cap, rfl, hc1, hc2, _⟩ := own_form h
  refine ⟨a, cap, rfl, (trim_is H a H.length cap w1 rfl (Rd.of_own h) hl hc1 hc2).mono fun x w' ⟨h1, h2⟩ => ⟨⟨h1, ?_, hB⟩, h2⟩⟩
  have := own_cut h (Q.trimLen_le H)
  rw [Nat.mul_one, ← nats_take] at this
  unfold NewL
  rw [Q.trim_length]
  exact this

set_option maxRecDepth 100000 in
set_option maxHeartbeats 1000000 in
theorem difference_is (p : Nat) (F G : List Nat) (v1 v2 : Value) (w : World) (hp : 2 ≤ p) (hp2 : p ≤ 1021) (h1 : Hid (Rd w v1 1 F.length (nats F))) (h2 : Hid (Rd w v2 1 G.length (nats G)))
    (hF : Hid (Q.Red p F)) (hG : Hid (Q.Red p G)) (hl1 : F.length ≤ 1000000) (hl2 : G.length ≤ 1000000) :
    Calls Tryz.prog 65 #[.int .i64 p, v1, v2] w (RetL w (Q.difP p F G)) := by
  have hA : Below w.heap.size w (w.alloc (.cells #[.int .i64 (p : Int)] 3)) := (Below.refl _ _).alloc (Nat.le_refl _) _
  have h1' : Hid (Rd (w.alloc (.cells #[.int .i64 (p : Int)] 3)) v1 1 F.length (nats F)) := h1.out.below hA (Nat.le_refl _)
  have h2' : Hid (Rd (w.alloc (.cells #[.int .i64 (p : Int)] 3)) v2 1 G.length (nats G)) := h2.out.below hA (Nat.le_refl _)
  have HA := Lib.hid hA
  clear hA
  go_enter Tryz.func65, Tryz.ntmps65
  go_wp2_with (fail)
  refine (combDif_is p w.heap.size F G v1 v2 _ hp hp2 h1' h2' hF hG hl1 hl2 (by simp)).mono ?_
  rintro e w1 ⟨⟨v, rfl, hown⟩, hB⟩
  have hB' := Lib.hid (HA.out.trans (hB.mono (by simp)))
  have hown' := own_base hown (show w.heap.size ≤ _ by simp)
  obtain ⟨a, cap, rfl, HT⟩ := trim_ret hown' (by rw [Q.comb_length]; omega) hB'.out
  clear hown hown' hB
  go_wp2_with (fail)
  refine HT.mono ?_
  rintro e w2 ⟨⟨rfl, hN, hBB⟩, rfl⟩
  have HN := Lib.hid (And.intro hN hBB)
  clear hN hBB
  go_wp2_with (fail)
  go_ret
  exact ⟨⟨_, rfl, HN.out.1⟩, HN.out.2⟩

/-! ### A list of numbers that is written in place -/
structure RSt (w wr : World) (g n cap : Nat) (H : List Nat) : Prop where
  own : wr.ownsRow w.heap.size 3 1 (.slice (some ⟨g, 0, none⟩) n cap) n (nats H)
  below : Below w.heap.size w wr

theorem RSt.len {w wr : World} {g n cap : Nat} {H : List Nat} (h : RSt w wr g n cap H) : H.length = n := by have := h.own.1; rw [nats_length] at this; omega
theorem RSt.cell {w wr : World} {g n cap : Nat} {H : List Nat} (h : RSt w wr g n cap H) {j : Nat} (hj : j < n) : wr.cell? ⟨g, j, none⟩ = some (.int .i64 (H.getD j 0 : Nat)) := by
  have hl := h.len
  rw [h.own.cellAt j (by omega), nats_get H j (by omega), Q.getD_get (by omega)]
theorem RSt.free {w wr : World} {g n cap : Nat} {H : List Nat} (h : RSt w wr g n cap H) (j : Nat) : wr.frozen? ⟨g, j, none⟩ = false := h.own.frozenAt j
theorem RSt.set {w wr : World} {g n cap : Nat} {H : List Nat} (h : RSt w wr g n cap H) (j x : Nat) : RSt w (wr.setCell ⟨g, j, none⟩ (.int .i64 (x : Int))) g n cap (H.set j x) := by
  have hg : w.heap.size ≤ g := (h.own.lt g rfl).1
  refine ⟨?_, h.below.trans ((Below.refl _ _).setCell hg _)⟩
  rw [nats_set]
  exact (h.own.stored j _).1
theorem RSt.other {w wr : World} {g n cap : Nat} {H : List Nat} (h : RSt w wr g n cap H) {g' j : Nat} (hg' : w.heap.size ≤ g') (hne : g ≠ g') (u : Value) : RSt w (wr.setCell ⟨g', j, none⟩ u) g n cap H := by
  refine ⟨?_, h.below.trans ((Below.refl _ _).setCell hg' _)⟩
  refine ⟨h.own.1, ?_⟩
  rcases h.own.2 with h2 | ⟨k, cp, cur, h3, h4, h5, h6⟩
  · exact .inl h2
  · refine .inr ⟨k, cp, cur, h3, h4, ?_, h6⟩
    have : k = g := by injection h3 with h3; injection h3 with h3; injection h3 with h3; exact h3.symm
    subst this
    rw [heap_setCell_other wr _ _ _ hne]
    exact h5
theorem RSt.new {w wr : World} {g n cap : Nat} {H : List Nat} (h : RSt w wr g n cap H) : NewL w wr (.slice (some ⟨g, 0, none⟩) n cap) H := by
  unfold NewL; rw [h.len]; exact h.own
theorem RSt.low {w wr wx : World} {g n cap : Nat} {H : List Nat} (h : RSt w wr g n cap H) (hB : Below wr.heap.size wr wx) : RSt w wx g n cap H :=
  ⟨own_kept h.own hB, h.below.trans (hB.mono h.below.size)⟩

theorem nats_zeros (n : Nat) : (madeCells #[Value.int .i64 0] n).toList = nats (List.replicate n 0) := by
  simp [toList_madeCells_one, nats]

/-- The product under way: i numbers of f are through, and j of the next. -/
def Q.prodAt (p : Nat) (f g : List Nat) (i j : Nat) : List Nat :=
  (List.range (f.length + g.length - 1)).map fun m => (Q.conv f g m i + if i ≤ m ∧ m - i < j then f.getD i 0 * g.getD (m - i) 0 else 0) % p

theorem Q.prodAt_length (p : Nat) (f g : List Nat) (i j : Nat) : (Q.prodAt p f g i j).length = f.length + g.length - 1 := by simp [Q.prodAt]
theorem Q.prodAt_getD (p : Nat) (f g : List Nat) (i j m : Nat) (h : m < f.length + g.length - 1) : (Q.prodAt p f g i j).getD m 0 = (Q.conv f g m i + if i ≤ m ∧ m - i < j then f.getD i 0 * g.getD (m - i) 0 else 0) % p := by
  rw [Q.getD_get (by rw [Q.prodAt_length]; exact h)]; simp [Q.prodAt]
theorem Q.prodAt_zero (p : Nat) (f g : List Nat) : Q.prodAt p f g 0 0 = List.replicate (f.length + g.length - 1) 0 := by
  apply List.ext_getElem
  · simp [Q.prodAt]
  · intro i h1 h2; simp [Q.prodAt, Q.conv]
theorem Q.prodAt_step (p : Nat) (f g : List Nat) (i j : Nat) (_hi : i < f.length) (_hj : j < g.length) :
    (Q.prodAt p f g i j).set (i + j) (((Q.prodAt p f g i j).getD (i + j) 0 + f.getD i 0 * g.getD j 0) % p) = Q.prodAt p f g i (j + 1) := by
  refine Q.ext_getD (by simp [Q.prodAt_length]) fun m hm => ?_
  rw [List.length_set, Q.prodAt_length] at hm
  rw [Q.prodAt_getD _ _ _ _ _ _ hm, List.getD_eq_getElem?_getD, List.getElem?_set]
  split
  · next h =>
    subst h
    rw [if_pos (by rw [Q.prodAt_length]; omega), Q.prodAt_getD _ _ _ _ _ _ (by omega), if_neg (by omega), if_pos (by omega), show i + j - i = j by omega]
    simp
  · next h =>
    rw [← List.getD_eq_getElem?_getD, Q.prodAt_getD _ _ _ _ _ _ hm]
    by_cases h2 : i ≤ m ∧ m - i < j
    · rw [if_pos h2, if_pos (by omega)]
    · rw [if_neg h2, if_neg (by omega)]
theorem Q.prodAt_next (p : Nat) (f g : List Nat) (i : Nat) : Q.prodAt p f g i g.length = Q.prodAt p f g (i + 1) 0 := by
  refine Q.ext_getD (by simp [Q.prodAt_length]) fun m hm => ?_
  rw [Q.prodAt_length] at hm
  rw [Q.prodAt_getD _ _ _ _ _ _ hm, Q.prodAt_getD _ _ _ _ _ _ hm, Q.conv]
  congr 1
  by_cases h1 : i ≤ m
  · by_cases h2 : m - i < g.length
    · rw [if_pos ⟨h1, h2⟩, if_pos h1, if_neg (by omega)]; try rfl
    · rw [if_neg (by omega), if_pos h1, if_neg (by omega), Q.getD_out (f := g) (by omega)]; simp
  · rw [if_neg (by omega), if_neg h1, if_neg (by omega)]; try rfl
theorem Q.prodAt_done (p : Nat) (f g : List Nat) (hf : f.length ≠ 0) (hg : g.length ≠ 0) : Q.prodAt p f g f.length 0 = Q.prodP' p f g := by
  rw [Q.prodP', if_neg (by omega), Q.prodAt]
  refine List.map_congr_left fun m _ => ?_
  rw [if_neg (by omega)]; try rfl
theorem Q.prodAt_red (p : Nat) (hp : 0 < p) (f g : List Nat) (i j : Nat) : Q.Red p (Q.prodAt p f g i j) := by
  intro x hx
  obtain ⟨m, _, rfl⟩ := List.mem_map.1 hx
  exact Nat.mod_lt _ hp

theorem mul_bd1021 (x y p : Nat) (hx : x < p) (hy : y < p) (hp2 : p ≤ 1021) : (0 : Int) ≤ (x : Int) * (y : Int) ∧ (x : Int) * (y : Int) ≤ 1040400 := by
  have h1 : x * y ≤ 1020 * 1020 := Nat.mul_le_mul (by omega) (by omega)
  have h2 : (x : Int) * (y : Int) = ((x * y : Nat) : Int) := by simp
  omega

end Go.Proofs.YtbehihanhfmmhaaGreat

namespace Go.Proofs.YtbehihanhfmmhaaGreat
open Go.RowKit

theorem product_nil (p : Nat) (F G : List Nat) (v1 v2 : Value) (w : World) (h1 : Hid (Rd w v1 1 F.length (nats F))) (h2 : Hid (Rd w v2 1 G.length (nats G))) (h0 : F.length = 0 ∨ G.length = 0) :
    Calls Tryz.prog 35 #[.int .i64 p, v1, v2] w (RetL w (Q.prodP' p F G)) := by
  obtain ⟨_, a1, cap1, rfl, hcap1, _⟩ := h1.out
  obtain ⟨_, a2, cap2, rfl, hcap2, _⟩ := h2.out
  clear h1 h2
  have HP := Lib.hid (Q.prod_nil (p := p) h0)
  by_cases hf : F.length = 0
  · have hz : ((F.length : Int) == 0) = true := by simp [hf]
    clear hf h0
    go_enter Tryz.func35, Tryz.ntmps35
    go_wp2_with (fail)
    go_ret
    rw [HP.out]
    exact ⟨⟨_, rfl, NewL.nil _ _⟩, Below.refl _ _⟩
  · have hg : G.length = 0 := by omega
    have hz : ((F.length : Int) == 0) = false := by rw [beq_eq_false_iff_ne]; omega
    have hz2 : ((G.length : Int) == 0) = true := by simp [hg]
    clear hf hg h0
    go_enter Tryz.func35, Tryz.ntmps35
    go_wp2_with (fail)
    go_ret
    rw [HP.out]
    exact ⟨⟨_, rfl, NewL.nil _ _⟩, Below.refl _ _⟩

set_option maxRecDepth 100000 in
set_option maxHeartbeats 2000000 in
theorem product_some (p : Nat) (F G : List Nat) (v1 v2 : Value) (w : World) (hp : 2 ≤ p) (hp2 : p ≤ 1021) (h1 : Hid (Rd w v1 1 F.length (nats F))) (h2 : Hid (Rd w v2 1 G.length (nats G)))
    (hF : Hid (Q.Red p F)) (hG : Hid (Q.Red p G)) (hl1 : F.length ≤ 1000000) (hl2 : G.length ≤ 1000000) (hf : F.length ≠ 0) (hg : G.length ≠ 0) :
    Calls Tryz.prog 35 #[.int .i64 p, v1, v2] w (RetL w (Q.prodP' p F G)) := by
  obtain ⟨_, a1, cap1, rfl, hcap1, hcell1⟩ := h1.out
  obtain ⟨_, a2, cap2, rfl, hcap2, hcell2⟩ := h2.out
  rcases hcell1 with h0 | ⟨b1, rfl, hb1, hc1⟩
  · omega
  rcases hcell2 with h0 | ⟨b2, rfl, hb2, hc2⟩
  · omega
  have HC1 := Lib.hid hc1
  have HC2 := Lib.hid hc2
  clear hc1 hc2 h1 h2
  have HP := Lib.hid (Q.prodAt_done p F G hf hg)
  have HZ := Lib.hid (Q.prodAt_zero p F G)
  obtain ⟨m1, hm1⟩ : ∃ m1, m1 = F.length := ⟨_, rfl⟩
  obtain ⟨m2, hm2⟩ : ∃ m2, m2 = G.length := ⟨_, rfl⟩
  rw [← hm1] at hl1 hcap1 hf ⊢
  rw [← hm2] at hl2 hcap2 hg ⊢
  have HM := Lib.hid (And.intro hm1 hm2)
  clear hm1 hm2
  have hz1 : ((m1 : Int) == 0) = false := by simp; omega
  have hz2 : ((m2 : Int) == 0) = false := by simp; omega
  have hzp : ((p : Int) == 0) = false := by simp; omega
  obtain ⟨n, hn⟩ : ∃ n, n = m1 + m2 - 1 := ⟨_, rfl⟩
  have hnn : (m1 : Int) + (m2 : Int) - 1 = (n : Int) := by omega
  have hnb : n ≤ 2000000 := by omega
  have HN := Lib.hid hn
  clear hn hf hg
  obtain ⟨i0, hi, hz0, hz3, hz4⟩ := info_parts Tryz.infoZ
  go_enter Tryz.func35, Tryz.ntmps35
  go_wp2_with (at_make; refine wpList_make_full _ rfl _ _ 22 rfl w.heap.size 3 i0 (.int .i64 0) 1 Tryz.underlying22 hi hz0 hz3 .i64 .i64 _ _ n rfl rfl rfl rfl (by rw [hz4]; omega) (by unfold maxLen; omega) (Nat.le_refl _) ?_)
  intro w0 hown0 hgrow0
  have HS0 : Hid (RSt w w0 w.heap.size n n (Q.prodAt p F G 0 0)) := by
    refine ⟨?_, below_of_grown hgrow0⟩
    rw [HZ.out, ← nats_zeros, ← HM.out.1, ← HM.out.2, ← HN.out]
    exact hown0
  clear hown0 hgrow0
  go_wp2_with (fail)
  go_loopw [29] (fun i wr => ∃ (k : Nat), i = .int .i64 k ∧ k ≤ m1 ∧ Hid (RSt w wr w.heap.size n n (Q.prodAt p F G k 0))) (fun i _ => m1 - (intOf i).toNat)
  case atStart => exact ⟨0, rfl, by omega, HS0⟩
  case round =>
    obtain ⟨k, rfl, hk, HS⟩ := hrel
    by_cases hlt : k < m1
    · have hkl : k < F.length := by have := HM.out.1; omega
      obtain ⟨x, hx⟩ : ∃ x, x = F.getD k 0 := ⟨_, rfl⟩
      have hxp : x < p := by rw [hx]; exact hF.out.getD (by omega) k
      have c1 : wr.cell? ⟨b1, k, none⟩ = some (.int .i64 (x : Int)) := by
        rw [HS.out.below.cell (p := ⟨b1, k, none⟩) hb1, HC1.out _ _ (nats_get F k hkl), hx, Q.getD_get hkl]
      have HX := Lib.hid hx
      clear hx
      obtain ⟨wo, hwo⟩ : ∃ wo : World, wo = wr := ⟨_, rfl⟩
      subst hwo
      go_wp2_with (fail)
      go_loopw [36] (fun i wr => ∃ (j : Nat), i = .int .i64 j ∧ j ≤ m2 ∧ Hid (RSt w wr w.heap.size n n (Q.prodAt p F G k j))) (fun i _ => m2 - (intOf i).toNat)
      case atStart => exact ⟨0, rfl, by omega, HS⟩
      case round =>
        obtain ⟨j, rfl, hj, HJ⟩ := hrel
        by_cases hjl : j < m2
        · have hjl2 : j < G.length := by have := HM.out.2; omega
          obtain ⟨y, hy⟩ : ∃ y, y = G.getD j 0 := ⟨_, rfl⟩
          have hyp : y < p := by rw [hy]; exact hG.out.getD (by omega) j
          have c2 : wr.cell? ⟨b2, j, none⟩ = some (.int .i64 (y : Int)) := by
            rw [HJ.out.below.cell (p := ⟨b2, j, none⟩) hb2, HC2.out _ _ (nats_get G j hjl2), hy, Q.getD_get hjl2]
          have hkj : k + j < n := by have := HN.out; omega
          have hkj2 : (k : Int) + (j : Int) < (n : Int) := by omega
          have hkj3 : ((k : Int) + (j : Int)).toNat = k + j := by omega
          obtain ⟨z, hz⟩ : ∃ z, z = (Q.prodAt p F G k j).getD (k + j) 0 := ⟨_, rfl⟩
          have hzp' : z < p := by rw [hz]; exact (Q.prodAt_red p (by omega) F G k j).getD (by omega) _
          have c3 : wr.cell? ⟨w.heap.size, k + j, none⟩ = some (.int .i64 (z : Int)) := by rw [HJ.out.cell hkj, hz]
          have hfr : wr.frozen? ⟨w.heap.size, k + j, none⟩ = false := HJ.out.free _
          have hend : Hid (∀ u : Nat, (u : Int) = ((z : Int) + (x : Int) * (y : Int)) % (p : Int) → RSt w (wr.setCell ⟨w.heap.size, k + j, none⟩ (.int .i64 (u : Int))) w.heap.size n n (Q.prodAt p F G k (j + 1))) := fun u hu => by
            rw [← Q.prodAt_step p F G k j hkl hjl2, ← hz, ← hy, ← HX.out]
            have : u = (z + x * y) % p := by
              have h3 : ((z : Int) + (x : Int) * (y : Int)) % (p : Int) = (((z + x * y) % p : Nat) : Int) := by simp
              rw [h3] at hu
              exact_mod_cast hu
            rw [← this]
            exact HJ.out.set _ _
          clear hz hy
          have hm := mul_bd1021 x y p hxp hyp hp2
          go_wp2_with (fail)
          go_roundw
          case rel => exact ⟨j + 1, by go_num, by omega, hend.out _ (by simp)⟩
          case measure => simp [intOf]; omega
        · obtain rfl : j = m2 := by omega
          have HJ' : Hid (RSt w wr w.heap.size n n (Q.prodAt p F G (k + 1) 0)) := by have := HJ.out; rw [HM.out.2, Q.prodAt_next] at this; exact this
          go_wp2_with (fail)
          go_roundw
          case rel => exact ⟨k + 1, by go_num, by omega, HJ'⟩
          case measure => simp [intOf]; omega
    · obtain rfl : k = m1 := by omega
      have HR : Hid (RSt w wr w.heap.size n n (Q.prodP' p F G)) := by have := HS.out; rw [HM.out.1, HP.out] at this; exact this
      go_wp2_with (fail)
      go_ret
      exact ⟨⟨_, rfl, HR.out.new⟩, HR.out.below⟩

theorem product_is (p : Nat) (F G : List Nat) (v1 v2 : Value) (w : World) (hp : 2 ≤ p) (hp2 : p ≤ 1021) (h1 : Hid (Rd w v1 1 F.length (nats F))) (h2 : Hid (Rd w v2 1 G.length (nats G)))
    (hF : Hid (Q.Red p F)) (hG : Hid (Q.Red p G)) (hl1 : F.length ≤ 1000000) (hl2 : G.length ≤ 1000000) :
    Calls Tryz.prog 35 #[.int .i64 p, v1, v2] w (RetL w (Q.prodP' p F G)) := by
  by_cases h0 : F.length = 0 ∨ G.length = 0
  · exact product_nil p F G v1 v2 w h1 h2 h0
  · exact product_some p F G v1 v2 w hp hp2 h1 h2 hF hG hl1 hl2 (by omega) (by omega)

end Go.Proofs.YtbehihanhfmmhaaGreat

namespace Go.Proofs.YtbehihanhfmmhaaGreat
open Go.RowKit

theorem inverseOf_is (p a : Nat) (w : World) (hP : Hid (M.Pr p)) (hp2 : p ≤ 1021) (ha : a < p) (h0 : a ≠ 0) :
    Calls Tryz.prog 34 #[.int .i64 p, .int .i64 a] w fun x w' => x = .returned (.int .i64 (Q.invM p a : Nat)) ∧ ∃ n, w' = w.drewN n := by
  obtain ⟨h1, h2, _⟩ := Q.inv_spec hP.out ha h0
  obtain ⟨i, hi⟩ : ∃ i, i = Q.invM p a := ⟨_, rfl⟩
  rw [← hi] at h1 h2 ⊢
  have HE : Hid ((a : Int) * (i : Int) % (p : Int) = 1 % (p : Int)) := by
    have h3 := hP.out.1
    have h4 : a * i % p = 1 % p := by rw [h2, Nat.mod_eq_of_lt (by omega)]
    show _ = _
    exact_mod_cast h4
  clear hi h2
  go_enter Tryz.func34, Tryz.ntmps34
  go_wp2_with (go_at_call 59; refine (Inv_ok _ _ (i : Int) _ (by omega) (by omega) (by omega) (by omega) (by omega) HE).mono ?_; rintro e w' ⟨rfl, n, rfl⟩)
  go_ret
  exact ⟨rfl, _, rfl⟩

set_option maxRecDepth 100000 in
set_option maxHeartbeats 1000000 in
theorem clone_is (F : List Nat) (v : Value) (w : World) (hr : Hid (Rd w v 1 F.length (nats F))) (hl : F.length ≤ 1000000) :
    Calls Tryz.prog 61 #[v] w (RetL w F) := by
  obtain ⟨_, a, cap, rfl, hcap, hcell⟩ := hr.out
  have HC := Lib.hid hcell
  clear hcell hr
  obtain ⟨n, hn⟩ : ∃ n, n = F.length := ⟨_, rfl⟩
  have HN := Lib.hid hn
  rw [← hn] at hl hcap ⊢
  clear hn
  obtain ⟨i0, hi, hz0, hz1, hz2⟩ := info_parts Tryz.infoZ
  have hnil := @Lib.run_eql_slice_nil
  rcases a with _ | ad
  · go_enter Tryz.func61, Tryz.ntmps61
    go_wp2_with (fail)
    go_ret
    have h0 : F = [] := by
      rcases HC.out with h | ⟨b, h, _⟩
      · exact List.eq_nil_of_length_eq_zero h
      · cases h
    rw [h0]
    exact ⟨⟨_, rfl, NewL.nil _ _⟩, Below.refl _ _⟩
  · have hown0 : (w.alloc (.cells #[] 3)).ownsRow w.heap.size 3 1 (.slice (some ⟨w.heap.size, 0, none⟩) 0 0) 0 [] := World.ownsRow_lit w #[] 0 (Nat.le_refl _) (by unfold maxLen; omega) rfl
    have hB0 : Below w.heap.size w (w.alloc (.cells #[] 3)) := (Below.refl _ _).alloc (Nat.le_refl _) _
    have HS : Hid (∀ j u, (nats F)[j]? = some u → (w.alloc (.cells #[] 3)).cell? (ad.add j) = some u) := fun j u hu => by
      rcases HC.out with h | ⟨b, h, hb, hc⟩
      · rw [List.eq_nil_of_length_eq_zero h] at hu; simp [nats] at hu
      · obtain rfl : ad = ⟨b, 0, none⟩ := by injection h
        have hadd : (⟨b, 0, none⟩ : Addr).add j = ⟨b, j, none⟩ := by unfold Addr.add; split <;> simp_all
        rw [hadd, hB0.cell (p := ⟨b, j, none⟩) hb]
        exact hc j u hu
    have HO := Lib.hid hown0
    have HB := Lib.hid hB0
    have HL : Hid ((nats F).length = n * 1) := by show _ = _; rw [nats_length, HN.out]; omega
    have H1 : Hid (∀ u ∈ nats F, u.oneCell' = true) := fun u hu => by unfold nats at hu; obtain ⟨z, _, rfl⟩ := List.mem_map.1 hu; rfl
    clear hown0 hB0
    go_enter Tryz.func61, Tryz.ntmps61
    go_wp2_with (at_builtin; refine wpList_append_own _ rfl _ _ 22 rfl w.heap.size 3 i0 (.int .i64 0) 1 8 Tryz.underlying22 hi hz0 hz1 hz2 rfl (by decide) _ 0 [] rfl HO.out ad n cap (nats F) rfl HL.out HS.out H1.out (by unfold maxLen; omega) (by omega) (by simp) ?_)
    intro v' w1 hown hgrow _
    have hB1 : Below w.heap.size w w1 := HB.out.grown hgrow (by simp) (by intro g hg; simp [Value.ownBlock] at hg; omega)
    rw [HN.out] at hown
    have HR := Lib.hid (And.intro hown hB1)
    clear hown hgrow hB1
    go_wp2_with (fail)
    go_ret
    exact ⟨⟨_, rfl, HR.out.1⟩, HR.out.2⟩

/-! ### takeAway -/
theorem Q.takeAway_zero (p c i : Nat) (H : List Nat) : Q.takeAway p c i [] H = H := by
  apply List.ext_getElem
  · simp [Q.takeAway]
  · intro k h1 h2; simp [Q.takeAway]; omega

theorem Q.takeAway_step (p c i : Nat) (G H : List Nat) (k : Nat) (hk : k < G.length) (hl : i + G.length ≤ H.length) :
    (Q.takeAway p c i (G.take k) H).set (i + k) ((H.getD (i + k) 0 + (p - c) * G.getD k 0) % p) = Q.takeAway p c i (G.take (k + 1)) H := by
  have hlk : (G.take k).length = k := by rw [List.length_take]; omega
  have hlk1 : (G.take (k + 1)).length = k + 1 := by rw [List.length_take]; omega
  refine Q.ext_getD (by simp [Q.takeAway_length]) fun m hm => ?_
  rw [List.length_set, Q.takeAway_length] at hm
  rw [Q.takeAway_getD _ _ _ _ _ (by rw [hlk1]; omega), hlk1, List.getD_eq_getElem?_getD, List.getElem?_set]
  split
  · next h =>
    subst h
    rw [if_pos (by rw [Q.takeAway_length]; exact hm), if_pos (by omega), Q.getD_take, show i + k - i = k by omega, if_pos (by omega)]
    rfl
  · next h =>
    rw [← List.getD_eq_getElem?_getD, Q.takeAway_getD _ _ _ _ _ (by rw [hlk]; omega), hlk]
    by_cases h2 : i ≤ m ∧ m < i + k
    · rw [if_pos h2, if_pos (by omega), Q.getD_take, Q.getD_take, if_pos (by omega), if_pos (by omega)]
    · rw [if_neg h2, if_neg (by omega)]

theorem Q.takeAway_at (p c i : Nat) (G H : List Nat) (k : Nat) (hk : k < G.length) (hl : i + G.length ≤ H.length) : (Q.takeAway p c i (G.take k) H).getD (i + k) 0 = H.getD (i + k) 0 := by
  have hlk : (G.take k).length = k := by rw [List.length_take]; omega
  rw [Q.takeAway_getD _ _ _ _ _ (by rw [hlk]; omega), hlk, if_neg (by omega)]

theorem grown_set {w wr : World} {g : Nat} (h : w.grownBy wr (some g)) (j : Nat) (u : Value) : w.grownBy (wr.setCell ⟨g, j, none⟩ u) (some g) := by
  refine ⟨h.os, h.tape, h.output, by have := h.size; simpa [World.setCell] using this, fun b hb hne => ?_⟩
  rw [heap_setCell_other wr _ _ _ (by rintro rfl; exact hne rfl)]
  exact h.block b hb hne

set_option maxRecDepth 100000 in
set_option maxHeartbeats 2000000 in
theorem takeAway_is (p c i g n cap cp m : Nat) (G H : List Nat) (vg : Value) (w ws : World) (hp : 2 ≤ p) (hp2 : p ≤ 1021) (hc : c < p) (hS : Hid (RSt w ws g n cap H)) (hr : Hid (Rd ws vg 1 G.length (nats G)))
    (hgg : Hid (∀ b, vg.ownBlock = some b → b ≠ g)) (hG : Hid (Q.Red p G)) (hH : Hid (Q.Red p H)) (hl : i + G.length ≤ n) (hn : n ≤ 1000000) (hm : G.length ≤ m) (hm2 : m ≤ n) :
    Calls Tryz.prog 62 #[.int .i64 p, .slice (some ⟨g, i, none⟩) m cp, .int .i64 c, vg] ws fun x w' => x = .returned (.tuple #[]) ∧ RSt w w' g n cap (Q.takeAway p c i G H) ∧ ws.grownBy w' (some g) := by
  obtain ⟨_, a2, cap2, rfl, hcap2, hcell2⟩ := hr.out
  have HC2 := Lib.hid hcell2
  clear hcell2 hr
  have hHl := Lib.hid hS.out.len
  have h0 : Hid (RSt w ws g n cap (Q.takeAway p c i (G.take 0) H)) := by show RSt _ _ _ _ _ _; rw [List.take_zero, Q.takeAway_zero]; exact hS.out
  have HT : Hid (G.take G.length = G) := List.take_length
  obtain ⟨l, hl2⟩ : ∃ l, l = G.length := ⟨_, rfl⟩
  rw [← hl2] at hcap2 hl hm ⊢
  have HL := Lib.hid hl2
  clear hl2
  have hz : ((p : Int) == 0) = false := by simp; omega
  go_enter Tryz.func62, Tryz.ntmps62
  go_wp2_with (fail)
  go_loopw [12] (fun x wx => ∃ (k : Nat), x = .int .i64 k ∧ k ≤ l ∧ Hid (RSt w wx g n cap (Q.takeAway p c i (G.take k) H)) ∧ Hid (ws.grownBy wx (some g))) (fun x _ => l - (intOf x).toNat)
  case atStart => exact ⟨0, rfl, by omega, h0, World.grownBy.refl _ _⟩
  case round =>
    obtain ⟨k, rfl, hk, HS, HG⟩ := hrel
    by_cases hlt : k < l
    · have hkl : k < G.length := by have := HL.out; omega
      rcases HC2.out with h1 | ⟨b2, rfl, hb2, hcl⟩
      · omega
      have hne := hgg.out b2 rfl
      obtain ⟨y, hy⟩ : ∃ y, y = G.getD k 0 := ⟨_, rfl⟩
      have hyp : y < p := by rw [hy]; exact hG.out.getD (by omega) k
      have c2 : wr.cell? ⟨b2, k, none⟩ = some (.int .i64 (y : Int)) := by
        rw [World.cell?_of_block (HG.out.block b2 hb2 (by intro e; injection e with e; exact hne e)), hcl _ _ (nats_get G k hkl), hy, Q.getD_get hkl]
      obtain ⟨z, hzz⟩ : ∃ z, z = H.getD (i + k) 0 := ⟨_, rfl⟩
      have hzp : z < p := by rw [hzz]; exact hH.out.getD (by omega) _
      have c3 : wr.cell? ⟨g, i + k, none⟩ = some (.int .i64 (z : Int)) := by
        rw [HS.out.cell (by omega), Q.takeAway_at p c i G H k hkl (by have := hHl.out; have := HL.out; omega), hzz]
      have hfr : wr.frozen? ⟨g, i + k, none⟩ = false := HS.out.free _
      have hend : Hid (RSt w (wr.setCell ⟨g, i + k, none⟩ (.int .i64 (((z : Int) + ((p : Int) - (c : Int)) * (y : Int)) % (p : Int)))) g n cap (Q.takeAway p c i (G.take (k + 1)) H)) := by
        rw [← Q.takeAway_step p c i G H k hkl (by have := hHl.out; have := HL.out; omega), ← hzz, ← hy]
        have h3 : ((z : Int) + ((p : Int) - (c : Int)) * (y : Int)) % (p : Int) = (((z + (p - c) * y) % p : Nat) : Int) := by
          rw [show (p : Int) - (c : Int) = ((p - c : Nat) : Int) by omega]; simp
        rw [h3]
        exact HS.out.set _ _
      have hgr : Hid (∀ u, ws.grownBy (wr.setCell ⟨g, i + k, none⟩ u) (some g)) := fun u => grown_set HG.out _ u
      clear hzz hy hcl hne
      have hkm : k < m := by omega
      have hpc : (0 : Int) ≤ ((p : Int) - (c : Int)) * (y : Int) ∧ ((p : Int) - (c : Int)) * (y : Int) ≤ 1042441 := by
        have h1 : (p - c) * y ≤ 1021 * 1021 := Nat.mul_le_mul (by omega) (by omega)
        have h2 : ((p : Int) - (c : Int)) * (y : Int) = (((p - c) * y : Nat) : Int) := by rw [show (p : Int) - (c : Int) = ((p - c : Nat) : Int) by omega]; simp
        omega
      go_wp2_with (fail)
      go_roundw
      case rel => exact ⟨k + 1, by go_num, by omega, hend.out, hgr.out _⟩
      case measure => simp [intOf]; omega
    · obtain rfl : k = l := by omega
      have HR : Hid (RSt w wr g n cap (Q.takeAway p c i G H)) := by have := HS.out; rw [HL.out, HT.out] at this; exact this
      go_wp2_with (fail)
      go_end0
      exact ⟨rfl, HR.out, HG.out⟩

end Go.Proofs.YtbehihanhfmmhaaGreat

namespace Go.Proofs.YtbehihanhfmmhaaGreat
open Go.RowKit

/-- What a function that makes two new lists returns. -/
def RetD (w : World) (q r : List Nat) (x : Ending) (w' : World) : Prop := (∃ vq vr, x = .returned (.tuple #[vq, vr]) ∧ NewL w w' vq q ∧ NewL w w' vr r) ∧ Below w.heap.size w w'

theorem RSt.grown {w wr wx : World} {g n cap b : Nat} {H : List Nat} (h : RSt w wr g n cap H) (hg : wr.grownBy wx (some b)) (hne : g ≠ b) (hb : w.heap.size ≤ b) : RSt w wx g n cap H :=
  ⟨h.own.kept hg (.inr (by simp [Value.ownBlock, hne])), h.below.grown hg h.below.size (by intro k hk; injection hk with hk; omega)⟩

theorem RSt.of_own {w wr : World} {g n cap : Nat} {H : List Nat} (h : wr.ownsRow w.heap.size 3 1 (.slice (some ⟨g, 0, none⟩) n cap) n (nats H)) (hB : Below w.heap.size w wr) : RSt w wr g n cap H := ⟨h, hB⟩

theorem RSt.drewN {w wr : World} {g n cap : Nat} {H : List Nat} (h : RSt w wr g n cap H) (k : Nat) : RSt w (wr.drewN k) g n cap H := ⟨own_kept h.own (below_drewN (Below.refl _ _) k), below_drewN h.below k⟩

theorem Rd.shape {w : World} {v : Value} {size n : Nat} {xs : List Value} (h : Rd w v size n xs) : ∃ a cap, v = .slice a n cap := by
  obtain ⟨_, a, cap, hv, _⟩ := h; exact ⟨a, cap, hv⟩

theorem Rd.own_lt {w : World} {v : Value} {n : Nat} {xs : List Value} (h : Rd w v 1 n xs) (hn : n ≠ 0) : ∀ b, v.ownBlock = some b → b < w.heap.size := by
  obtain ⟨_, a, cap, rfl, _, hc⟩ := h
  rcases hc with h0 | ⟨b, rfl, hb, _⟩
  · exact absurd h0 hn
  · intro g hg; simp [Value.ownBlock] at hg; omega

theorem Q.set_repl (j c : Nat) (q : List Nat) : (List.replicate (j + 1) 0 ++ q).set j c = List.replicate j 0 ++ (c :: q) := by
  rw [List.replicate_succ', List.append_assoc, List.set_append, if_neg (by simp), List.length_replicate, Nat.sub_self]
  rfl

set_option maxRecDepth 100000 in
set_option maxHeartbeats 1000000 in
theorem divide_short (p : Nat) (F G : List Nat) (v1 v2 : Value) (w : World) (h1 : Hid (Rd w v1 1 F.length (nats F))) (h2 : Hid (Rd w v2 1 G.length (nats G))) (hl1 : F.length ≤ 1000000) (hlt : F.length < G.length) :
    Calls Tryz.prog 38 #[.int .i64 p, v1, v2] w (RetD w [] F) := by
  obtain ⟨a1, cap1, rfl⟩ := h1.out.shape
  obtain ⟨a2, cap2, rfl⟩ := h2.out.shape
  go_enter Tryz.func38, Tryz.ntmps38
  go_wp2_with (fail)
  refine (clone_is F _ _ h1 hl1).mono ?_
  rintro e w1 ⟨⟨v, rfl, hN⟩, hB⟩
  have HN := Lib.hid (And.intro hN hB)
  clear hN hB
  go_wp2_with (fail)
  go_ret2
  exact ⟨⟨_, _, rfl, NewL.nil _ _, HN.out.1⟩, HN.out.2⟩

set_option maxRecDepth 100000 in
set_option maxHeartbeats 4000000 in
theorem divide_long (p : Nat) (F G : List Nat) (v1 v2 : Value) (w : World) (hP : Hid (M.Pr p)) (hp2 : p ≤ 1021) (h1 : Hid (Rd w v1 1 F.length (nats F))) (h2 : Hid (Rd w v2 1 G.length (nats G)))
    (hF : Hid (Q.Red p F)) (hG : Hid (Q.Pol p G)) (hl1 : F.length ≤ 1000000) (hg0 : G.length ≠ 0) (hge : G.length ≤ F.length) :
    Calls Tryz.prog 38 #[.int .i64 p, v1, v2] w (RetD w (Q.divP p F G).1 (Q.divP p F G).2) := by
  have hp : 2 ≤ p := hP.out.1
  obtain ⟨a1, cap1, rfl⟩ := h1.out.shape
  have H2 := h2
  have HOW := Lib.hid (h2.out.own_lt hg0)
  obtain ⟨_, a2, cap2, rfl, hcap2, hcell2⟩ := h2.out
  rcases hcell2 with h0 | ⟨b2, rfl, hb2, hc2⟩
  · omega
  have HC2 := Lib.hid hc2
  clear hc2 h2
  have hne := hG.out.ne hg0
  have hgp : G.getD (G.length - 1) 0 < p := hG.out.red.getD (by omega) _
  obtain ⟨gl, hgl⟩ : ∃ gl, gl = G.getD (G.length - 1) 0 := ⟨_, rfl⟩
  rw [← hgl] at hne hgp
  have hcl : w.cell? ⟨b2, G.length - 1, none⟩ = some (.int .i64 (gl : Int)) := by
    have e : G.getD (G.length - 1) 0 = G[G.length - 1] := Q.getD_get (by omega)
    rw [HC2.out _ _ (nats_get G (G.length - 1) (by omega)), ← e, ← hgl]
  have HCL := Lib.hid hcl
  clear hcl
  obtain ⟨inv, hinv⟩ : ∃ inv, inv = Q.invM p gl := ⟨_, rfl⟩
  have hinvp : inv < p := by rw [hinv]; exact (Q.inv_spec hP.out hgp hne).1
  obtain ⟨fin, hfin⟩ : ∃ fin, fin = Q.divLoop p inv G (F.length - (G.length - 1)) F [] := ⟨_, rfl⟩
  have HFIN := Lib.hid hfin
  have HE : Hid (Q.divP p F G = (fin.2, Q.trim (fin.1.take (G.length - 1)))) := by
    show _ = _
    rw [Q.divP, if_neg (by omega), hfin, ← hgl, ← hinv]
  clear hfin hgl
  have HINV := Lib.hid hinv
  clear hinv
  obtain ⟨m1, hm1⟩ : ∃ m1, m1 = F.length := ⟨_, rfl⟩
  obtain ⟨m2, hm2⟩ : ∃ m2, m2 = G.length := ⟨_, rfl⟩
  have HM := Lib.hid (And.intro hm1 hm2)
  have H1 : Hid (Rd w (.slice a1 m1 cap1) 1 F.length (nats F)) := by show Rd _ _ _ _ _; rw [hm1]; exact h1.out
  rw [HE.out]
  rw [← hm1] at hl1 hge ⊢
  rw [← hm2] at hcap2 hg0 hge HCL ⊢
  clear hm1 hm2
  have hdec : decide (m1 < m2) = false := by simpa using hge
  obtain ⟨lst, hlst⟩ : ∃ lst, m2 = lst + 1 := ⟨m2 - 1, by omega⟩
  subst hlst
  have hl2 : ((lst + 1 : Nat) : Int) - 1 = (lst : Int) := by omega
  obtain ⟨N, hN⟩ : ∃ N, N = m1 - lst := ⟨_, rfl⟩
  have hNN : (m1 : Int) - (lst : Int) = (N : Int) := by omega
  have hNb : N ≤ 1000000 := by omega
  have hN1 : N + lst = m1 := by omega
  clear hN
  rw [show lst + 1 - 1 = lst by omega] at HCL
  obtain ⟨i0, hi, hz0, hz3, hz4⟩ := info_parts Tryz.infoZ
  go_enter Tryz.func38, Tryz.ntmps38
  go_wp2_with (fail)
  refine (clone_is F _ _ H1 (by have := HM.out.1; omega)).mono ?_
  rintro e w1 ⟨⟨v, rfl, hN⟩, hB⟩
  obtain ⟨ar, capr, rfl, hcr, hcr2, hblk⟩ := own_form hN
  obtain ⟨gr, rfl, hgr1, hgr2⟩ := hblk (by have := HM.out.1; omega)
  have HR1 : Hid (RSt w w1 gr m1 capr F) := by refine ⟨?_, hB⟩; have := hN; unfold NewL at this; rw [← HM.out.1] at this; exact this
  rw [← HM.out.1] at hcr ⊢
  have hcl1 : w1.cell? ⟨b2, lst, none⟩ = some (.int .i64 (gl : Int)) := by rw [hB.cell (p := ⟨b2, lst, none⟩) hb2]; exact HCL.out
  clear hN hblk hB
  have HI : ∀ W : World, Calls Tryz.prog 34 #[.int .i64 p, .int .i64 gl] W fun x w' => x = .returned (.int .i64 (inv : Int)) ∧ ∃ n, w' = W.drewN n := fun W => by rw [HINV.out]; exact inverseOf_is p gl W hP hp2 hgp hne
  go_wp2_with (first
    | (go_at_call 34; refine (HI _).mono ?_; rintro e w' ⟨rfl, nd, rfl⟩)
    | (at_make; refine wpList_make_full _ rfl _ _ 22 rfl w.heap.size 3 i0 (.int .i64 0) 1 Tryz.underlying22 hi hz0 hz3 .i64 .i64 _ _ N rfl rfl rfl rfl (by rw [hz4]; omega) (by unfold maxLen; omega) HR1.out.below.size ?_))
  intro w2 hown2 hgrow2
  obtain ⟨gq, hgq⟩ : ∃ gq, gq = w1.heap.size := ⟨_, rfl⟩
  have hB12 : Below w1.heap.size w1 w2 := (below_drewN (Below.refl _ _) nd).trans (below_of_grown hgrow2)
  have HR2 : Hid (RSt w w2 gr m1 capr F) := HR1.out.low hB12
  have HQ2 : Hid (RSt w w2 gq N N (List.replicate N 0)) := by
    refine ⟨?_, HR2.out.below⟩
    rw [← nats_zeros, hgq]
    exact hown2
  clear hown2 hgrow2
  simp only [← hgq]
  rw [← hgq] at hgr2
  have hgrq : gr ≠ gq := by omega
  have hwq : w.heap.size ≤ gq := by omega
  have HV2 : Hid (b2 < w.heap.size) := hb2
  clear hB12 hgq hcl1 HI
  go_wp2_with (fail)
  go_loopw [12] (fun i wr => ∃ (k : Int) (j : Nat) (R q : List Nat), i = .int .i64 k ∧ Hid (k = (j : Int) - 1) ∧ j ≤ N ∧ Hid (RSt w wr gr m1 capr R) ∧ Hid (RSt w wr gq N N (List.replicate j 0 ++ q)) ∧ Hid (Q.Red p R) ∧ Hid (fin = Q.divLoop p inv G j R q)) (fun i _ => (intOf i + 1).toNat)
  case atStart => exact ⟨_, N, F, [], rfl, by show _ = _; rfl, by omega, HR2, (by show RSt _ _ _ _ _ _; rw [List.append_nil]; exact HQ2.out), hF, (by show _ = _; rw [HFIN.out, ← HM.out.1, ← HM.out.2]; congr 1; omega)⟩
  case round =>
    obtain ⟨k, j, R, q, rfl, HK, hj, HR, HQ, HRed, HF⟩ := hrel
    by_cases hj0 : j = 0
    · subst hj0
      have hk := HK.out
      obtain rfl : k = -1 := by omega
      go_wp2_with (fail)
      have hfe : Hid (fin.1 = R ∧ fin.2 = q) := by have := HF.out; rw [Q.divLoop] at this; rw [this]; exact ⟨rfl, rfl⟩
      have hql : Hid (RSt w wr gq N N q) := by have := HQ.out; rw [List.replicate_zero, List.nil_append] at this; exact this
      have hcut := own_cut HR.out.own (show lst ≤ m1 by omega)
      rw [Nat.mul_one, ← nats_take] at hcut
      have htl : (R.take lst).length = lst := by rw [List.length_take, HR.out.len]; omega
      have hrd : Hid (Rd wr (.slice (some ⟨gr, 0, none⟩) lst capr) 1 (R.take lst).length (nats (R.take lst))) := by show Rd _ _ _ _ _; rw [htl]; exact Rd.of_own hcut
      have hcut2 := own_cut hcut (show Q.trimLen (R.take lst) ≤ lst by have := Q.trimLen_le (R.take lst); omega)
      rw [Nat.mul_one, ← nats_take] at hcut2
      have HC3 : Hid (NewL w wr (.slice (some ⟨gr, 0, none⟩) (Q.trimLen (R.take lst)) capr) (Q.trim (R.take lst))) := by unfold NewL; rw [Q.trim_length]; exact hcut2
      have HTL := Lib.hid htl
      clear hcut hcut2 htl hk
      go_wp2_with (go_at_call 60; refine (trim_is (R.take lst) _ lst capr _ HTL.out.symm hrd (by omega) (by omega) hcr2).mono ?_; rintro e w' ⟨rfl, rfl⟩)
      go_ret2
      rw [hfe.out.1, hfe.out.2, show lst + 1 - 1 = lst by omega]
      exact ⟨⟨_, _, rfl, (by have := hql.out.new; exact this), HC3.out⟩, HR.out.below⟩
    · obtain ⟨i, rfl⟩ : ∃ i, j = i + 1 := ⟨j - 1, by omega⟩
      obtain rfl : k = (i : Int) := by have := HK.out; omega
      have hiN : i < N := by omega
      have hil : i + lst < m1 := by omega
      have hil2 : ((i : Int) + (lst : Int)).toNat = i + lst := by omega
      obtain ⟨z, hz⟩ : ∃ z, z = R.getD (i + lst) 0 := ⟨_, rfl⟩
      have hzp : z < p := by rw [hz]; exact HRed.out.getD (by omega) _
      have c1 : wr.cell? ⟨gr, i + lst, none⟩ = some (.int .i64 (z : Int)) := by rw [HR.out.cell hil, hz]
      obtain ⟨c, hc⟩ : ∃ c, c = z * inv % p := ⟨_, rfl⟩
      have hcp : c < p := by rw [hc]; exact Nat.mod_lt _ (by omega)
      have hcc : (z : Int) * (inv : Int) % (p : Int) = (c : Int) := by rw [hc]; simp
      have hm := mul_bd1021 z inv p hzp hinvp hp2
      have hzp0 : ((p : Int) == 0) = false := by simp; omega
      have HC : Hid (R.getD (i + (G.length - 1)) 0 * inv % p = c) := by show _ = _; rw [← HM.out.2, show lst + 1 - 1 = lst by omega, ← hz, hc]
      have hq1 : wr.cell? ⟨gq, i, none⟩ = some (.int .i64 ((List.replicate (i + 1) 0 ++ q).getD i 0 : Nat)) := HQ.out.cell hiN
      have hq2 : wr.frozen? ⟨gq, i, none⟩ = false := HQ.out.free i
      obtain ⟨old, hold⟩ : ∃ old, old = (List.replicate (i + 1) 0 ++ q).getD i 0 := ⟨_, rfl⟩
      rw [← hold] at hq1
      have HQ' : Hid (RSt w (wr.setCell ⟨gq, i, none⟩ (.int .i64 (c : Int))) gq N N (List.replicate i 0 ++ (c :: q))) := by
        have := HQ.out.set i c; rw [Q.set_repl] at this; exact this
      have HR' : Hid (RSt w (wr.setCell ⟨gq, i, none⟩ (.int .i64 (c : Int))) gr m1 capr R) := HR.out.other hwq hgrq _
      clear hold hc hz
      by_cases hc0 : c = 0
      · have hcz : ((c : Int) != 0) = false := by simp [hc0]
        have HFF : Hid (fin = Q.divLoop p inv G i R (c :: q)) := by
          have h := HF.out
          rw [Q.divLoop] at h
          simp only [HC.out, if_pos hc0] at h
          exact h
        clear hc0
        go_wp2_with (fail)
        go_roundw
        case rel => exact ⟨_, i, R, c :: q, rfl, by show _ = _; rfl, by omega, HR', HQ', HRed, HFF⟩
        case measure => simp [intOf]
      · have hcz : ((c : Int) != 0) = true := by simp; omega
        have HFF : Hid (fin = Q.divLoop p inv G i (Q.takeAway p c i G R) (c :: q)) := by
          have h := HF.out
          rw [Q.divLoop] at h
          simp only [HC.out, if_neg hc0] at h
          exact h
        clear hc0
        go_wp2_with (fail)
        have HRD : Hid (Rd (wr.setCell ⟨gq, i, none⟩ (.int .i64 (c : Int))) (.slice (some ⟨b2, 0, none⟩) (lst + 1) cap2) 1 G.length (nats G)) := by
          show Rd _ _ _ _ _
          rw [HM.out.2]
          exact H2.out.below HR'.out.below (Nat.le_refl _)
        refine (takeAway_is p c i gr m1 capr (capr - i) (m1 - i) G R _ w _ hp hp2 hcp HR' HRD (fun b hb => by simp [Value.ownBlock] at hb; omega) hG.out.red HRed (by have := HM.out.2; omega) (by omega) (by have := HM.out.2; omega) (by omega)).mono ?_
        rintro e w5 ⟨rfl, hR5, hG5⟩
        have HQ5 : Hid (RSt w w5 gq N N (List.replicate i 0 ++ (c :: q))) := HQ'.out.grown hG5 (Ne.symm hgrq) hgr1
        have HR5 := Lib.hid hR5
        clear hR5 hG5
        go_wp2_with (fail)
        go_roundw
        case rel => exact ⟨_, i, Q.takeAway p c i G R, c :: q, rfl, by show _ = _; rfl, by omega, HR5, HQ5, Q.takeAway_red (by omega) HRed.out, HFF⟩
        case measure => simp [intOf]

theorem divide_is (p : Nat) (F G : List Nat) (v1 v2 : Value) (w : World) (hP : Hid (M.Pr p)) (hp2 : p ≤ 1021) (h1 : Hid (Rd w v1 1 F.length (nats F))) (h2 : Hid (Rd w v2 1 G.length (nats G)))
    (hF : Hid (Q.Red p F)) (hG : Hid (Q.Pol p G)) (hl1 : F.length ≤ 1000000) (hg0 : G.length ≠ 0) :
    Calls Tryz.prog 38 #[.int .i64 p, v1, v2] w (RetD w (Q.divP p F G).1 (Q.divP p F G).2) := by
  by_cases hlt : F.length < G.length
  · have e : Q.divP p F G = ([], F) := by rw [Q.divP, if_pos hlt]
    rw [e]
    exact divide_short p F G v1 v2 w h1 h2 hl1 hlt
  · exact divide_long p F G v1 v2 w hP hp2 h1 h2 hF hG hl1 hg0 (by omega)

theorem remainder_is (p : Nat) (F G : List Nat) (v1 v2 : Value) (w : World) (hP : Hid (M.Pr p)) (hp2 : p ≤ 1021) (h1 : Hid (Rd w v1 1 F.length (nats F))) (h2 : Hid (Rd w v2 1 G.length (nats G)))
    (hF : Hid (Q.Red p F)) (hG : Hid (Q.Pol p G)) (hl1 : F.length ≤ 1000000) (hg0 : G.length ≠ 0) :
    Calls Tryz.prog 63 #[.int .i64 p, v1, v2] w (RetL w (Q.remP p F G)) := by
  have HD := Lib.hid (divide_is p F G v1 v2 w hP hp2 h1 h2 hF hG hl1 hg0)
  clear h1 h2
  go_enter Tryz.func63, Tryz.ntmps63
  go_wp2_with (fail)
  refine HD.out.mono ?_
  rintro e w1 ⟨⟨vq, vr, rfl, hq, hr⟩, hB⟩
  have HR := Lib.hid (And.intro hr hB)
  clear hq hr hB
  go_wp2_with (fail)
  go_ret
  exact ⟨⟨_, rfl, HR.out.1⟩, HR.out.2⟩

end Go.Proofs.YtbehihanhfmmhaaGreat

namespace Go.Proofs.YtbehihanhfmmhaaGreat
open Go.RowKit

theorem lit1_own (w : World) (c : Nat) : (w.alloc (.cells #[.int .i64 (c : Int)] 3)).ownsRow w.heap.size 3 1 (.slice (some ⟨w.heap.size, 0, none⟩) 1 1) 1 (nats [c]) := by
  have := World.ownsRow_lit (base := w.heap.size) (e := 3) (size := 1) w #[Value.int .i64 (c : Int)] 1 (Nat.le_refl _) (by unfold maxLen; omega) rfl
  exact this

set_option maxRecDepth 100000 in
set_option maxHeartbeats 1000000 in
theorem monic_ok (p : Nat) (F : List Nat) (v : Value) (w : World) (hP : Hid (M.Pr p)) (hp2 : p ≤ 1021) (hr : Hid (Rd w v 1 F.length (nats F))) (hF : Hid (Q.Pol p F)) (hl : F.length ≤ 1000000) :
    Calls Tryz.prog 15 #[.int .i64 p, v] w (RetD w (Q.monicP p F) (Q.monicC p F)) := by
  have hp : 2 ≤ p := hP.out.1
  by_cases h0 : F.length = 0
  · obtain ⟨a, cap, rfl⟩ := hr.out.shape
    have hz : ((F.length : Int) == 0) = true := by simp [h0]
    have h1 : Hid (Q.monicP p F = [] ∧ Q.monicC p F = []) := ⟨by rw [Q.monicP, if_pos h0], by rw [Q.monicC, if_pos h0]⟩
    clear h0
    go_enter Tryz.func15, Tryz.ntmps15
    go_wp2_with (fail)
    go_ret2
    rw [h1.out.1, h1.out.2]
    exact ⟨⟨_, _, rfl, NewL.nil _ _, NewL.nil _ _⟩, Below.refl _ _⟩
  · have hz : ((F.length : Int) == 0) = false := by rw [beq_eq_false_iff_ne]; omega
    have hne := hF.out.ne h0
    have hgp : F.getD (F.length - 1) 0 < p := hF.out.red.getD (by omega) _
    obtain ⟨gl, hgl⟩ : ∃ gl, gl = F.getD (F.length - 1) 0 := ⟨_, rfl⟩
    rw [← hgl] at hne hgp
    obtain ⟨inv, hinv⟩ : ∃ inv, inv = Q.invM p gl := ⟨_, rfl⟩
    have hinvp : inv < p := by rw [hinv]; exact (Q.inv_spec hP.out hgp hne).1
    have HE : Hid (Q.monicP p F = Q.prodP' p F [inv] ∧ Q.monicC p F = [inv]) := by
      have e : Q.monicC p F = [inv] := by rw [Q.monicC, if_neg h0, hinv, hgl]
      exact ⟨by rw [Q.monicP, if_neg h0, e], e⟩
    have HR := hr
    obtain ⟨_, a, cap, rfl, hcap, hcell⟩ := hr.out
    rcases hcell with h | ⟨b, rfl, hb, hc⟩
    · omega
    have c0 : w.cell? ⟨b, F.length - 1, none⟩ = some (.int .i64 (gl : Int)) := by
      have e : F.getD (F.length - 1) 0 = F[F.length - 1] := Q.getD_get (by omega)
      rw [hc _ _ (nats_get F (F.length - 1) (by omega)), ← e, ← hgl]
    have HI : ∀ W : World, Calls Tryz.prog 34 #[.int .i64 p, .int .i64 gl] W fun x w' => x = .returned (.int .i64 (inv : Int)) ∧ ∃ n, w' = W.drewN n := fun W => by rw [hinv]; exact inverseOf_is p gl W hP hp2 hgp hne
    obtain ⟨m, hm⟩ : ∃ m, m = F.length := ⟨_, rfl⟩
    have HM := Lib.hid hm
    have HR' : Hid (Rd w (.slice (some ⟨b, 0, none⟩) m cap) 1 F.length (nats F)) := by show Rd _ _ _ _ _; rw [hm]; exact HR.out
    rw [← hm] at hcap hl h0 hz c0 ⊢
    have hk1 : (0 : Int) ≤ (m : Int) - 1 := by omega
    have hk2 : ((m : Int) - 1).toNat = m - 1 := by omega
    clear hc hgl hinv hm hr HR
    go_enter Tryz.func15, Tryz.ntmps15
    go_wp2_with (go_at_call 34; refine (HI _).mono ?_; rintro e w' ⟨rfl, nd, rfl⟩)
    have hown := lit1_own (w.drewN nd) inv
    have hBd : Below w.heap.size w ((w.drewN nd).alloc (.cells #[.int .i64 (inv : Int)] 3)) := (below_drewN (Below.refl _ _) nd).alloc (by simp) _
    have hr2 : Hid (Rd ((w.drewN nd).alloc (.cells #[.int .i64 (inv : Int)] 3)) (.slice (some ⟨w.heap.size, 0, none⟩) 1 1) 1 [inv].length (nats [inv])) := Rd.of_own hown
    have hr1 : Hid (Rd ((w.drewN nd).alloc (.cells #[.int .i64 (inv : Int)] 3)) (.slice (some ⟨b, 0, none⟩) m cap) 1 F.length (nats F)) := HR'.out.below hBd (Nat.le_refl _)
    have HW := Lib.hid (And.intro hown hBd)
    clear hown hBd
    refine (product_is p F [inv] _ _ _ hp hp2 hr1 hr2 hF.out.red (by intro x hx; simp at hx; omega) (by have := HM.out; omega) (by simp)).mono ?_
    rintro e w2 ⟨⟨v2, rfl, hN⟩, hB⟩
    have HN : Hid (NewL w w2 v2 (Q.prodP' p F [inv]) ∧ NewL w w2 (.slice (some ⟨w.heap.size, 0, none⟩) 1 1) [inv] ∧ Below w.heap.size w w2) :=
      ⟨hN.from HW.out.2.size, (show NewL w _ _ [inv] from HW.out.1).keep hB, HW.out.2.trans (hB.mono HW.out.2.size)⟩
    clear hN hB
    go_wp2_with (fail)
    go_ret2
    rw [HE.out.1, HE.out.2]
    exact ⟨⟨_, _, rfl, HN.out.1, HN.out.2.1⟩, HN.out.2.2⟩

set_option maxRecDepth 100000 in
set_option maxHeartbeats 1000000 in
theorem divisorOf_ok (p n : Nat) (F G D : List Nat) (v1 v2 : Value) (w : World) (hP : Hid (M.Pr p)) (hp2 : p ≤ 1021) (h1 : Hid (Rd w v1 1 F.length (nats F))) (h2 : Hid (Rd w v2 1 G.length (nats G)))
    (hF : Hid (Q.Pol p F)) (hG : Hid (Q.Pol p G)) (hl1 : F.length ≤ 1000000) (hl2 : G.length ≤ 1000000) (hD : Hid (Q.gcdLoop p n F G = some D)) :
    Calls Tryz.prog 39 #[.int .i64 p, v1, v2] w (RetL w D) := by
  have hp : 2 ≤ p := hP.out.1
  obtain ⟨a1, cap1, rfl⟩ := h1.out.shape
  obtain ⟨a2, cap2, rfl⟩ := h2.out.shape
  go_enter Tryz.func39, Tryz.ntmps39
  go_wp2_with (fail)
  go_loopw [1, 2] (fun x y wr => ∃ (a b : Option Addr) (cp cq m k : Nat) (f g : List Nat), x = .slice a m cp ∧ y = .slice b k cq ∧ m ≤ 1000000 ∧ k ≤ 1000000 ∧ Hid (m = f.length ∧ k = g.length) ∧ Hid (Rd wr (.slice a m cp) 1 f.length (nats f)) ∧ Hid (Rd wr (.slice b k cq) 1 g.length (nats g)) ∧ Hid (Q.Pol p f) ∧ Hid (Q.Pol p g) ∧ Hid (Below w.heap.size w wr) ∧ Hid (∃ j, Q.gcdLoop p j f g = some D)) (fun _ y _ => match y with | .slice _ k _ => k | _ => 0)
  case atStart => exact ⟨_, _, _, _, _, _, F, G, rfl, rfl, hl1, hl2, ⟨rfl, rfl⟩, h1, h2, hF, hG, Below.refl _ _, ⟨n, hD.out⟩⟩
  case round =>
    obtain ⟨a, b, cp, cq, m, k, f, g, rfl, rfl, hm, hk, HMK, HR1, HR2, Hf, Hg, HB, HJ⟩ := hrel
    by_cases h0 : 0 < k
    · have hstep : Hid (∃ j, Q.gcdLoop p j g (Q.remP p f g) = some D) := by
        obtain ⟨j, hj⟩ := HJ.out
        cases j with
        | zero => simp [Q.gcdLoop] at hj
        | succ j => rw [Q.gcdLoop, if_neg (by have := HMK.out.2; omega)] at hj; exact ⟨j, hj⟩
      have hdiv := Q.div_is hP.out Hf.out Hg.out (by have := HMK.out.2; omega)
      have HDV : Hid (Q.Pol p (Q.remP p f g) ∧ (Q.remP p f g).length < k) := ⟨hdiv.rpol, by have := HMK.out.2; have := hdiv.rlen; show (Q.divP p f g).2.length < k; omega⟩
      clear hdiv
      go_wp2_with (fail)
      refine (remainder_is p f g _ _ _ hP hp2 HR1 HR2 Hf.out.red Hg (by have := HMK.out.1; omega) (by have := HMK.out.2; omega)).mono ?_
      rintro e w1 ⟨⟨v, rfl, hN⟩, hB⟩
      obtain ⟨a3, cap3, rfl⟩ := hN.rd.shape
      have HN : Hid (Rd w1 (.slice a3 (Q.remP p f g).length cap3) 1 (Q.remP p f g).length (nats (Q.remP p f g))) := hN.rd
      have HR2' : Hid (Rd w1 (.slice b k cq) 1 g.length (nats g)) := HR2.out.below hB (Nat.le_refl _)
      have HB' : Hid (Below w.heap.size w w1) := HB.out.trans (hB.mono HB.out.size)
      obtain ⟨rl, hrl⟩ : ∃ rl, rl = (Q.remP p f g).length := ⟨_, rfl⟩
      have HRL := Lib.hid hrl
      have HN' : Hid (Rd w1 (.slice a3 rl cap3) 1 (Q.remP p f g).length (nats (Q.remP p f g))) := by show Rd _ _ _ _ _; rw [hrl]; exact HN.out
      rw [← hrl]
      have hrk : rl < k := by rw [hrl]; exact HDV.out.2
      clear hN hB hrl HN
      go_wp2_with (fail)
      go_roundw
      case rel => exact ⟨_, _, _, _, _, _, g, Q.remP p f g, rfl, rfl, hk, by omega, ⟨HMK.out.2, HRL.out⟩, HR2', HN', Hg, HDV.out.1, HB', hstep⟩
      case measure => exact hrk
    · have hd : decide (0 < k) = false := by simpa using h0
      have hk0 : k = 0 := by omega
      have HE : Hid (D = Q.monicP p f) := by
        obtain ⟨j, hj⟩ := HJ.out
        cases j with
        | zero => simp [Q.gcdLoop] at hj
        | succ j => rw [Q.gcdLoop, if_pos (by have := HMK.out.2; omega)] at hj; injection hj with hj; exact hj.symm
      clear hk0
      go_wp2_with (fail)
      refine (monic_ok p f _ _ hP hp2 HR1 Hf (by have := HMK.out.1; omega)).mono ?_
      rintro e w1 ⟨⟨vq, vr, rfl, hq, hr⟩, hB⟩
      have HN : Hid (NewL w w1 vq (Q.monicP p f) ∧ Below w.heap.size w w1) := ⟨hq.from HB.out.size, HB.out.trans (hB.mono HB.out.size)⟩
      clear hq hr hB
      go_wp2_with (fail)
      go_ret
      rw [HE.out]
      exact ⟨⟨_, rfl, HN.out.1⟩, HN.out.2⟩

theorem divisorOf_is (p : Nat) (F G : List Nat) (v1 v2 : Value) (w : World) (hP : Hid (M.Pr p)) (hp2 : p ≤ 1021) (h1 : Hid (Rd w v1 1 F.length (nats F))) (h2 : Hid (Rd w v2 1 G.length (nats G)))
    (hF : Hid (Q.Pol p F)) (hG : Hid (Q.Pol p G)) (hl1 : F.length ≤ 1000000) (hl2 : G.length ≤ 1000000) :
    Calls Tryz.prog 39 #[.int .i64 p, v1, v2] w (RetL w (Q.gcdP p F G)) := by
  obtain ⟨d, e, _⟩ := Q.gcdLoop_is hP.out (G.length + 1) hF.out hG.out (by omega)
  have : Q.gcdP p F G = d := by rw [Q.gcdP, e]; rfl
  rw [this]
  exact divisorOf_ok p _ F G d v1 v2 w hP hp2 h1 h2 hF hG hl1 hl2 e

end Go.Proofs.YtbehihanhfmmhaaGreat

namespace Go.Proofs.YtbehihanhfmmhaaGreat
open Go.RowKit

/-- What the chapter calls a field. -/
def FieldI (p : Int) : Prop := 2 ≤ p ∧ p ≤ 1021 ∧ M.Pr p.toNat

set_option maxRecDepth 100000 in
set_option maxHeartbeats 1000000 in
theorem isField_is (p : Int) (t : Bool) (w : World) (ht : Hid (FieldI p ↔ t = true)) :
    Calls Tryz.prog 32 #[.int .i64 p] w fun x w' => x = .returned (.bool t) ∧ Below w.heap.size w w' := by
  by_cases h2 : p < 2
  · have hd : decide (p < 2) = true := by simpa using h2
    have hf : Hid (t = false) := by
      show _ = _; rw [Bool.eq_false_iff]; intro h; have := (ht.out.2 h).1; omega
    clear h2
    go_enter Tryz.func32, Tryz.ntmps32
    go_wp2_with (fail)
    go_ret
    exact ⟨ret_bb hf.out.symm, Below.refl _ _⟩
  · have hd : decide (p < 2) = false := by simpa using h2
    by_cases h3 : 1021 < p
    · have hd2 : decide (1021 < p) = true := by simpa using h3
      have hf : Hid (t = false) := by
        show _ = _; rw [Bool.eq_false_iff]; intro h; have := (ht.out.2 h).2.1; omega
      go_enter Tryz.func32, Tryz.ntmps32
      go_wp2_with (fail)
      go_ret
      exact ⟨ret_bb hf.out.symm, Below.refl _ _⟩
    · have hd2 : decide (1021 < p) = false := by simpa using h3
      obtain ⟨L, hL⟩ := M.exists_fac p.toNat (by omega)
      match L, hL with
      | [], hL => exfalso; have := hL.2; simp [M.prodP] at this; omega
      | x :: L, hL =>
        have HL := Lib.hid hL
        have hx : M.Pr x.1 := hL.1.2.1
        have hf : Hid (((x.1 : Int) == p) = t) := by
          show _ = _
          rw [Bool.eq_iff_iff, ← ht.out, beq_iff_eq]
          constructor
          · intro h; exact ⟨by omega, by omega, by rw [← h, Int.toNat_natCast]; exact hx⟩
          · rintro ⟨_, _, h⟩
            have := fac_of_prime h hL
            injection this with h1 h4
            rw [h1]
            show ((p.toNat : Nat) : Int) = p
            omega
        clear hL hx
        go_enter Tryz.func32, Tryz.ntmps32
        go_wp2_with (fail)
        refine (Factor_yes p (x :: L) _ (by omega) (by omega) HL).mono ?_
        rintro e w1 ⟨⟨v, rfl, hown⟩, hB⟩
        have hrd := Rd.of_own hown
        obtain ⟨hfl, a, cap, rfl, hcap, hcell⟩ := hrd
        rcases hcell with h0 | ⟨b, rfl, hb, hcell⟩
        · simp at h0
        have c0 := hcell 0 (.int .i64 (x.1 : Int)) (by simp [flat])
        have HB := Lib.hid hB
        clear hcell hfl hB hown
        simp only [List.length_cons]
        go_wp2_with (fail)
        go_ret
        exact ⟨ret_bb hf.out, HB.out⟩

/-- A slice of slices that reads as lists of ints. -/
def RdM (w : World) (v : Value) (Ls : List (List Int)) : Prop :=
  ∃ vs : List Value, Rd w v 1 Ls.length vs ∧ ∀ i (h : i < Ls.length) (h' : i < vs.length), Rd w vs[i] 1 Ls[i].length (zs Ls[i])

theorem RdM.below {w w' : World} {v : Value} {Ls : List (List Int)} (h : RdM w v Ls) (hB : Below w.heap.size w w') : RdM w' v Ls := by
  obtain ⟨vs, h1, h2⟩ := h
  exact ⟨vs, h1.below hB (Nat.le_refl _), fun i h h' => (h2 i h h').below hB (Nat.le_refl _)⟩

set_option maxRecDepth 100000 in
set_option maxHeartbeats 1000000 in
theorem arePolys_is (p : Int) (v : Value) (Ls : List (List Int)) (t : Bool) (w : World) (hr : Hid (RdM w v Ls)) (hl : Ls.length ≤ 1000000) (hls : Hid (∀ Z ∈ Ls, Z.length ≤ 1000000)) (ht : Hid ((FieldI p ∧ ∀ Z ∈ Ls, polyB p Z = true) ↔ t = true)) :
    Calls Tryz.prog 14 #[.int .i64 p, v] w fun x w' => x = .returned (.bool t) ∧ Below w.heap.size w w' := by
  obtain ⟨vs, hrv, hrs⟩ := hr.out
  have hvl := hrv.1
  obtain ⟨_, a, cap, rfl, hcap, hcell⟩ := hrv
  have HC := Lib.hid hcell
  have HS := Lib.hid hrs
  have HVL := Lib.hid hvl
  clear hcell hrs hvl
  by_cases hF : FieldI p
  · have HF1 : Hid (FieldI p ↔ true = true) := ⟨fun _ => rfl, fun _ => hF⟩
    have HF := Lib.hid hF
    clear hF
    obtain ⟨n, hn⟩ : ∃ n, n = Ls.length := ⟨_, rfl⟩
    have HN := Lib.hid hn
    rw [← hn] at hl hcap ⊢
    clear hn
    go_enter Tryz.func14, Tryz.ntmps14
    go_wp2_with (go_at_call 32; refine (isField_is p true _ HF1).mono ?_; rintro e w1 ⟨rfl, hB⟩; have HB := Lib.hid hB; clear hB)
    go_loop [12] (fun i => ∃ (k : Nat), i = .int .i64 k ∧ k ≤ n ∧ Hid (∀ j (h : j < Ls.length), j < k → polyB p Ls[j] = true)) (fun i => n - (intOf i).toNat)
    case atStart => exact ⟨0, rfl, by omega, fun j _ hj => by omega⟩
    case round =>
      obtain ⟨k, rfl, hk, HK⟩ := hrel
      by_cases hlt : k < n
      · have hkl : k < Ls.length := by have := HN.out; omega
        rcases HC.out with h0 | ⟨b, rfl, hb, hcell⟩
        · omega
        have hkv : k < vs.length := by have := HVL.out; omega
        obtain ⟨u, hu⟩ : ∃ u, u = vs[k] := ⟨_, rfl⟩
        have c0 : w1.cell? ⟨b, k, none⟩ = some u := by rw [HB.out.cell (p := ⟨b, k, none⟩) hb, hu]; exact hcell _ _ (by simp [hkv])
        have hru : Hid (Rd w1 u 1 Ls[k].length (zs Ls[k])) := by show Rd _ _ _ _ _; rw [hu]; exact (HS.out k hkl hkv).below HB.out (Nat.le_refl _)
        obtain ⟨Z, hZ⟩ : ∃ Z, Z = Ls[k] := ⟨_, rfl⟩
        have hmem : Z ∈ Ls := by rw [hZ]; exact List.getElem_mem hkl
        rw [← hZ] at hru
        have hZl : Z.length ≤ 1000000 := hls.out Z hmem
        have HZ := Lib.hid (And.intro hZ hmem)
        obtain ⟨au, cu, hsh⟩ := hru.out.shape
        subst hsh
        clear hcell hu hZ hmem
        by_cases hpb : polyB p Z = true
        · have HPB := Lib.hid hpb
          clear hpb
          go_wp2_with (go_at_call 33; refine (isPoly_is p _ Z true _ hru hZl HPB).mono ?_; rintro e w' ⟨rfl, rfl⟩)
          go_round
          case rel =>
            refine ⟨k + 1, by go_num, by omega, fun j hj hjk => ?_⟩
            by_cases e1 : j = k
            · subst e1; rw [← HZ.out.1]; exact HPB.out
            · exact HK.out j hj (by omega)
          case measure => simp [intOf]; omega
        · have HPB : Hid (polyB p Z = false) := by show _ = _; simpa using hpb
          have hf : Hid (t = false) := by
            show _ = _; rw [Bool.eq_false_iff]; intro h
            have := (ht.out.2 h).2 Z HZ.out.2
            rw [HPB.out] at this; cases this
          clear hpb
          go_wp2_with (go_at_call 33; refine (isPoly_is p _ Z false _ hru hZl HPB).mono ?_; rintro e w' ⟨rfl, rfl⟩)
          go_ret
          exact ⟨ret_bb hf.out.symm, HB.out⟩
      · obtain rfl : k = n := by omega
        have hf : Hid (t = true) := by
          show _ = _
          refine ht.out.1 ⟨HF.out, fun Z hZ => ?_⟩
          obtain ⟨j, hj, rfl⟩ := List.getElem_of_mem hZ
          exact HK.out j hj (by have := HN.out; omega)
        go_wp2_with (fail)
        go_ret
        exact ⟨ret_bb hf.out.symm, HB.out⟩
  · have HF1 : Hid (FieldI p ↔ false = true) := ⟨fun h => absurd h hF, fun h => by cases h⟩
    have hf : Hid (t = false) := by
      show _ = _; rw [Bool.eq_false_iff]; intro h; exact hF (ht.out.2 h).1
    clear hF
    go_enter Tryz.func14, Tryz.ntmps14
    go_wp2_with (go_at_call 32; refine (isField_is p false _ HF1).mono ?_; rintro e w1 ⟨rfl, hB⟩; have HB := Lib.hid hB; clear hB)
    go_ret
    exact ⟨ret_bb hf.out.symm, HB.out⟩

/-! ### Lists of ints that are polynomials -/
def up (F : List Nat) : List Int := F.map fun (x : Nat) => (x : Int)
theorem zs_up (F : List Nat) : zs (up F) = nats F := (nats_zs F).symm
theorem up_length (F : List Nat) : (up F).length = F.length := by simp [up]

/-- A list of ints is a polynomial of the chapter, just if it is one of numbers. -/
theorem polyB_iff (p : Nat) (Z : List Int) : polyB p Z = true ↔ ∃ F, Z = up F ∧ Q.Pol p F ∧ F.length ≤ 33 := by
  unfold polyB
  constructor
  · intro h
    simp only [Bool.and_eq_true, decide_eq_true_eq, List.all_eq_true, Bool.or_eq_true, beq_iff_eq, bne_iff_ne, ne_eq] at h
    obtain ⟨h1, h2, h3⟩ := h
    have hz : Z = up (Z.map Int.toNat) := by
      apply List.ext_getElem
      · simp [up]
      · intro i h4 h5
        have := h2 Z[i] (List.getElem_mem h4)
        simp [up]; omega
    refine ⟨Z.map Int.toNat, hz, Q.pol_of ?_ ?_, by simpa using h1⟩
    · intro x hx
      obtain ⟨z, hz, rfl⟩ := List.mem_map.1 hx
      have := h2 z hz
      omega
    · rw [List.length_map]
      rcases h3 with h3 | h3
      · exact .inl h3
      · by_cases h0 : Z.length = 0
        · exact .inl h0
        · right
          have h4 : Z.length - 1 < Z.length := by omega
          have h5 := h2 Z[Z.length - 1] (List.getElem_mem h4)
          have h6 : Z.getD (Z.length - 1) 0 = Z[Z.length - 1] := by simp [List.getD, h4]
          rw [h6] at h3
          rw [Q.getD_get (by simpa using h4), List.getElem_map]
          omega
  · rintro ⟨F, rfl, hF, hl⟩
    simp only [Bool.and_eq_true, decide_eq_true_eq, List.all_eq_true, Bool.or_eq_true, beq_iff_eq, bne_iff_ne, ne_eq]
    refine ⟨by rw [up_length]; exact hl, fun c hc => ?_, ?_⟩
    · obtain ⟨x, hx, rfl⟩ := List.mem_map.1 hc
      have := hF.red x hx
      omega
    · rw [up_length]
      by_cases h0 : F.length = 0
      · exact .inl h0
      · right
        have h1 := hF.ne h0
        have h4 : F.length - 1 < F.length := by omega
        rw [Q.getD_get h4] at h1
        have : (up F).getD (F.length - 1) 0 = (F[F.length - 1] : Int) := by simp [List.getD, up, h4]
        rw [this]
        omega

end Go.Proofs.YtbehihanhfmmhaaGreat

namespace Go.Proofs.YtbehihanhfmmhaaGreat
open Go.RowKit

theorem rdM2 {w : World} {v1 v2 : Value} {Z1 Z2 : List Int} {T : TypeId} (h1 : Rd w v1 1 Z1.length (zs Z1)) (h2 : Rd w v2 1 Z2.length (zs Z2)) :
    RdM (w.alloc (.cells #[v1, v2] T)) (.slice (some ⟨w.heap.size, 0, none⟩) 2 2) [Z1, Z2] := by
  have hB : Below w.heap.size w (w.alloc (.cells #[v1, v2] T)) := (Below.refl _ _).alloc (Nat.le_refl _) _
  refine ⟨[v1, v2], ⟨rfl, _, _, rfl, Nat.le_refl _, .inr ⟨w.heap.size, rfl, by simp, fun j u hu => ?_⟩⟩, fun i h h' => ?_⟩
  · match j, hu with
    | 0, hu => simp at hu; subst hu; simp
    | 1, hu => simp at hu; subst hu; simp
    | j + 2, hu => simp at hu
  · match i, h, h' with
    | 0, _, _ => exact h1.below hB (Nat.le_refl _)
    | 1, _, _ => exact h2.below hB (Nat.le_refl _)
    | i + 2, h, _ => exact absurd h (by simp)

theorem rdM1 {w : World} {v1 : Value} {Z1 : List Int} {T : TypeId} (h1 : Rd w v1 1 Z1.length (zs Z1)) :
    RdM (w.alloc (.cells #[v1] T)) (.slice (some ⟨w.heap.size, 0, none⟩) 1 1) [Z1] := by
  have hB : Below w.heap.size w (w.alloc (.cells #[v1] T)) := (Below.refl _ _).alloc (Nat.le_refl _) _
  refine ⟨[v1], ⟨rfl, _, _, rfl, Nat.le_refl _, .inr ⟨w.heap.size, rfl, by simp, fun j u hu => ?_⟩⟩, fun i h h' => ?_⟩
  · match j, hu with
    | 0, hu => simp at hu; subst hu; simp
    | j + 1, hu => simp at hu
  · match i, h, h' with
    | 0, _, _ => exact h1.below hB (Nat.le_refl _)
    | i + 1, h, _ => exact absurd h (by simp)

theorem arePolys_yes (p : Int) (v : Value) (Ls : List (List Int)) (w : World) (hr : Hid (RdM w v Ls)) (hl : Ls.length ≤ 1000000) (hls : Hid (∀ Z ∈ Ls, Z.length ≤ 1000000)) (ht : Hid (FieldI p ∧ ∀ Z ∈ Ls, polyB p Z = true)) :
    Calls Tryz.prog 14 #[.int .i64 p, v] w fun x w' => x = .returned (.bool true) ∧ Below w.heap.size w w' := arePolys_is p v Ls true w hr hl hls ⟨fun _ => rfl, fun _ => ht.out⟩
theorem arePolys_no (p : Int) (v : Value) (Ls : List (List Int)) (w : World) (hr : Hid (RdM w v Ls)) (hl : Ls.length ≤ 1000000) (hls : Hid (∀ Z ∈ Ls, Z.length ≤ 1000000)) (ht : Hid (¬ (FieldI p ∧ ∀ Z ∈ Ls, polyB p Z = true))) :
    Calls Tryz.prog 14 #[.int .i64 p, v] w fun x w' => x = .returned (.bool false) ∧ Below w.heap.size w w' := arePolys_is p v Ls false w hr hl hls ⟨fun h => absurd h ht.out, fun h => by cases h⟩
theorem isField_yes (p : Int) (w : World) (ht : Hid (FieldI p)) :
    Calls Tryz.prog 32 #[.int .i64 p] w fun x w' => x = .returned (.bool true) ∧ Below w.heap.size w w' := isField_is p true w ⟨fun _ => rfl, fun _ => ht.out⟩
theorem isField_no (p : Int) (w : World) (ht : Hid (¬ FieldI p)) :
    Calls Tryz.prog 32 #[.int .i64 p] w fun x w' => x = .returned (.bool false) ∧ Below w.heap.size w w' := isField_is p false w ⟨fun h => absurd h ht.out, fun h => by cases h⟩

/-- What two lists must be for Add, Mul, Div, Gcd. -/
def Args2 (p : Int) (Z1 Z2 : List Int) : Prop := FieldI p ∧ ∀ Z ∈ [Z1, Z2], polyB p Z = true
def Args1 (p : Int) (Z1 : List Int) : Prop := FieldI p ∧ ∀ Z ∈ [Z1], polyB p Z = true

theorem Rd.zs {w : World} {v : Value} {F : List Nat} (h : Rd w v 1 F.length (nats F)) : Rd w v 1 (up F).length (Go.Proofs.YtbehihanhfmmhaaGreat.zs (up F)) := by rw [up_length, zs_up]; exact h

theorem args2_of {p : Nat} {F G : List Nat} (hP : M.Pr p) (hp2 : p ≤ 1021) (hF : Q.Pol p F) (hG : Q.Pol p G) (h1 : F.length ≤ 33) (h2 : G.length ≤ 33) : Args2 p (up F) (up G) := by
  refine ⟨⟨by have := hP.1; omega, by omega, by rw [Int.toNat_natCast]; exact hP⟩, fun Z hZ => ?_⟩
  simp at hZ
  rcases hZ with rfl | rfl
  · exact (polyB_iff p _).2 ⟨F, rfl, hF, h1⟩
  · exact (polyB_iff p _).2 ⟨G, rfl, hG, h2⟩

theorem args1_of {p : Nat} {F : List Nat} (hP : M.Pr p) (hp2 : p ≤ 1021) (hF : Q.Pol p F) (h1 : F.length ≤ 33) : Args1 p (up F) := by
  refine ⟨⟨by have := hP.1; omega, by omega, by rw [Int.toNat_natCast]; exact hP⟩, fun Z hZ => ?_⟩
  simp at hZ
  subst hZ
  exact (polyB_iff p _).2 ⟨F, rfl, hF, h1⟩

/-- What good arguments are. -/
theorem of_args2 {p : Int} {Z1 Z2 : List Int} (h : Args2 p Z1 Z2) : ∃ (q : Nat) (F G : List Nat), p = q ∧ Z1 = up F ∧ Z2 = up G ∧ M.Pr q ∧ q ≤ 1021 ∧ Q.Pol q F ∧ Q.Pol q G ∧ F.length ≤ 33 ∧ G.length ≤ 33 := by
  obtain ⟨⟨h2, h3, h4⟩, h5⟩ := h
  obtain ⟨q, rfl⟩ := Int.eq_ofNat_of_zero_le (show 0 ≤ p by omega)
  rw [Int.toNat_natCast] at h4
  obtain ⟨F, e1, f1, f2⟩ := (polyB_iff q Z1).1 (h5 Z1 (by simp))
  obtain ⟨G, e2, g1, g2⟩ := (polyB_iff q Z2).1 (h5 Z2 (by simp))
  exact ⟨q, F, G, rfl, e1, e2, h4, by omega, f1, g1, f2, g2⟩

theorem of_args1 {p : Int} {Z1 : List Int} (h : Args1 p Z1) : ∃ (q : Nat) (F : List Nat), p = q ∧ Z1 = up F ∧ M.Pr q ∧ q ≤ 1021 ∧ Q.Pol q F ∧ F.length ≤ 33 := by
  obtain ⟨⟨h2, h3, h4⟩, h5⟩ := h
  obtain ⟨q, rfl⟩ := Int.eq_ofNat_of_zero_le (show 0 ≤ p by omega)
  rw [Int.toNat_natCast] at h4
  obtain ⟨F, e1, f1, f2⟩ := (polyB_iff q Z1).1 (h5 Z1 (by simp))
  exact ⟨q, F, rfl, e1, h4, by omega, f1, f2⟩

/-- One new list, and no error. -/
def RetE (w : World) (F : List Nat) (x : Ending) (w' : World) : Prop := (∃ v, x = .returned (.tuple #[v, .int .i64 0]) ∧ NewL w w' v F) ∧ Below w.heap.size w w'
/-- Two new lists, and no error. -/
def RetDE (w : World) (q r : List Nat) (x : Ending) (w' : World) : Prop := (∃ vq vr, x = .returned (.tuple #[vq, vr, .int .i64 0]) ∧ NewL w w' vq q ∧ NewL w w' vr r) ∧ Below w.heap.size w w'

set_option maxRecDepth 100000 in
set_option maxHeartbeats 1000000 in
theorem Mul_arg (p : Int) (Z1 Z2 : List Int) (v1 v2 : Value) (w : World) (h1 : Hid (Rd w v1 1 Z1.length (zs Z1))) (h2 : Hid (Rd w v2 1 Z2.length (zs Z2))) (hl1 : Z1.length ≤ 1000000) (hl2 : Z2.length ≤ 1000000) (hn : Hid (¬ Args2 p Z1 Z2)) :
    Calls Tryz.prog 19 #[.int .i64 p, v1, v2] w fun x w' => x = .returned (.tuple #[.slice none 0 0, .int .i64 2]) ∧ Below w.heap.size w w' := by
  have hM := Lib.hid (rdM2 (T := 22) h1.out h2.out)
  have hB : Hid (Below w.heap.size w (w.alloc (.cells #[v1, v2] 22))) := (Below.refl _ _).alloc (Nat.le_refl _) _
  have hls : Hid (∀ Z ∈ [Z1, Z2], Z.length ≤ 1000000) := by intro Z hZ; simp at hZ; rcases hZ with rfl | rfl <;> assumption
  obtain ⟨a1, cap1, rfl⟩ := h1.out.shape
  obtain ⟨a2, cap2, rfl⟩ := h2.out.shape
  go_enter Tryz.func19, Tryz.ntmps19
  go_wp2_with (fail)
  refine (arePolys_no p _ [Z1, Z2] _ hM (by simp) hls hn).mono ?_
  rintro e w1 ⟨rfl, hB1⟩
  have HB := Lib.hid (hB.out.trans (hB1.mono (by simp)))
  clear hB1
  go_wp2_with (fail)
  go_ret2
  exact ⟨rfl, HB.out⟩

set_option maxRecDepth 100000 in
set_option maxHeartbeats 1000000 in
theorem Mul_ok (p : Nat) (F G : List Nat) (v1 v2 : Value) (w : World) (hP : Hid (M.Pr p)) (hp2 : p ≤ 1021) (h1 : Hid (Rd w v1 1 F.length (nats F))) (h2 : Hid (Rd w v2 1 G.length (nats G))) (hF : Hid (Q.Pol p F)) (hG : Hid (Q.Pol p G)) (hl1 : F.length ≤ 33) (hl2 : G.length ≤ 33) (hsm : (Q.prodP' p F G).length ≤ 33) :
    Calls Tryz.prog 19 #[.int .i64 p, v1, v2] w (RetE w (Q.prodP' p F G)) := by
  have hp : 2 ≤ p := hP.out.1
  have hM := Lib.hid (rdM2 (T := 22) h1.out.zs h2.out.zs)
  have hB : Hid (Below w.heap.size w (w.alloc (.cells #[v1, v2] 22))) := (Below.refl _ _).alloc (Nat.le_refl _) _
  have hls : Hid (∀ Z ∈ [up F, up G], Z.length ≤ 1000000) := by intro Z hZ; simp at hZ; rcases hZ with rfl | rfl <;> (rw [up_length]; omega)
  have ht : Hid (Args2 p (up F) (up G)) := args2_of hP.out hp2 hF.out hG.out hl1 hl2
  obtain ⟨a1, cap1, rfl⟩ := h1.out.shape
  obtain ⟨a2, cap2, rfl⟩ := h2.out.shape
  go_enter Tryz.func19, Tryz.ntmps19
  go_wp2_with (fail)
  refine (arePolys_yes p _ [up F, up G] _ hM (by simp) hls ht).mono ?_
  rintro e w1 ⟨rfl, hB1⟩
  have HB := Lib.hid (hB.out.trans (hB1.mono (by simp)))
  have h1' : Hid (Rd w1 (.slice a1 F.length cap1) 1 F.length (nats F)) := h1.out.below HB.out (Nat.le_refl _)
  have h2' : Hid (Rd w1 (.slice a2 G.length cap2) 1 G.length (nats G)) := h2.out.below HB.out (Nat.le_refl _)
  clear hB1 hM h1 h2
  go_wp2_with (fail)
  refine (product_is p F G _ _ _ hp hp2 h1' h2' hF.out.red hG.out.red (by omega) (by omega)).mono ?_
  rintro e w2 ⟨⟨v, rfl, hN⟩, hB2⟩
  obtain ⟨a3, cap3, hsh⟩ := hN.rd.shape
  subst hsh
  have HN : Hid (NewL w w2 (.slice a3 (Q.prodP' p F G).length cap3) (Q.prodP' p F G) ∧ Below w.heap.size w w2) := ⟨hN.from HB.out.size, HB.out.trans (hB2.mono HB.out.size)⟩
  clear hN hB2
  have hd : decide ((33 : Int) < ((Q.prodP' p F G).length : Int)) = false := by simp; omega
  go_wp2_with (fail)
  go_ret2
  exact ⟨⟨_, rfl, HN.out.1⟩, HN.out.2⟩

set_option maxRecDepth 100000 in
set_option maxHeartbeats 1000000 in
theorem Mul_full (p : Nat) (F G : List Nat) (v1 v2 : Value) (w : World) (hP : Hid (M.Pr p)) (hp2 : p ≤ 1021) (h1 : Hid (Rd w v1 1 F.length (nats F))) (h2 : Hid (Rd w v2 1 G.length (nats G))) (hF : Hid (Q.Pol p F)) (hG : Hid (Q.Pol p G)) (hl1 : F.length ≤ 33) (hl2 : G.length ≤ 33) (hsm : 33 < (Q.prodP' p F G).length) :
    Calls Tryz.prog 19 #[.int .i64 p, v1, v2] w fun x w' => x = .returned (.tuple #[.slice none 0 0, .int .i64 5]) ∧ Below w.heap.size w w' := by
  have hp : 2 ≤ p := hP.out.1
  have hM := Lib.hid (rdM2 (T := 22) h1.out.zs h2.out.zs)
  have hB : Hid (Below w.heap.size w (w.alloc (.cells #[v1, v2] 22))) := (Below.refl _ _).alloc (Nat.le_refl _) _
  have hls : Hid (∀ Z ∈ [up F, up G], Z.length ≤ 1000000) := by intro Z hZ; simp at hZ; rcases hZ with rfl | rfl <;> (rw [up_length]; omega)
  have ht : Hid (Args2 p (up F) (up G)) := args2_of hP.out hp2 hF.out hG.out hl1 hl2
  obtain ⟨a1, cap1, rfl⟩ := h1.out.shape
  obtain ⟨a2, cap2, rfl⟩ := h2.out.shape
  go_enter Tryz.func19, Tryz.ntmps19
  go_wp2_with (fail)
  refine (arePolys_yes p _ [up F, up G] _ hM (by simp) hls ht).mono ?_
  rintro e w1 ⟨rfl, hB1⟩
  have HB := Lib.hid (hB.out.trans (hB1.mono (by simp)))
  have h1' : Hid (Rd w1 (.slice a1 F.length cap1) 1 F.length (nats F)) := h1.out.below HB.out (Nat.le_refl _)
  have h2' : Hid (Rd w1 (.slice a2 G.length cap2) 1 G.length (nats G)) := h2.out.below HB.out (Nat.le_refl _)
  clear hB1 hM h1 h2
  go_wp2_with (fail)
  refine (product_is p F G _ _ _ hp hp2 h1' h2' hF.out.red hG.out.red (by omega) (by omega)).mono ?_
  rintro e w2 ⟨⟨v, rfl, hN⟩, hB2⟩
  obtain ⟨a3, cap3, hsh⟩ := hN.rd.shape
  subst hsh
  have HN : Hid (NewL w w2 (.slice a3 (Q.prodP' p F G).length cap3) (Q.prodP' p F G) ∧ Below w.heap.size w w2) := ⟨hN.from HB.out.size, HB.out.trans (hB2.mono HB.out.size)⟩
  clear hN hB2
  have hd : decide ((33 : Int) < ((Q.prodP' p F G).length : Int)) = true := by simp; omega
  go_wp2_with (fail)
  go_ret2
  exact ⟨rfl, HN.out.2⟩

end Go.Proofs.YtbehihanhfmmhaaGreat
namespace Go.Proofs.YtbehihanhfmmhaaGreat
open Go.RowKit

theorem CSt.start {w w0 : World} {n : Nat} {H : List Nat} (hown : w0.ownsRow w.heap.size 3 1 (.slice (some ⟨w.heap.size, 0, none⟩) n n) n (madeCells #[Value.int .i64 0] n).toList) (hg : w.grownBy w0 none) (hl : H.length = n) : CSt w w0 w.heap.size n 0 H := by
  refine ⟨?_, below_of_grown hg, hl⟩
  rw [nats_zeros] at hown
  simpa using hown

set_option maxRecDepth 100000 in
set_option maxHeartbeats 1000000 in
theorem derivative_is (p : Nat) (F : List Nat) (v : Value) (w : World) (hp : 2 ≤ p) (hp2 : p ≤ 1021) (hr : Hid (Rd w v 1 F.length (nats F))) (hF : Hid (Q.Red p F)) (hl : F.length ≤ 1000000) (h0 : F.length ≠ 0) :
    Calls Tryz.prog 36 #[.int .i64 p, v] w (RetL w (Q.deriv p F)) := by
  obtain ⟨_, a, cap, rfl, hcap, hcell⟩ := hr.out
  rcases hcell with h | ⟨b, rfl, hb, hc⟩
  · omega
  have HC := Lib.hid hc
  clear hc hr
  obtain ⟨H, hH⟩ : ∃ H, H = (List.range (F.length - 1)).map fun i => (i + 1) * F.getD (i + 1) 0 % p := ⟨_, rfl⟩
  have HH := Lib.hid hH
  have HD : Hid (Q.deriv p F = Q.trim H) := by show _ = _; rw [Q.deriv, hH]
  obtain ⟨n, hn⟩ : ∃ n, F.length = n + 1 := ⟨F.length - 1, by omega⟩
  have hHl : H.length = n := by rw [hH]; simp; omega
  have HN := Lib.hid (And.intro hn hHl)
  rw [hn] at hl hcap ⊢
  clear hH hn hHl h0
  have hn1 : ((n + 1 : Nat) : Int) - 1 = (n : Int) := by omega
  have hzp : ((p : Int) == 0) = false := by simp; omega
  obtain ⟨i0, hi, hz0, hz1, hz2⟩ := info_parts Tryz.infoZ
  go_enter Tryz.func36, Tryz.ntmps36
  go_wp2_with (at_make; refine wpList_make_full _ rfl _ _ 22 rfl w.heap.size 3 i0 (.int .i64 0) 1 Tryz.underlying22 hi hz0 hz1 .i64 .i64 _ _ n rfl rfl rfl rfl (by rw [hz2]; omega) (by unfold maxLen; omega) (Nat.le_refl _) ?_)
  intro w0 hown0 hgrow0
  have hst : Hid (CSt w w0 w.heap.size n 0 H) := CSt.start hown0 hgrow0 HN.out.2
  clear hown0 hgrow0
  go_wp2_with (fail)
  go_loopw [13] (fun i wr => ∃ (k : Nat), i = .int .i64 k ∧ k ≤ n ∧ Hid (CSt w wr w.heap.size n k H)) (fun i _ => n - (intOf i).toNat)
  case atStart => exact ⟨0, rfl, by omega, hst⟩
  case round =>
    obtain ⟨k, rfl, hk, HS⟩ := hrel
    by_cases hlt : k < n
    · have hcell := HS.out.cell hlt
      have hfr := HS.out.free k
      have hkH : k < H.length := by have := HN.out.2; omega
      have hkF : k + 1 < F.length := by have := HN.out.1; omega
      obtain ⟨y, hy⟩ : ∃ y, y = F.getD (k + 1) 0 := ⟨_, rfl⟩
      have hyp : y < p := by rw [hy]; exact hF.out.getD (by omega) _
      have c1 : wr.cell? ⟨b, k + 1, none⟩ = some (.int .i64 (y : Int)) := by
        rw [HS.out.below.cell (p := ⟨b, k + 1, none⟩) hb, HC.out _ _ (nats_get F (k + 1) hkF), hy, Q.getD_get hkF]
      have hend : Hid (∀ z : Nat, z = (k + 1) * y % p → CSt w (wr.setCell ⟨w.heap.size, k, none⟩ (.int .i64 (z : Int))) w.heap.size n (k + 1) H) := fun z hz => by
        have e : H[k] = z := by have := HH.out; subst this; simp only [List.getElem_map, List.getElem_range]; rw [hz, hy]
        rw [← e]; exact HS.out.store hkH
      have hm : (0 : Int) ≤ ((k : Int) + 1) * (y : Int) ∧ ((k : Int) + 1) * (y : Int) ≤ 1021000000 := by
        have h1 : (k + 1) * y ≤ 1000000 * 1021 := Nat.mul_le_mul (by omega) (by omega)
        have h2 : ((k : Int) + 1) * (y : Int) = (((k + 1) * y : Nat) : Int) := by simp
        omega
      have hk2 : ((k : Int) + 1).toNat = k + 1 := by omega
      clear hy
      go_wp2_with (fail)
      go_roundw
      case rel =>
        refine ⟨k + 1, by go_num, by omega, ?_⟩
        have := hend.out _ rfl
        show CSt _ _ _ _ _ _
        simpa using this
      case measure => simp [intOf]; omega
    · obtain rfl : k = n := by omega
      have hD := HS.out.done
      have hD' : wr.ownsRow w.heap.size 3 1 (.slice (some ⟨w.heap.size, 0, none⟩) k k) H.length (nats H) := by rw [HN.out.2]; exact hD
      obtain ⟨a', cap', hv, HT⟩ := trim_ret hD' (by have := HN.out.2; omega) HS.out.below
      have e : k = H.length := HN.out.2.symm
      obtain rfl : a' = some ⟨w.heap.size, 0, none⟩ := by injection hv with h1 h2 h3; exact h1.symm
      obtain rfl : cap' = k := by injection hv with h1 h2 h3; exact h3.symm
      have HT' : Hid (Calls Tryz.prog 60 #[.slice (some ⟨w.heap.size, 0, none⟩) cap' cap'] wr fun x w' => (x = .returned (.slice (some ⟨w.heap.size, 0, none⟩) (Q.trimLen H) cap') ∧ NewL w wr (.slice (some ⟨w.heap.size, 0, none⟩) (Q.trimLen H) cap') (Q.trim H) ∧ Below w.heap.size w wr) ∧ wr = w') := by
        have := HT; rw [HN.out.2] at this; exact this
      clear hD hD' HT hv e
      go_wp2_with (fail)
      refine HT'.out.mono ?_
      rintro e w2 ⟨⟨rfl, hN, hBB⟩, rfl⟩
      have HN' := Lib.hid (And.intro hN hBB)
      clear hN hBB HT'
      go_wp2_with (fail)
      go_ret
      rw [HD.out]
      exact ⟨⟨_, rfl, HN'.out.1⟩, HN'.out.2⟩

set_option maxRecDepth 100000 in
set_option maxHeartbeats 1000000 in
theorem raise_is (p e : Nat) (F G : List Nat) (v1 v2 : Value) (w : World) (hP : Hid (M.Pr p)) (hp2 : p ≤ 1021) (h1 : Hid (Rd w v1 1 F.length (nats F))) (h2 : Hid (Rd w v2 1 G.length (nats G)))
    (hF : Hid (Q.Pol p F)) (hG : Hid (Q.Pol p G)) (hl1 : F.length ≤ 100000) (hl2 : G.length ≤ 100000) (hg0 : G.length ≠ 0) (he : e ≤ 1000000) :
    Calls Tryz.prog 69 #[.int .i64 p, v1, .int .i64 e, v2] w (RetL w (Q.raiseP p F e G)) := by
  have hp : 2 ≤ p := hP.out.1
  obtain ⟨a1, cap1, rfl⟩ := h1.out.shape
  obtain ⟨a2, cap2, rfl⟩ := h2.out.shape
  have hone := lit1_own w 1
  have hB1 : Below w.heap.size w (w.alloc (.cells #[.int .i64 ((1 : Nat) : Int)] 3)) := (Below.refl _ _).alloc (Nat.le_refl _) _
  have HO : Hid (NewL w (w.alloc (.cells #[.int .i64 1] 3)) (.slice (some ⟨w.heap.size, 0, none⟩) 1 1) [1] ∧ Below w.heap.size w (w.alloc (.cells #[.int .i64 1] 3))) := ⟨hone, hB1⟩
  have h1' : Hid (Rd (w.alloc (.cells #[.int .i64 1] 3)) (.slice a1 F.length cap1) 1 F.length (nats F)) := h1.out.below HO.out.2 (Nat.le_refl _)
  have hp1 : Hid (Q.Pol p [1]) := Q.pol_const (by omega) (by omega)
  obtain ⟨fin, hfin⟩ : ∃ fin, fin = Q.raiseP p F e G := ⟨_, rfl⟩
  have HFIN : Hid (∃ n, e ≤ n ∧ Q.raiseLoop p G n [1] F e = fin) := ⟨e, Nat.le_refl _, hfin.symm⟩
  rw [← hfin]
  clear hone hB1 hfin
  go_enter Tryz.func69, Tryz.ntmps69
  go_wp2_with (fail)
  go_loopw [2, 9, 10] (fun x r s wr => ∃ (k m1 m2 cp1 cp2 : Nat) (b1 b2 : Option Addr) (f g : List Nat), x = .int .i64 k ∧ r = .slice b1 m1 cp1 ∧ s = .slice b2 m2 cp2 ∧ k ≤ 1000000 ∧ m1 ≤ 100000 ∧ m2 ≤ 100000 ∧ Hid (m1 = f.length ∧ m2 = g.length) ∧ Hid (NewL w wr (.slice b1 m1 cp1) f) ∧ Hid (Rd wr (.slice b2 m2 cp2) 1 g.length (nats g)) ∧ Hid (Q.Pol p f) ∧ Hid (Q.Pol p g) ∧ Hid (Below w.heap.size w wr) ∧ Hid (∃ n, k ≤ n ∧ Q.raiseLoop p G n f g k = fin)) (fun x _ _ _ => (intOf x).toNat)
  case atStart => exact ⟨e, _, _, _, _, _, _, [1], F, rfl, rfl, rfl, he, by omega, hl1, ⟨rfl, rfl⟩, HO.out.1, h1', hp1, hF, HO.out.2, HFIN⟩
  case round =>
    obtain ⟨k, m1, m2, cp1, cp2, b1, b2, f, g, rfl, rfl, rfl, hk, hm1, hm2, HM, HR, HS, Hf, Hg, HB, HJ⟩ := hrel
    by_cases h0 : 0 < k
    · have HV2 : Hid (Rd wr (.slice a2 G.length cap2) 1 G.length (nats G)) := h2.out.below HB.out (Nat.le_refl _)
      have HRr : Hid (Rd wr (.slice b1 m1 cp1) 1 f.length (nats f)) := HR.out.rd
      have hkm : (k : Int) % 2 = ((k % 2 : Nat) : Int) := rfl
      have hprod : ∀ x y : List Nat, x.length ≤ 100000 → y.length ≤ 100000 → (Q.prodP' p x y).length ≤ 200000 := fun x y hx hy => by
        by_cases h : x.length = 0 ∨ y.length = 0
        · rw [Q.prod_nil h]; simp
        · rw [Q.prod_length (by omega) (by omega)]; omega
      have HP := Lib.hid hprod
      have hreml : Hid (∀ x : List Nat, (Q.remP p x G).length ≤ 100000) := fun x => by have := Q.rem_len (p := p) x G hg0; omega
      have hpolr : Hid (∀ x : List Nat, Q.Pol p x → Q.Pol p (Q.remP p x G)) := fun x hx => (Q.div_is hP.out hx hG.out hg0).rpol
      have hsq : Hid (Q.Pol p (Q.prodP' p g g)) := Q.pol_prod hP.out Hg.out Hg.out
      clear hprod
      by_cases hodd : k % 2 = 1
      · have ho : (((k % 2 : Nat) : Int) == 1) = true := by simp [hodd]
        have ho' : ((k : Int) % 2 == 1) = true := ho
        have hstep : Hid (∃ n, k / 2 ≤ n ∧ Q.raiseLoop p G n (Q.remP p (Q.prodP' p f g) G) (Q.remP p (Q.prodP' p g g) G) (k / 2) = fin) := by
          obtain ⟨n, hn, e1⟩ := HJ.out
          cases n with
          | zero => omega
          | succ n => rw [Q.raiseLoop, if_neg (by omega), if_pos hodd] at e1; exact ⟨n, by omega, e1⟩
        clear hodd ho hkm
        go_wp2_with (fail)
        refine (product_is p f g _ _ _ hp hp2 HRr HS Hf.out.red Hg.out.red (by have := HM.out.1; omega) (by have := HM.out.2; omega)).mono ?_
        rintro e1 w1 ⟨⟨v1, rfl, hN1⟩, hB1⟩
        have HN1 : Hid (Rd w1 v1 1 (Q.prodP' p f g).length (nats (Q.prodP' p f g))) := hN1.rd
        have HV2' : Hid (Rd w1 (.slice a2 G.length cap2) 1 G.length (nats G)) := HV2.out.below hB1 (Nat.le_refl _)
        have HS' : Hid (Rd w1 (.slice b2 m2 cp2) 1 g.length (nats g)) := HS.out.below hB1 (Nat.le_refl _)
        have HB' : Hid (Below w.heap.size w w1) := HB.out.trans (hB1.mono HB.out.size)
        clear hN1 hB1
        go_wp2_with (fail)
        refine (remainder_is p (Q.prodP' p f g) G _ _ _ hP hp2 HN1 HV2' (Q.red_prod (by omega) f g) hG (by have := HP.out f g (by have := HM.out.1; omega) (by have := HM.out.2; omega); omega) hg0).mono ?_
        rintro e2 w2 ⟨⟨v2, rfl, hN2⟩, hB2⟩
        obtain ⟨a3, cap3, rfl⟩ := hN2.rd.shape
        have HN2 : Hid (NewL w w2 (.slice a3 (Q.remP p (Q.prodP' p f g) G).length cap3) (Q.remP p (Q.prodP' p f g) G)) := hN2.from HB'.out.size
        have HS2 : Hid (Rd w2 (.slice b2 m2 cp2) 1 g.length (nats g)) := HS'.out.below hB2 (Nat.le_refl _)
        have HV3 : Hid (Rd w2 (.slice a2 G.length cap2) 1 G.length (nats G)) := HV2'.out.below hB2 (Nat.le_refl _)
        have HB2 : Hid (Below w.heap.size w w2) := HB'.out.trans (hB2.mono HB'.out.size)
        clear hN2 hB2
        go_wp2_with (fail)
        refine (product_is p g g _ _ _ hp hp2 HS2 HS2 Hg.out.red Hg.out.red (by have := HM.out.2; omega) (by have := HM.out.2; omega)).mono ?_
        rintro e3 w3 ⟨⟨v3, rfl, hN3⟩, hB3⟩
        have HN3 : Hid (Rd w3 v3 1 (Q.prodP' p g g).length (nats (Q.prodP' p g g))) := hN3.rd
        have HN2' : Hid (NewL w w3 (.slice a3 (Q.remP p (Q.prodP' p f g) G).length cap3) (Q.remP p (Q.prodP' p f g) G)) := HN2.out.keep hB3
        have HV4 : Hid (Rd w3 (.slice a2 G.length cap2) 1 G.length (nats G)) := HV3.out.below hB3 (Nat.le_refl _)
        have HB3 : Hid (Below w.heap.size w w3) := HB2.out.trans (hB3.mono HB2.out.size)
        clear hN3 hB3
        go_wp2_with (fail)
        refine (remainder_is p (Q.prodP' p g g) G _ _ _ hP hp2 HN3 HV4 hsq.out.red hG (by have := HP.out g g (by have := HM.out.2; omega) (by have := HM.out.2; omega); omega) hg0).mono ?_
        rintro e4 w4 ⟨⟨v4, rfl, hN4⟩, hB4⟩
        obtain ⟨a5, cap5, rfl⟩ := hN4.rd.shape
        have HN4 : Hid (Rd w4 (.slice a5 (Q.remP p (Q.prodP' p g g) G).length cap5) 1 (Q.remP p (Q.prodP' p g g) G).length (nats (Q.remP p (Q.prodP' p g g) G))) := hN4.rd
        have HN5 : Hid (NewL w w4 (.slice a3 (Q.remP p (Q.prodP' p f g) G).length cap3) (Q.remP p (Q.prodP' p f g) G)) := HN2'.out.keep hB4
        have HB4 : Hid (Below w.heap.size w w4) := HB3.out.trans (hB4.mono HB3.out.size)
        clear hN4 hB4
        go_wp2_with (fail)
        go_roundw
        case rel => exact ⟨k / 2, _, _, _, _, _, _, Q.remP p (Q.prodP' p f g) G, Q.remP p (Q.prodP' p g g) G, by simp, rfl, rfl, by omega, hreml.out _, hreml.out _, ⟨rfl, rfl⟩, HN5, HN4, hpolr.out _ (Q.pol_prod hP.out Hf.out Hg.out), hpolr.out _ hsq.out, HB4, hstep⟩
        case measure => simp [intOf]; omega
      · have ho' : ((k : Int) % 2 == 1) = false := by rw [beq_eq_false_iff_ne, hkm]; omega
        have hstep : Hid (∃ n, k / 2 ≤ n ∧ Q.raiseLoop p G n f (Q.remP p (Q.prodP' p g g) G) (k / 2) = fin) := by
          obtain ⟨n, hn, e1⟩ := HJ.out
          cases n with
          | zero => omega
          | succ n => rw [Q.raiseLoop, if_neg (by omega), if_neg hodd] at e1; exact ⟨n, by omega, e1⟩
        clear hodd hkm
        go_wp2_with (fail)
        refine (product_is p g g _ _ _ hp hp2 HS HS Hg.out.red Hg.out.red (by have := HM.out.2; omega) (by have := HM.out.2; omega)).mono ?_
        rintro e3 w3 ⟨⟨v3, rfl, hN3⟩, hB3⟩
        have HN3 : Hid (Rd w3 v3 1 (Q.prodP' p g g).length (nats (Q.prodP' p g g))) := hN3.rd
        have HN2' : Hid (NewL w w3 (.slice b1 m1 cp1) f) := HR.out.keep hB3
        have HV4 : Hid (Rd w3 (.slice a2 G.length cap2) 1 G.length (nats G)) := HV2.out.below hB3 (Nat.le_refl _)
        have HB3 : Hid (Below w.heap.size w w3) := HB.out.trans (hB3.mono HB.out.size)
        clear hN3 hB3
        go_wp2_with (fail)
        refine (remainder_is p (Q.prodP' p g g) G _ _ _ hP hp2 HN3 HV4 hsq.out.red hG (by have := HP.out g g (by have := HM.out.2; omega) (by have := HM.out.2; omega); omega) hg0).mono ?_
        rintro e4 w4 ⟨⟨v4, rfl, hN4⟩, hB4⟩
        obtain ⟨a5, cap5, rfl⟩ := hN4.rd.shape
        have HN4 : Hid (Rd w4 (.slice a5 (Q.remP p (Q.prodP' p g g) G).length cap5) 1 (Q.remP p (Q.prodP' p g g) G).length (nats (Q.remP p (Q.prodP' p g g) G))) := hN4.rd
        have HN5 : Hid (NewL w w4 (.slice b1 m1 cp1) f) := HN2'.out.keep hB4
        have HB4 : Hid (Below w.heap.size w w4) := HB3.out.trans (hB4.mono HB3.out.size)
        clear hN4 hB4
        go_wp2_with (fail)
        go_roundw
        case rel => exact ⟨k / 2, _, _, _, _, _, _, f, Q.remP p (Q.prodP' p g g) G, by simp, rfl, rfl, by omega, hm1, hreml.out _, ⟨HM.out.1, rfl⟩, HN5, HN4, Hf, hpolr.out _ hsq.out, HB4, hstep⟩
        case measure => simp [intOf]; omega
    · have hd : decide (0 < k) = false := by simpa using h0
      have HE : Hid (fin = f) := by
        obtain ⟨n, hn, e1⟩ := HJ.out
        obtain rfl : k = 0 := by omega
        cases n with
        | zero => exact e1.symm
        | succ n => rw [Q.raiseLoop, if_pos rfl] at e1; exact e1.symm
      go_wp2_with (fail)
      go_ret
      rw [HE.out]
      exact ⟨⟨_, rfl, HR.out⟩, HB.out⟩

end Go.Proofs.YtbehihanhfmmhaaGreat
