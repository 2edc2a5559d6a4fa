/- The walks over prime.primesOf, unitsOf, orderOf, isPrime, Factor. -/
import Derived.Test.YtldfbadcigdbkaaWalkFac
namespace Go.Proofs.Ytldfbadcigdbkaa
open Go.RowKit

/-- A slice that reads as the cells xs, n elements of size cells each. -/
def Rd (w : World) (v : Value) (size n : Nat) (xs : List Value) : Prop :=
  xs.length = n * size ∧ ∃ (a : Option Addr) (cap : Nat), v = .slice a n cap ∧ n ≤ cap ∧ (n = 0 ∨ ∃ b, a = some ⟨b, 0, none⟩ ∧ b < w.heap.size ∧ ∀ j u, xs[j]? = some u → w.cell? ⟨b, j, none⟩ = some u)

theorem Rd.of_own {w : World} {base size n : Nat} {e : TypeId} {v : Value} {xs : List Value} (h : w.ownsRow base e size v n xs) : Rd w v size n xs := by
  refine ⟨h.1, ?_⟩
  rcases h.2 with ⟨h1, h2⟩ | ⟨g, cap, cur, hv, h3, h4, h5, h6, h7⟩
  · subst h2; exact ⟨none, 0, h1, Nat.le_refl _, .inl rfl⟩
  · refine ⟨_, cap, hv, h5, .inr ⟨g, rfl, lt_of_block h4, fun j u hu => ?_⟩⟩
    have := h.cells (g := g) (by rw [hv]; rfl) j u hu
    have hadd : (⟨g, 0, none⟩ : Addr).add j = ⟨g, j, none⟩ := by unfold Addr.add; split <;> simp_all
    rw [hadd] at this
    exact this

theorem Rd.below {w w' : World} {v : Value} {size n B : Nat} {xs : List Value} (h : Rd w v size n xs) (hB : Below B w w') (hle : w.heap.size ≤ B) : Rd w' v size n xs := by
  obtain ⟨h1, a, cap, hv, hc, h2⟩ := h
  refine ⟨h1, a, cap, hv, hc, ?_⟩
  rcases h2 with h2 | ⟨b, ha, hb, h2⟩
  · exact .inl h2
  · exact .inr ⟨b, ha, by have := hB.size; omega, fun j u hu => by rw [hB.cell (p := ⟨b, j, none⟩) (by show b < B; omega)]; exact h2 j u hu⟩

theorem cell_one_at (W : World) (v : Value) (t : TypeId) (b : Nat) (hb : b = W.heap.size) : ∀ j u, [v][j]? = some u → (W.alloc (.cells #[v] t)).cell? ((⟨b, 0, none⟩ : Addr).add j) = some u := by
  subst hb; exact cell_one_new _ _ _
theorem cell_two_at (W : World) (v v' : Value) (t : TypeId) (b : Nat) (hb : b = W.heap.size) : ∀ j u, [v, v'][j]? = some u → (W.alloc (.cells #[v, v'] t)).cell? ((⟨b, 0, none⟩ : Addr).add j) = some u := by
  subst hb; exact cell_two_new _ _ _ _

theorem below_drewN {B : Nat} {a w : World} (h : Below B a w) (n : Nat) : Below B a (w.drewN n) := h.trans ⟨rfl, rfl, rfl, Nat.le_refl _, fun _ _ => rfl⟩

theorem flat_get (L : List (Nat × Nat)) (k : Nat) (h : k < L.length) : (flat L)[k * 2]? = some (.int .i64 (L[k].1 : Int)) ∧ (flat L)[k * 2 + 1]? = some (.int .i64 (L[k].2 : Int)) := by
  induction L generalizing k with
  | nil => simp at h
  | cons x L ih =>
    cases k with
    | zero => simp [flat]
    | succ k =>
      have := ih k (by simpa using h)
      have e : flat (x :: L) = [.int .i64 (x.1 : Int), .int .i64 (x.2 : Int)] ++ flat L := by simp [flat]
      rw [e, List.getElem?_append_right (by simp; omega), List.getElem?_append_right (by simp; omega)]
      simp only [List.length_cons, List.length_nil, List.getElem_cons_succ]
      rw [show (k + 1) * 2 - (0 + 1 + 1) = k * 2 by omega, show (k + 1) * 2 + 1 - (0 + 1 + 1) = k * 2 + 1 by omega]
      exact this

/-- The primes of a factorization, as cells. -/
def heads (L : List (Nat × Nat)) : List Value := L.map fun x => .int .i64 (x.1 : Int)
theorem heads_length (L : List (Nat × Nat)) : (heads L).length = L.length := by simp [heads]
theorem heads_take (L : List (Nat × Nat)) (k : Nat) (h : k < L.length) : heads (L.take (k + 1)) = heads (L.take k) ++ [.int .i64 (L[k].1 : Int)] := by
  unfold heads; rw [List.take_succ_eq_append_getElem h, List.map_append]; rfl

theorem Try.infoI : (Try.prog.info? 3).map (fun i => (i.zero, i.size, i.bytes)) = some (some (.int .i64 0), 1, 8) := by kernel_rfl

set_option maxRecDepth 100000 in
set_option maxHeartbeats 400000 in
theorem primesOf_any (n : Int) (L : List (Nat × Nat)) (w : World) (hn : 1 ≤ n) (hn2 : n ≤ 2147483647) (hL : Hid (M.IsFac n.toNat L)) :
    Calls Try.prog 46 #[.int .i64 n] w fun x w' => (∃ v, x = .returned v ∧ w'.ownsRow w.heap.size 3 1 v L.length (heads L)) ∧ Below w.heap.size w w' := by
  obtain ⟨i0, hi, hz0, hz1, hz2⟩ := info_parts Try.infoI
  have hlen : L.length ≤ 30 := hL.out.1.length_le (by rw [hL.out.2]; omega)
  go_enter Try.func46, Try.ntmps46
  go_wp2_with (go_at_call 18; refine (factors_any n L _ hn hn2 hL).mono ?_; rintro x w1 ⟨⟨vf, rfl, hown⟩, hB1⟩; have hrd := Rd.of_own hown; clear hown; obtain ⟨hfl, a, cap, rfl, hcap, hcell⟩ := hrd; have HB1 := Lib.hid hB1; clear hB1; have HC := Lib.hid hcell; clear hcell; have HFL := Lib.hid hfl; clear hfl)
  go_loopw [3, 9] (fun ps i wr => ∃ (k : Nat), i = .int .i64 k ∧ k ≤ L.length ∧ wr.ownsRow w1.heap.size 3 1 ps k (heads (L.take k)) ∧ Below w1.heap.size w1 wr) (fun _ i _ => L.length - (intOf i).toNat)
  case atStart => exact ⟨0, rfl, by omega, by simpa [heads] using World.ownsRow_nil _ _ _ _, Below.refl _ _⟩
  case round =>
    obtain ⟨k, rfl, hk, hown, hB⟩ := hrel
    have hbs := hB.size
    by_cases hlt : k < L.length
    · rcases HC.out with h0 | ⟨b, rfl, hb, hcell⟩
      · omega
      have hf := flat_get L k hlt
      have c0 : wr.cell? ⟨b, k * 2, none⟩ = some (.int .i64 (L[k].1 : Int)) := by rw [hB.cell (p := ⟨b, k * 2, none⟩) hb]; exact hcell _ _ hf.1
      have c1 : wr.cell? ⟨b, k * 2 + 1, none⟩ = some (.int .i64 (L[k].2 : Int)) := by rw [hB.cell (p := ⟨b, k * 2 + 1, none⟩) hb]; exact hcell _ _ hf.2
      clear hf hcell
      go_wp2_with (at_builtin; refine wpList_append_own _ rfl _ _ 34 rfl w1.heap.size 3 i0 (.int .i64 0) 1 8 Try.underlying34 hi hz0 hz1 hz2 rfl (by decide) _ _ _ rfl ((hown.alloc _).alloc _) ⟨wr.heap.size + 1, 0, none⟩ 1 1 [.int .i64 (L[k].1 : Int)] rfl rfl ?c1 ?c2 ?c3 ?c4 ?c5 ?_)
      case c1 => exact cell_one_at _ _ _ _ (by simp)
      case c2 => intro u hu; simp at hu; subst hu; rfl
      case c3 => unfold maxLen; omega
      case c4 => omega
      case c5 => simp; omega
      intro ps' w2 hown' hgrow _
      have HO := Lib.hid (And.intro hown' hgrow)
      clear hown' hgrow
      go_wp2
      go_roundw
      case rel =>
        refine ⟨k + 1, by go_num, by omega, by rw [heads_take L k hlt]; exact HO.out.1, ?_⟩
        exact ((hB.alloc (by omega) _).alloc (by simp; omega) _).grown HO.out.2 (by simp; omega) (fun j hj => (hown.lt j hj).1)
      case measure => simp [intOf]; omega
    · obtain rfl : k = L.length := by omega
      go_wp2
      go_ret
      refine ⟨⟨_, rfl, ?_⟩, HB1.out.trans (hB.mono HB1.out.size)⟩
      have := hown.base_le HB1.out.size
      rw [List.take_length] at this
      exact this

/-! ### How many rests have an inverse -/
/-- The units behind the first k primes. -/
def unitsAt (L : List (Nat × Nat)) (k : Nat) : Nat := M.phiP (L.take k) * M.prodP (L.drop k)

theorem unitsAt_step {L : List (Nat × Nat)} {lo : Nat} (h : M.FacFrom lo L) {k : Nat} (hk : k < L.length) :
    unitsAt L k / L[k].1 * (L[k].1 - 1) = unitsAt L (k + 1) ∧ unitsAt L (k + 1) ≤ unitsAt L k ∧ 2 ≤ L[k].1 := by
  have hd : L.drop k = L[k] :: L.drop (k + 1) := List.drop_eq_getElem_cons hk
  have hg := h.gt L[k] (List.getElem_mem hk)
  have h2 := hg.2.1.1
  have hphi : M.phiP (L.take (k + 1)) = M.phiP (L.take k) * (L[k].1 ^ (L[k].2 - 1) * (L[k].1 - 1)) := by
    rw [List.take_succ_eq_append_getElem hk]
    have : ∀ l : List (Nat × Nat), ∀ x, M.phiP (l ++ [x]) = M.phiP l * (x.1 ^ (x.2 - 1) * (x.1 - 1)) := by
      intro l x
      induction l with
      | nil => simp [M.phiP]
      | cons y l ih => rw [List.cons_append, M.phiP, ih, M.phiP]; ac_rfl
    exact this _ _
  have hpow : L[k].1 ^ L[k].2 = L[k].1 * L[k].1 ^ (L[k].2 - 1) := by rw [← Nat.pow_succ']; congr 1; omega
  have he : unitsAt L k = L[k].1 * (M.phiP (L.take k) * L[k].1 ^ (L[k].2 - 1) * M.prodP (L.drop (k + 1))) := by
    unfold unitsAt
    rw [hd, M.prodP, hpow]; ac_rfl
  have he1 : unitsAt L (k + 1) = M.phiP (L.take k) * L[k].1 ^ (L[k].2 - 1) * M.prodP (L.drop (k + 1)) * (L[k].1 - 1) := by
    unfold unitsAt
    rw [hphi]; ac_rfl
  refine ⟨?_, ?_, h2⟩
  · rw [he, Nat.mul_div_cancel_left _ (by omega), he1]
  · rw [he, he1, Nat.mul_comm]; exact Nat.mul_le_mul_right _ (by omega)

theorem units_cast (L : List (Nat × Nat)) (k : Nat) (hk : k < L.length) (h2 : 2 ≤ L[k].1) : ((unitsAt L k : Nat) : Int) / ((L[k].1 : Nat) : Int) * ((L[k].1 : Int) - 1) = ((unitsAt L k / L[k].1 * (L[k].1 - 1) : Nat) : Int) := by
  rw [Int.natCast_mul, Int.natCast_ediv, Int.natCast_sub (by omega)]
  rfl

set_option maxRecDepth 100000 in
set_option maxHeartbeats 400000 in
theorem unitsOf_any (n : Int) (L : List (Nat × Nat)) (w : World) (hn : 1 ≤ n) (hn2 : n ≤ 2147483647) (hL : Hid (M.IsFac n.toNat L)) :
    Calls Try.prog 54 #[.int .i64 n] w fun x w' => x = .returned (.int .i64 (M.phiP L : Nat)) ∧ Below w.heap.size w w' := by
  have hlen : L.length ≤ 30 := hL.out.1.length_le (by rw [hL.out.2]; omega)
  go_enter Try.func54, Try.ntmps54
  go_wp2_with (go_at_call 46; refine (primesOf_any n L _ hn hn2 hL).mono ?_; rintro x w1 ⟨⟨vf, rfl, hown⟩, hB1⟩; have hrd := Rd.of_own hown; clear hown; obtain ⟨hfl, a, cap, rfl, hcap, hcell⟩ := hrd; have HB1 := Lib.hid hB1; clear hB1; have HC := Lib.hid hcell; clear hcell; have HFL := Lib.hid hfl; clear hfl)
  go_loop [3, 10] (fun u i => ∃ (k : Nat) (U : Int), i = .int .i64 k ∧ k ≤ L.length ∧ u = .int .i64 U ∧ 1 ≤ U ∧ U ≤ 2147483647 ∧ Hid (U = (unitsAt L k : Nat))) (fun _ i => L.length - (intOf i).toNat)
  case atStart => exact ⟨0, n, rfl, by omega, rfl, by omega, by omega, by show n = _; simp [unitsAt, M.phiP, hL.out.2]; omega⟩
  case round =>
    obtain ⟨k, U, rfl, hk, rfl, hU0, hU1, HU⟩ := hrel
    by_cases hlt : k < L.length
    · rcases HC.out with h0 | ⟨b, rfl, hb, hcell⟩
      · omega
      have c0 : w1.cell? ⟨b, k, none⟩ = some (.int .i64 (L[k].1 : Int)) := hcell _ _ (by simp [heads, hlt])
      clear hcell
      obtain ⟨g1, g2, g3⟩ := unitsAt_step hL.out.1 hlt
      have hpos : 1 ≤ unitsAt L (k + 1) := Nat.mul_pos (by have := (hL.out.1); exact (M.FacFrom.take this (k + 1)).phi_pos) (hL.out.1.drop (k + 1)).pos
      have hc := Lib.hid ((units_cast L k hlt g3).trans (by rw [g1]))
      have hpb : (L[k].1 : Int) ≤ 2147483647 := by
        have h1 := M.dvd_prodP (List.getElem_mem hlt) (hL.out.1.gt _ (List.getElem_mem hlt)).2.2
        have := Nat.le_of_dvd (by rw [hL.out.2]; omega) h1
        rw [hL.out.2] at this; omega
      have hval : U / (L[k].1 : Int) * ((L[k].1 : Int) - 1) = (unitsAt L (k + 1) : Nat) := by rw [HU.out]; exact hc.out
      have hU' := HU.out
      have hq1 : 0 ≤ U / (L[k].1 : Int) ∧ U / (L[k].1 : Int) ≤ U := ⟨Int.ediv_nonneg (by omega) (by omega), Int.ediv_le_self _ (by omega)⟩
      have hb1 : 0 ≤ U / (L[k].1 : Int) * ((L[k].1 : Int) - 1) ∧ U / (L[k].1 : Int) * ((L[k].1 : Int) - 1) ≤ 2147483647 := by omega
      have HV := Lib.hid hval
      clear hval hU' g1 hc
      go_wp2
      go_round
      case rel => exact ⟨k + 1, _, by go_num, by omega, rfl, by rw [HV.out]; omega, hb1.2, HV.out⟩
      case measure => simp [intOf]; omega
    · obtain rfl : k = L.length := by omega
      go_wp2
      go_ret
      exact ⟨ret_i (by rw [HU.out]; simp [unitsAt, M.prodP]), HB1.out⟩

end Go.Proofs.Ytldfbadcigdbkaa
