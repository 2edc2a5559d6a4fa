/- Walks and plain mathematics: PwArgs, PwValue. -/
import Derived.Test.YtgnpohapmijfiaaG10
import Derived.Test.YtgnpohapmijfiaaG04
import Derived.Test.YtgnpohapmijfiaaG09
import Derived.Deep.DeepCutAuto
import Derived.ProofKit
import Derived.OpenShut
import Derived.Lib.SmallJoins
namespace Go.Proofs.Ytgnpohapmijfiaa
open Go.RowKit

/-- v reads as the ints Z. -/
def ArgI (w : World) (v : Value) (Z : List Int) : Prop :=
  Z.length ≤ 9223372036854775807 ∧ ((v = .slice none 0 0 ∧ Z = []) ∨
    ∃ (a : Addr) (cap : Nat), v = .slice (some a) Z.length cap ∧ Z.length ≤ cap ∧ cap ≤ 9223372036854775807 ∧ ∀ i (h : i < Z.length), w.cell? (a.add i) = some (.int .i64 Z[i]))

theorem ArgI.form {w : World} {v : Value} {Z : List Int} (h : ArgI w v Z) : ∃ a n cap, v = .slice a n cap := by
  rcases h.2 with ⟨h, _⟩ | ⟨a, cap, h, _⟩
  · exact ⟨_, _, _, h⟩
  · exact ⟨_, _, _, h⟩

theorem ArgI.below {w w' : World} {v : Value} {Z : List Int} (h : ArgI w v Z) (hB : Below w.heap.size w w') : ArgI w' v Z := by
  refine ⟨h.1, ?_⟩
  rcases h.2 with h1 | ⟨a, cap, h1, h2, h3, h4⟩
  · exact .inl h1
  · refine .inr ⟨a, cap, h1, h2, h3, fun i hi => ?_⟩
    have hc := h4 i hi
    have hlt := World.block_lt_of_cell? w _ hc
    rw [hB.cell hlt]
    exact hc


section
open Go.ChangeShapes Go.WideShapes
set_option maxRecDepth 100000 in
theorem argI_of {H : Type} {enc : TypeId × Value → H} {W : World} {base : Nat} {v : Value} {d : DataW H} {p : List MemPlace} (hv : Value.okWide Try.prog W .any base 22 v)
    (h : DataW.Trod enc Try.prog W 0 (fun _ => true) true 22 v d p) : ∃ Z, ArgI W v Z := by
  obtain ⟨a0, len, cap, rfl⟩ := okWide_slice Try.underlying22 hv
  obtain ⟨fuel, hf⟩ := h
  rcases open_ints Try.underlying22 Try.underlying3 (by kernel_rfl) hf with ⟨hcs, hx⟩ | ⟨a, len', cap', zs, hcs, _, hl, hm, hz, hx, hcell, hwz⟩
  · simp only [Value.cells, List.cons.injEq, and_true] at hcs
    rw [hcs]
    exact ⟨[], by simp, .inl ⟨rfl, rfl⟩⟩
  · simp only [Value.cells, List.cons.injEq, and_true] at hcs
    rw [hcs]
    simp only [if_true] at hz
    unfold maxLen at hm
    have hlen : (zs.take len').length = len' := by rw [List.length_take]; omega
    refine ⟨zs.take len', by omega, .inr ⟨a, cap', by rw [hlen], by omega, by omega, fun i hi => ?_⟩⟩
    have := hcell i (by omega)
    rw [this, List.getElem_take]
    simp [List.getD, show i < zs.length by omega]
end


section
open Go.ChangeShapes Go.WideShapes Go.Joins
set_option maxRecDepth 100000 in
theorem argI_of_cell {H : Type} {enc : TypeId × Value → H} {W : World} {v : Value} {n : Nat} {y : DataW H × List MemPlace}
    (h : DataW.trod enc Try.prog W 0 (fun _ => true) true n 22 [v] = some y) : ∃ Z, ArgI W v Z := by
  rcases open_ints Try.underlying22 Try.underlying3 (by kernel_rfl) h with ⟨hcs, hx⟩ | ⟨a, len', cap', zs, hcs, _, hl, hm, hz, hx, hcell, hwz⟩
  · simp only [List.cons.injEq, and_true] at hcs
    rw [hcs]
    exact ⟨[], by simp, .inl ⟨rfl, rfl⟩⟩
  · simp only [List.cons.injEq, and_true] at hcs
    rw [hcs]
    simp only [if_true] at hz
    unfold maxLen at hm
    have hlen : (zs.take len').length = len' := by rw [List.length_take]; omega
    refine ⟨zs.take len', by omega, .inr ⟨a, cap', by rw [hlen], by omega, by omega, fun i hi => ?_⟩⟩
    have := hcell i (by omega)
    rw [this, List.getElem_take]
    simp [List.getD, show i < zs.length by omega]

theorem Try.cellsPair : Try.prog.cellsOf 24 = 2 := by kernel_rfl

set_option maxRecDepth 100000 in
theorem argP_of {H : Type} {enc : TypeId × Value → H} {W : World} {base : Nat} {v : Value} {d : DataW H} {p : List MemPlace} (hv : Value.okWide Try.prog W .any base 24 v)
    (h : DataW.Trod enc Try.prog W 0 (fun _ => true) true 24 v d p) : ∃ (va vb : Value) (Za Zb : List Int), v = .agg #[va, vb] ∧ ArgI W va Za ∧ ArgI W vb Zb := by
  obtain ⟨c0, c1, y0, y1, m, rfl, rfl, rfl, hy0, hy1⟩ := open_agg2 Try.underlying24 (by kernel_rfl) Try.cellsPair hv h
  obtain ⟨Za, hZa⟩ := argI_of_cell hy0
  obtain ⟨Zb, hZb⟩ := argI_of_cell hy1
  exact ⟨c0, c1, Za, Zb, rfl, hZa, hZb⟩
end

theorem zs_one (Z : List Int) : ∀ u ∈ zs Z, u.oneCell' = true := fun u hu => by unfold zs at hu; obtain ⟨z, _, rfl⟩ := List.mem_map.1 hu; rfl

/-- A new list of ints. -/
def NewZ (w w' : World) (v : Value) (Z : List Int) : Prop := w'.ownsRow w.heap.size 3 1 v Z.length (zs Z)
theorem NewZ.rd {w w' : World} {v : Value} {Z : List Int} (h : NewZ w w' v Z) : Rd w' v 1 Z.length (zs Z) := Rd.of_own h

set_option maxRecDepth 100000 in
set_option maxHeartbeats 1000000 in
theorem own_is (Z : List Int) (v : Value) (w : World) (hv : Hid (ArgI w v Z)) :
    Calls Try.prog 19 #[v] w fun x w' => (∃ v', x = .returned v' ∧ NewZ w w' v' (Z.take 34)) ∧ Below w.heap.size w w' := by
  obtain ⟨i0, hi, hz0, hz1, hz2⟩ := info_parts Try.infoZ
  obtain ⟨hmax, hc⟩ := hv.out
  rcases hc with ⟨rfl, rfl⟩ | ⟨ad, cap, rfl, hcap, hcap2, hcell⟩
  · clear hv
    go_enter Try.func19, Try.ntmps19
    go_wp2_with (fail)
    go_ret
    exact ⟨⟨_, rfl, World.ownsRow_nil _ _ _ _⟩, Below.refl _ _⟩
  · obtain ⟨n, hn⟩ : ∃ n, n = Z.length := ⟨_, rfl⟩
    obtain ⟨m, hm⟩ : ∃ m, m = min n 34 := ⟨_, rfl⟩
    have hml : (Z.take 34).length = m := by rw [List.length_take, hm, hn]; omega
    have hm1 : min (n : Int) 34 = (m : Int) := by omega
    have hm3 : min n 34 = m := by omega
    have hm2 : (if (34 : Int) < (n : Int) then (34 : Int) else (n : Int)) = (m : Int) := by split <;> omega
    have HC : Hid (∀ j u, (zs (Z.take 34))[j]? = some u → w.cell? (ad.add j) = some u) := fun j u hu => by
      have hj : j < (Z.take 34).length := by
        rcases Nat.lt_or_ge j (Z.take 34).length with h1 | h1
        · exact h1
        · rw [List.getElem?_eq_none (by rw [zs_length]; exact h1)] at hu; cases hu
      have hjZ : j < Z.length := by rw [List.length_take] at hj; omega
      rw [hcell j hjZ, ← hu, zs_get _ _ hj, List.getElem_take]
    have H1 := Lib.hid (zs_one (Z.take 34))
    have HL : Hid ((zs (Z.take 34)).length = m * 1) := by show _ = _; rw [zs_length, hml]; omega
    have HML := Lib.hid hml
    have hmn : m ≤ 34 := by omega
    have hmc : m ≤ cap := by omega
    have hmn2 : m ≤ n := by omega
    rw [← hn] at hcap ⊢
    rw [← hn] at hmax
    by_cases h34 : n ≤ 34
    · have hd : ((34 : Int) < (n : Int)) = False := by simp; omega
      have hmm : m = n := by omega
      clear hcell hv hn hm hml hm1 hm2 hm3
      subst hmm
      have hq1 : min (m : Int) 34 = (m : Int) := by omega
      go_enter Try.func19, Try.ntmps19
      go_wp2_with (at_builtin; refine wpList_append_own _ rfl _ _ 22 rfl w.heap.size 3 i0 (.int .i64 0) 1 8 Try.underlying22 hi hz0 hz1 hz2 rfl (by decide) _ 0 [] rfl (World.ownsRow_nil _ _ _ _) ad m cap (zs (Z.take 34)) rfl HL.out HC.out H1.out (by unfold maxLen; omega) (by omega) (by simp) ?_)
      intro v' w1 hown hgrow _
      have hB1 : Below w.heap.size w w1 := (Below.refl _ _).grown hgrow (Nat.le_refl _) (by intro g hg; simp [Value.ownBlock] at hg)
      have HR : Hid (NewZ w w1 v' (Z.take 34) ∧ Below w.heap.size w w1) := ⟨by unfold NewZ; rw [HML.out]; simpa using hown, hB1⟩
      clear hown hgrow hB1
      go_wp2_with (fail)
      go_ret
      exact ⟨⟨_, rfl, HR.out.1⟩, HR.out.2⟩
    · have hd : ((34 : Int) < (n : Int)) = True := by simp; omega
      have hmm : m = 34 := by omega
      have hn34 : (34 : Int) ≤ (n : Int) := by omega
      have hc34 : 34 ≤ cap := by omega
      clear hcell hv hn hm hml hm1 hm2 hm3
      subst hmm
      have hq1 : min (n : Int) 34 = 34 := by omega
      go_enter Try.func19, Try.ntmps19
      go_wp2_with (at_builtin; refine wpList_append_own _ rfl _ _ 22 rfl w.heap.size 3 i0 (.int .i64 0) 1 8 Try.underlying22 hi hz0 hz1 hz2 rfl (by decide) _ 0 [] rfl (World.ownsRow_nil _ _ _ _) ad 34 cap (zs (Z.take 34)) rfl HL.out HC.out H1.out (by unfold maxLen; omega) (by omega) (by simp) ?_)
      intro v' w1 hown hgrow _
      have hB1 : Below w.heap.size w w1 := (Below.refl _ _).grown hgrow (Nat.le_refl _) (by intro g hg; simp [Value.ownBlock] at hg)
      have HR : Hid (NewZ w w1 v' (Z.take 34) ∧ Below w.heap.size w w1) := ⟨by unfold NewZ; rw [HML.out]; simpa using hown, hB1⟩
      clear hown hgrow hB1
      go_wp2_with (fail)
      go_ret
      exact ⟨⟨_, rfl, HR.out.1⟩, HR.out.2⟩

theorem own_step {X W wN : World} (h1 : Below X.heap.size X W) (h2 : Below W.heap.size W wN) : Below X.heap.size X wN := h1.trans (h2.mono h1.size)

theorem own_two {w X W w1 w2 : World} {vA vB : Value} {Ta Tb : List Int} (hA : Below w.heap.size w X) (h0 : Below X.heap.size X W) (hNA : NewZ W w1 vA Ta) (hB1 : Below W.heap.size W w1) (hNB : NewZ w1 w2 vB Tb) (hB2 : Below w1.heap.size w1 w2) :
    NewZ w w2 vA Ta ∧ NewZ w w2 vB Tb ∧ Below w.heap.size w w2 := by
  have s1 := hA.size
  have s2 := h0.size
  have s3 := hB1.size
  refine ⟨own_kept (own_base hNA (by omega)) hB2, own_base hNB (by omega), ((hA.trans (h0.mono s1)).trans (hB1.mono (by omega))).trans (hB2.mono (by omega))⟩

end Go.Proofs.Ytgnpohapmijfiaa

namespace Go.Proofs.Ytgnpohapmijfiaa
open Go.RowKit

theorem coeff_yes (p c : Int) (w : World) (h : Hid (0 ≤ c ∧ c < p)) : Calls Try.prog 61 #[.int .i64 p, .int .i64 c] w fun x w' => x = .returned (.bool true) ∧ w = w' :=
  isCoefficient_is p c true w (by show _ = _; simp [h.out.1, h.out.2])
theorem coeff_no (p c : Int) (w : World) (h : Hid (¬ (0 ≤ c ∧ c < p))) : Calls Try.prog 61 #[.int .i64 p, .int .i64 c] w fun x w' => x = .returned (.bool false) ∧ w = w' :=
  isCoefficient_is p c false w (by show _ = _; rw [Bool.eq_false_iff]; intro h1; simp at h1; exact h.out h1)

set_option maxRecDepth 100000 in
set_option maxHeartbeats 1000000 in
theorem Value_ok (p x : Nat) (F : List Nat) (v : Value) (w : World) (hP : Hid (M.Pr p)) (hp2 : p ≤ 1021) (hx : x < p) (h1 : Hid (Rd w v 1 F.length (nats F))) (hF : Hid (Q.Pol p F)) (hl1 : F.length ≤ 33) :
    Calls Try.prog 32 #[.int .i64 p, v, .int .i64 x] w fun e w' => e = .returned (.tuple #[.int .i64 (Q.valP p F x : Nat), .int .i64 0]) ∧ Below w.heap.size w w' := by
  have hp : 2 ≤ p := hP.out.1
  have hM := Lib.hid (rdM1 (T := 22) h1.out.zs)
  have hB : Hid (Below w.heap.size w (w.alloc (.cells #[v] 22))) := (Below.refl _ _).alloc (Nat.le_refl _) _
  have hls : Hid (∀ Z ∈ [up F], Z.length ≤ 1000000) := by intro Z hZ; simp at hZ; subst hZ; rw [up_length]; omega
  have ht : Hid (Args1 p (up F)) := args1_of hP.out hp2 hF.out hl1
  have hco : Hid (0 ≤ (x : Int) ∧ (x : Int) < (p : Int)) := ⟨by omega, by omega⟩
  obtain ⟨a1, cap1, rfl⟩ := h1.out.shape
  go_enter Try.func32, Try.ntmps32
  go_wp2_with (fail)
  refine (arePolys_yes p _ [up F] _ hM (by simp) hls ht).mono ?_
  rintro e w1 ⟨rfl, hB1⟩
  have HB := Lib.hid (hB.out.trans (hB1.mono (by simp)))
  have h1' : Hid (Rd w1 (.slice a1 F.length cap1) 1 F.length (nats F)) := h1.out.below HB.out (Nat.le_refl _)
  clear hB1 hM h1
  go_wp2_with (fail)
  refine (coeff_yes p x _ hco).mono ?_
  rintro e w1' ⟨rfl, rfl⟩
  go_wp2_with (fail)
  refine (valueAt_is p x F _ _ hp hp2 hx h1' hF.out.red (by omega)).mono ?_
  rintro e w2 ⟨rfl, hw⟩
  subst hw
  go_wp2_with (fail)
  go_ret2
  exact ⟨rfl, HB.out⟩

set_option maxRecDepth 100000 in
set_option maxHeartbeats 1000000 in
theorem Value_arg (p : Int) (Z : List Int) (x : Int) (v : Value) (w : World) (h1 : Hid (Rd w v 1 Z.length (zs Z))) (hl1 : Z.length ≤ 100000) (hn : Hid (¬ (FieldI p ∧ polyB p Z = true ∧ 0 ≤ x ∧ x < p))) :
    Calls Try.prog 32 #[.int .i64 p, v, .int .i64 x] w fun e w' => e = .returned (.tuple #[.int .i64 0, .int .i64 2]) ∧ Below w.heap.size w w' := by
  have hM := Lib.hid (rdM1 (T := 22) h1.out)
  have hB : Hid (Below w.heap.size w (w.alloc (.cells #[v] 22))) := (Below.refl _ _).alloc (Nat.le_refl _) _
  have hls : Hid (∀ Y ∈ [Z], Y.length ≤ 1000000) := by intro Y hZ; simp at hZ; subst hZ; omega
  obtain ⟨a1, cap1, rfl⟩ := h1.out.shape
  by_cases ha : Args1 p Z
  · have HA := Lib.hid ha
    have hco : Hid (¬ (0 ≤ x ∧ x < p)) := fun hc => hn.out ⟨ha.1, ha.2 Z (by simp), hc.1, hc.2⟩
    clear ha hn
    go_enter Try.func32, Try.ntmps32
    go_wp2_with (fail)
    refine (arePolys_yes p _ [Z] _ hM (by simp) hls HA).mono ?_
    rintro e w1 ⟨rfl, hB1⟩
    have HB := Lib.hid (hB.out.trans (hB1.mono (by simp)))
    clear hB1 hM h1
    go_wp2_with (fail)
    refine (coeff_no p x _ hco).mono ?_
    rintro e w1' ⟨rfl, rfl⟩
    go_wp2_with (fail)
    go_ret2
    exact ⟨rfl, HB.out⟩
  · have HA : Hid (¬ (FieldI p ∧ ∀ Y ∈ [Z], polyB p Y = true)) := ha
    clear ha hn
    go_enter Try.func32, Try.ntmps32
    go_wp2_with (fail)
    refine (arePolys_no p _ [Z] _ hM (by simp) hls HA).mono ?_
    rintro e w1 ⟨rfl, hB1⟩
    have HB := Lib.hid (hB.out.trans (hB1.mono (by simp)))
    clear hB1 hM h1
    go_wp2_with (fail)
    go_ret2
    exact ⟨rfl, HB.out⟩

end Go.Proofs.Ytgnpohapmijfiaa
