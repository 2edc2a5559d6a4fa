/- A verdict that came in. -/
import Derived.Test.YtldfbadcigdbkaaWalkOwn
import Derived.Test.YtldfbadcigdbkaaArgs
import Derived.Deep.Strs
import Derived.Deep.Slices
import Derived.ProofKit
import Derived.OpenShut
namespace Go.Proofs.Ytldfbadcigdbkaa
open Go.RowKit

theorem spot_of {w : World} {a : Addr} {v : Value} (h : w.cell? a = some v) : a = ⟨a.block, a.off, none⟩ ∧ a.block < w.heap.size := by
  refine ⟨?_, World.block_lt_of_cell? w a h⟩
  unfold World.cell? at h
  split at h
  · split at h
    · cases h
    · rename_i h2
      obtain ⟨b, o, s⟩ := a
      cases s with
      | none => rfl
      | some x => simp at h2
  · cases h

instance : Inhabited M.Ent := ⟨⟨0, 0, []⟩⟩

theorem Try.cellsE : Try.prog.cellsOf 39 = 3 := by kernel_rfl
theorem Try.cellsI1 : Try.prog.cellsOf 3 = 1 := by kernel_rfl
theorem Try.cellsS1 : Try.prog.cellsOf 34 = 1 := by kernel_rfl
theorem Try.cellsP1 : Try.prog.cellsOf 22 = 1 := by kernel_rfl

section
open Go.ChangeShapes Go.WideShapes
theorem rdO_of {H : Type} {enc : TypeId × Value → H} {W : World} {fuel : Nat} {v : Value} {x : DataW H × List MemPlace}
    (hf : DataW.trod enc Try.prog W 0 (fun _ => true) true fuel 34 [v] = some x) : ∃ F, RdO W v F ∧ FOk F := by
  rcases open_ints Try.underlying34 Try.underlying3 (by kernel_rfl) hf with ⟨hcs, hx⟩ | ⟨a, len', cap', zs, hcs, _, hl, hm, hz, hx, hcell, hwz⟩
  · simp only [List.cons.injEq, and_true] at hcs
    rw [hcs]
    exact ⟨[], ⟨none, 0, rfl, by simp, by omega, .inl rfl⟩, fun q hq => by cases hq⟩
  · simp only [List.cons.injEq, and_true] at hcs
    rw [hcs]
    simp only [if_true] at hz
    unfold maxLen at hm
    have hlen : (zs.take len').length = len' := by rw [List.length_take]; omega
    refine ⟨zs.take len', ⟨some a, cap', by rw [hlen], by omega, by omega, ?_⟩, fun q hq => hwz q (List.mem_of_mem_take hq)⟩
    by_cases h0 : len' = 0
    · left; omega
    · right
      have hc0 := hcell 0 (by omega)
      obtain ⟨h1, h2⟩ := spot_of hc0
      have ha : a.add 0 = a := rfl
      rw [ha] at h1 h2
      refine ⟨a.block, a.off, by rw [← h1], h2, fun j u hu => ?_⟩
      unfold intsZ at hu
      rw [List.getElem?_map] at hu
      have hj : j < len' := by
        by_cases hj : j < len'
        · exact hj
        · rw [List.getElem?_take_eq_none (by omega)] at hu; cases hu
      rw [List.getElem?_take_of_lt hj, List.getElem?_eq_getElem (by omega)] at hu
      simp only [Option.map_some, Option.some.injEq] at hu
      have := hcell j (by omega)
      rw [h1, add_plain] at this
      rw [this, ← hu]
      simp [List.getD, show j < zs.length by omega]

set_option maxRecDepth 100000 in
theorem argE_of {H : Type} {enc : TypeId × Value → H} {W : World} {fuel : Nat} {v : Value} {x : DataW H × List MemPlace}
    (hf : DataW.trod enc Try.prog W 0 (fun _ => true) true fuel 22 [v] = some x) : ∃ L, ArgE W v L ∧ ∀ E ∈ L, (Lit.int .i64 E.P).wf = true ∧ (Lit.int .i64 E.W).wf = true ∧ FOk E.F := by
  rcases Go.Deep.open_slice Try.underlying22 hf with ⟨hcs, hx⟩ | ⟨a, len', cap', m, n, D, Pl, hcs, _, hl, hm, hmm, hx, hall⟩
  · simp only [List.cons.injEq, and_true] at hcs
    rw [hcs]
    exact ⟨[], ⟨none, 0, rfl, by simp, by omega, .inl rfl⟩, fun q hq => by cases hq⟩
  · simp only [List.cons.injEq, and_true] at hcs
    rw [hcs]
    simp only [if_true] at hmm
    unfold maxLen at hm
    have each : ∀ i, i < len' → ∃ E : M.Ent, (∃ fv, W.cell? (a.add (i * 3)) = some (.int .i64 E.P) ∧ W.cell? (a.add (i * 3 + 1)) = some (.int .i64 E.W) ∧ W.cell? (a.add (i * 3 + 2)) = some fv ∧ RdO W fv E.F) ∧ (Lit.int .i64 E.P).wf = true ∧ (Lit.int .i64 E.W).wf = true ∧ FOk E.F := by
      intro i hi
      obtain ⟨cs', h1, h2⟩ := hall i (by omega)
      rw [Try.cellsE] at h1
      obtain ⟨_, hlen, hcell⟩ := World.cells?_some h1
      obtain ⟨y0, y1, y2, k, _, _, g0, g1, g2⟩ := Go.Deep.trod_struct3 Try.underlying39 h2
      match cs', hlen with
      | [v0, v1, v2], _ =>
        simp [Try.cellsI1, Try.cellsS1] at g0 g1 g2
        obtain ⟨z0, e0, _, q0⟩ := DataW.trod_int Try.underlying3 g0
        obtain ⟨z1, e1, _, q1⟩ := DataW.trod_int Try.underlying3 g1
        obtain ⟨F, hF, hFO⟩ := rdO_of g2
        have c0 := hcell 0 (by omega)
        have c1 := hcell 1 (by omega)
        have c2 := hcell 2 (by omega)
        rw [Go.Deep.add_add] at c0 c1 c2
        simp only [List.cons.injEq, and_true] at e0 e1
        subst e0 e1
        exact ⟨⟨z0, z1, F⟩, ⟨v2, by simpa using c0, by simpa using c1, by simpa using c2, hF⟩, q0, q1, hFO⟩
    obtain ⟨q, hq⟩ := Go.Deep.choose_lt each
    refine ⟨(List.range len').map q, ⟨some a, cap', by simp, by simp; omega, by omega, ?_⟩, ?_⟩
    · by_cases h0 : len' = 0
      · left; simpa using h0
      · right
        obtain ⟨fv, h3, _⟩ := (hq 0 (by omega)).1
        obtain ⟨h1, h2⟩ := spot_of h3
        have ha : a.add (0 * 3) = a := rfl
        rw [ha] at h1 h2
        refine ⟨a.block, a.off, by rw [← h1], h2, fun k hk => ?_⟩
        have hk' : k < len' := by simpa using hk
        obtain ⟨fv, r0, r1, r2, r3⟩ := (hq k hk').1
        rw [h1, add_plain] at r0 r1 r2
        exact ⟨fv, by simpa using r0, by simpa [Nat.add_assoc] using r1, by simpa [Nat.add_assoc] using r2, by simpa using r3⟩
    · intro E hE
      obtain ⟨i, hi, rfl⟩ := List.mem_map.1 hE
      exact (hq i (by simpa using hi)).2

theorem argV_of {H : Type} {enc : TypeId × Value → H} {W : World} {base : Nat} {v : Value} {d : DataW H} {p : List MemPlace} (hv : Value.okWide Try.prog W .any base 24 v)
    (h : DataW.Trod enc Try.prog W 0 (fun _ => true) true 24 v d p) : ∃ (z : Int) (y : Value) (L : List M.Ent), v = verV z y ∧ (Lit.int .i64 z).wf = true ∧ ArgE W y L ∧ ∀ E ∈ L, (Lit.int .i64 E.P).wf = true ∧ (Lit.int .i64 E.W).wf = true ∧ FOk E.F := by
  obtain ⟨cs, rfl, hcs⟩ := okWide_struct Try.underlying24 hv
  obtain ⟨fuel, hf⟩ := h
  obtain ⟨y0, y1, n, _, hlen, g0, g1⟩ := trod_struct2 Try.underlying24 hf
  have h2 : cs.size = 2 := by rw [hcs]; kernel_rfl
  obtain ⟨v0, v1, rfl⟩ : ∃ v0 v1, cs = #[v0, v1] := by
    obtain ⟨l⟩ := cs
    match l, h2 with
    | [v0, v1], _ => exact ⟨v0, v1, rfl⟩
  simp [Try.cellsI1, Try.cellsP1, Value.cells] at g0 g1
  obtain ⟨z0, e0, _, q0⟩ := DataW.trod_int Try.underlying3 g0
  obtain ⟨L, hL, hok⟩ := argE_of g1
  simp only [List.cons.injEq, and_true] at e0
  subst e0
  exact ⟨z0, v1, L, rfl, q0, hL, hok⟩
end

theorem ArgE.below {w w' : World} {v : Value} {L : List M.Ent} (h : ArgE w v L) (hB : Below w.heap.size w w') : ArgE w' v L := by
  obtain ⟨a, cap, h1, h2, h3, h4⟩ := h
  refine ⟨a, cap, h1, h2, h3, ?_⟩
  rcases h4 with h4 | ⟨b, o, h5, h6, h7⟩
  · exact .inl h4
  · refine .inr ⟨b, o, h5, Nat.lt_of_lt_of_le h6 hB.size, fun k hk => ?_⟩
    obtain ⟨fv, g0, g1, g2, g3⟩ := h7 k hk
    exact ⟨fv, by rw [hB.cell (p := ⟨b, o + k * 3, none⟩) h6]; exact g0, by rw [hB.cell (p := ⟨b, o + k * 3 + 1, none⟩) h6]; exact g1, by rw [hB.cell (p := ⟨b, o + k * 3 + 2, none⟩) h6]; exact g2, g3.below hB⟩

end Go.Proofs.Ytldfbadcigdbkaa
