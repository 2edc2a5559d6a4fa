/- A slice of ints that came in. -/
import Derived.Test.YtldfbadcigdbkaaWalkRefCommon
import Derived.Test.YtldfbadcigdbkaaWalkMod
import Derived.Deep.DeepCutAuto
import Derived.ProofKit
import Derived.OpenShut
namespace Go.Proofs.Ytldfbadcigdbkaa
open Go.RowKit

/-- v reads as the ints Z. -/
def ArgI (w : World) (v : Value) (Z : List Int) : Prop :=
  Z.length ≤ 9223372036854775807 ∧ ((v = .slice none 0 0 ∧ Z = []) ∨
    ∃ (a : Addr) (cap : Nat), v = .slice (some a) Z.length cap ∧ Z.length ≤ cap ∧ cap ≤ 9223372036854775807 ∧ ∀ i (h : i < Z.length), w.cell? (a.add i) = some (.int .i64 Z[i]))

theorem ArgI.below {w w' : World} {v : Value} {Z : List Int} (h : ArgI w v Z) (hB : Below w.heap.size w w') : ArgI w' v Z := by
  refine ⟨h.1, ?_⟩
  rcases h.2 with h1 | ⟨a, cap, h1, h2, h3, h4⟩
  · exact .inl h1
  · refine .inr ⟨a, cap, h1, h2, h3, fun i hi => ?_⟩
    have hc := h4 i hi
    have hlt := World.block_lt_of_cell? w _ hc
    rw [hB.cell hlt]
    exact hc

theorem intsZ_take (Z : List Int) (k : Nat) : intsZ (Z.take k) = (intsZ Z).take k := by simp [intsZ]

section
open Go.ChangeShapes Go.WideShapes
theorem argI_of {H : Type} {enc : TypeId × Value → H} {W : World} {base : Nat} {v : Value} {d : DataW H} {p : List MemPlace} (hv : Value.okWide Try.prog W .any base 34 v)
    (h : DataW.Trod enc Try.prog W 0 (fun _ => true) true 34 v d p) : ∃ Z, ArgI W v Z := by
  obtain ⟨a0, len, cap, rfl⟩ := okWide_slice Try.underlying34 hv
  obtain ⟨fuel, hf⟩ := h
  rcases open_ints Try.underlying34 Try.underlying3 (by kernel_rfl) hf with ⟨hcs, hx⟩ | ⟨a, len', cap', zs, hcs, _, hl, hm, hz, hx, hcell, hwz⟩
  · simp only [Value.cells, List.cons.injEq, and_true] at hcs
    rw [hcs]
    exact ⟨[], by simp, .inl ⟨rfl, rfl⟩⟩
  · simp only [Value.cells, List.cons.injEq, and_true] at hcs
    rw [hcs]
    simp only [if_true] at hz
    unfold maxLen at hm
    have hlen : (zs.take len').length = len' := by rw [List.length_take]; omega
    refine ⟨zs.take len', by omega, .inr ⟨a, cap', by rw [hlen], by omega, by omega, fun i hi => ?_⟩⟩
    have := hcell i (by omega)
    rw [this, List.getElem_take]
    simp [List.getD, show i < zs.length by omega]
end

end Go.Proofs.Ytldfbadcigdbkaa
