/- The walk over proveBy: the entry of a prime. -/
import Derived.Test.YtldfbadcigdbkaaDecSt
import Derived.Test.YtldfbadcigdbkaaTodo
namespace Go.Proofs.Ytldfbadcigdbkaa
open Go.RowKit Go.Maps

theorem Try.infoPr : (Try.prog.info? 39).map (·.size) = some 3 := by kernel_rfl

theorem ints_cast (L : List (Nat × Nat)) : ints (L.map (·.1)) = intsZ (L.map fun x => (x.1 : Int)) := by simp [ints, intsZ]

set_option maxRecDepth 100000 in
set_option maxHeartbeats 1000000 in
theorem proveBy_is (t G : Nat) (L : List (Nat × Nat)) (w : World) (ht : Hid (M.Pr t)) (ht2 : t ≤ 2147483647) (hL : Hid (M.IsFac (t - 1) L)) (hG1 : 1 ≤ G) (hG2 : G < t) (hG : Hid (genB G t (L.map (·.1)) = true ∧ ∀ g, 1 ≤ g → g < G → genB g t (L.map (·.1)) = false)) :
    Calls Try.prog 31 #[.int .i64 t] w fun x w' => (∃ a c, x = .returned (.agg #[.int .i64 t, .int .i64 G, .slice a L.length c]) ∧ w'.ownsRow (w.heap.size + 1) 3 1 (.slice a L.length c) L.length (ints (L.map (·.1))) ∧ ∀ g, (Value.slice a L.length c).ownBlock = some g → w.heap.size < g ∧ g < w'.heap.size) ∧ Below w.heap.size w w' := by
  have h2 := ht.out.1
  have hlen : L.length ≤ 30 := hL.out.1.length_le (by rw [hL.out.2]; omega)
  have hL' : Hid (M.IsFac ((t : Int) - 1).toNat L) := by have := hL.out; rw [show ((t : Int) - 1).toNat = t - 1 by omega]; exact this
  have hQ : Hid (∀ q ∈ L.map (·.1), 1 ≤ q ∧ q ≤ 2147483647) := fac_small hL.out (by omega)
  go_enter Try.func31, Try.ntmps31
  go_wp2_with (fail)
  refine (primesOf_any _ L _ (by omega) (by omega) hL').mono ?_
  rintro e w2 ⟨⟨v, rfl, hown⟩, hB2⟩
  obtain ⟨a, c, rfl⟩ : ∃ a c, v = .slice a L.length c := by obtain ⟨_, a, c, h, _⟩ := Rd.of_own hown; exact ⟨a, c, h⟩
  have hr : Hid (Rd w2 (.slice a L.length c) 1 (L.map (·.1)).length (ints (L.map (·.1)))) := by have := Rd.of_own hown; rw [heads_ints] at this; rw [List.length_map]; exact this
  have HOW := Lib.hid hown
  have HB2 := Lib.hid hB2
  have hbk : w2.heap[w.heap.size]? = some (.cells #[.int .i64 0, .int .i64 0, .slice none 0 0] 39 (0, 0)) := (hB2.block _ (by simp)).trans (heap_alloc_new _ _)
  have z0 : w2.frozen? ⟨w.heap.size, 0, none⟩ = false := frozen_blk hbk
  have z1 : w2.frozen? ⟨w.heap.size, 1, none⟩ = false := frozen_blk hbk
  have z2 : w2.frozen? ⟨w.heap.size, 2, none⟩ = false := frozen_blk hbk
  have g0 := cell_blk (o := 0) hbk rfl
  have g1 := cell_blk (o := 1) hbk rfl
  have g2 := cell_blk (o := 2) hbk rfl
  have hwp : ((t : Int) - 1).toNat = t - 1 := by omega
  obtain ⟨ln, hln⟩ : ∃ ln, ln = L.length := ⟨_, rfl⟩
  have HBK := Lib.hid hbk
  have HLN := Lib.hid hln
  rw [← hln] at hr HOW ⊢
  clear hown hB2 hbk hln
  go_wp2_with (go_at_call 47; refine (leastGenerator_is t G _ _ _ hr (by omega) (by rw [List.length_map]; omega) hQ (by omega) (by omega) hG).mono ?_; rintro e w' ⟨rfl, rfl⟩)
  have hlast : (((w2.setCell ⟨w.heap.size, 0, none⟩ (.int .i64 t)).setCell ⟨w.heap.size, 1, none⟩ (.int .i64 G)).setCell ⟨w.heap.size, 2, none⟩ (.slice a ln c)).heap[w.heap.size]? = some (.cells #[.int .i64 t, .int .i64 G, .slice a ln c] 39 (0, 0)) := by
    have h3 := heap_setCell_same w2 _ 0 _ _ (.int .i64 t) HBK.out
    have h4 := heap_setCell_same _ _ 1 _ _ (.int .i64 G) h3
    have h5 := heap_setCell_same _ _ 2 _ _ (.slice a ln c) h4
    rw [h5]; rfl
  refine bodyPost_ret (results_cell_row Try.results31 _ _ w.heap.size _ _ _ _ rfl hlast Try.underlying39 rfl Try.infoPr) rfl ?_
  have hsz1 : (w.alloc (.cells #[.int .i64 0, .int .i64 0, .slice none 0 0] 39)).heap.size = w.heap.size + 1 := World.size_alloc _ _
  have hB := HB2.out
  have hrd := HOW.out
  rw [hsz1, heads_ints] at hrd
  have hsz9 : (((w2.setCell ⟨w.heap.size, 0, none⟩ (.int .i64 t)).setCell ⟨w.heap.size, 1, none⟩ (.int .i64 G)).setCell ⟨w.heap.size, 2, none⟩ (.slice a ln c)).heap.size = w2.heap.size := by simp [World.setCell]
  have hLL := HLN.out
  subst hLL
  refine ⟨⟨a, c, rfl, own_at hrd (fun g hg hlt => ?_), fun g hg => ?_⟩, ?_⟩
  · have := (HOW.out.lt g hg).1
    have hne : g ≠ w.heap.size := by omega
    rw [heap_setCell_other _ _ _ _ (by exact hne), heap_setCell_other _ _ _ _ (by exact hne), heap_setCell_other _ _ _ _ (by exact hne)]
  · have := HOW.out.lt g hg
    exact ⟨by omega, by rw [hsz9]; omega⟩
  · have h0 : Below w.heap.size w w2 := ((Below.refl _ w).alloc (Nat.le_refl _) _).trans (hB.mono (by omega))
    exact ((h0.setCell (Nat.le_refl _) _).setCell (Nat.le_refl _) _).setCell (Nat.le_refl _) _
end Go.Proofs.Ytldfbadcigdbkaa
