/- Lists of numbers, rows of lists, and lists that grow, in memory. -/
import Derived.Test.YtapidabhdbjnmaaRows
import Derived.WalkKit
import Derived.WalkSpells
import Derived.WalkLawsBesides
import Derived.Lib.Hide
import Derived.Deep.QuietTactic
import Derived.BigQuiet
import Derived.OneCell
import Derived.OwnWalk
import Derived.Outline
import Derived.Deep.AppendLies
import Derived.Laws.OwnMore
import Derived.Deep.RegionHeld3
import Derived.StillTailTactics
namespace Go.Proofs.Ytapidabhdbjnmaa
open Go.RowKit

theorem Q.getD_get {f : List Nat} {i : Nat} (h : i < f.length) : f.getD i 0 = f[i] := by simp [List.getD, h]

theorem Q.ext_getD {f g : List Nat} (h : f.length = g.length) (hi : ∀ i, i < f.length → f.getD i 0 = g.getD i 0) : f = g := by
  apply List.ext_getElem h
  intro i h1 h2
  have := hi i h1
  rwa [getD_get h1, getD_get h2] at this

theorem ret_i {a b : Int} (h : a = b) : Ending.returned (.int .i64 a) = .returned (.int .i64 b) := by rw [h]

theorem ret_b {a b : Bool} (h : a = b) : Ending.returned (.bool a) = .returned (.bool b) := by rw [h]

theorem own_shape {w : World} {base size n : Nat} {e : TypeId} {v : Value} {xs : List Value} (h : w.ownsRow base e size v n xs) (hn : n ≠ 0) : ∃ g cap, v = .slice (some ⟨g, 0, none⟩) n cap := by
  rcases h.2 with ⟨_, h0⟩ | ⟨g, cap, _, hv, _⟩
  · exact absurd h0 hn
  · exact ⟨g, cap, hv⟩

theorem _root_.Go.World.ownsRow.base_le {w : World} {base b size n : Nat} {e : TypeId} {v : Value} {xs : List Value} (h : w.ownsRow base e size v n xs) (hb : b ≤ base) : w.ownsRow b e size v n xs := by
  refine ⟨h.1, ?_⟩
  rcases h.2 with h2 | ⟨g, cap, cur, h3, h4, h5⟩
  · exact .inl h2
  · exact .inr ⟨g, cap, cur, h3, by omega, h5⟩

/-- A slice that reads as the cells xs, n elements of size cells each. -/
def Rd (w : World) (v : Value) (size n : Nat) (xs : List Value) : Prop :=
  xs.length = n * size ∧ ∃ (a : Option Addr) (cap : Nat), v = .slice a n cap ∧ n ≤ cap ∧ (n = 0 ∨ ∃ b, a = some ⟨b, 0, none⟩ ∧ b < w.heap.size ∧ ∀ j u, xs[j]? = some u → w.cell? ⟨b, j, none⟩ = some u)

theorem Rd.of_own {w : World} {base size n : Nat} {e : TypeId} {v : Value} {xs : List Value} (h : w.ownsRow base e size v n xs) : Rd w v size n xs := by
  refine ⟨h.1, ?_⟩
  rcases h.2 with ⟨h1, h2⟩ | ⟨g, cap, cur, hv, h3, h4, h5, h6, h7⟩
  · subst h2; exact ⟨none, 0, h1, Nat.le_refl _, .inl rfl⟩
  · refine ⟨_, cap, hv, h5, .inr ⟨g, rfl, lt_of_block h4, fun j u hu => ?_⟩⟩
    have := h.cells (g := g) (by rw [hv]; rfl) j u hu
    have hadd : (⟨g, 0, none⟩ : Addr).add j = ⟨g, j, none⟩ := by unfold Addr.add; split <;> simp_all
    rw [hadd] at this
    exact this

theorem Rd.below {w w' : World} {v : Value} {size n B : Nat} {xs : List Value} (h : Rd w v size n xs) (hB : Below B w w') (hle : w.heap.size ≤ B) : Rd w' v size n xs := by
  obtain ⟨h1, a, cap, hv, hc, h2⟩ := h
  refine ⟨h1, a, cap, hv, hc, ?_⟩
  rcases h2 with h2 | ⟨b, ha, hb, h2⟩
  · exact .inl h2
  · exact .inr ⟨b, ha, by have := hB.size; omega, fun j u hu => by rw [hB.cell (p := ⟨b, j, none⟩) (by show b < B; omega)]; exact h2 j u hu⟩

theorem cell_one_at (W : World) (v : Value) (t : TypeId) (b : Nat) (hb : b = W.heap.size) : ∀ j u, [v][j]? = some u → (W.alloc (.cells #[v] t)).cell? ((⟨b, 0, none⟩ : Addr).add j) = some u := by
  subst hb; exact cell_one_new _ _ _

theorem cell_two_at (W : World) (v v' : Value) (t : TypeId) (b : Nat) (hb : b = W.heap.size) : ∀ j u, [v, v'][j]? = some u → (W.alloc (.cells #[v, v'] t)).cell? ((⟨b, 0, none⟩ : Addr).add j) = some u := by
  subst hb; exact cell_two_new _ _ _ _

theorem below_drewN {B : Nat} {a w : World} (h : Below B a w) (n : Nat) : Below B a (w.drewN n) := h.trans ⟨rfl, rfl, rfl, Nat.le_refl _, fun _ _ => rfl⟩

/-- Lists of ints, and of numbers, as cells. -/
def zs (Z : List Int) : List Value := Z.map fun q => Value.int .i64 q

def nats (F : List Nat) : List Value := F.map fun (q : Nat) => Value.int .i64 (q : Int)

theorem zs_get (Z : List Int) (k : Nat) (h : k < Z.length) : (zs Z)[k]? = some (.int .i64 Z[k]) := by simp [zs, h]

theorem nats_get (F : List Nat) (k : Nat) (h : k < F.length) : (nats F)[k]? = some (.int .i64 (F[k] : Int)) := by simp [nats, h]

theorem nats_zs (F : List Nat) : nats F = zs (F.map fun (x : Nat) => (x : Int)) := by simp [nats, zs]

theorem nats_length (F : List Nat) : (nats F).length = F.length := by simp [nats]

theorem zs_length (Z : List Int) : (zs Z).length = Z.length := by simp [zs]

theorem nats_take (F : List Nat) (n : Nat) : nats (F.take n) = (nats F).take n := by simp [nats]

theorem nats_append (F G : List Nat) : nats (F ++ G) = nats F ++ nats G := by simp [nats]

theorem nats_set (F : List Nat) (i x : Nat) : nats (F.set i x) = (nats F).set i (.int .i64 (x : Int)) := by simp [nats, List.map_set]

theorem ret_bb {a b : Bool} (h : a = b) : Ending.returned (.bool a) = .returned (.bool b) := by rw [h]

theorem ret_sl {a : Option Addr} {n m c : Nat} (h : n = m) : Ending.returned (.slice a n c) = .returned (.slice a m c) := by rw [h]

theorem Try.infoZ : (Try.prog.info? 3).map (fun i => (i.zero, i.size, i.bytes)) = some (some (.int .i64 0), 1, 8) := by kernel_rfl

theorem below_of_grown {w w' : World} (h : w.grownBy w' none) : Below w.heap.size w w' := ⟨h.os, h.tape, h.output, h.size, fun b hb => h.block b hb (by simp)⟩

theorem own_cut {w : World} {base size n k cap : Nat} {e : TypeId} {a : Option Addr} {xs : List Value} (h : w.ownsRow base e size (.slice a n cap) n xs) (hk : k ≤ n) :
    w.ownsRow base e size (.slice a k cap) k (xs.take (k * size)) := by
  have hl := h.1
  have hks : k * size ≤ n * size := Nat.mul_le_mul_right _ hk
  refine ⟨by rw [List.length_take]; omega, ?_⟩
  rcases h.2 with ⟨h1, h2⟩ | ⟨g, cap', cur, h1, h2, h3, h4, h5, h6, h7⟩
  · injection h1 with h1 h3 h4
    subst h1 h4
    obtain rfl : k = 0 := by omega
    exact .inl ⟨rfl, rfl⟩
  · injection h1 with h1 h8 h9
    subst h1 h9
    exact .inr ⟨g, cap, cur, rfl, h2, h3, by omega, h5, h6, by rw [← h7, List.take_take]; congr 1; omega⟩

theorem own_base {w : World} {base b size n : Nat} {e : TypeId} {v : Value} {xs : List Value} (h : w.ownsRow base e size v n xs) (hb : b ≤ base) : w.ownsRow b e size v n xs := by
  refine ⟨h.1, ?_⟩
  rcases h.2 with h2 | ⟨g, cap, cur, h3, h4, h5⟩
  · exact .inl h2
  · exact .inr ⟨g, cap, cur, h3, by omega, h5⟩

theorem own_form {w : World} {base size n : Nat} {e : TypeId} {v : Value} {xs : List Value} (h : w.ownsRow base e size v n xs) : ∃ a cap, v = .slice a n cap ∧ n ≤ cap ∧ cap ≤ 9223372036854775807 ∧ (0 < n → ∃ g, a = some ⟨g, 0, none⟩ ∧ base ≤ g ∧ g < w.heap.size) := by
  rcases h.2 with ⟨h1, h2⟩ | ⟨g, cap', cur, h1, h2, h3, h4, h5, h6, h7⟩
  · subst h2; exact ⟨none, 0, h1, Nat.le_refl _, by omega, fun h => by omega⟩
  · unfold maxLen at h5
    exact ⟨_, cap', h1, h4, h5, fun _ => ⟨g, rfl, h2, (Array.getElem?_eq_some_iff.1 h3).1⟩⟩

/-- Memory that Below leaves alone: a row that lay below. -/
theorem own_low {w w' : World} {base size n B : Nat} {e : TypeId} {v : Value} {xs : List Value} (h : w.ownsRow base e size v n xs) (hB : Below B w w') (hlt : ∀ g, v.ownBlock = some g → g < B) : w'.ownsRow base e size v n xs := by
  refine ⟨h.1, ?_⟩
  rcases h.2 with h2 | ⟨g, cap, cur, h3, h4, h5, h6⟩
  · exact .inl h2
  · exact .inr ⟨g, cap, cur, h3, h4, by rw [hB.block g (hlt g (by rw [h3]; rfl))]; exact h5, h6⟩

theorem own_kept {w w' : World} {base size n : Nat} {e : TypeId} {v : Value} {xs : List Value} (h : w.ownsRow base e size v n xs) (hB : Below w.heap.size w w') : w'.ownsRow base e size v n xs :=
  own_low h hB fun g hg => (h.lt g hg).2

/-- A new list of numbers. -/
def NewL (w w' : World) (v : Value) (F : List Nat) : Prop := w'.ownsRow w.heap.size 3 1 v F.length (nats F)

theorem NewL.rd {w w' : World} {v : Value} {F : List Nat} (h : NewL w w' v F) : Rd w' v 1 F.length (nats F) := Rd.of_own h

theorem NewL.from {w0 w w' : World} {v : Value} {F : List Nat} (h : NewL w w' v F) (hb : w0.heap.size ≤ w.heap.size) : NewL w0 w' v F := own_base h hb

theorem NewL.keep {w w1 w2 : World} {v : Value} {F : List Nat} (h : NewL w w1 v F) (hB : Below w1.heap.size w1 w2) : NewL w w2 v F := own_kept h hB

theorem NewL.nil (w w' : World) : NewL w w' (.slice none 0 0) [] := World.ownsRow_nil _ _ _ _

/-- What a function that makes one new list returns. -/
def RetL (w : World) (F : List Nat) (x : Ending) (w' : World) : Prop := (∃ v, x = .returned v ∧ NewL w w' v F) ∧ Below w.heap.size w w'

structure RSt (w wr : World) (g n cap : Nat) (H : List Nat) : Prop where
  own : wr.ownsRow w.heap.size 3 1 (.slice (some ⟨g, 0, none⟩) n cap) n (nats H)
  below : Below w.heap.size w wr

theorem RSt.len {w wr : World} {g n cap : Nat} {H : List Nat} (h : RSt w wr g n cap H) : H.length = n := by have := h.own.1; rw [nats_length] at this; omega

theorem RSt.cell {w wr : World} {g n cap : Nat} {H : List Nat} (h : RSt w wr g n cap H) {j : Nat} (hj : j < n) : wr.cell? ⟨g, j, none⟩ = some (.int .i64 (H.getD j 0 : Nat)) := by
  have hl := h.len
  rw [h.own.cellAt j (by omega), nats_get H j (by omega), Q.getD_get (by omega)]

theorem RSt.free {w wr : World} {g n cap : Nat} {H : List Nat} (h : RSt w wr g n cap H) (j : Nat) : wr.frozen? ⟨g, j, none⟩ = false := h.own.frozenAt j

theorem RSt.set {w wr : World} {g n cap : Nat} {H : List Nat} (h : RSt w wr g n cap H) (j x : Nat) : RSt w (wr.setCell ⟨g, j, none⟩ (.int .i64 (x : Int))) g n cap (H.set j x) := by
  have hg : w.heap.size ≤ g := (h.own.lt g rfl).1
  refine ⟨?_, h.below.trans ((Below.refl _ _).setCell hg _)⟩
  rw [nats_set]
  exact (h.own.stored j _).1

theorem RSt.other {w wr : World} {g n cap : Nat} {H : List Nat} (h : RSt w wr g n cap H) {g' j : Nat} (hg' : w.heap.size ≤ g') (hne : g ≠ g') (u : Value) : RSt w (wr.setCell ⟨g', j, none⟩ u) g n cap H := by
  refine ⟨?_, h.below.trans ((Below.refl _ _).setCell hg' _)⟩
  refine ⟨h.own.1, ?_⟩
  rcases h.own.2 with h2 | ⟨k, cp, cur, h3, h4, h5, h6⟩
  · exact .inl h2
  · refine .inr ⟨k, cp, cur, h3, h4, ?_, h6⟩
    have : k = g := by injection h3 with h3; injection h3 with h3; injection h3 with h3; exact h3.symm
    subst this
    rw [heap_setCell_other wr _ _ _ hne]
    exact h5

theorem RSt.new {w wr : World} {g n cap : Nat} {H : List Nat} (h : RSt w wr g n cap H) : NewL w wr (.slice (some ⟨g, 0, none⟩) n cap) H := by
  unfold NewL; rw [h.len]; exact h.own

theorem RSt.low {w wr wx : World} {g n cap : Nat} {H : List Nat} (h : RSt w wr g n cap H) (hB : Below wr.heap.size wr wx) : RSt w wx g n cap H :=
  ⟨own_kept h.own hB, h.below.trans (hB.mono h.below.size)⟩

theorem nats_zeros (n : Nat) : (madeCells #[Value.int .i64 0] n).toList = nats (List.replicate n 0) := by
  simp [toList_madeCells_one, nats]

theorem grown_set {w wr : World} {g : Nat} (h : w.grownBy wr (some g)) (j : Nat) (u : Value) : w.grownBy (wr.setCell ⟨g, j, none⟩ u) (some g) := by
  refine ⟨h.os, h.tape, h.output, by have := h.size; simpa [World.setCell] using this, fun b hb hne => ?_⟩
  rw [heap_setCell_other wr _ _ _ (by rintro rfl; exact hne rfl)]
  exact h.block b hb hne

theorem RSt.grown {w wr wx : World} {g n cap b : Nat} {H : List Nat} (h : RSt w wr g n cap H) (hg : wr.grownBy wx (some b)) (hne : g ≠ b) (hb : w.heap.size ≤ b) : RSt w wx g n cap H :=
  ⟨h.own.kept hg (.inr (by simp [Value.ownBlock, hne])), h.below.grown hg h.below.size (by intro k hk; injection hk with hk; omega)⟩

theorem RSt.of_own {w wr : World} {g n cap : Nat} {H : List Nat} (h : wr.ownsRow w.heap.size 3 1 (.slice (some ⟨g, 0, none⟩) n cap) n (nats H)) (hB : Below w.heap.size w wr) : RSt w wr g n cap H := ⟨h, hB⟩

theorem RSt.drewN {w wr : World} {g n cap : Nat} {H : List Nat} (h : RSt w wr g n cap H) (k : Nat) : RSt w (wr.drewN k) g n cap H := ⟨own_kept h.own (below_drewN (Below.refl _ _) k), below_drewN h.below k⟩

theorem Rd.shape {w : World} {v : Value} {size n : Nat} {xs : List Value} (h : Rd w v size n xs) : ∃ a cap, v = .slice a n cap := by
  obtain ⟨_, a, cap, hv, _⟩ := h; exact ⟨a, cap, hv⟩

theorem Rd.own_lt {w : World} {v : Value} {n : Nat} {xs : List Value} (h : Rd w v 1 n xs) (hn : n ≠ 0) : ∀ b, v.ownBlock = some b → b < w.heap.size := by
  obtain ⟨_, a, cap, rfl, _, hc⟩ := h
  rcases hc with h0 | ⟨b, rfl, hb, _⟩
  · exact absurd h0 hn
  · intro g hg; simp [Value.ownBlock] at hg; omega

theorem lit1_own (w : World) (c : Nat) : (w.alloc (.cells #[.int .i64 (c : Int)] 3)).ownsRow w.heap.size 3 1 (.slice (some ⟨w.heap.size, 0, none⟩) 1 1) 1 (nats [c]) := by
  have := World.ownsRow_lit (base := w.heap.size) (e := 3) (size := 1) w #[Value.int .i64 (c : Int)] 1 (Nat.le_refl _) (by unfold maxLen; omega) rfl
  exact this

/-- A slice of slices that reads as lists of numbers. -/
def RdN (w : World) (v : Value) (Ms : List (List Nat)) : Prop :=
  ∃ vs : List Value, Rd w v 1 Ms.length vs ∧ ∀ i (h : i < Ms.length) (h' : i < vs.length), Rd w vs[i] 1 Ms[i].length (nats Ms[i])

theorem RdN.below {w w' : World} {v : Value} {Ls : List (List Nat)} (h : RdN w v Ls) (hB : Below w.heap.size w w') : RdN w' v Ls := by
  obtain ⟨vs, h1, h2⟩ := h
  exact ⟨vs, h1.below hB (Nat.le_refl _), fun i h h' => (h2 i h h').below hB (Nat.le_refl _)⟩

theorem Try.infoS : (Try.prog.info? 22).map (fun i => (i.zero, i.size, i.bytes)) = some (some (.slice none 0 0), 1, 24) := by kernel_rfl

/-- A new matrix: row i is the value vs[i]. -/
structure Mx (w wr : World) (b n cap : Nat) (vs : List Value) (Ms : List (List Nat)) : Prop where
  own : wr.ownsRow w.heap.size 22 1 (.slice (some ⟨b, 0, none⟩) n cap) n vs
  rows : ∀ (i : Nat) (v : Value) (M : List Nat), vs[i]? = some v → Ms[i]? = some M → wr.ownsRow w.heap.size 3 1 v M.length (nats M)
  len : Ms.length = n
  below : Below w.heap.size w wr

theorem Mx.vlen {w wr : World} {b n cap : Nat} {vs : List Value} {Ms : List (List Nat)} (h : Mx w wr b n cap vs Ms) : vs.length = n := by have := h.own.1; omega

theorem Mx.cell {w wr : World} {b n cap : Nat} {vs : List Value} {Ms : List (List Nat)} (h : Mx w wr b n cap vs Ms) {i : Nat} (hi : i < n) : ∃ a cp, wr.cell? ⟨b, i, none⟩ = some (.slice a (Ms.getD i []).length cp) ∧ wr.ownsRow w.heap.size 3 1 (.slice a (Ms.getD i []).length cp) (Ms.getD i []).length (nats (Ms.getD i [])) ∧ vs[i]? = some (.slice a (Ms.getD i []).length cp) := by
  have hv := h.vlen
  have hm := h.len
  have h1 : vs[i]? = some vs[i] := List.getElem?_eq_getElem (by omega)
  have h2 : Ms[i]? = some Ms[i] := List.getElem?_eq_getElem (by omega)
  have h3 := h.rows i _ _ h1 h2
  have e : Ms.getD i [] = Ms[i] := by simp [List.getD, h2]
  rw [e]
  obtain ⟨a, cp, h4, _⟩ := own_form h3
  refine ⟨a, cp, ?_, by rw [← h4]; exact h3, by rw [← h4]; exact h1⟩
  rw [h.own.cellAt i (by omega), h1, h4]

theorem Mx.free {w wr : World} {b n cap : Nat} {vs : List Value} {Ms : List (List Nat)} (h : Mx w wr b n cap vs Ms) (j : Nat) : wr.frozen? ⟨b, j, none⟩ = false := h.own.frozenAt j

theorem own_set_other {w : World} {base size n : Nat} {e : TypeId} {v : Value} {xs : List Value} (h : w.ownsRow base e size v n xs) {b j : Nat} (hne : v.ownBlock ≠ some b) (u : Value) : (w.setCell ⟨b, j, none⟩ u).ownsRow base e size v n xs := by
  refine ⟨h.1, ?_⟩
  rcases h.2 with h2 | ⟨k, cp, cur, h3, h4, h5, h6⟩
  · exact .inl h2
  · refine .inr ⟨k, cp, cur, h3, h4, ?_, h6⟩
    rw [heap_setCell_other w _ _ _ (by rintro rfl; apply hne; rw [h3]; rfl)]
    exact h5

theorem own_ty_ne {w : World} {base base' size size' n n' : Nat} {e e' : TypeId} {v : Value} {b cap : Nat} {xs xs' : List Value} (h : w.ownsRow base e size v n xs) (h' : w.ownsRow base' e' size' (.slice (some ⟨b, 0, none⟩) n' cap) n' xs') (hne : e ≠ e') : v.ownBlock ≠ some b := by
  intro hb
  rcases h.2 with ⟨rfl, _⟩ | ⟨k, cp, cur, h3, _, h5, _⟩
  · simp [Value.ownBlock] at hb
  · rcases h'.2 with ⟨h1, _⟩ | ⟨k', cp', cur', h3', _, h5', _⟩
    · cases h1
    · injection h3' with h3' _ _
      injection h3' with h3'
      injection h3' with h3' _ _
      subst h3'
      rw [h3] at hb
      simp [Value.ownBlock] at hb
      subst hb
      rw [h5] at h5'
      injection h5' with h5'
      injection h5' with _ h5' _
      exact hne h5'

/-- A row is put into the matrix. -/
theorem Mx.set {w wr : World} {b n cap : Nat} {vs : List Value} {Ms : List (List Nat)} (h : Mx w wr b n cap vs Ms) {i : Nat} {v : Value} {M : List Nat} (hv : wr.ownsRow w.heap.size 3 1 v M.length (nats M)) :
    Mx w (wr.setCell ⟨b, i, none⟩ v) b n cap (vs.set i v) (Ms.set i M) := by
  have hg : w.heap.size ≤ b := (h.own.lt b rfl).1
  refine ⟨(h.own.stored i v).1, fun j u N hu hN => ?_, by rw [List.length_set]; exact h.len, h.below.trans ((Below.refl _ _).setCell hg _)⟩
  rw [List.getElem?_set] at hu hN
  by_cases hij : i = j
  · rw [if_pos hij] at hu hN
    split at hu
    · split at hN
      · injection hu with hu; injection hN with hN
        subst hu hN
        exact own_set_other hv (own_ty_ne hv h.own (by decide)) _
      · cases hN
    · cases hu
  · rw [if_neg hij] at hu hN
    have h1 := h.rows j u N hu hN
    exact own_set_other h1 (own_ty_ne h1 h.own (by decide)) _

theorem Mx.low {w wr wx : World} {b n cap : Nat} {vs : List Value} {Ms : List (List Nat)} (h : Mx w wr b n cap vs Ms) (hB : Below wr.heap.size wr wx) : Mx w wx b n cap vs Ms :=
  ⟨own_kept h.own hB, fun i v M hv hM => own_kept (h.rows i v M hv hM) hB, h.len, h.below.trans (hB.mono h.below.size)⟩

theorem Mx.rd {w wr : World} {b n cap : Nat} {vs : List Value} {Ms : List (List Nat)} (h : Mx w wr b n cap vs Ms) : RdN wr (.slice (some ⟨b, 0, none⟩) n cap) Ms := by
  have hl := h.len
  refine ⟨vs, by rw [hl]; exact Rd.of_own h.own, fun i hi hi' => ?_⟩
  exact Rd.of_own (h.rows i _ _ (List.getElem?_eq_getElem hi') (List.getElem?_eq_getElem hi))

theorem Mx.start {w w0 : World} {n : Nat} (hown : w0.ownsRow w.heap.size 22 1 (.slice (some ⟨w.heap.size, 0, none⟩) n n) n (madeCells #[Value.slice none 0 0] n).toList) (hg : w.grownBy w0 none) : Mx w w0 w.heap.size n n (List.replicate n (.slice none 0 0)) (List.replicate n []) := by
  rw [toList_madeCells_one] at hown
  refine ⟨hown, fun i v M hv hM => ?_, by simp, below_of_grown hg⟩
  rw [List.getElem?_replicate] at hv hM
  split at hv
  · rw [if_pos ‹_›] at hM
    injection hv with hv; injection hM with hM
    subst hv hM
    exact World.ownsRow_nil _ _ _ _
  · cases hv

/-- What a function that makes a matrix returns. -/
def RetM (w : World) (Ms : List (List Nat)) (x : Ending) (w' : World) : Prop := ∃ b cap vs, x = .returned (.slice (some ⟨b, 0, none⟩) Ms.length cap) ∧ Mx w w' b Ms.length cap vs Ms

theorem zs_set (Z : List Int) (i : Nat) (x : Int) : zs (Z.set i x) = (zs Z).set i (.int .i64 x) := by simp [zs, List.map_set]

structure MxV (w wr : World) (v : Value) (vs : List Value) (Ms : List (List Nat)) : Prop where
  own : wr.ownsRow w.heap.size 22 1 v Ms.length vs
  rows : ∀ (i : Nat) (u : Value) (M : List Nat), vs[i]? = some u → Ms[i]? = some M → wr.ownsRow w.heap.size 3 1 u M.length (nats M)
  below : Below w.heap.size w wr

theorem own_ty_ne2 {w : World} {base base' size size' n n' : Nat} {e e' : TypeId} {v v' : Value} {xs xs' : List Value} (h : w.ownsRow base e size v n xs) (h' : w.ownsRow base' e' size' v' n' xs') (hne : e ≠ e') : v.ownBlock = none ∨ v.ownBlock ≠ v'.ownBlock := by
  rcases h.2 with ⟨rfl, _⟩ | ⟨k, cp, cur, h3, _, h5, _⟩
  · exact .inl rfl
  · right
    intro e
    rcases h'.2 with ⟨rfl, _⟩ | ⟨k', cp', cur', h3', _, h5', _⟩
    · rw [h3] at e; simp [Value.ownBlock] at e
    · rw [h3, h3'] at e
      simp [Value.ownBlock] at e
      subst e
      rw [h5] at h5'
      injection h5' with h5'
      injection h5' with _ h5' _
      exact hne h5'

theorem MxV.nil {w wr : World} (hB : Below w.heap.size w wr) : MxV w wr (.slice none 0 0) [] [] := ⟨World.ownsRow_nil _ _ _ _, fun i u M h => by simp at h, hB⟩

theorem MxV.low {w wr wx : World} {v : Value} {vs : List Value} {Ms : List (List Nat)} (h : MxV w wr v vs Ms) (hB : Below wr.heap.size wr wx) : MxV w wx v vs Ms :=
  ⟨own_kept h.own hB, fun i u M hv hM => own_kept (h.rows i u M hv hM) hB, h.below.trans (hB.mono h.below.size)⟩

theorem MxV.rd {w wr : World} {v : Value} {vs : List Value} {Ms : List (List Nat)} (h : MxV w wr v vs Ms) : RdN wr v Ms :=
  ⟨vs, Rd.of_own h.own, fun i hi hi' => Rd.of_own (h.rows i _ _ (List.getElem?_eq_getElem hi') (List.getElem?_eq_getElem hi))⟩

theorem MxV.vlen {w wr : World} {v : Value} {vs : List Value} {Ms : List (List Nat)} (h : MxV w wr v vs Ms) : vs.length = Ms.length := by have := h.own.1; omega

theorem MxV.putInt {w wr : World} {v : Value} {gp m cp j : Nat} {vs : List Value} {Ms : List (List Nat)} {xs : List Value} {z : Value} (h : MxV w wr v vs Ms) (hp : wr.ownsRow w.heap.size 3 1 (.slice (some ⟨gp, 0, none⟩) m cp) m xs) (hne : ∀ u ∈ vs, u.ownBlock ≠ some gp) :
    MxV w (wr.setCell ⟨gp, j, none⟩ z) v vs Ms := by
  have hg := (hp.lt gp rfl).1
  have h1 : v.ownBlock ≠ some gp := by
    rcases own_ty_ne2 h.own hp (by decide) with h1 | h1
    · rw [h1]; simp
    · exact h1
  exact ⟨own_set_other h.own h1 _, fun i u M hv hM => own_set_other (h.rows i u M hv hM) (hne u (List.mem_of_getElem? hv)) _, h.below.trans ((Below.refl _ _).setCell hg _)⟩

/-- A row is appended. -/
theorem MxV.append {w wr wx : World} {v v' u : Value} {vs : List Value} {Ms : List (List Nat)} {M : List Nat} {o : Obj} (h : MxV w wr v vs Ms) (hu : wr.ownsRow w.heap.size 3 1 u M.length (nats M))
    (hown : wx.ownsRow w.heap.size 22 1 v' (Ms.length + 1) (vs ++ [u])) (hg : (wr.alloc o).grownBy wx v.ownBlock) : MxV w wx v' (vs ++ [u]) (Ms ++ [M]) := by
  have hBa : Below wr.heap.size wr (wr.alloc o) := (Below.refl _ _).alloc (Nat.le_refl _) _
  have hvl := h.vlen
  refine ⟨by rw [List.length_append]; exact hown, fun i t N ht hN => ?_, (h.below.trans (hBa.mono h.below.size)).grown hg (Nat.le_trans h.below.size hBa.size) fun g hg' => (h.own.lt g hg').1⟩
  have hk : ∀ (t : Value) (N : List Nat), wr.ownsRow w.heap.size 3 1 t N.length (nats N) → wx.ownsRow w.heap.size 3 1 t N.length (nats N) := fun t N h1 =>
    (own_kept h1 hBa).kept hg (own_ty_ne2 h1 h.own (by decide))
  rw [List.getElem?_append] at ht hN
  split at ht
  · rw [if_pos (by omega)] at hN
    exact hk t N (h.rows i t N ht hN)
  · rw [if_neg (by omega)] at hN
    rw [hvl] at ht
    have h0 : i - Ms.length = 0 := by
      by_cases h0 : i - Ms.length = 0
      · exact h0
      · rw [List.getElem?_eq_none (by simp; omega)] at ht; cases ht
    rw [h0] at ht hN
    simp at ht hN
    subst ht hN
    exact hk u M hu

theorem MxV.from {w0 w wr : World} {v : Value} {vs : List Value} {Ms : List (List Nat)} (h : MxV w wr v vs Ms) (hB : Below w0.heap.size w0 w) : MxV w0 wr v vs Ms :=
  ⟨own_base h.own hB.size, fun i u M hv hM => own_base (h.rows i u M hv hM) hB.size, hB.trans (h.below.mono hB.size)⟩

/-- What a function that makes a list of lists returns. -/
def RetV (w : World) (Ms : List (List Nat)) (x : Ending) (w' : World) : Prop := ∃ v vs, x = .returned v ∧ MxV w w' v vs Ms

theorem lit2_own (w : World) (c d : Nat) : (w.alloc (.cells #[.int .i64 (c : Int), .int .i64 (d : Int)] 3)).ownsRow w.heap.size 3 1 (.slice (some ⟨w.heap.size, 0, none⟩) 2 2) 2 (nats [c, d]) := by
  have := World.ownsRow_lit (base := w.heap.size) (e := 3) (size := 1) w #[Value.int .i64 (c : Int), Value.int .i64 (d : Int)] 2 (Nat.le_refl _) (by unfold maxLen; omega) rfl
  exact this

theorem own_cells {w : World} {base n cp : Nat} {a : Option Addr} {L : List Nat} (h : w.ownsRow base 3 1 (.slice a n cp) n (nats L)) (h0 : 0 < n) :
    ∃ g, a = some ⟨g, 0, none⟩ ∧ base ≤ g ∧ g < w.heap.size ∧ (∀ i, i < n → w.cell? ⟨g, i, none⟩ = some (.int .i64 (L.getD i 0 : Nat))) ∧ ∀ i, w.frozen? ⟨g, i, none⟩ = false := by
  have hl : L.length = n := by have := h.1; simpa [nats] using this
  obtain ⟨_, a', cp', hv, _, hc⟩ := Rd.of_own h
  rcases hc with h1 | ⟨g, hg, _, hcell⟩
  · omega
  have ha : a = some ⟨g, 0, none⟩ := by rw [← hg]; injection hv
  subst ha
  refine ⟨g, rfl, (h.lt g rfl).1, (h.lt g rfl).2, fun i hi => ?_, fun i => h.frozenAt i⟩
  rw [hcell _ _ (nats_get L i (by omega)), Q.getD_get (by omega)]

theorem litV_own (w : World) (u : Value) (_hu : u.oneCell' = true) : (w.alloc (.cells #[u] 22)).ownsRow w.heap.size 22 1 (.slice (some ⟨w.heap.size, 0, none⟩) 1 1) 1 [u] := by
  have := World.ownsRow_lit (base := w.heap.size) (e := 22) (size := 1) w #[u] 1 (Nat.le_refl _) (by unfold maxLen; omega) rfl
  exact this

/-- What a list's cells are, whatever the block. -/
theorem Rd.at {w : World} {a : Option Addr} {n cap : Nat} {F : List Nat} (h : Rd w (.slice a n cap) 1 F.length (nats F)) (i : Nat) (hi : i < F.length) :
    ∃ b, a = some ⟨b, 0, none⟩ ∧ b < w.heap.size ∧ w.cell? ⟨b, i, none⟩ = some (.int .i64 (F.getD i 0 : Nat)) := by
  obtain ⟨_, a1, cap1, e, hcap, hcell⟩ := h
  injection e with e1 e2 e3
  subst e1
  rcases hcell with h | ⟨b, rfl, hb, hc⟩
  · omega
  · exact ⟨b, rfl, hb, by rw [hc _ _ (nats_get F i hi), Q.getD_get hi]⟩

/-- A copy of the first n numbers, appended to nil. -/
theorem take_cells {w : World} {ad : Addr} {n : Nat} {F : List Nat} (h : ∀ i, i < F.length → ∃ b, some ad = some ⟨b, 0, none⟩ ∧ b < w.heap.size ∧ w.cell? ⟨b, i, none⟩ = some (.int .i64 (F.getD i 0 : Nat))) :
    ∀ j u, (nats (F.take n))[j]? = some u → w.cell? (ad.add j) = some u := by
  intro j u hu
  have hj : j < (F.take n).length := by
    rcases Nat.lt_or_ge j (F.take n).length with h1 | h1
    · exact h1
    · rw [List.getElem?_eq_none (by rw [nats_length]; exact h1)] at hu; cases hu
  have hjF : j < F.length := by rw [List.length_take] at hj; omega
  obtain ⟨b, e, hb, hc⟩ := h j hjF
  injection e with e
  subst e
  have hadd : (⟨b, 0, none⟩ : Addr).add j = ⟨b, j, none⟩ := by unfold Addr.add; split <;> simp_all
  rw [hadd, hc, ← hu, nats_get _ _ hj, Q.getD_get hjF, List.getElem_take]

theorem nats_one (F : List Nat) : ∀ u ∈ nats F, u.oneCell' = true := fun u hu => by unfold nats at hu; obtain ⟨z, _, rfl⟩ := List.mem_map.1 hu; rfl

/-- A list under way: k numbers are there. -/
def LSt (w wr : World) (v : Value) (F : List Nat) : Prop := NewL w wr v F ∧ Below w.heap.size w wr

theorem LSt.start (w : World) : LSt w w (.slice none 0 0) [] := ⟨NewL.nil _ _, Below.refl _ _⟩

theorem LSt.push {w wr w1 : World} {v v' : Value} {F : List Nat} {x k : Nat} {o : Obj} (h : LSt w wr v F) (hk : k = F.length + 1)
    (hown : w1.ownsRow w.heap.size 3 1 v' k (nats F ++ [.int .i64 (x : Int)])) (hg : (wr.alloc o).grownBy w1 v.ownBlock) : LSt w w1 v' (F ++ [x]) := by
  have hlt := h.1.lt
  refine ⟨?_, (h.2.alloc h.2.size o).grown hg (by have := h.2.size; simp; omega) (fun b hb => by have := (hlt b hb).1; omega)⟩
  unfold NewL
  rw [nats_append, show (F ++ [x]).length = k by simp; omega]
  exact hown

theorem LSt.shape {w wr : World} {v : Value} {F : List Nat} (h : LSt w wr v F) : ∃ a cap, v = .slice a F.length cap ∧ F.length ≤ cap ∧ cap ≤ 9223372036854775807 := by
  obtain ⟨a, cap, h1, h2, h3, _⟩ := own_form h.1
  exact ⟨a, cap, h1, h2, h3⟩

theorem LSt.push_drew {w wr w1 : World} {v v' : Value} {F : List Nat} {x k : Nat} {o : Obj} (h : LSt w wr v F) (hk : k = F.length + 1)
    (hown : w1.ownsRow w.heap.size 3 1 v' k (nats F ++ [.int .i64 (x : Int)])) (hg : (wr.alloc o).drew.grownBy w1 v.ownBlock) : LSt w w1 v' (F ++ [x]) := by
  have hlt := h.1.lt
  refine ⟨?_, ((h.2.alloc h.2.size o).drew).grown hg (by have := h.2.size; simp; omega) (fun b hb => by have := (hlt b hb).1; omega)⟩
  unfold NewL
  rw [nats_append, show (F ++ [x]).length = k by simp; omega]
  exact hown

theorem add_off (b o i : Nat) : (⟨b, o, none⟩ : Addr).add i = ⟨b, o + i, none⟩ := by unfold Addr.add; split <;> simp_all

theorem RdN.nil (w : World) : RdN w (.slice none 0 0) [] := ⟨[], ⟨rfl, none, 0, rfl, Nat.le_refl _, .inl rfl⟩, fun i h => by simp at h⟩

theorem RdN.lit {w : World} {u : Value} {M : List Nat} (h : Rd w u 1 M.length (nats M)) : RdN (w.alloc (.cells #[u] 22)) (.slice (some ⟨w.heap.size, 0, none⟩) 1 1) [M] := by
  obtain ⟨a, c, hv⟩ := h.shape
  refine ⟨[u], Rd.of_own (litV_own w u (by rw [hv]; rfl)), fun i hi hi' => ?_⟩
  have h0 : i = 0 := by simp at hi; omega
  subst h0
  exact h.below ((Below.refl _ _).alloc (Nat.le_refl _) _) (Nat.le_refl _)

structure HasN (w : World) (v : Value) (M : List Nat) (n i b : Nat) (cap : Nat) (a : Option Addr) (c : Nat) : Prop where
  eq : v = .slice (some ⟨b, 0, none⟩) n cap
  lt : b < w.heap.size
  cell : w.cell? ⟨b, i, none⟩ = some (.slice a M.length c)
  rd : Rd w (.slice a M.length c) 1 M.length (nats M)

theorem RdN.at {w : World} {v : Value} {Ms : List (List Nat)} (h : RdN w v Ms) (i : Nat) (hi : i < Ms.length) : ∃ b cap a c, HasN w v (Ms.getD i []) Ms.length i b cap a c := by
  obtain ⟨vs, ⟨hl, ad, cap, hv, _, hc⟩, h2⟩ := h
  rcases hc with h0 | ⟨b, hb, hlt, hcell⟩
  · omega
  · have hiv : i < vs.length := by omega
    have e : Ms.getD i [] = Ms[i] := by simp [List.getD, hi]
    have hr := h2 i hi hiv
    rw [← e] at hr
    obtain ⟨a, c, hs⟩ := hr.shape
    refine ⟨b, cap, a, c, by rw [hv, hb], hlt, ?_, by rw [← hs]; exact hr⟩
    rw [hcell i _ (List.getElem?_eq_getElem hiv), hs]

theorem below_step {X W wN : World} (h1 : Below X.heap.size X W) (h2 : Below W.heap.size W wN) : Below X.heap.size X wN := h1.trans (h2.mono h1.size)

def RetN (w : World) (Ms : List (List Nat)) (x : Ending) (w' : World) : Prop := (∃ v, x = .returned v ∧ RdN w' v Ms) ∧ Below w.heap.size w w'

/-- A list that does not lie in a block. -/
def RdX (bx : Nat) (w : World) (v : Value) (M : List Nat) : Prop := Rd w v 1 M.length (nats M) ∧ (M.length = 0 ∨ v.ownBlock ≠ some bx)

theorem RdX.set {bx j : Nat} {w : World} {v : Value} {M : List Nat} (h : RdX bx w v M) (u : Value) : RdX bx (w.setCell ⟨bx, j, none⟩ u) v M := by
  obtain ⟨⟨hl, a, cap, rfl, hc, h4⟩, hne⟩ := h
  refine ⟨⟨hl, a, cap, rfl, hc, ?_⟩, hne⟩
  rcases h4 with h4 | ⟨b, rfl, hb, hcell⟩
  · exact .inl h4
  · rcases hne with hne | hne
    · exact .inl hne
    · refine .inr ⟨b, rfl, by simpa using hb, fun i x hx => ?_⟩
      rw [World.cell?_setCell_other _ _ _ _ (by intro e; injection e with e; exact hne (by simp [Value.ownBlock, e]))]
      exact hcell i x hx

theorem RdX.below {bx : Nat} {w w' : World} {v : Value} {M : List Nat} (h : RdX bx w v M) (hB : Below w.heap.size w w') : RdX bx w' v M := ⟨h.1.below hB (Nat.le_refl _), h.2⟩

theorem RdX.old {w w' : World} {v : Value} {M : List Nat} (h : Rd w v 1 M.length (nats M)) (hB : Below w.heap.size w w') : RdX w.heap.size w' v M := by
  refine ⟨h.below hB (Nat.le_refl _), ?_⟩
  obtain ⟨_, a, cap, rfl, _, h4⟩ := h
  rcases h4 with h4 | ⟨b, rfl, hb, _⟩
  · exact .inl h4
  · refine .inr fun e => ?_
    simp [Value.ownBlock] at e; omega

theorem RdX.new {bx : Nat} {wc w' : World} {v : Value} {M : List Nat} (h : NewL wc w' v M) (hb : bx < wc.heap.size) : RdX bx w' v M := ⟨h.rd, .inr fun e => by have := (h.lt bx e).1; omega⟩

def lenV : Value → Nat | .slice _ n _ => n | _ => 0

end Go.Proofs.Ytapidabhdbjnmaa
