/- Texts of the proof, laid together. -/
import Derived.Test.YtgcjdojhfimceaaGreatG06
import Derived.Test.YtgcjdojhfimceaaGreatG05
import Derived.BigRegion
import Derived.StillTailTactics
import Derived.Deep.AppendLies
import Derived.Deep.RegionLaw
namespace Go.Proofs.YtgcjdojhfimceaaGreat
open Go.RowKit Go.Maps

/-- The cells of a list of entries that were copied. -/
def flatT : List (Int × Int × Value) → List Value
  | [] => []
  | x :: l => .int .i64 x.1 :: .int .i64 x.2.1 :: x.2.2 :: flatT l

/-- The law's copy under way: k entries lie in out. -/
structure OSt (w wr : World) (d : Int) (v0 vo : Value) (L : List M.Ent) (Ts : List (Int × Int × Value)) : Prop where
  below : Below w.heap.size w wr
  blk0 : wr.heap[w.heap.size]? = some (.cells #[.int .i64 d, v0] 39 (0, 0))
  blk1 : wr.heap[w.heap.size + 1]? = some (.cells #[.int .i64 0, .slice none 0 0] 39 (0, 0))
  blk2 : wr.heap[w.heap.size + 2]? = some (.cells #[.int .i64 d, vo] 39 (0, 0))
  own : wr.ownsRow (w.heap.size + 3) 71 3 vo Ts.length (flatT Ts)
  len : Ts.length ≤ L.length
  each : ∀ j (h : j < Ts.length) (h2 : j < L.length), Ts[j].1 = L[j].P ∧ Ts[j].2.1 = L[j].W ∧ Rd wr Ts[j].2.2 1 (L[j].F.take 20).length (intsZ (L[j].F.take 20)) ∧ ∀ g, Ts[j].2.2.ownBlock = some g → w.heap.size + 2 < g ∧ g < wr.heap.size ∧ vo.ownBlock ≠ some g

theorem OSt.start (w : World) (d : Int) (v0 : Value) (L : List M.Ent) : OSt w (((w.alloc (.cells #[.int .i64 d, v0] 39)).alloc (.cells #[.int .i64 0, .slice none 0 0] 39)).alloc (.cells #[.int .i64 d, .slice none 0 0] 39)) d v0 (.slice none 0 0) L [] := by
  refine ⟨(((Below.refl _ w).alloc (Nat.le_refl _) _).alloc (by simp) _).alloc (by simp; omega) _, ?_, ?_, ?_, World.ownsRow_nil _ _ _ _, Nat.zero_le _, fun j h => by simp at h⟩
  · rw [Below.heap_alloc _ _ _ (by simp; omega), Below.heap_alloc _ _ _ (by simp)]; exact heap_alloc_new _ _
  · rw [Below.heap_alloc _ _ _ (by simp)]; have h := heap_alloc_new (w.alloc (.cells #[.int .i64 d, v0] 39)) (.cells #[.int .i64 0, .slice none 0 0] 39); rwa [World.size_alloc] at h
  · have h := heap_alloc_new ((w.alloc (.cells #[.int .i64 d, v0] 39)).alloc (.cells #[.int .i64 0, .slice none 0 0] 39)) (.cells #[.int .i64 d, .slice none 0 0] 39); rwa [World.size_alloc, World.size_alloc] at h

theorem OSt.below_of {w wr wx : World} {d : Int} {v0 vo : Value} {L : List M.Ent} {Ts : List (Int × Int × Value)} (h : OSt w wr d v0 vo L Ts) (hB : Below wr.heap.size wr wx) (hown : wx.ownsRow (w.heap.size + 3) 71 3 vo Ts.length (flatT Ts)) : OSt w wx d v0 vo L Ts := by
  have h2 : w.heap.size + 2 < wr.heap.size := (Array.getElem?_eq_some_iff.1 h.blk2).1
  refine ⟨h.below.trans (hB.mono h.below.size), (hB.block _ (by omega)).trans h.blk0, (hB.block _ (by omega)).trans h.blk1, (hB.block _ h2).trans h.blk2, hown, h.len, fun j hj hj2 => ?_⟩
  obtain ⟨a1, a2, a3, a4⟩ := h.each j hj hj2
  exact ⟨a1, a2, a3.below hB (Nat.le_refl _), fun g hg => by have h1 := a4 g hg; have h2 := hB.size; exact ⟨h1.1, by omega, h1.2.2⟩⟩

theorem own_keep {w w' : World} {base size n B : Nat} {e : TypeId} {v : Value} {xs : List Value} (h : w.ownsRow base e size v n xs) (hB : Below B w w') (hle : w.heap.size ≤ B) : w'.ownsRow base e size v n xs := by
  refine ⟨h.1, ?_⟩
  rcases h.2 with h2 | ⟨g, cap, cur, hv, h4, h5, h6, h7⟩
  · exact .inl h2
  · refine .inr ⟨g, cap, cur, hv, h4, ?_, h6, h7⟩
    rw [hB.block g (by have := (Array.getElem?_eq_some_iff.1 h5).1; omega)]; exact h5

theorem frozen_blk {w : World} {b o : Nat} {cs : Array Value} {t : TypeId} (h : w.heap[b]? = some (.cells cs t (0, 0))) : w.frozen? ⟨b, o, none⟩ = false := by
  simp [World.frozen?, h]

theorem cell_blk {w : World} {b o : Nat} {cs : Array Value} {t : TypeId} {fr : Nat × Nat} {u : Value} (h : w.heap[b]? = some (.cells cs t fr)) (hu : cs.toList[o]? = some u) : w.cell? ⟨b, o, none⟩ = some u := by
  have := World.news_of_block h o u hu
  have hadd : (⟨b, 0, none⟩ : Addr).add o = ⟨b, o, none⟩ := by unfold Addr.add; split <;> simp_all
  rwa [hadd] at this

theorem Rd.keep {w w' : World} {v : Value} {size n : Nat} {xs : List Value} (h : Rd w v size n xs) (hle : w.heap.size ≤ w'.heap.size) (hb : ∀ g, v.ownBlock = some g → g < w.heap.size → w'.heap[g]? = w.heap[g]?) : Rd w' v size n xs := by
  obtain ⟨h1, a, cap, rfl, h2, h3⟩ := h
  refine ⟨h1, a, cap, rfl, h2, ?_⟩
  rcases h3 with h3 | ⟨b, rfl, h4, h5⟩
  · exact .inl h3
  · refine .inr ⟨b, rfl, by omega, fun j u hu => ?_⟩
    rw [World.cell?_of_block (w := w) (a := ⟨b, j, none⟩) (hb b rfl h4)]
    exact h5 j u hu

theorem flatT_push (Ts : List (Int × Int × Value)) (x : Int × Int × Value) : flatT (Ts ++ [x]) = flatT Ts ++ [.int .i64 x.1, .int .i64 x.2.1, x.2.2] := by
  induction Ts with
  | nil => rfl
  | cons y l ih => simp [flatT, ih]

theorem OSt.push {w wr w7 : World} {d : Int} {v0 vo v' fx : Value} {L : List M.Ent} {Ts : List (Int × Int × Value)} {P W : Int} {ob : Obj} {n : Nat} (h : OSt w wr d v0 vo L Ts) (hk : Ts.length < L.length)
    (hg : (wr.alloc ob).grownBy w7 vo.ownBlock) (hown : w7.ownsRow (w.heap.size + 3) 71 3 v' (Ts.length + 1) (flatT Ts ++ [.int .i64 P, .int .i64 W, fx])) (hv' : v'.ownBlock = vo.ownBlock ∨ v'.ownBlock = some (wr.alloc ob).heap.size)
    (hP : P = L[Ts.length].P) (hW : W = L[Ts.length].W) (hn : n = (L[Ts.length].F.take 20).length) (hR : Rd wr fx 1 n (intsZ (L[Ts.length].F.take 20))) (hfx : ∀ g, fx.ownBlock = some g → w.heap.size + 2 < g ∧ g < wr.heap.size ∧ vo.ownBlock ≠ some g) :
    OSt w (w7.setCell ⟨w.heap.size + 2, 1, none⟩ v') d v0 v' L (Ts ++ [(P, W, fx)]) := by
  subst hn
  have h2 : w.heap.size + 2 < wr.heap.size := (Array.getElem?_eq_some_iff.1 h.blk2).1
  have hrow : ∀ k, vo.ownBlock = some k → w.heap.size + 3 ≤ k ∧ k < wr.heap.size := h.own.lt
  have hsz : wr.heap.size + 1 ≤ w7.heap.size := by have := hg.size; simpa using this
  have hszs : (w7.setCell ⟨w.heap.size + 2, 1, none⟩ v').heap.size = w7.heap.size := by simp [World.setCell]
  have keep : ∀ g, g < wr.heap.size → vo.ownBlock ≠ some g → w7.heap[g]? = wr.heap[g]? := by
    intro g hg1 hg2
    rw [hg.block g (by simp; omega) (fun e => hg2 e.symm)]
    exact Below.heap_alloc _ _ _ hg1
  have keep2 : ∀ g, g < wr.heap.size → vo.ownBlock ≠ some g → g ≠ w.heap.size + 2 → (w7.setCell ⟨w.heap.size + 2, 1, none⟩ v').heap[g]? = wr.heap[g]? := by
    intro g hg1 hg2 hg3
    rw [heap_setCell_other _ _ _ _ (by exact hg3)]
    exact keep g hg1 hg2
  have hne : ∀ g, g < w.heap.size + 3 → vo.ownBlock ≠ some g := fun g hg1 e => by have := (hrow g e).1; omega
  have hB : Below w.heap.size wr w7 := ((Below.refl _ wr).alloc (by omega) ob).grown hg (by simp; omega) (fun k hk => by have := (hrow k hk).1; omega)
  refine ⟨(h.below.trans hB).setCell (by show w.heap.size ≤ w.heap.size + 2; omega) _, ?_, ?_, ?_, ?_, ?_, ?_⟩
  · rw [keep2 _ (by omega) (hne _ (by omega)) (by omega)]; exact h.blk0
  · rw [keep2 _ (by omega) (hne _ (by omega)) (by omega)]; exact h.blk1
  · have hb := (keep (w.heap.size + 2) h2 (hne _ (by omega))).trans h.blk2
    rw [heap_setCell_same w7 _ _ _ _ _ hb]; rfl
  · rw [List.length_append, flatT_push]
    refine ⟨hown.1, ?_⟩
    rcases hown.2 with h3 | ⟨g, cap, cur, hv, h4, h5, h6, h7⟩
    · exact .inl h3
    · refine .inr ⟨g, cap, cur, hv, h4, ?_, h6, h7⟩
      rw [heap_setCell_other _ _ _ _ (by show g ≠ w.heap.size + 2; omega)]; exact h5
  · simp; omega
  · intro j hj hj2
    by_cases hjl : j < Ts.length
    · obtain ⟨a1, a2, a3, a4⟩ := h.each j hjl hj2
      rw [List.getElem_append_left hjl]
      refine ⟨a1, a2, a3.keep (by rw [hszs]; omega) (fun g hg1 hg2 => ?_), fun g hg1 => ?_⟩
      · have := a4 g hg1
        exact keep2 g hg2 this.2.2 (by omega)
      · have h5 := a4 g hg1
        refine ⟨h5.1, by rw [hszs]; omega, fun e => ?_⟩
        rcases hv' with hv' | hv'
        · exact h5.2.2 (hv'.symm.trans e)
        · rw [hv'] at e
          injection e with e
          have := World.size_alloc wr ob
          omega
    · have hjj : j = Ts.length := by simp at hj; omega
      subst hjj
      rw [List.getElem_append_right (Nat.le_refl _)]
      simp only [Nat.sub_self, List.getElem_singleton]
      refine ⟨hP, hW, hR.keep (by rw [hszs]; omega) (fun g hg1 hg2 => ?_), fun g hg1 => ?_⟩
      · have := hfx g hg1
        exact keep2 g hg2 this.2.2 (by omega)
      · have h5 := hfx g hg1
        refine ⟨h5.1, by rw [hszs]; omega, fun e => ?_⟩
        rcases hv' with hv' | hv'
        · exact h5.2.2 (hv'.symm.trans e)
        · rw [hv'] at e
          injection e with e
          have := World.size_alloc wr ob
          omega

theorem keep_cell {w6 w7 : World} {ob : Obj} {row : Option Nat} {p : Addr} (hg : (w6.alloc ob).grownBy w7 row) (hlt : p.block < w6.heap.size) (hne : row ≠ some p.block) : w7.cell? p = w6.cell? p ∧ w7.frozen? p = w6.frozen? p := by
  have h : w7.heap[p.block]? = w6.heap[p.block]? := by
    rw [hg.block p.block (by rw [World.size_alloc]; omega) (fun e => hne e.symm)]
    exact Below.heap_alloc _ _ _ hlt
  exact ⟨World.cell?_of_block h, World.frozen?_of_block h⟩

theorem OSt.done {w wr : World} {d : Int} {v0 vo u1 u2 : Value} {L : List M.Ent} {Ts : List (Int × Int × Value)} (h : OSt w wr d v0 vo L Ts) (hT : Ts.length = (L.take 60).length) :
    RdE ((wr.setCell ⟨w.heap.size + 1, 0, none⟩ u1).setCell ⟨w.heap.size + 1, 1, none⟩ u2) vo ((L.take 60).map fun E => ⟨E.P, E.W, E.F.take 20⟩) ∧ Below w.heap.size w ((wr.setCell ⟨w.heap.size + 1, 0, none⟩ u1).setCell ⟨w.heap.size + 1, 1, none⟩ u2) ∧ ((wr.setCell ⟨w.heap.size + 1, 0, none⟩ u1).setCell ⟨w.heap.size + 1, 1, none⟩ u2).heap[w.heap.size + 1]? = some (.cells #[u1, u2] 39 (0, 0)) := by
  have hlast : ((wr.setCell ⟨w.heap.size + 1, 0, none⟩ u1).setCell ⟨w.heap.size + 1, 1, none⟩ u2).heap[w.heap.size + 1]? = some (.cells #[u1, u2] 39 (0, 0)) := by
    have h3 := heap_setCell_same wr _ 0 _ _ u1 h.blk1
    have h4 := heap_setCell_same _ _ 1 _ _ u2 h3
    rw [h4]; rfl
  have h2 : w.heap.size + 2 < wr.heap.size := (Array.getElem?_eq_some_iff.1 h.blk2).1
  generalize hwf : (wr.setCell ⟨w.heap.size + 1, 0, none⟩ u1).setCell ⟨w.heap.size + 1, 1, none⟩ u2 = wf
  have hB : Below w.heap.size wr wf := by
    rw [← hwf]
    exact ((Below.refl _ wr).setCell (by show w.heap.size ≤ w.heap.size + 1; omega) _).setCell (by show w.heap.size ≤ w.heap.size + 1; omega) _
  have hsz : wf.heap.size = wr.heap.size := by rw [← hwf]; simp [World.setCell]
  have hkeep : ∀ g, g ≠ w.heap.size + 1 → wf.heap[g]? = wr.heap[g]? := by
    intro g hg
    rw [← hwf, heap_setCell_other _ _ _ _ (by exact hg), heap_setCell_other _ _ _ _ (by exact hg)]
  refine ⟨?_, h.below.trans hB, hwf ▸ hlast⟩
  have hml : ((L.take 60).map fun E : M.Ent => (⟨E.P, E.W, E.F.take 20⟩ : M.Ent)).length = Ts.length := by rw [List.length_map, hT]
  have hfl : ∀ (Ts : List (Int × Int × Value)) (k : Nat) (hk : k < Ts.length), (flatT Ts)[k * 3]? = some (.int .i64 Ts[k].1) ∧ (flatT Ts)[k * 3 + 1]? = some (.int .i64 Ts[k].2.1) ∧ (flatT Ts)[k * 3 + 2]? = some Ts[k].2.2 := by
    intro Ts
    induction Ts with
    | nil => intro k hk; simp at hk
    | cons x l ih =>
      intro k hk
      cases k with
      | zero => simp [flatT]
      | succ k =>
        have := ih k (by simpa using hk)
        have e1 : (k + 1) * 3 = k * 3 + 3 := by omega
        rw [e1]
        simpa [flatT] using this
  unfold RdE
  rcases h.own.2 with ⟨h3, h4⟩ | ⟨g, cap, cur, hv, h4, h5, h6, h7, h8, h9⟩
  · exact ⟨none, 0, by rw [hml, h4]; exact h3, by omega, .inl (by omega)⟩
  · refine ⟨some ⟨g, 0, none⟩, cap, by rw [hml]; exact hv, by omega, .inr ⟨g, rfl, ?_, fun k hk => ?_⟩⟩
    · rw [hsz]; exact (h.own.lt g (by rw [hv]; rfl)).2
    · have hkT : k < Ts.length := by omega
      have hkL : k < (L.take 60).length := by omega
      have hkL2 : k < L.length := by have := List.length_take_le 60 L; have := h.len; omega
      obtain ⟨f0, f1, f2⟩ := hfl Ts k hkT
      obtain ⟨a1, a2, a3, a4⟩ := h.each k hkT hkL2
      have hb : wf.heap[g]? = some (.cells cur 71 (0, 0)) := (hkeep g (by omega)).trans h5
      have hc : ∀ j u, (flatT Ts)[j]? = some u → wf.cell? ⟨g, j, none⟩ = some u := by
        intro j u hu
        refine cell_blk hb ?_
        rw [← h9, List.getElem?_take] at hu
        split at hu
        · exact hu
        · cases hu
      refine ⟨Ts[k].2.2, ?_, ?_, hc _ _ f2, ?_⟩
      · rw [hc _ _ f0, a1]; simp
      · rw [hc _ _ f1, a2]; simp
      · have h10 := a3.keep (w' := wf) (by omega) (fun g' hg' hg2 => hkeep g' (by have := a4 g' hg'; omega))
        simpa using h10

/-- v reads as the ints Z, in a block of which it need not be the beginning. -/
def RdO (w : World) (v : Value) (F : List Int) : Prop :=
  ∃ (a : Option Addr) (cap : Nat), v = .slice a F.length cap ∧ F.length ≤ cap ∧ cap ≤ 9223372036854775807 ∧ (F.length = 0 ∨ ∃ b o, a = some ⟨b, o, none⟩ ∧ b < w.heap.size ∧ ∀ j u, (intsZ F)[j]? = some u → w.cell? ⟨b, o + j, none⟩ = some u)

/-- A list of entries that came in. -/
def ArgE (w : World) (v : Value) (L : List M.Ent) : Prop :=
  ∃ (a : Option Addr) (cap : Nat), v = .slice a L.length cap ∧ L.length ≤ cap ∧ cap ≤ 9223372036854775807 ∧ (L.length = 0 ∨ ∃ b o, a = some ⟨b, o, none⟩ ∧ b < w.heap.size ∧ ∀ k (h : k < L.length), ∃ fv,
    w.cell? ⟨b, o + k * 3, none⟩ = some (.int .i64 L[k].P) ∧ w.cell? ⟨b, o + k * 3 + 1, none⟩ = some (.int .i64 L[k].W) ∧ w.cell? ⟨b, o + k * 3 + 2, none⟩ = some fv ∧ RdO w fv L[k].F)

theorem RdO.below {w w' : World} {v : Value} {F : List Int} (h : RdO w v F) (hB : Below w.heap.size w w') : RdO w' v F := by
  obtain ⟨a, cap, h1, h2, h3, h4⟩ := h
  refine ⟨a, cap, h1, h2, h3, ?_⟩
  rcases h4 with h4 | ⟨b, o, h5, h6, h7⟩
  · exact .inl h4
  · exact .inr ⟨b, o, h5, Nat.lt_of_lt_of_le h6 hB.size, fun j u hu => by rw [hB.cell (p := ⟨b, o + j, none⟩) h6]; exact h7 j u hu⟩

theorem Tryz.infoV : (Tryz.prog.info? 39).map (·.size) = some 2 := by kernel_rfl

theorem Tryz.infoE : (Tryz.prog.info? 71).map (fun i => (i.zero, i.size, i.bytes)) = some (some (.agg #[.int .i64 0, .int .i64 0, .slice none 0 0]), 3, 40) := by kernel_rfl

end Go.Proofs.YtgcjdojhfimceaaGreat
namespace Go.Proofs.YtgcjdojhfimceaaGreat
open Go.RowKit Go.Maps

theorem own_at {w w' : World} {base size n : Nat} {e : TypeId} {v : Value} {xs : List Value} (h : w.ownsRow base e size v n xs) (hk : ∀ g, v.ownBlock = some g → g < w.heap.size → w'.heap[g]? = w.heap[g]?) : w'.ownsRow base e size v n xs := by
  refine ⟨h.1, ?_⟩
  rcases h.2 with h2 | ⟨g, cap, cur, hv, h4, h5, h6, h7⟩
  · exact .inl h2
  · refine .inr ⟨g, cap, cur, hv, h4, ?_, h6, h7⟩
    rw [hk g (by rw [hv]; rfl) (Array.getElem?_eq_some_iff.1 h5).1]; exact h5

theorem map_at {P : Program} {k : TypeId} {R : Value → Option (DataW Unit × List MemPlace)} {w w' : World} {b n : Nat} {D : DataW Unit} (h : w.ownsMap P k R b n D) (hb : w'.heap[b]? = w.heap[b]?) : w'.ownsMap P k R b n D := by
  obtain ⟨es, clock, h1, h2, h3, h4⟩ := h
  exact ⟨es, clock, hb.trans h1, h2, h3, h4⟩

structure PSt (w0 wr : World) (m : Nat) (D : DataW Unit) (S : List Int) (vT vP : Value) (T : List Nat) (Ts : List (Int × Int × Value)) (Es : List M.Ent) : Prop where
  below : Below w0.heap.size w0 wr
  lt : w0.heap.size < wr.heap.size
  map : wr.ownsMap Tryz.prog 3 (plainElem Tryz.prog 4) w0.heap.size m D
  set : SetI D S
  todo : wr.ownsRow (w0.heap.size + 1) 3 1 vT T.length (ints T)
  proof : wr.ownsRow (w0.heap.size + 1) 71 3 vP Ts.length (flatT Ts)
  dis : ∀ g, vT.ownBlock = some g → vP.ownBlock ≠ some g
  len : Ts.length = Es.length
  each : ∀ j (h : j < Ts.length) (h2 : j < Es.length), Ts[j].1 = Es[j].P ∧ Ts[j].2.1 = Es[j].W ∧ wr.ownsRow (w0.heap.size + 1) 3 1 Ts[j].2.2 Es[j].F.length (intsZ Es[j].F) ∧ ∀ g, Ts[j].2.2.ownBlock = some g → w0.heap.size + 1 ≤ g ∧ g < wr.heap.size ∧ vT.ownBlock ≠ some g ∧ vP.ownBlock ≠ some g

variable {w0 wr w7 : World} {m m' : Nat} {D D' : DataW Unit} {S S' : List Int} {vT vP v' fx : Value} {T : List Nat} {Ts : List (Int × Int × Value)} {Es : List M.Ent} {X : Option Nat}

theorem PSt.each_at (h : PSt w0 wr m D S vT vP T Ts Es) (_hs : wr.heap.size ≤ w7.heap.size) (hk : ∀ g, g < wr.heap.size → w0.heap.size < g → vT.ownBlock ≠ some g → vP.ownBlock ≠ some g → w7.heap[g]? = wr.heap[g]?) :
    ∀ j (h : j < Ts.length) (h2 : j < Es.length), Ts[j].1 = Es[j].P ∧ Ts[j].2.1 = Es[j].W ∧ w7.ownsRow (w0.heap.size + 1) 3 1 Ts[j].2.2 Es[j].F.length (intsZ Es[j].F) ∧ ∀ g, Ts[j].2.2.ownBlock = some g → w0.heap.size + 1 ≤ g ∧ g < wr.heap.size ∧ vT.ownBlock ≠ some g ∧ vP.ownBlock ≠ some g := by
  intro j hj hj2
  obtain ⟨a1, a2, a3, a4⟩ := h.each j hj hj2
  exact ⟨a1, a2, own_at a3 (fun g hg hlt => by have := a4 g hg; exact hk g hlt this.1 this.2.2.1 this.2.2.2), a4⟩

theorem PSt.below_of (h : PSt w0 wr m D S vT vP T Ts Es) (hB : Below wr.heap.size wr w7) : PSt w0 w7 m D S vT vP T Ts Es := by
  have hs := hB.size
  have hk : ∀ g, g < wr.heap.size → w7.heap[g]? = wr.heap[g]? := fun g hg => hB.block g hg
  refine ⟨h.below.trans (hB.mono (by have := h.lt; omega)), by have := h.lt; omega, map_at h.map (hk _ h.lt), h.set, own_at h.todo (fun g _ hg => hk g hg), own_at h.proof (fun g _ hg => hk g hg), h.dis, h.len, fun j hj hj2 => ?_⟩
  obtain ⟨a1, a2, a3, a4⟩ := h.each_at hs (fun g hg _ _ _ => hk g hg) j hj hj2
  exact ⟨a1, a2, a3, fun g hg => by have := a4 g hg; exact ⟨this.1, by omega, this.2.2⟩⟩

theorem PSt.putMap (h : PSt w0 wr m D S vT vP T Ts Es) (hm : w7.ownsMap Tryz.prog 3 (plainElem Tryz.prog 4) w0.heap.size m' D') (hg : wr.grownBy w7 (some w0.heap.size)) (hS : SetI D' S') : PSt w0 w7 m' D' S' vT vP T Ts Es := by
  have hs := hg.size
  have hk : ∀ g, g < wr.heap.size → w0.heap.size < g → w7.heap[g]? = wr.heap[g]? := fun g hlt hne => hg.block g hlt (fun e => by injection e with e; omega)
  refine ⟨h.below.grown hg h.below.size (fun k e => by injection e with e; omega), by have := h.lt; omega, hm, hS, own_at h.todo (fun g hg1 hg2 => hk g hg2 (h.todo.lt g hg1).1), own_at h.proof (fun g hg1 hg2 => hk g hg2 (h.proof.lt g hg1).1), h.dis, h.len, fun j hj hj2 => ?_⟩
  obtain ⟨a1, a2, a3, a4⟩ := h.each_at hs (fun g hg1 hg2 _ _ => hk g hg1 hg2) j hj hj2
  exact ⟨a1, a2, a3, fun g hg => by have := a4 g hg; exact ⟨this.1, by omega, this.2.2⟩⟩

theorem PSt.pushT {q : Nat} {ob : Obj} (h : PSt w0 wr m D S vT vP T Ts Es) (hg : (wr.alloc ob).grownBy w7 vT.ownBlock) (hown : w7.ownsRow (w0.heap.size + 1) 3 1 v' (T.length + 1) (ints T ++ [.int .i64 (q : Int)]))
    (hv' : v'.ownBlock = vT.ownBlock ∨ v'.ownBlock = some (wr.alloc ob).heap.size) : PSt w0 w7 m D S v' vP (T ++ [q]) Ts Es := by
  have hs0 := hg.size
  have hsa : (wr.alloc ob).heap.size = wr.heap.size + 1 := World.size_alloc _ _
  have hs : wr.heap.size ≤ w7.heap.size := by omega
  have hk : ∀ g, g < wr.heap.size → vT.ownBlock ≠ some g → w7.heap[g]? = wr.heap[g]? := fun g hlt hne => by
    rw [hg.block g (by omega) (fun e => hne e.symm)]; exact Below.heap_alloc _ _ _ hlt
  have hrow := h.todo.lt
  have hrowP := h.proof.lt
  have hB : Below w0.heap.size wr w7 := ((Below.refl _ wr).alloc (by have := h.lt; omega) ob).grown hg (by have := h.lt; omega) (fun k hk => by have := (hrow k hk).1; omega)
  have hdis2 : ∀ g, g < wr.heap.size → vT.ownBlock ≠ some g → v'.ownBlock ≠ some g := fun g hlt h1 e => by
    rcases hv' with hv' | hv'
    · exact h1 (hv'.symm.trans e)
    · rw [hv'] at e; injection e with e; omega
  refine ⟨h.below.trans hB, by have := h.lt; omega, map_at h.map (hk _ h.lt (fun e => by have := (hrow _ e).1; omega)), h.set, ?_, own_at h.proof (fun g hg1 hg2 => hk g hg2 (fun e => h.dis g e hg1)), ?_, h.len, fun j hj hj2 => ?_⟩
  · rw [List.length_append]; simpa [ints] using hown
  · intro g h1 h2
    have := (hrowP g h2).2
    exact hdis2 g this (fun e => h.dis g e h2) h1
  · obtain ⟨a1, a2, a3, a4⟩ := h.each_at hs (fun g hg1 _ hg3 _ => hk g hg1 hg3) j hj hj2
    exact ⟨a1, a2, a3, fun g hg => by have := a4 g hg; exact ⟨this.1, by omega, hdis2 g this.2.1 this.2.2.1, this.2.2.2⟩⟩

theorem PSt.pushP {E : M.Ent} {ob : Obj} {n : Nat} (h : PSt w0 wr m D S vT vP T Ts Es) (hg : (wr.alloc ob).grownBy w7 vP.ownBlock) (hown : w7.ownsRow (w0.heap.size + 1) 71 3 v' (Ts.length + 1) (flatT Ts ++ [.int .i64 E.P, .int .i64 E.W, fx]))
    (hv' : v'.ownBlock = vP.ownBlock ∨ v'.ownBlock = some (wr.alloc ob).heap.size) (hn : n = E.F.length) (hR : wr.ownsRow (w0.heap.size + 1) 3 1 fx n (intsZ E.F)) (hfx : ∀ g, fx.ownBlock = some g → w0.heap.size + 1 ≤ g ∧ g < wr.heap.size ∧ vT.ownBlock ≠ some g ∧ vP.ownBlock ≠ some g) :
    PSt w0 w7 m D S vT v' T (Ts ++ [(E.P, E.W, fx)]) (Es ++ [E]) := by
  subst hn
  have hs0 := hg.size
  have hsa : (wr.alloc ob).heap.size = wr.heap.size + 1 := World.size_alloc _ _
  have hs : wr.heap.size ≤ w7.heap.size := by omega
  have hk : ∀ g, g < wr.heap.size → vP.ownBlock ≠ some g → w7.heap[g]? = wr.heap[g]? := fun g hlt hne => by
    rw [hg.block g (by omega) (fun e => hne e.symm)]; exact Below.heap_alloc _ _ _ hlt
  have hrow := h.proof.lt
  have hrowT := h.todo.lt
  have hB : Below w0.heap.size wr w7 := ((Below.refl _ wr).alloc (by have := h.lt; omega) ob).grown hg (by have := h.lt; omega) (fun k hk => by have := (hrow k hk).1; omega)
  have hdis2 : ∀ g, g < wr.heap.size → vP.ownBlock ≠ some g → v'.ownBlock ≠ some g := fun g hlt h1 e => by
    rcases hv' with hv' | hv'
    · exact h1 (hv'.symm.trans e)
    · rw [hv'] at e; injection e with e; omega
  refine ⟨h.below.trans hB, by have := h.lt; omega, map_at h.map (hk _ h.lt (fun e => by have := (hrow _ e).1; omega)), h.set, own_at h.todo (fun g hg1 hg2 => hk g hg2 (fun e => h.dis g hg1 e)), ?_, ?_, by simp [h.len], fun j hj hj2 => ?_⟩
  · rw [List.length_append, flatT_push]; exact hown
  · intro g h1
    exact hdis2 g (hrowT g h1).2 (h.dis g h1)
  · by_cases hjl : j < Ts.length
    · have hjl2 : j < Es.length := by have := h.len; omega
      obtain ⟨a1, a2, a3, a4⟩ := h.each_at hs (fun g hg1 _ _ hg4 => hk g hg1 hg4) j hjl hjl2
      rw [List.getElem_append_left hjl, List.getElem_append_left hjl2]
      exact ⟨a1, a2, a3, fun g hg => by have := a4 g hg; exact ⟨this.1, by omega, this.2.2.1, hdis2 g this.2.1 this.2.2.2⟩⟩
    · have hjj : j = Ts.length := by simp at hj; omega
      have hje : j = Es.length := by have := h.len; omega
      have e1 : (Ts ++ [(E.P, E.W, fx)])[j] = (E.P, E.W, fx) := by subst hjj; simp
      have e2 : (Es ++ [E])[j] = E := by
        rw [List.getElem_append_right (by omega)]; simp [hje]
      rw [e1, e2]
      refine ⟨rfl, rfl, own_at hR (fun g hg1 hg2 => hk g hg2 (hfx g hg1).2.2.2), fun g hg1 => ?_⟩
      have := hfx g hg1
      exact ⟨this.1, by omega, this.2.2.1, hdis2 g this.2.1 this.2.2.2⟩

end Go.Proofs.YtgcjdojhfimceaaGreat

namespace Go.Proofs.YtgcjdojhfimceaaGreat
open Go.RowKit Go.Maps

theorem Tryz.infoPr : (Tryz.prog.info? 71).map (·.size) = some 3 := by kernel_rfl

theorem ints_cast (L : List (Nat × Nat)) : ints (L.map (·.1)) = intsZ (L.map fun x => (x.1 : Int)) := by simp [ints, intsZ]

set_option maxRecDepth 100000 in
set_option maxHeartbeats 1000000 in
theorem proveBy_is (t G : Nat) (L : List (Nat × Nat)) (w : World) (ht : Hid (M.Pr t)) (ht2 : t ≤ 2147483647) (hL : Hid (M.IsFac (t - 1) L)) (hG1 : 1 ≤ G) (hG2 : G < t) (hG : Hid (genB G t (L.map (·.1)) = true ∧ ∀ g, 1 ≤ g → g < G → genB g t (L.map (·.1)) = false)) :
    Calls Tryz.prog 44 #[.int .i64 t] w fun x w' => (∃ a c, x = .returned (.agg #[.int .i64 t, .int .i64 G, .slice a L.length c]) ∧ w'.ownsRow (w.heap.size + 1) 3 1 (.slice a L.length c) L.length (ints (L.map (·.1))) ∧ ∀ g, (Value.slice a L.length c).ownBlock = some g → w.heap.size < g ∧ g < w'.heap.size) ∧ Below w.heap.size w w' := by
  have h2 := ht.out.1
  have hlen : L.length ≤ 30 := hL.out.1.length_le (by rw [hL.out.2]; omega)
  have hL' : Hid (M.IsFac ((t : Int) - 1).toNat L) := by have := hL.out; rw [show ((t : Int) - 1).toNat = t - 1 by omega]; exact this
  have hQ : Hid (∀ q ∈ L.map (·.1), 1 ≤ q ∧ q ≤ 2147483647) := fac_small hL.out (by omega)
  go_enter Tryz.func44, Tryz.ntmps44
  go_wp2_with (fail)
  refine (primesOf_any _ L _ (by omega) (by omega) hL').mono ?_
  rintro e w2 ⟨⟨v, rfl, hown⟩, hB2⟩
  obtain ⟨a, c, rfl⟩ : ∃ a c, v = .slice a L.length c := by obtain ⟨_, a, c, h, _⟩ := Rd.of_own hown; exact ⟨a, c, h⟩
  have hr : Hid (Rd w2 (.slice a L.length c) 1 (L.map (·.1)).length (ints (L.map (·.1)))) := by have := Rd.of_own hown; rw [heads_ints] at this; rw [List.length_map]; exact this
  have HOW := Lib.hid hown
  have HB2 := Lib.hid hB2
  have hbk : w2.heap[w.heap.size]? = some (.cells #[.int .i64 0, .int .i64 0, .slice none 0 0] 71 (0, 0)) := (hB2.block _ (by simp)).trans (heap_alloc_new _ _)
  have z0 : w2.frozen? ⟨w.heap.size, 0, none⟩ = false := frozen_blk hbk
  have z1 : w2.frozen? ⟨w.heap.size, 1, none⟩ = false := frozen_blk hbk
  have z2 : w2.frozen? ⟨w.heap.size, 2, none⟩ = false := frozen_blk hbk
  have g0 := cell_blk (o := 0) hbk rfl
  have g1 := cell_blk (o := 1) hbk rfl
  have g2 := cell_blk (o := 2) hbk rfl
  have hwp : ((t : Int) - 1).toNat = t - 1 := by omega
  obtain ⟨ln, hln⟩ : ∃ ln, ln = L.length := ⟨_, rfl⟩
  have HBK := Lib.hid hbk
  have HLN := Lib.hid hln
  rw [← hln] at hr HOW ⊢
  clear hown hB2 hbk hln
  go_wp2_with (go_at_call 61; refine (leastGenerator_is t G _ _ _ hr (by omega) (by rw [List.length_map]; omega) hQ (by omega) (by omega) hG).mono ?_; rintro e w' ⟨rfl, rfl⟩)
  have hlast : (((w2.setCell ⟨w.heap.size, 0, none⟩ (.int .i64 t)).setCell ⟨w.heap.size, 1, none⟩ (.int .i64 G)).setCell ⟨w.heap.size, 2, none⟩ (.slice a ln c)).heap[w.heap.size]? = some (.cells #[.int .i64 t, .int .i64 G, .slice a ln c] 71 (0, 0)) := by
    have h3 := heap_setCell_same w2 _ 0 _ _ (.int .i64 t) HBK.out
    have h4 := heap_setCell_same _ _ 1 _ _ (.int .i64 G) h3
    have h5 := heap_setCell_same _ _ 2 _ _ (.slice a ln c) h4
    rw [h5]; rfl
  refine bodyPost_ret (results_cell_row Tryz.results44 _ _ w.heap.size _ _ _ _ rfl hlast Tryz.underlying71 rfl Tryz.infoPr) rfl ?_
  have hsz1 : (w.alloc (.cells #[.int .i64 0, .int .i64 0, .slice none 0 0] 71)).heap.size = w.heap.size + 1 := World.size_alloc _ _
  have hB := HB2.out
  have hrd := HOW.out
  rw [hsz1, heads_ints] at hrd
  have hsz9 : (((w2.setCell ⟨w.heap.size, 0, none⟩ (.int .i64 t)).setCell ⟨w.heap.size, 1, none⟩ (.int .i64 G)).setCell ⟨w.heap.size, 2, none⟩ (.slice a ln c)).heap.size = w2.heap.size := by simp [World.setCell]
  have hLL := HLN.out
  subst hLL
  refine ⟨⟨a, c, rfl, own_at hrd (fun g hg hlt => ?_), fun g hg => ?_⟩, ?_⟩
  · have := (HOW.out.lt g hg).1
    have hne : g ≠ w.heap.size := by omega
    rw [heap_setCell_other _ _ _ _ (by exact hne), heap_setCell_other _ _ _ _ (by exact hne), heap_setCell_other _ _ _ _ (by exact hne)]
  · have := HOW.out.lt g hg
    exact ⟨by omega, by rw [hsz9]; omega⟩
  · have h0 : Below w.heap.size w w2 := ((Below.refl _ w).alloc (Nat.le_refl _) _).trans (hB.mono (by omega))
    exact ((h0.setCell (Nat.le_refl _) _).setCell (Nat.le_refl _) _).setCell (Nat.le_refl _) _
end Go.Proofs.YtgcjdojhfimceaaGreat
