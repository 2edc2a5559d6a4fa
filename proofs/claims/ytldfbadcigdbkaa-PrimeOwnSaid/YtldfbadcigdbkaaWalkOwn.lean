/- The walk over the law's copy of a verdict (under way: the round's drawn regions). -/
import Derived.Test.YtldfbadcigdbkaaWalkRefRight
import Derived.BigRegion
import Derived.StillTailTactics
import Derived.Deep.AppendLies
import Derived.Deep.RegionLaw
namespace Go.Proofs.Ytldfbadcigdbkaa
open Go.RowKit Go.Maps

/-- The cells of a list of entries that were copied. -/
def flatT : List (Int × Int × Value) → List Value
  | [] => []
  | x :: l => .int .i64 x.1 :: .int .i64 x.2.1 :: x.2.2 :: flatT l

/-- The law's copy under way: k entries lie in out. -/
structure OSt (w wr : World) (d : Int) (v0 vo : Value) (L : List M.Ent) (Ts : List (Int × Int × Value)) : Prop where
  below : Below w.heap.size w wr
  blk0 : wr.heap[w.heap.size]? = some (.cells #[.int .i64 d, v0] 24 (0, 0))
  blk1 : wr.heap[w.heap.size + 1]? = some (.cells #[.int .i64 0, .slice none 0 0] 24 (0, 0))
  blk2 : wr.heap[w.heap.size + 2]? = some (.cells #[.int .i64 d, vo] 24 (0, 0))
  own : wr.ownsRow (w.heap.size + 3) 39 3 vo Ts.length (flatT Ts)
  len : Ts.length ≤ L.length
  each : ∀ j (h : j < Ts.length) (h2 : j < L.length), Ts[j].1 = L[j].P ∧ Ts[j].2.1 = L[j].W ∧ Rd wr Ts[j].2.2 1 (L[j].F.take 20).length (intsZ (L[j].F.take 20)) ∧ ∀ g, Ts[j].2.2.ownBlock = some g → w.heap.size + 2 < g ∧ g < wr.heap.size ∧ vo.ownBlock ≠ some g

theorem OSt.start (w : World) (d : Int) (v0 : Value) (L : List M.Ent) : OSt w (((w.alloc (.cells #[.int .i64 d, v0] 24)).alloc (.cells #[.int .i64 0, .slice none 0 0] 24)).alloc (.cells #[.int .i64 d, .slice none 0 0] 24)) d v0 (.slice none 0 0) L [] := by
  refine ⟨(((Below.refl _ w).alloc (Nat.le_refl _) _).alloc (by simp) _).alloc (by simp; omega) _, ?_, ?_, ?_, World.ownsRow_nil _ _ _ _, Nat.zero_le _, fun j h => by simp at h⟩
  · rw [Below.heap_alloc _ _ _ (by simp; omega), Below.heap_alloc _ _ _ (by simp)]; exact heap_alloc_new _ _
  · rw [Below.heap_alloc _ _ _ (by simp)]; have h := heap_alloc_new (w.alloc (.cells #[.int .i64 d, v0] 24)) (.cells #[.int .i64 0, .slice none 0 0] 24); rwa [World.size_alloc] at h
  · have h := heap_alloc_new ((w.alloc (.cells #[.int .i64 d, v0] 24)).alloc (.cells #[.int .i64 0, .slice none 0 0] 24)) (.cells #[.int .i64 d, .slice none 0 0] 24); rwa [World.size_alloc, World.size_alloc] at h

theorem OSt.below_of {w wr wx : World} {d : Int} {v0 vo : Value} {L : List M.Ent} {Ts : List (Int × Int × Value)} (h : OSt w wr d v0 vo L Ts) (hB : Below wr.heap.size wr wx) (hown : wx.ownsRow (w.heap.size + 3) 39 3 vo Ts.length (flatT Ts)) : OSt w wx d v0 vo L Ts := by
  have h2 : w.heap.size + 2 < wr.heap.size := (Array.getElem?_eq_some_iff.1 h.blk2).1
  refine ⟨h.below.trans (hB.mono h.below.size), (hB.block _ (by omega)).trans h.blk0, (hB.block _ (by omega)).trans h.blk1, (hB.block _ h2).trans h.blk2, hown, h.len, fun j hj hj2 => ?_⟩
  obtain ⟨a1, a2, a3, a4⟩ := h.each j hj hj2
  exact ⟨a1, a2, a3.below hB (Nat.le_refl _), fun g hg => by have h1 := a4 g hg; have h2 := hB.size; exact ⟨h1.1, by omega, h1.2.2⟩⟩

theorem own_keep {w w' : World} {base size n B : Nat} {e : TypeId} {v : Value} {xs : List Value} (h : w.ownsRow base e size v n xs) (hB : Below B w w') (hle : w.heap.size ≤ B) : w'.ownsRow base e size v n xs := by
  refine ⟨h.1, ?_⟩
  rcases h.2 with h2 | ⟨g, cap, cur, hv, h4, h5, h6, h7⟩
  · exact .inl h2
  · refine .inr ⟨g, cap, cur, hv, h4, ?_, h6, h7⟩
    rw [hB.block g (by have := (Array.getElem?_eq_some_iff.1 h5).1; omega)]; exact h5

theorem frozen_blk {w : World} {b o : Nat} {cs : Array Value} {t : TypeId} (h : w.heap[b]? = some (.cells cs t (0, 0))) : w.frozen? ⟨b, o, none⟩ = false := by
  simp [World.frozen?, h]

theorem cell_blk {w : World} {b o : Nat} {cs : Array Value} {t : TypeId} {fr : Nat × Nat} {u : Value} (h : w.heap[b]? = some (.cells cs t fr)) (hu : cs.toList[o]? = some u) : w.cell? ⟨b, o, none⟩ = some u := by
  have := World.news_of_block h o u hu
  have hadd : (⟨b, 0, none⟩ : Addr).add o = ⟨b, o, none⟩ := by unfold Addr.add; split <;> simp_all
  rwa [hadd] at this

theorem Rd.keep {w w' : World} {v : Value} {size n : Nat} {xs : List Value} (h : Rd w v size n xs) (hle : w.heap.size ≤ w'.heap.size) (hb : ∀ g, v.ownBlock = some g → g < w.heap.size → w'.heap[g]? = w.heap[g]?) : Rd w' v size n xs := by
  obtain ⟨h1, a, cap, rfl, h2, h3⟩ := h
  refine ⟨h1, a, cap, rfl, h2, ?_⟩
  rcases h3 with h3 | ⟨b, rfl, h4, h5⟩
  · exact .inl h3
  · refine .inr ⟨b, rfl, by omega, fun j u hu => ?_⟩
    rw [World.cell?_of_block (w := w) (a := ⟨b, j, none⟩) (hb b rfl h4)]
    exact h5 j u hu

theorem flatT_push (Ts : List (Int × Int × Value)) (x : Int × Int × Value) : flatT (Ts ++ [x]) = flatT Ts ++ [.int .i64 x.1, .int .i64 x.2.1, x.2.2] := by
  induction Ts with
  | nil => rfl
  | cons y l ih => simp [flatT, ih]

theorem OSt.push {w wr w7 : World} {d : Int} {v0 vo v' fx : Value} {L : List M.Ent} {Ts : List (Int × Int × Value)} {P W : Int} {ob : Obj} {n : Nat} (h : OSt w wr d v0 vo L Ts) (hk : Ts.length < L.length)
    (hg : (wr.alloc ob).grownBy w7 vo.ownBlock) (hown : w7.ownsRow (w.heap.size + 3) 39 3 v' (Ts.length + 1) (flatT Ts ++ [.int .i64 P, .int .i64 W, fx])) (hv' : v'.ownBlock = vo.ownBlock ∨ v'.ownBlock = some (wr.alloc ob).heap.size)
    (hP : P = L[Ts.length].P) (hW : W = L[Ts.length].W) (hn : n = (L[Ts.length].F.take 20).length) (hR : Rd wr fx 1 n (intsZ (L[Ts.length].F.take 20))) (hfx : ∀ g, fx.ownBlock = some g → w.heap.size + 2 < g ∧ g < wr.heap.size ∧ vo.ownBlock ≠ some g) :
    OSt w (w7.setCell ⟨w.heap.size + 2, 1, none⟩ v') d v0 v' L (Ts ++ [(P, W, fx)]) := by
  subst hn
  have h2 : w.heap.size + 2 < wr.heap.size := (Array.getElem?_eq_some_iff.1 h.blk2).1
  have hrow : ∀ k, vo.ownBlock = some k → w.heap.size + 3 ≤ k ∧ k < wr.heap.size := h.own.lt
  have hsz : wr.heap.size + 1 ≤ w7.heap.size := by have := hg.size; simpa using this
  have hszs : (w7.setCell ⟨w.heap.size + 2, 1, none⟩ v').heap.size = w7.heap.size := by simp [World.setCell]
  have keep : ∀ g, g < wr.heap.size → vo.ownBlock ≠ some g → w7.heap[g]? = wr.heap[g]? := by
    intro g hg1 hg2
    rw [hg.block g (by simp; omega) (fun e => hg2 e.symm)]
    exact Below.heap_alloc _ _ _ hg1
  have keep2 : ∀ g, g < wr.heap.size → vo.ownBlock ≠ some g → g ≠ w.heap.size + 2 → (w7.setCell ⟨w.heap.size + 2, 1, none⟩ v').heap[g]? = wr.heap[g]? := by
    intro g hg1 hg2 hg3
    rw [heap_setCell_other _ _ _ _ (by exact hg3)]
    exact keep g hg1 hg2
  have hne : ∀ g, g < w.heap.size + 3 → vo.ownBlock ≠ some g := fun g hg1 e => by have := (hrow g e).1; omega
  have hB : Below w.heap.size wr w7 := ((Below.refl _ wr).alloc (by omega) ob).grown hg (by simp; omega) (fun k hk => by have := (hrow k hk).1; omega)
  refine ⟨(h.below.trans hB).setCell (by show w.heap.size ≤ w.heap.size + 2; omega) _, ?_, ?_, ?_, ?_, ?_, ?_⟩
  · rw [keep2 _ (by omega) (hne _ (by omega)) (by omega)]; exact h.blk0
  · rw [keep2 _ (by omega) (hne _ (by omega)) (by omega)]; exact h.blk1
  · have hb := (keep (w.heap.size + 2) h2 (hne _ (by omega))).trans h.blk2
    rw [heap_setCell_same w7 _ _ _ _ _ hb]; rfl
  · rw [List.length_append, flatT_push]
    refine ⟨hown.1, ?_⟩
    rcases hown.2 with h3 | ⟨g, cap, cur, hv, h4, h5, h6, h7⟩
    · exact .inl h3
    · refine .inr ⟨g, cap, cur, hv, h4, ?_, h6, h7⟩
      rw [heap_setCell_other _ _ _ _ (by show g ≠ w.heap.size + 2; omega)]; exact h5
  · simp; omega
  · intro j hj hj2
    by_cases hjl : j < Ts.length
    · obtain ⟨a1, a2, a3, a4⟩ := h.each j hjl hj2
      rw [List.getElem_append_left hjl]
      refine ⟨a1, a2, a3.keep (by rw [hszs]; omega) (fun g hg1 hg2 => ?_), fun g hg1 => ?_⟩
      · have := a4 g hg1
        exact keep2 g hg2 this.2.2 (by omega)
      · have h5 := a4 g hg1
        refine ⟨h5.1, by rw [hszs]; omega, fun e => ?_⟩
        rcases hv' with hv' | hv'
        · exact h5.2.2 (hv'.symm.trans e)
        · rw [hv'] at e
          injection e with e
          have := World.size_alloc wr ob
          omega
    · have hjj : j = Ts.length := by simp at hj; omega
      subst hjj
      rw [List.getElem_append_right (Nat.le_refl _)]
      simp only [Nat.sub_self, List.getElem_singleton]
      refine ⟨hP, hW, hR.keep (by rw [hszs]; omega) (fun g hg1 hg2 => ?_), fun g hg1 => ?_⟩
      · have := hfx g hg1
        exact keep2 g hg2 this.2.2 (by omega)
      · have h5 := hfx g hg1
        refine ⟨h5.1, by rw [hszs]; omega, fun e => ?_⟩
        rcases hv' with hv' | hv'
        · exact h5.2.2 (hv'.symm.trans e)
        · rw [hv'] at e
          injection e with e
          have := World.size_alloc wr ob
          omega

theorem keep_cell {w6 w7 : World} {ob : Obj} {row : Option Nat} {p : Addr} (hg : (w6.alloc ob).grownBy w7 row) (hlt : p.block < w6.heap.size) (hne : row ≠ some p.block) : w7.cell? p = w6.cell? p ∧ w7.frozen? p = w6.frozen? p := by
  have h : w7.heap[p.block]? = w6.heap[p.block]? := by
    rw [hg.block p.block (by rw [World.size_alloc]; omega) (fun e => hne e.symm)]
    exact Below.heap_alloc _ _ _ hlt
  exact ⟨World.cell?_of_block h, World.frozen?_of_block h⟩

theorem OSt.done {w wr : World} {d : Int} {v0 vo u1 u2 : Value} {L : List M.Ent} {Ts : List (Int × Int × Value)} (h : OSt w wr d v0 vo L Ts) (hT : Ts.length = (L.take 60).length) :
    RdE ((wr.setCell ⟨w.heap.size + 1, 0, none⟩ u1).setCell ⟨w.heap.size + 1, 1, none⟩ u2) vo ((L.take 60).map fun E => ⟨E.P, E.W, E.F.take 20⟩) ∧ Below w.heap.size w ((wr.setCell ⟨w.heap.size + 1, 0, none⟩ u1).setCell ⟨w.heap.size + 1, 1, none⟩ u2) ∧ ((wr.setCell ⟨w.heap.size + 1, 0, none⟩ u1).setCell ⟨w.heap.size + 1, 1, none⟩ u2).heap[w.heap.size + 1]? = some (.cells #[u1, u2] 24 (0, 0)) := by
  have hlast : ((wr.setCell ⟨w.heap.size + 1, 0, none⟩ u1).setCell ⟨w.heap.size + 1, 1, none⟩ u2).heap[w.heap.size + 1]? = some (.cells #[u1, u2] 24 (0, 0)) := by
    have h3 := heap_setCell_same wr _ 0 _ _ u1 h.blk1
    have h4 := heap_setCell_same _ _ 1 _ _ u2 h3
    rw [h4]; rfl
  have h2 : w.heap.size + 2 < wr.heap.size := (Array.getElem?_eq_some_iff.1 h.blk2).1
  generalize hwf : (wr.setCell ⟨w.heap.size + 1, 0, none⟩ u1).setCell ⟨w.heap.size + 1, 1, none⟩ u2 = wf
  have hB : Below w.heap.size wr wf := by
    rw [← hwf]
    exact ((Below.refl _ wr).setCell (by show w.heap.size ≤ w.heap.size + 1; omega) _).setCell (by show w.heap.size ≤ w.heap.size + 1; omega) _
  have hsz : wf.heap.size = wr.heap.size := by rw [← hwf]; simp [World.setCell]
  have hkeep : ∀ g, g ≠ w.heap.size + 1 → wf.heap[g]? = wr.heap[g]? := by
    intro g hg
    rw [← hwf, heap_setCell_other _ _ _ _ (by exact hg), heap_setCell_other _ _ _ _ (by exact hg)]
  refine ⟨?_, h.below.trans hB, hwf ▸ hlast⟩
  have hml : ((L.take 60).map fun E : M.Ent => (⟨E.P, E.W, E.F.take 20⟩ : M.Ent)).length = Ts.length := by rw [List.length_map, hT]
  have hfl : ∀ (Ts : List (Int × Int × Value)) (k : Nat) (hk : k < Ts.length), (flatT Ts)[k * 3]? = some (.int .i64 Ts[k].1) ∧ (flatT Ts)[k * 3 + 1]? = some (.int .i64 Ts[k].2.1) ∧ (flatT Ts)[k * 3 + 2]? = some Ts[k].2.2 := by
    intro Ts
    induction Ts with
    | nil => intro k hk; simp at hk
    | cons x l ih =>
      intro k hk
      cases k with
      | zero => simp [flatT]
      | succ k =>
        have := ih k (by simpa using hk)
        have e1 : (k + 1) * 3 = k * 3 + 3 := by omega
        rw [e1]
        simpa [flatT] using this
  unfold RdE
  rcases h.own.2 with ⟨h3, h4⟩ | ⟨g, cap, cur, hv, h4, h5, h6, h7, h8, h9⟩
  · exact ⟨none, 0, by rw [hml, h4]; exact h3, by omega, .inl (by omega)⟩
  · refine ⟨some ⟨g, 0, none⟩, cap, by rw [hml]; exact hv, by omega, .inr ⟨g, rfl, ?_, fun k hk => ?_⟩⟩
    · rw [hsz]; exact (h.own.lt g (by rw [hv]; rfl)).2
    · have hkT : k < Ts.length := by omega
      have hkL : k < (L.take 60).length := by omega
      have hkL2 : k < L.length := by have := List.length_take_le 60 L; have := h.len; omega
      obtain ⟨f0, f1, f2⟩ := hfl Ts k hkT
      obtain ⟨a1, a2, a3, a4⟩ := h.each k hkT hkL2
      have hb : wf.heap[g]? = some (.cells cur 39 (0, 0)) := (hkeep g (by omega)).trans h5
      have hc : ∀ j u, (flatT Ts)[j]? = some u → wf.cell? ⟨g, j, none⟩ = some u := by
        intro j u hu
        refine cell_blk hb ?_
        rw [← h9, List.getElem?_take] at hu
        split at hu
        · exact hu
        · cases hu
      refine ⟨Ts[k].2.2, ?_, ?_, hc _ _ f2, ?_⟩
      · rw [hc _ _ f0, a1]; simp
      · rw [hc _ _ f1, a2]; simp
      · have h10 := a3.keep (w' := wf) (by omega) (fun g' hg' hg2 => hkeep g' (by have := a4 g' hg'; omega))
        simpa using h10

/-- v reads as the ints Z, in a block of which it need not be the beginning. -/
def RdO (w : World) (v : Value) (F : List Int) : Prop :=
  ∃ (a : Option Addr) (cap : Nat), v = .slice a F.length cap ∧ F.length ≤ cap ∧ cap ≤ 9223372036854775807 ∧ (F.length = 0 ∨ ∃ b o, a = some ⟨b, o, none⟩ ∧ b < w.heap.size ∧ ∀ j u, (intsZ F)[j]? = some u → w.cell? ⟨b, o + j, none⟩ = some u)

/-- A list of entries that came in. -/
def ArgE (w : World) (v : Value) (L : List M.Ent) : Prop :=
  ∃ (a : Option Addr) (cap : Nat), v = .slice a L.length cap ∧ L.length ≤ cap ∧ cap ≤ 9223372036854775807 ∧ (L.length = 0 ∨ ∃ b o, a = some ⟨b, o, none⟩ ∧ b < w.heap.size ∧ ∀ k (h : k < L.length), ∃ fv,
    w.cell? ⟨b, o + k * 3, none⟩ = some (.int .i64 L[k].P) ∧ w.cell? ⟨b, o + k * 3 + 1, none⟩ = some (.int .i64 L[k].W) ∧ w.cell? ⟨b, o + k * 3 + 2, none⟩ = some fv ∧ RdO w fv L[k].F)

theorem RdO.below {w w' : World} {v : Value} {F : List Int} (h : RdO w v F) (hB : Below w.heap.size w w') : RdO w' v F := by
  obtain ⟨a, cap, h1, h2, h3, h4⟩ := h
  refine ⟨a, cap, h1, h2, h3, ?_⟩
  rcases h4 with h4 | ⟨b, o, h5, h6, h7⟩
  · exact .inl h4
  · exact .inr ⟨b, o, h5, Nat.lt_of_lt_of_le h6 hB.size, fun j u hu => by rw [hB.cell (p := ⟨b, o + j, none⟩) h6]; exact h7 j u hu⟩

theorem Try.infoV : (Try.prog.info? 24).map (·.size) = some 2 := by kernel_rfl

theorem Try.infoE : (Try.prog.info? 39).map (fun i => (i.zero, i.size, i.bytes)) = some (some (.agg #[.int .i64 0, .int .i64 0, .slice none 0 0]), 3, 40) := by kernel_rfl

set_option maxRecDepth 100000 in
set_option maxHeartbeats 4000000 in
theorem own_is (d : Int) (v : Value) (L : List M.Ent) (w : World) (_hd : (Lit.int .i64 d).wf = true) (hr : Hid (ArgE w v L)) :
    Calls Try.prog 13 #[verV d v] w fun x w' => (∃ v', x = .returned (verV d v') ∧ RdE w' v' ((L.take 60).map fun E => ⟨E.P, E.W, E.F.take 20⟩)) ∧ Below w.heap.size w w' := by
  obtain ⟨a, cap, hv, hcap, hcapm, hcell⟩ := hr.out
  subst hv
  have HC := Lib.hid hcell
  clear hcell
  unfold verV
  obtain ⟨m, hm⟩ : ∃ m, m = L.length := ⟨_, rfl⟩
  have HM := Lib.hid hm
  rw [← hm] at hcap ⊢
  have hlen : m ≤ 9223372036854775807 := by omega
  clear hm
  go_enter Try.func13, Try.ntmps13
  go_wp2_with (fail)
  go_loopw [4] (fun i wr => ∃ (k : Nat) (vo : Value) (Ts : List (Int × Int × Value)), i = .int .i64 k ∧ k ≤ m ∧ k ≤ 60 ∧ Hid (k = Ts.length) ∧ Hid (OSt w wr d (.slice a m cap) vo L Ts)) (fun i _ => m - (intOf i).toNat)
  case atStart => exact ⟨0, _, [], rfl, by omega, by omega, (by show _ = _; rfl), OSt.start w d _ L⟩
  case round =>
    obtain ⟨k, vo, Ts, rfl, hk, hk60, hkT, HO⟩ := hrel
    have c1 := cell_blk (o := 1) HO.out.blk0 rfl
    by_cases hlt : k < m
    · have hd1 : decide (k < m) = true := by simpa using hlt
      by_cases h60 : k < 60
      · have hd2 : decide (k < 60) = true := by simpa using h60
        rcases HC.out with h0 | ⟨b, o, rfl, hb, hcell⟩
        · have := HM.out; omega
        have hkl : k < L.length := by have := HM.out; omega
        obtain ⟨fv, c0, c1', c2, hrf⟩ := hcell k hkl
        obtain ⟨P, hP⟩ : ∃ P, P = L[k].P := ⟨_, rfl⟩
        obtain ⟨W, hW⟩ : ∃ W, W = L[k].W := ⟨_, rfl⟩
        rw [← hP] at c0
        rw [← hW] at c1'
        have HPW := Lib.hid (And.intro hP hW)
        have d0 : wr.cell? ⟨b, o + k * 3, none⟩ = some (.int .i64 P) := by rw [HO.out.below.cell (p := ⟨b, o + k * 3, none⟩) hb]; exact c0
        have d1 : wr.cell? ⟨b, o + k * 3 + 1, none⟩ = some (.int .i64 W) := by rw [HO.out.below.cell (p := ⟨b, o + k * 3 + 1, none⟩) hb]; exact c1'
        have HRF := Lib.hid (And.intro c2 hrf)
        clear hcell hP hW c0 c1' c2 hrf
        have hsz := HO.out.below.size
        have hsz2 : w.heap.size + 2 < wr.heap.size := (Array.getElem?_eq_some_iff.1 HO.out.blk2).1
        have hbn : b < wr.heap.size := by omega
        have hX := (Below.refl wr.heap.size wr).alloc (Nat.le_refl _) (.cells #[.int .i64 0, .int .i64 0, .slice none 0 0] 39)
        have e1 : (wr.alloc (.cells #[.int .i64 0, .int .i64 0, .slice none 0 0] 39)).cell? ⟨w.heap.size, 1, none⟩ = some (.slice (some ⟨b, o, none⟩) m cap) := by rw [hX.cell (p := ⟨w.heap.size, 1, none⟩) (by show w.heap.size < _; omega)]; exact c1
        have e2 : (wr.alloc (.cells #[.int .i64 0, .int .i64 0, .slice none 0 0] 39)).cell? ⟨b, o + k * 3, none⟩ = some (.int .i64 P) := by rw [hX.cell (p := ⟨b, o + k * 3, none⟩) hbn]; exact d0
        have e3 : (wr.alloc (.cells #[.int .i64 0, .int .i64 0, .slice none 0 0] 39)).cell? ⟨b, o + k * 3 + 1, none⟩ = some (.int .i64 W) := by rw [hX.cell (p := ⟨b, o + k * 3 + 1, none⟩) hbn]; exact d1
        clear hX hsz
        have hkm := HO
        go_upto_region 5 with fail
        go_cut [5] (fun v wx => ∃ W5 : World, W5 = wx ∧ v = .pointer (some ⟨wr.heap.size, 0, none⟩) ∧ Hid (OSt w wx d (.slice (some ⟨b, o, none⟩) m cap) vo L Ts) ∧ Hid (wx.heap[wr.heap.size]? = some (.cells #[.int .i64 P, .int .i64 W, .slice none 0 0] 39 (0, 0))) ∧ Hid (Below wr.heap.size wr wx) ∧ wr.heap.size < wx.heap.size)
        case first =>
          go_region
          go_wp2_with (fail)
          go_meet
          have hB := ((Below.refl wr.heap.size wr).alloc (Nat.le_refl _) (.cells #[.int .i64 P, .int .i64 W, .slice none 0 0] 39)).drew
          refine ⟨_, rfl, rfl, HO.out.below_of hB (own_keep HO.out.own hB (Nat.le_refl _)), ?_, hB, ?_⟩
          · show (wr.alloc _).heap[wr.heap.size]? = _
            exact heap_alloc_new _ _
          · show wr.heap.size < (wr.alloc _).heap.size
            simp
        case rest =>
          obtain ⟨w5, rfl, rfl, HO5, HX5, HB5, hlt5⟩ := hcut
          clear d0 d1 c1 e1 e2 e3 hkm
          have g0 := cell_blk (o := 1) HO5.out.blk0 rfl
          have g1 : w5.cell? ⟨b, o + k * 3 + 2, none⟩ = some fv := by rw [HO5.out.below.cell (p := ⟨b, o + k * 3 + 2, none⟩) hb]; exact HRF.out.1
          have g2 := cell_blk (o := 2) HX5.out rfl
          have hrf5 := HRF.out.2.below HO5.out.below
          obtain ⟨F, hF⟩ : ∃ F, F = L[k].F := ⟨_, rfl⟩
          rw [← hF] at hrf5
          have HF := Lib.hid hF
          clear hF
          obtain ⟨af, cf, rfl, hcf5, hcfm5, hcl5⟩ := hrf5
          obtain ⟨fl, hfl⟩ : ∃ fl, fl = F.length := ⟨_, rfl⟩
          rw [← hfl] at g1 hcf5 hcl5
          have HFL := Lib.hid hfl
          clear hfl HRF
          have hz2 : w5.frozen? ⟨wr.heap.size, 2, none⟩ = false := frozen_blk HX5.out
          obtain ⟨i0, hi, hz0, hz1, hz2'⟩ := info_parts Try.infoI
          go_upto_region 6 with fail
          go_cut [] (fun wx => ∃ (W6 : World) (fv' : Value), W6 = wx ∧ Hid (OSt w wx d (.slice (some ⟨b, o, none⟩) m cap) vo L Ts) ∧ Hid (wx.heap[wr.heap.size]? = some (.cells #[.int .i64 P, .int .i64 W, fv'] 39 (0, 0))) ∧ Hid (Below wr.heap.size wr wx) ∧ Hid (Rd wx fv' 1 (F.take 20).length (intsZ (F.take 20))) ∧ (∀ g, fv'.ownBlock = some g → wr.heap.size < g ∧ g < wx.heap.size) ∧ wr.heap.size < wx.heap.size)
          case first =>
            by_cases hf0 : fl = 0
            · have hki : (k : Int) < (m : Int) := by omega
              have hF0 : F = [] := List.length_eq_zero_iff.1 (by rw [← HFL.out]; exact hf0)
              have HF0 := Lib.hid hF0
              subst hf0
              have hmin : min (((0 : Nat) : Int)) 20 = 0 := by omega
              clear hcl5 hF0
              rcases af with _ | ad
              · go_wp2_with (fail)
                go_still_tail 17, (by kernel_rfl)
                change wpList _ _ _ _ _ w5.drew
                go_wp2_with (fail)
                go_meet
                have hBw : Below wr.heap.size wr (w5.drew.setCell ⟨wr.heap.size, 2, none⟩ (.slice none 0 0)) := (HB5.out.trans ((Below.refl _ _).drew)).setCell (Nat.le_refl _) _
                have hX6 : w5.drew.heap[wr.heap.size]? = some (.cells #[.int .i64 P, .int .i64 W, .slice none 0 0] 39 (0, 0)) := HX5.out
                refine ⟨_, .slice none 0 0, rfl, HO.out.below_of hBw (own_keep HO.out.own hBw (Nat.le_refl _)), ?_, hBw, ?_, fun g hg => ?_, ?_⟩
                · show (w5.drew.setCell _ _).heap[wr.heap.size]? = _
                  rw [heap_setCell_same w5.drew _ _ _ _ _ hX6]; rfl
                · have hR6 := Rd.of_own (World.ownsRow_nil (w5.drew.setCell ⟨wr.heap.size, 2, none⟩ (.slice none 0 0)) w5.heap.size 3 1)
                  show Rd _ _ _ _ _
                  rw [HF0.out]; exact hR6
                · simp [Value.ownBlock] at hg
                · simpa using hlt5
              · go_wp2_with (fail)
                go_still_tail 17, (by kernel_rfl)
                change wpList _ _ _ _ _ w5.drew
                go_wp2_with (fail)
                go_meet
                have hBw : Below wr.heap.size wr (w5.drew.setCell ⟨wr.heap.size, 2, none⟩ (.slice none 0 0)) := (HB5.out.trans ((Below.refl _ _).drew)).setCell (Nat.le_refl _) _
                have hX6 : w5.drew.heap[wr.heap.size]? = some (.cells #[.int .i64 P, .int .i64 W, .slice none 0 0] 39 (0, 0)) := HX5.out
                refine ⟨_, .slice none 0 0, rfl, HO.out.below_of hBw (own_keep HO.out.own hBw (Nat.le_refl _)), ?_, hBw, ?_, fun g hg => ?_, ?_⟩
                · show (w5.drew.setCell _ _).heap[wr.heap.size]? = _
                  rw [heap_setCell_same w5.drew _ _ _ _ _ hX6]; rfl
                · have hR6 := Rd.of_own (World.ownsRow_nil (w5.drew.setCell ⟨wr.heap.size, 2, none⟩ (.slice none 0 0)) w5.heap.size 3 1)
                  show Rd _ _ _ _ _
                  rw [HF0.out]; exact hR6
                · simp [Value.ownBlock] at hg
                · simpa using hlt5
            · rcases hcl5 with h0 | ⟨bf, fo, rfl, hbf, hcell5⟩
              · omega
              have HC5 := Lib.hid hcell5
              clear hcell5
              by_cases hf20 : fl ≤ 20
              · have hn1 : Hid (∀ j u, (intsZ F)[j]? = some u → w5.drew.cell? ((⟨bf, fo, none⟩ : Addr).add j) = some u) := by
                  intro j u hu
                  have hadd : (⟨bf, fo, none⟩ : Addr).add j = ⟨bf, fo + j, none⟩ := by unfold Addr.add; split <;> simp_all
                  rw [hadd]
                  exact HC5.out j u hu
                have hn2 : Hid (∀ u ∈ intsZ F, u.oneCell' = true) := by
                  intro u hu; unfold intsZ at hu; obtain ⟨z, _, rfl⟩ := List.mem_map.1 hu; rfl
                have hmn : ((20 : Int) < (fl : Int)) = False := by simp; omega
                have hcf6 : (fl : Int) ≤ (cf : Int) := by omega
                have hn3 : Hid ((intsZ F).length = fl * 1) := by show _ = _; rw [HFL.out]; simp [intsZ]
                have hki : (k : Int) < (m : Int) := by omega
                have hmin : min (fl : Int) 20 = (fl : Int) := by omega
                go_wp2_with (fail)
                go_still_tail 17, (by kernel_rfl)
                change wpList _ _ _ _ _ w5.drew
                refine wpList_append_own _ rfl _ _ 34 rfl w5.heap.size 3 i0 (.int .i64 0) 1 8 Try.underlying34 hi hz0 hz1 hz2' rfl (by decide) (.slice none 0 0) 0 [] rfl (World.ownsRow_nil _ _ _ _) ⟨bf, fo, none⟩ fl cf (intsZ F) rfl hn3.out hn1.out hn2.out (by unfold maxLen; omega) (by omega) (Nat.le_refl _) ?_
                intro v' w6 hown6 hgrow6 _
                have hB6 : Below w5.heap.size w5 w6 := ((Below.refl _ _).drew).grown hgrow6 (Nat.le_refl _) (by intro g hg; simp [Value.ownBlock] at hg)
                have z1 : w6.cell? ⟨wr.heap.size, 2, none⟩ = some (.slice none 0 0) := by rw [hB6.cell (p := ⟨wr.heap.size, 2, none⟩) hlt5]; exact g2
                have z2 : w6.frozen? ⟨wr.heap.size, 2, none⟩ = false := by rw [hB6.frozen (p := ⟨wr.heap.size, 2, none⟩) hlt5]; exact hz2
                obtain ⟨g6, cp6, cur6, hv6⟩ : ∃ g cp cur, v' = .slice (some ⟨g, 0, none⟩) (0 + fl) cp ∧ w5.heap.size ≤ g ∧ cur = cp := by
                  rcases hown6.2 with h | ⟨g, cp, cur, h1, h2, _⟩
                  · have := h.2; omega
                  · exact ⟨g, cp, cp, h1, h2, rfl⟩
                have hg6 := hv6.2.1
                replace hv6 := hv6.1
                subst hv6
                have HB6 := Lib.hid (And.intro hB6 hown6)
                clear hB6 hown6 hgrow6
                go_wp2_with (fail)
                go_meet
                have hBw : Below wr.heap.size wr (w6.setCell ⟨wr.heap.size, 2, none⟩ (.slice (some ⟨g6, 0, none⟩) fl cp6)) := (HB5.out.trans (HB6.out.1.mono (Nat.le_of_lt hlt5))).setCell (Nat.le_refl _) _
                have hne6 : wr.heap.size < g6 := Nat.lt_of_lt_of_le hlt5 hg6
                have hTk : F.take 20 = F := List.take_of_length_le (by rw [← HFL.out]; omega)
                have hX6 : w6.heap[wr.heap.size]? = some (.cells #[.int .i64 P, .int .i64 W, .slice none 0 0] 39 (0, 0)) := (HB6.out.1.block _ hlt5).trans HX5.out
                refine ⟨_, .slice (some ⟨g6, 0, none⟩) fl cp6, rfl, HO.out.below_of hBw (own_keep HO.out.own hBw (Nat.le_refl _)), ?_, hBw, ?_, fun g hg => ?_, ?_⟩
                · show (w6.setCell _ _).heap[wr.heap.size]? = _
                  rw [heap_setCell_same w6 _ _ _ _ _ hX6]; rfl
                · have hO6 : (w6.setCell ⟨wr.heap.size, 2, none⟩ (.slice (some ⟨g6, 0, none⟩) fl cp6)).ownsRow w5.heap.size 3 1 (.slice (some ⟨g6, 0, none⟩) (0 + fl) cp6) (0 + fl) ([] ++ intsZ F) := by
                    refine ⟨HB6.out.2.1, ?_⟩
                    rcases HB6.out.2.2 with h2 | ⟨g, cap', cur, hv, h4, h5, h6, h7⟩
                    · exact .inl h2
                    · refine .inr ⟨g, cap', cur, hv, h4, ?_, h6, h7⟩
                      have hgg : g6 = g := by injection hv with hv; injection hv with hv; injection hv
                      rw [heap_setCell_other _ _ _ _ (by show g ≠ wr.heap.size; omega)]; exact h5
                  have hR6 := Rd.of_own hO6
                  show Rd _ _ _ _ _
                  rw [hTk, ← HFL.out]; simpa using hR6
                · simp [Value.ownBlock] at hg; have h9 := HB6.out.2.lt g6 rfl; simp [World.setCell]; omega
                · have := HB6.out.1.size; simp; omega
              · have hn1 : Hid (∀ j u, (intsZ (F.take 20))[j]? = some u → w5.drew.cell? ((⟨bf, fo, none⟩ : Addr).add j) = some u) := by
                  intro j u hu
                  have hadd : (⟨bf, fo, none⟩ : Addr).add j = ⟨bf, fo + j, none⟩ := by unfold Addr.add; split <;> simp_all
                  rw [hadd]
                  refine HC5.out j u ?_
                  unfold intsZ at hu ⊢
                  rw [List.getElem?_map] at hu ⊢
                  by_cases hj : j < 20
                  · rwa [List.getElem?_take_of_lt hj] at hu
                  · rw [List.getElem?_take_eq_none (by omega)] at hu; cases hu
                have hn2 : Hid (∀ u ∈ intsZ (F.take 20), u.oneCell' = true) := by
                  intro u hu; unfold intsZ at hu; obtain ⟨z, _, rfl⟩ := List.mem_map.1 hu; rfl
                have hmn : ((20 : Int) < (fl : Int)) = True := by simp; omega
                have hcf6 : (fl : Int) ≤ (cf : Int) := by omega
                have hcf7 : (20 : Int) ≤ (cf : Int) := by omega
                have hcf8 : 20 ≤ cf := by omega
                have hTL : (F.take 20).length = 20 := by rw [List.length_take, ← HFL.out]; omega
                have hn3 : Hid ((intsZ (F.take 20)).length = 20 * 1) := by show _ = _; simp [intsZ]; rw [← HFL.out]; omega
                have hki : (k : Int) < (m : Int) := by omega
                have hmin : min (fl : Int) 20 = 20 := by omega
                go_wp2_with (fail)
                go_still_tail 17, (by kernel_rfl)
                change wpList _ _ _ _ _ w5.drew
                refine wpList_append_own _ rfl _ _ 34 rfl w5.heap.size 3 i0 (.int .i64 0) 1 8 Try.underlying34 hi hz0 hz1 hz2' rfl (by decide) (.slice none 0 0) 0 [] rfl (World.ownsRow_nil _ _ _ _) ⟨bf, fo, none⟩ 20 cf (intsZ (F.take 20)) rfl hn3.out hn1.out hn2.out (by unfold maxLen; omega) (by omega) (Nat.le_refl _) ?_
                intro v' w6 hown6 hgrow6 _
                have hB6 : Below w5.heap.size w5 w6 := ((Below.refl _ _).drew).grown hgrow6 (Nat.le_refl _) (by intro g hg; simp [Value.ownBlock] at hg)
                have z1 : w6.cell? ⟨wr.heap.size, 2, none⟩ = some (.slice none 0 0) := by rw [hB6.cell (p := ⟨wr.heap.size, 2, none⟩) hlt5]; exact g2
                have z2 : w6.frozen? ⟨wr.heap.size, 2, none⟩ = false := by rw [hB6.frozen (p := ⟨wr.heap.size, 2, none⟩) hlt5]; exact hz2
                obtain ⟨g6, cp6, cur6, hv6⟩ : ∃ g cp cur, v' = .slice (some ⟨g, 0, none⟩) (0 + 20) cp ∧ w5.heap.size ≤ g ∧ cur = cp := by
                  rcases hown6.2 with h | ⟨g, cp, cur, h1, h2, _⟩
                  · have := h.2; omega
                  · exact ⟨g, cp, cp, h1, h2, rfl⟩
                have hg6 := hv6.2.1
                replace hv6 := hv6.1
                subst hv6
                have HB6 := Lib.hid (And.intro hB6 hown6)
                clear hB6 hown6 hgrow6
                go_wp2_with (fail)
                go_meet
                have hBw : Below wr.heap.size wr (w6.setCell ⟨wr.heap.size, 2, none⟩ (.slice (some ⟨g6, 0, none⟩) 20 cp6)) := (HB5.out.trans (HB6.out.1.mono (Nat.le_of_lt hlt5))).setCell (Nat.le_refl _) _
                have hne6 : wr.heap.size < g6 := Nat.lt_of_lt_of_le hlt5 hg6
                have hX6 : w6.heap[wr.heap.size]? = some (.cells #[.int .i64 P, .int .i64 W, .slice none 0 0] 39 (0, 0)) := (HB6.out.1.block _ hlt5).trans HX5.out
                refine ⟨_, .slice (some ⟨g6, 0, none⟩) 20 cp6, rfl, HO.out.below_of hBw (own_keep HO.out.own hBw (Nat.le_refl _)), ?_, hBw, ?_, fun g hg => ?_, ?_⟩
                · show (w6.setCell _ _).heap[wr.heap.size]? = _
                  rw [heap_setCell_same w6 _ _ _ _ _ hX6]; rfl
                · have hO6 : (w6.setCell ⟨wr.heap.size, 2, none⟩ (.slice (some ⟨g6, 0, none⟩) 20 cp6)).ownsRow w5.heap.size 3 1 (.slice (some ⟨g6, 0, none⟩) (0 + 20) cp6) (0 + 20) ([] ++ intsZ (F.take 20)) := by
                    refine ⟨HB6.out.2.1, ?_⟩
                    rcases HB6.out.2.2 with h2 | ⟨g, cap', cur, hv, h4, h5, h6, h7⟩
                    · exact .inl h2
                    · refine .inr ⟨g, cap', cur, hv, h4, ?_, h6, h7⟩
                      have hgg : g6 = g := by injection hv with hv; injection hv with hv; injection hv
                      rw [heap_setCell_other _ _ _ _ (by show g ≠ wr.heap.size; omega)]; exact h5
                  have hR6 := Rd.of_own hO6
                  show Rd _ _ _ _ _
                  rw [hTL]; simpa using hR6
                · simp [Value.ownBlock] at hg; have h9 := HB6.out.2.lt g6 rfl; simp [World.setCell]; omega
                · have := HB6.out.1.size; simp; omega
          case rest =>
            obtain ⟨w6, fv', rfl, HO6, HX6, HB6, HR6, hne6, hlt6⟩ := hcut
            clear HX5 HB5 HO5 g0 g1 g2 hz2 hlt5 hcl5 hcf5
            obtain ⟨fl', hfl'⟩ : ∃ fl', fl' = (F.take 20).length := ⟨_, rfl⟩
            have HR6' := HR6
            obtain ⟨hle6, ax, cx, rfl, hcx, hclx⟩ := HR6.out
            clear hle6 hcx hclx
            rw [← hfl'] at HX6 HR6' hne6
            have g0 := cell_blk (o := 1) HO6.out.blk2 rfl
            have g1 := cell_blk (o := 0) HX6.out rfl
            have g2 := cell_blk (o := 1) HX6.out rfl
            have g3 := cell_blk (o := 2) HX6.out rfl
            have HFL' := Lib.hid hfl'
            clear hfl' HR6
            have hz2 : w6.frozen? ⟨w.heap.size + 1 + 1, 1, none⟩ = false := frozen_blk HO6.out.blk2
            have hki : (k : Int) < (m : Int) := by omega
            have hsz6 : w.heap.size + 2 < w6.heap.size := by omega
            obtain ⟨i1, hi1, hy0, hy1, hy2⟩ := info_parts Try.infoE
            have hown6 := HO6.out.own
            have hTm : Hid (Ts.length ≤ 60) := by show _ ≤ _; rw [← hkT.out]; omega
            have hTk := hkT.out
            rw [← hTk] at hown6
            have HOWN := Lib.hid hown6
            have hvo : Hid (∀ g, vo.ownBlock = some g → g < wr.heap.size) := fun g hg => (HO.out.own.lt g hg).2
            have hne6' : Hid (∀ g, (Value.slice ax fl' cx).ownBlock = some g → wr.heap.size < g ∧ g < w6.heap.size) := hne6
            have hrow : ∀ g, vo.ownBlock = some g → w.heap.size + 3 ≤ g := fun g hg => (HOWN.out.lt g hg).1
            have hrow1 := Lib.hid hrow
            clear hown6 hTk hne6 hrow
            have hNB := Lib.hid (World.news_of_block (heap_alloc_new w6 (.cells #[.int .i64 P, .int .i64 W, .slice ax fl' cx] 39)))
            go_wp2_with (at_builtin; (refine wpList_append_own_at _ rfl _ _ 22 rfl (w.heap.size + 3) 39 i1 (.agg #[.int .i64 0, .int .i64 0, .slice none 0 0]) 3 40 Try.underlying22 hi1 hy0 hy1 hy2 rfl (by decide) _ _ _ rfl (HOWN.out.alloc _) ⟨w6.heap.size, 0, none⟩ 1 1 [.int .i64 P, .int .i64 W, .slice ax fl' cx] rfl rfl (by simpa using hNB.out) (by intro u hu; simp at hu; rcases hu with rfl | rfl | rfl <;> rfl) (by unfold maxLen; omega) (by omega) (by rw [World.size_alloc]; omega) ?_; intro v' w7 hown7 hgrow7 _ hb7; obtain ⟨av, cv, hv7⟩ : ∃ av cv, v' = .slice av (k + 1) cv := (by obtain ⟨_, av, cv, h, _, _⟩ := Rd.of_own hown7; exact ⟨av, cv, h⟩); subst hv7; have zz := keep_cell (p := ⟨w.heap.size + 1 + 1, 1, none⟩) hgrow7 (by show w.heap.size + 1 + 1 < _; omega) (fun e => by have h3 : w.heap.size + 3 ≤ w.heap.size + 1 + 1 := hrow1.out _ e; omega); have z0 : w7.cell? ⟨w.heap.size + 1 + 1, 1, none⟩ = some vo := zz.1.trans g0; have z2 : w7.frozen? ⟨w.heap.size + 1 + 1, 1, none⟩ = false := zz.2.trans hz2; clear zz; have H7 := Lib.hid (And.intro hown7 (And.intro hgrow7 hb7)); clear hown7 hgrow7 hb7))
            go_roundw
            case rel =>
              have hTl : Ts.length < L.length := by rw [← hkT.out]; exact hkl
              have hkT' := hkT.out
              subst hkT'
              have hFF := HF.out
              subst hFF
              refine ⟨Ts.length + 1, .slice av (Ts.length + 1) cv, Ts ++ [(P, W, .slice ax fl' cx)], by go_num, by omega, by omega, (by show _ = _; simp), ?_⟩
              exact HO6.out.push hTl H7.out.2.1 H7.out.1 H7.out.2.2 HPW.out.1 HPW.out.2 HFL'.out HR6'.out (fun g hg => by
                have h1 := hne6'.out g hg
                have h2 := HO.out.blk2
                exact ⟨by omega, h1.2, fun e => by have := hvo.out g e; omega⟩)
            case measure => simp [intOf]; omega
      · have hd2 : decide (k < 60) = false := by simpa using h60
        obtain rfl : k = 60 := by omega
        have hRo := Rd.of_own HO.out.own
        rw [← hkT.out] at hRo
        obtain ⟨hl0, ax, cx, rfl, hcx, hclx⟩ := hRo
        clear hl0 hcx hclx
        have g0 := cell_blk (o := 0) HO.out.blk2 rfl
        have g1 := cell_blk (o := 1) HO.out.blk2 rfl
        have g2 := cell_blk (o := 0) HO.out.blk1 rfl
        have g3 := cell_blk (o := 1) HO.out.blk1 rfl
        have g4 : wr.frozen? ⟨w.heap.size + 1, 0, none⟩ = false := frozen_blk HO.out.blk1
        have g5 : wr.frozen? ⟨w.heap.size + 1, 1, none⟩ = false := frozen_blk HO.out.blk1
        go_wp2_with (fail)
        have hdn := HO.out.done (u1 := .int .i64 d) (u2 := .slice ax 60 cx) (by rw [← hkT.out, List.length_take, ← HM.out]; omega)
        refine bodyPost_ret (results_cell_row Try.results13 _ _ (w.heap.size + 1) _ _ _ _ rfl hdn.2.2 Try.underlying24 rfl Try.infoV) rfl ?_
        exact ⟨⟨_, rfl, hdn.1⟩, hdn.2.1⟩
    · have hd1 : decide (k < m) = false := by simpa using hlt
      have hRo := Rd.of_own HO.out.own
      rw [← hkT.out] at hRo
      obtain ⟨hl0, ax, cx, rfl, hcx, hclx⟩ := hRo
      clear hl0 hcx hclx
      have g0 := cell_blk (o := 0) HO.out.blk2 rfl
      have g1 := cell_blk (o := 1) HO.out.blk2 rfl
      have g2 := cell_blk (o := 0) HO.out.blk1 rfl
      have g3 := cell_blk (o := 1) HO.out.blk1 rfl
      have g4 : wr.frozen? ⟨w.heap.size + 1, 0, none⟩ = false := frozen_blk HO.out.blk1
      have g5 : wr.frozen? ⟨w.heap.size + 1, 1, none⟩ = false := frozen_blk HO.out.blk1
      go_wp2_with (fail)
      have hdn := HO.out.done (u1 := .int .i64 d) (u2 := .slice ax k cx) (by rw [← hkT.out, List.length_take, ← HM.out]; omega)
      refine bodyPost_ret (results_cell_row Try.results13 _ _ (w.heap.size + 1) _ _ _ _ rfl hdn.2.2 Try.underlying24 rfl Try.infoV) rfl ?_
      exact ⟨⟨_, rfl, hdn.1⟩, hdn.2.1⟩

end Go.Proofs.Ytldfbadcigdbkaa
