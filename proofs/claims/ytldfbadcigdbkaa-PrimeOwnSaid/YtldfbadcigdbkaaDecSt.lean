/- The memory of the making of a proof: a map, a list of primes and a list of entries that grow, and the entries' factors. -/
import Derived.Test.YtldfbadcigdbkaaWalkOwn
import Derived.Test.YtldfbadcigdbkaaDec
namespace Go.Proofs.Ytldfbadcigdbkaa
open Go.RowKit Go.Maps

theorem own_at {w w' : World} {base size n : Nat} {e : TypeId} {v : Value} {xs : List Value} (h : w.ownsRow base e size v n xs) (hk : ∀ g, v.ownBlock = some g → g < w.heap.size → w'.heap[g]? = w.heap[g]?) : w'.ownsRow base e size v n xs := by
  refine ⟨h.1, ?_⟩
  rcases h.2 with h2 | ⟨g, cap, cur, hv, h4, h5, h6, h7⟩
  · exact .inl h2
  · refine .inr ⟨g, cap, cur, hv, h4, ?_, h6, h7⟩
    rw [hk g (by rw [hv]; rfl) (Array.getElem?_eq_some_iff.1 h5).1]; exact h5

theorem map_at {P : Program} {k : TypeId} {R : Value → Option (DataW Unit × List MemPlace)} {w w' : World} {b n : Nat} {D : DataW Unit} (h : w.ownsMap P k R b n D) (hb : w'.heap[b]? = w.heap[b]?) : w'.ownsMap P k R b n D := by
  obtain ⟨es, clock, h1, h2, h3, h4⟩ := h
  exact ⟨es, clock, hb.trans h1, h2, h3, h4⟩

structure PSt (w0 wr : World) (m : Nat) (D : DataW Unit) (S : List Int) (vT vP : Value) (T : List Nat) (Ts : List (Int × Int × Value)) (Es : List M.Ent) : Prop where
  below : Below w0.heap.size w0 wr
  lt : w0.heap.size < wr.heap.size
  map : wr.ownsMap Try.prog 3 (plainElem Try.prog 4) w0.heap.size m D
  set : SetI D S
  todo : wr.ownsRow (w0.heap.size + 1) 3 1 vT T.length (ints T)
  proof : wr.ownsRow (w0.heap.size + 1) 39 3 vP Ts.length (flatT Ts)
  dis : ∀ g, vT.ownBlock = some g → vP.ownBlock ≠ some g
  len : Ts.length = Es.length
  each : ∀ j (h : j < Ts.length) (h2 : j < Es.length), Ts[j].1 = Es[j].P ∧ Ts[j].2.1 = Es[j].W ∧ wr.ownsRow (w0.heap.size + 1) 3 1 Ts[j].2.2 Es[j].F.length (intsZ Es[j].F) ∧ ∀ g, Ts[j].2.2.ownBlock = some g → w0.heap.size + 1 ≤ g ∧ g < wr.heap.size ∧ vT.ownBlock ≠ some g ∧ vP.ownBlock ≠ some g

variable {w0 wr w7 : World} {m m' : Nat} {D D' : DataW Unit} {S S' : List Int} {vT vP v' fx : Value} {T : List Nat} {Ts : List (Int × Int × Value)} {Es : List M.Ent} {X : Option Nat}

theorem PSt.each_at (h : PSt w0 wr m D S vT vP T Ts Es) (_hs : wr.heap.size ≤ w7.heap.size) (hk : ∀ g, g < wr.heap.size → w0.heap.size < g → vT.ownBlock ≠ some g → vP.ownBlock ≠ some g → w7.heap[g]? = wr.heap[g]?) :
    ∀ j (h : j < Ts.length) (h2 : j < Es.length), Ts[j].1 = Es[j].P ∧ Ts[j].2.1 = Es[j].W ∧ w7.ownsRow (w0.heap.size + 1) 3 1 Ts[j].2.2 Es[j].F.length (intsZ Es[j].F) ∧ ∀ g, Ts[j].2.2.ownBlock = some g → w0.heap.size + 1 ≤ g ∧ g < wr.heap.size ∧ vT.ownBlock ≠ some g ∧ vP.ownBlock ≠ some g := by
  intro j hj hj2
  obtain ⟨a1, a2, a3, a4⟩ := h.each j hj hj2
  exact ⟨a1, a2, own_at a3 (fun g hg hlt => by have := a4 g hg; exact hk g hlt this.1 this.2.2.1 this.2.2.2), a4⟩

theorem PSt.below_of (h : PSt w0 wr m D S vT vP T Ts Es) (hB : Below wr.heap.size wr w7) : PSt w0 w7 m D S vT vP T Ts Es := by
  have hs := hB.size
  have hk : ∀ g, g < wr.heap.size → w7.heap[g]? = wr.heap[g]? := fun g hg => hB.block g hg
  refine ⟨h.below.trans (hB.mono (by have := h.lt; omega)), by have := h.lt; omega, map_at h.map (hk _ h.lt), h.set, own_at h.todo (fun g _ hg => hk g hg), own_at h.proof (fun g _ hg => hk g hg), h.dis, h.len, fun j hj hj2 => ?_⟩
  obtain ⟨a1, a2, a3, a4⟩ := h.each_at hs (fun g hg _ _ _ => hk g hg) j hj hj2
  exact ⟨a1, a2, a3, fun g hg => by have := a4 g hg; exact ⟨this.1, by omega, this.2.2⟩⟩

theorem PSt.putMap (h : PSt w0 wr m D S vT vP T Ts Es) (hm : w7.ownsMap Try.prog 3 (plainElem Try.prog 4) w0.heap.size m' D') (hg : wr.grownBy w7 (some w0.heap.size)) (hS : SetI D' S') : PSt w0 w7 m' D' S' vT vP T Ts Es := by
  have hs := hg.size
  have hk : ∀ g, g < wr.heap.size → w0.heap.size < g → w7.heap[g]? = wr.heap[g]? := fun g hlt hne => hg.block g hlt (fun e => by injection e with e; omega)
  refine ⟨h.below.grown hg h.below.size (fun k e => by injection e with e; omega), by have := h.lt; omega, hm, hS, own_at h.todo (fun g hg1 hg2 => hk g hg2 (h.todo.lt g hg1).1), own_at h.proof (fun g hg1 hg2 => hk g hg2 (h.proof.lt g hg1).1), h.dis, h.len, fun j hj hj2 => ?_⟩
  obtain ⟨a1, a2, a3, a4⟩ := h.each_at hs (fun g hg1 hg2 _ _ => hk g hg1 hg2) j hj hj2
  exact ⟨a1, a2, a3, fun g hg => by have := a4 g hg; exact ⟨this.1, by omega, this.2.2⟩⟩

theorem PSt.pushT {q : Nat} {ob : Obj} (h : PSt w0 wr m D S vT vP T Ts Es) (hg : (wr.alloc ob).grownBy w7 vT.ownBlock) (hown : w7.ownsRow (w0.heap.size + 1) 3 1 v' (T.length + 1) (ints T ++ [.int .i64 (q : Int)]))
    (hv' : v'.ownBlock = vT.ownBlock ∨ v'.ownBlock = some (wr.alloc ob).heap.size) : PSt w0 w7 m D S v' vP (T ++ [q]) Ts Es := by
  have hs0 := hg.size
  have hsa : (wr.alloc ob).heap.size = wr.heap.size + 1 := World.size_alloc _ _
  have hs : wr.heap.size ≤ w7.heap.size := by omega
  have hk : ∀ g, g < wr.heap.size → vT.ownBlock ≠ some g → w7.heap[g]? = wr.heap[g]? := fun g hlt hne => by
    rw [hg.block g (by omega) (fun e => hne e.symm)]; exact Below.heap_alloc _ _ _ hlt
  have hrow := h.todo.lt
  have hrowP := h.proof.lt
  have hB : Below w0.heap.size wr w7 := ((Below.refl _ wr).alloc (by have := h.lt; omega) ob).grown hg (by have := h.lt; omega) (fun k hk => by have := (hrow k hk).1; omega)
  have hdis2 : ∀ g, g < wr.heap.size → vT.ownBlock ≠ some g → v'.ownBlock ≠ some g := fun g hlt h1 e => by
    rcases hv' with hv' | hv'
    · exact h1 (hv'.symm.trans e)
    · rw [hv'] at e; injection e with e; omega
  refine ⟨h.below.trans hB, by have := h.lt; omega, map_at h.map (hk _ h.lt (fun e => by have := (hrow _ e).1; omega)), h.set, ?_, own_at h.proof (fun g hg1 hg2 => hk g hg2 (fun e => h.dis g e hg1)), ?_, h.len, fun j hj hj2 => ?_⟩
  · rw [List.length_append]; simpa [ints] using hown
  · intro g h1 h2
    have := (hrowP g h2).2
    exact hdis2 g this (fun e => h.dis g e h2) h1
  · obtain ⟨a1, a2, a3, a4⟩ := h.each_at hs (fun g hg1 _ hg3 _ => hk g hg1 hg3) j hj hj2
    exact ⟨a1, a2, a3, fun g hg => by have := a4 g hg; exact ⟨this.1, by omega, hdis2 g this.2.1 this.2.2.1, this.2.2.2⟩⟩

theorem PSt.pushP {E : M.Ent} {ob : Obj} {n : Nat} (h : PSt w0 wr m D S vT vP T Ts Es) (hg : (wr.alloc ob).grownBy w7 vP.ownBlock) (hown : w7.ownsRow (w0.heap.size + 1) 39 3 v' (Ts.length + 1) (flatT Ts ++ [.int .i64 E.P, .int .i64 E.W, fx]))
    (hv' : v'.ownBlock = vP.ownBlock ∨ v'.ownBlock = some (wr.alloc ob).heap.size) (hn : n = E.F.length) (hR : wr.ownsRow (w0.heap.size + 1) 3 1 fx n (intsZ E.F)) (hfx : ∀ g, fx.ownBlock = some g → w0.heap.size + 1 ≤ g ∧ g < wr.heap.size ∧ vT.ownBlock ≠ some g ∧ vP.ownBlock ≠ some g) :
    PSt w0 w7 m D S vT v' T (Ts ++ [(E.P, E.W, fx)]) (Es ++ [E]) := by
  subst hn
  have hs0 := hg.size
  have hsa : (wr.alloc ob).heap.size = wr.heap.size + 1 := World.size_alloc _ _
  have hs : wr.heap.size ≤ w7.heap.size := by omega
  have hk : ∀ g, g < wr.heap.size → vP.ownBlock ≠ some g → w7.heap[g]? = wr.heap[g]? := fun g hlt hne => by
    rw [hg.block g (by omega) (fun e => hne e.symm)]; exact Below.heap_alloc _ _ _ hlt
  have hrow := h.proof.lt
  have hrowT := h.todo.lt
  have hB : Below w0.heap.size wr w7 := ((Below.refl _ wr).alloc (by have := h.lt; omega) ob).grown hg (by have := h.lt; omega) (fun k hk => by have := (hrow k hk).1; omega)
  have hdis2 : ∀ g, g < wr.heap.size → vP.ownBlock ≠ some g → v'.ownBlock ≠ some g := fun g hlt h1 e => by
    rcases hv' with hv' | hv'
    · exact h1 (hv'.symm.trans e)
    · rw [hv'] at e; injection e with e; omega
  refine ⟨h.below.trans hB, by have := h.lt; omega, map_at h.map (hk _ h.lt (fun e => by have := (hrow _ e).1; omega)), h.set, own_at h.todo (fun g hg1 hg2 => hk g hg2 (fun e => h.dis g hg1 e)), ?_, ?_, by simp [h.len], fun j hj hj2 => ?_⟩
  · rw [List.length_append, flatT_push]; exact hown
  · intro g h1
    exact hdis2 g (hrowT g h1).2 (h.dis g h1)
  · by_cases hjl : j < Ts.length
    · have hjl2 : j < Es.length := by have := h.len; omega
      obtain ⟨a1, a2, a3, a4⟩ := h.each_at hs (fun g hg1 _ _ hg4 => hk g hg1 hg4) j hjl hjl2
      rw [List.getElem_append_left hjl, List.getElem_append_left hjl2]
      exact ⟨a1, a2, a3, fun g hg => by have := a4 g hg; exact ⟨this.1, by omega, this.2.2.1, hdis2 g this.2.1 this.2.2.2⟩⟩
    · have hjj : j = Ts.length := by simp at hj; omega
      have hje : j = Es.length := by have := h.len; omega
      have e1 : (Ts ++ [(E.P, E.W, fx)])[j] = (E.P, E.W, fx) := by subst hjj; simp
      have e2 : (Es ++ [E])[j] = E := by
        rw [List.getElem_append_right (by omega)]; simp [hje]
      rw [e1, e2]
      refine ⟨rfl, rfl, own_at hR (fun g hg1 hg2 => hk g hg2 (hfx g hg1).2.2.2), fun g hg1 => ?_⟩
      have := hfx g hg1
      exact ⟨this.1, by omega, this.2.2.1, hdis2 g this.2.1 this.2.2.2⟩

end Go.Proofs.Ytldfbadcigdbkaa
