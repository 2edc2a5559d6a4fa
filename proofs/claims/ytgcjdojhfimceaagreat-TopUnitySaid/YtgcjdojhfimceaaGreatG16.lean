/- Texts of the proof, laid together. -/
import Derived.Test.YtgcjdojhfimceaaGreatG15
import Derived.Test.YtgcjdojhfimceaaGreatG10
import Derived.Test.YtgcjdojhfimceaaGreatG09
import Derived.Sort.OwnSorted
import Derived.Shelf.SlSortCmp.NoneTotal
import Derived.Deep.RegionHeld3
import Derived.Deep.LoopGhost
namespace Go.Proofs.YtgcjdojhfimceaaGreat
open Go.RowKit Go.Sort Go.Proofs Go.Shelf Go.Lib

theorem heap_sortedV {w : World} {g n : Nat} {os : Array Obj} {cur : Array Value} {e : TypeId} {fr : Nat × Nat} (d : Array Value) (hb : w.heap[g]? = some (.cells cur e fr)) :
    (grow (putRow id (Sort.ahead w n) g 0 d) os).heap[g]? = some (.cells (putCells id 0 d cur) e fr) := by
  have hg : g < w.heap.size := (Array.getElem?_eq_some_iff.1 hb).1
  rw [heap_grow_old _ _ (by simpa using hg)]
  simp [putRow, mapBlock, Sort.ahead, Array.getElem?_modify, hb, onCells]

theorem grownBy_sortedV {w : World} {g n : Nat} {os : Array Obj} (d : Array Value) : w.grownBy (grow (putRow id (Sort.ahead w n) g 0 d) os) (some g) := by
  refine ⟨rfl, rfl, rfl, by simp, fun k hk hne => ?_⟩
  rw [heap_grow_old _ _ (by simpa using hk)]
  have : g ≠ k := fun e => hne (by rw [e])
  simp [putRow, mapBlock, Sort.ahead, Array.getElem?_modify, this]

theorem take_putCellsV (cur : Array Value) (ts : List Value) (h : ts.length ≤ cur.size) : (putCells id 0 ts.toArray cur).toList.take ts.length = ts := by
  apply List.ext_getElem?
  intro j
  by_cases hj : j < ts.length
  · rw [List.getElem?_take_of_lt hj, Array.getElem?_toList]
    simp [putCells, hj, show j < cur.size by omega]
  · rw [List.getElem?_take_eq_none (by omega), List.getElem?_eq_none (by omega)]

theorem ownsRow_sortedV {w : World} {base g cap n m size : Nat} {e : TypeId} {os : Array Obj} {xs ts : List Value} (h : w.ownsRow base e size (.slice (some ⟨g, 0, none⟩) m cap) m xs) (hl : ts.length = m * size) :
    (grow (putRow id (Sort.ahead w n) g 0 ts.toArray) os).ownsRow base e size (.slice (some ⟨g, 0, none⟩) m cap) m ts := by
  rcases h.2 with ⟨h0, _⟩ | ⟨g', cap', cur, h1, h2, h3, h4, h5, h6, h7⟩
  · cases h0
  cases h1
  refine ⟨hl, .inr ⟨g, cap, _, rfl, h2, heap_sortedV _ h3, h4, h5, by simp [putCells, h6], ?_⟩⟩
  rw [← hl]
  exact take_putCellsV cur ts (by rw [hl, h6]; exact Nat.mul_le_mul_right _ h4)

/-- A factor in memory, which stays there while the row in block blk is sorted. -/
structure FacAt (w : World) (blk : Nat) where
  v : Value
  M : List Nat
  e : Nat
  rd : Rd w v 1 M.length (nats M)
  ne : M.length ≠ 0 → v.ownBlock ≠ some blk
  len : M.length ≤ 100000
  small : ∀ x ∈ M, x ≤ 100000

instance (w : World) (blk : Nat) : Inhabited (FacAt w blk) := ⟨⟨.slice none 0 0, [], 0, ⟨rfl, none, 0, rfl, Nat.le_refl _, .inl rfl⟩, fun h => absurd rfl h, by simp, by simp⟩⟩

def FacAt.enc {w : World} {blk : Nat} (x : FacAt w blk) : List Value := [x.v, .int .i64 x.e]
def FacAt.ord {w : World} {blk : Nat} (x y : FacAt w blk) : Int := Q.ordP x.M y.M

theorem FacAt.keep {w : World} {blk : Nat} (x : FacAt w blk) (off m : Nat) (dk : Array (FacAt w blk)) (os : Array Obj) : Rd (sortWorldK FacAt.enc 2 w blk off m dk os) x.v 1 x.M.length (nats x.M) := by
  obtain ⟨h1, a, cap, h2, h3, h4⟩ := x.rd
  refine ⟨h1, a, cap, h2, h3, ?_⟩
  rcases h4 with h4 | ⟨b, h5, h6, h7⟩
  · exact .inl h4
  · by_cases h0 : x.M.length = 0
    · exact .inl h0
    have hb : b ≠ blk := fun e => x.ne h0 (by rw [h2, h5, e]; rfl)
    refine .inr ⟨b, h5, Nat.lt_of_lt_of_le h6 (size_sortWorldK_c _ _ _ _ _ _ _ _), fun j u hu => ?_⟩
    rw [cell?_sortWorldK_other _ _ _ _ _ _ _ _ _ hb h6]
    exact h7 j u hu

theorem drewN_grow (w : World) (os : Array Obj) (n : Nat) : (grow w os).drewN n = grow (w.drewN n) os := by
  induction n generalizing w with
  | zero => rfl
  | succ n ih => first | rfl | (simp only [World.drewN]; rw [← ih]; rfl)

set_option maxRecDepth 100000 in
set_option maxHeartbeats 1000000 in
theorem facLess_is (F G : List Nat) (v u : Value) (e1 e2 : Int) (W : World) (hv : Hid (Rd W v 1 F.length (nats F))) (hu : Hid (Rd W u 1 G.length (nats G))) (hl : F.length ≤ 100000) (hl2 : G.length ≤ 100000) (hx : Hid (∀ x ∈ F, x ≤ 100000)) (hy : Hid (∀ x ∈ G, x ≤ 100000)) :
    Calls Tryz.prog 35 #[.agg #[v, .int .i64 e1], .agg #[u, .int .i64 e2]] W fun e w' => e = .returned (.int .i64 (Q.ordP F G)) ∧ ∃ q os', w' = grow (W.drewN q) os' := by
  obtain ⟨av, cv, rfl⟩ := hv.out.shape
  obtain ⟨au, cu, rfl⟩ := hu.out.shape
  obtain ⟨n, hn⟩ : ∃ n, n = F.length := ⟨_, rfl⟩
  obtain ⟨m, hm⟩ : ∃ m, m = G.length := ⟨_, rfl⟩
  have HV : Hid (∀ W', Below W.heap.size W W' → Rd W' (.slice av n cv) 1 F.length (nats F)) := fun W' hB => by rw [hn]; exact hv.out.below hB (Nat.le_refl _)
  have HU : Hid (∀ W', Below W.heap.size W W' → Rd W' (.slice au m cu) 1 G.length (nats G)) := fun W' hB => by rw [hm]; exact hu.out.below hB (Nat.le_refl _)
  have HO : Hid (∀ o1 o2 k, Below W.heap.size W (((W.alloc o1).alloc o2).drewN k)) := fun o1 o2 k => below_drewN (((Below.refl _ _).alloc (Nat.le_refl _) _).alloc (by simp) _) k
  rw [← hn, ← hm]
  clear hn hm hv hu
  go_enter Tryz.func35, Tryz.ntmps35
  go_wp2_with (fail)
  refine (order_is F G _ _ _ (fun k => HV.out _ (HO.out _ _ k)) (fun k => HU.out _ (HO.out _ _ k)) hl hl2 hx hy).mono ?_
  rintro e w' ⟨rfl, n, rfl⟩
  go_wp2_with (fail)
  go_ret
  exact ⟨rfl, n, _, by rw [alloc_eq_grow, alloc_eq_grow, grow_grow, drewN_grow]⟩

end Go.Proofs.YtgcjdojhfimceaaGreat

namespace Go.Proofs.YtgcjdojhfimceaaGreat
open Go.RowKit Go.Sort Go.Proofs Go.Shelf Go.Lib

theorem Q.ordP_self : ∀ f : List Nat, Q.ordP f f = 0
  | [] => rfl
  | a :: f => by rw [Q.ordP_cons, Q.ordP_self f, if_pos rfl]; unfold Lib.compareInt; rw [if_neg (by omega), if_neg (by omega)]

/-- The order as a relation: less. -/
def Q.LtP (f g : List Nat) : Prop := Q.ordP f g < 0

theorem cmpInt_cases (a b : Int) : (Lib.compareInt a b = -1 ∧ a < b) ∨ (Lib.compareInt a b = 0 ∧ a = b) ∨ (Lib.compareInt a b = 1 ∧ b < a) := by
  unfold Lib.compareInt
  by_cases h : a < b
  · exact .inl ⟨by rw [if_pos h], h⟩
  · by_cases h2 : b < a
    · exact .inr (.inr ⟨by rw [if_neg h, if_pos h2], h2⟩)
    · exact .inr (.inl ⟨by rw [if_neg h, if_neg h2], by omega⟩)

theorem Q.ordP_flip : ∀ f g : List Nat, Q.ordP g f = - Q.ordP f g
  | [], [] => rfl
  | [], _ :: _ => rfl
  | _ :: _, [] => rfl
  | a :: f, b :: g => by
    rw [Q.ordP_cons, Q.ordP_cons, Q.ordP_flip f g]
    by_cases h : Q.ordP f g = 0
    · rw [h, if_pos (by rfl), if_pos rfl]
      rcases cmpInt_cases (a : Int) b with h1 | h1 | h1 <;> rcases cmpInt_cases (b : Int) a with h2 | h2 | h2 <;> omega
    · rw [if_neg h, if_neg (by omega)]

theorem Q.ordP_eq : ∀ {f g : List Nat}, Q.ordP f g = 0 → f = g
  | [], [], _ => rfl
  | [], _ :: _, h => by simp [Q.ordP] at h
  | _ :: _, [], h => by simp [Q.ordP] at h
  | a :: f, b :: g, h => by
    rw [Q.ordP_cons] at h
    by_cases h1 : Q.ordP f g = 0
    · rw [if_pos h1] at h
      rcases cmpInt_cases (a : Int) b with h2 | h2 | h2
      · omega
      · rw [Q.ordP_eq h1, show a = b by omega]
      · omega
    · rw [if_neg h1] at h; exact absurd h h1

theorem Q.ordP_tri (f g : List Nat) : Q.ordP f g = -1 ∨ Q.ordP f g = 0 ∨ Q.ordP f g = 1 := by
  match f, g with
  | [], [] => exact .inr (.inl rfl)
  | [], _ :: _ => exact .inl rfl
  | _ :: _, [] => exact .inr (.inr rfl)
  | a :: f, b :: g =>
    rw [Q.ordP_cons]
    by_cases h : Q.ordP f g = 0
    · rw [if_pos h]; rcases cmpInt_cases (a : Int) b with h2 | h2 | h2 <;> omega
    · rw [if_neg h]; exact Q.ordP_tri f g

theorem Q.ordP_trans : ∀ {f g h : List Nat}, Q.ordP f g = -1 → Q.ordP g h = -1 → Q.ordP f h = -1
  | [], [], _, h1, _ => by simp [Q.ordP] at h1
  | [], _ :: _, [], _, h2 => by simp [Q.ordP] at h2
  | [], _ :: _, _ :: _, _, _ => rfl
  | _ :: _, [], _, h1, _ => by simp [Q.ordP] at h1
  | _ :: _, _ :: _, [], _, h2 => by simp [Q.ordP] at h2
  | a :: f, b :: g, c :: h, h1, h2 => by
    rw [Q.ordP_cons] at h1 h2 ⊢
    by_cases e1 : Q.ordP f g = 0
    · have := Q.ordP_eq e1; subst this
      rw [if_pos e1] at h1
      by_cases e2 : Q.ordP f h = 0
      · rw [if_pos e2] at h2 ⊢
        rcases cmpInt_cases (a : Int) b with h3 | h3 | h3 <;> rcases cmpInt_cases (b : Int) c with h4 | h4 | h4 <;> rcases cmpInt_cases (a : Int) c with h5 | h5 | h5 <;> omega
      · rw [if_neg e2] at h2 ⊢; exact h2
    · rw [if_neg e1] at h1
      by_cases e2 : Q.ordP g h = 0
      · have := Q.ordP_eq e2; subst this
        rw [if_neg e1]; exact h1
      · rw [if_neg e2] at h2
        have := Q.ordP_trans h1 h2
        rw [if_neg (by omega)]; exact this

theorem facSWO (w : World) (blk : Nat) : SWO (ltOf (FacAt.ord (w := w) (blk := blk))) where
  irrefl x := by simp [ltOf, FacAt.ord, Q.ordP_self]
  trans x y z h1 h2 := by
    have g1 : Q.ordP x.M y.M < 0 := of_decide_eq_true h1
    have g2 : Q.ordP y.M z.M < 0 := of_decide_eq_true h2
    have := Q.ordP_trans (f := x.M) (g := y.M) (h := z.M) (by rcases Q.ordP_tri x.M y.M with h | h | h <;> omega) (by rcases Q.ordP_tri y.M z.M with h | h | h <;> omega)
    exact decide_eq_true (show Q.ordP x.M z.M < 0 by omega)
  ntrans x y z h1 h2 := by
    have g1 : ¬ Q.ordP x.M y.M < 0 := of_decide_eq_false h1
    have g2 : ¬ Q.ordP y.M z.M < 0 := of_decide_eq_false h2
    refine decide_eq_false (show ¬ Q.ordP x.M z.M < 0 from fun h3 => ?_)
    rcases Q.ordP_tri x.M y.M with h | h | h
    · omega
    · have e := Q.ordP_eq h; rw [e] at h3; omega
    · have e : Q.ordP y.M x.M = -1 := by rw [Q.ordP_flip x.M y.M, h]
      have := Q.ordP_trans e (h := z.M) (by rcases Q.ordP_tri x.M z.M with h | h | h <;> omega)
      omega

set_option maxHeartbeats 1000000 in
theorem sortFacs_is (blk cap : Nat) (w : World) (d : Array (FacAt w blk)) (hH : HoldsK FacAt.enc 2 w blk 0 d) (hblk : blk < w.heap.size) (hsz : d.size < 1000000000) :
    Calls Tryz.prog 34 #[.slice (some ⟨blk, 0, none⟩) d.size cap, .func (.func 35) #[] #[]] w fun e w' => e = .returned (.tuple #[]) ∧ ∃ d' n os, PermIn 0 d.size d d' ∧ SortedIn (ltOf (FacAt.ord (w := w) (blk := blk))) 0 d.size d' ∧ w' = sortWorldK FacAt.enc 2 w blk 0 n d' os := by
  have eg : ∀ args w, (callFunc 35 args).run Tryz.prog w = .ok (.enter 35 args) w := enters_of Tryz.func35 (by kernel_rfl) rfl
  refine AnyQ.slices_SortFunc Tryz.sortFactors 2 Tryz.isAgg31 Tryz.sizeOf31 FacAt.enc (fun _ => rfl) (fun x v hv => ?_) FacAt.ord (facSWO w blk) 35 #[] blk 0 cap d w eg ?_ hH hblk (by omega)
  · obtain ⟨a, cp, e⟩ := x.rd.shape
    simp [FacAt.enc] at hv
    rcases hv with rfl | rfl
    · rw [e]; rfl
    · rfl
  · intro m os dk _ x y
    exact facLess_is x.M y.M x.v y.v x.e y.e _ (x.keep 0 m dk os) (y.keep 0 m dk os) x.len y.len x.small y.small

end Go.Proofs.YtgcjdojhfimceaaGreat

namespace Go.Proofs.YtgcjdojhfimceaaGreat
open Go.RowKit

abbrev FacE := Value × List Nat × Nat
def flatF (L : List FacE) : List Value := L.flatMap fun x => [x.1, .int .i64 (x.2.2 : Int)]
def strip (L : List FacE) : List (List Nat × Nat) := L.map fun x => x.2
theorem flatF_append (L L' : List FacE) : flatF (L ++ L') = flatF L ++ flatF L' := by simp [flatF]

/-- A row of factors under way. -/
structure FcS (w wr : World) (v : Value) (L : List FacE) : Prop where
  own : wr.ownsRow w.heap.size 31 2 v L.length (flatF L)
  rows : ∀ x ∈ L, RowS w wr x.1 x.2.1
  below : Below w.heap.size w wr
  small : ∀ x ∈ L, x.2.1.length ≤ 100000 ∧ ∀ y ∈ x.2.1, y ≤ 100000

theorem FcS.low {w wr wx : World} {v : Value} {L : List FacE} (h : FcS w wr v L) (hB : Below wr.heap.size wr wx) : FcS w wx v L :=
  ⟨own_kept h.own hB, fun x hx => (h.rows x hx).low hB, h.below.trans (hB.mono h.below.size), h.small⟩
theorem FcS.nil {w wr : World} (hB : Below w.heap.size w wr) : FcS w wr (.slice none 0 0) [] := ⟨World.ownsRow_nil _ _ _ _, fun x hx => by simp at hx, hB, fun x hx => by simp at hx⟩
theorem FcS.append {w wr wx : World} {v v' : Value} {L : List FacE} {x : FacE} {o : Obj} (h : FcS w wr v L) (hx : RowS w wr x.1 x.2.1) (hsm : x.2.1.length ≤ 100000 ∧ ∀ y ∈ x.2.1, y ≤ 100000)
    (hown : wx.ownsRow w.heap.size 31 2 v' (L.length + 1) (flatF L ++ [x.1, .int .i64 (x.2.2 : Int)])) (hg : (wr.alloc o).grownBy wx v.ownBlock) : FcS w wx v' (L ++ [x]) := by
  have hBa : Below wr.heap.size wr (wr.alloc o) := (Below.refl _ _).alloc (Nat.le_refl _) _
  have hk : ∀ (t : Value) (N : List Nat), RowS w wr t N → RowS w wx t N := fun t N h1 => by
    rcases h1 with h1 | h1
    · exact .inl h1
    · exact .inr ((own_kept h1 hBa).kept hg (own_ty_ne2 h1 h.own (by decide)))
  refine ⟨?_, fun y hy => ?_, (h.below.trans (hBa.mono h.below.size)).grown hg (Nat.le_trans h.below.size hBa.size) fun g hg' => (h.own.lt g hg').1, fun y hy => ?_⟩
  · rw [List.length_append, flatF_append]
    exact hown
  · rcases List.mem_append.1 hy with h1 | h1
    · exact hk _ _ (h.rows y h1)
    · simp at h1; subst h1; exact hk _ _ hx
  · rcases List.mem_append.1 hy with h1 | h1
    · exact h.small y h1
    · simp at h1; subst h1; exact hsm

theorem RowS.grown {w wr wx : World} {u al : Value} {M : List Nat} {L : List FacE} {o : Obj} (h : RowS w wr u M) (ho : FcS w wr al L) (hg : (wr.alloc o).grownBy wx al.ownBlock) : RowS w wx u M := by
  have hBa : Below wr.heap.size wr (wr.alloc o) := (Below.refl _ _).alloc (Nat.le_refl _) _
  rcases h with h1 | h1
  · exact .inl h1
  · exact .inr ((own_kept h1 hBa).kept hg (own_ty_ne2 h1 ho.own (by decide)))

theorem MxS.grownF {w wr wx : World} {v al : Value} {vs : List Value} {Ms : List (List Nat)} {L : List FacE} {o : Obj} (h : MxS w wr v vs Ms) (ho : FcS w wr al L) (hg : (wr.alloc o).grownBy wx al.ownBlock) : MxS w wx v vs Ms := by
  have hBa : Below wr.heap.size wr (wr.alloc o) := (Below.refl _ _).alloc (Nat.le_refl _) _
  exact ⟨(own_kept h.own hBa).kept hg (own_ty_ne2 h.own ho.own (by decide)), fun i u M h1 h2 => (h.rows i u M h1 h2).grown ho hg,
    (h.below.trans (hBa.mono h.below.size)).grown hg (Nat.le_trans h.below.size hBa.size) fun g hg' => (ho.own.lt g hg').1⟩

theorem Tryz.infoF : (Tryz.prog.info? 31).map (fun i => (i.zero, i.size, i.bytes)) = some (some (.agg #[.slice none 0 0, .int .i64 0]), 2, 32) := by kernel_rfl

end Go.Proofs.YtgcjdojhfimceaaGreat

namespace Go.Proofs.YtgcjdojhfimceaaGreat
open Go.RowKit Go.Sort Go.Proofs Go.Shelf Go.Lib

def FacAt.toE {w : World} {blk : Nat} (x : FacAt w blk) : FacE := (x.v, x.M, x.e)

theorem flatF_length (L : List FacE) : (flatF L).length = L.length * 2 := by
  induction L with
  | nil => rfl
  | cons x L ih => rw [flatF, List.flatMap_cons, List.length_append, List.length_cons]; rw [flatF] at ih; rw [ih]; simp; omega

theorem flatF_get : ∀ (L : List FacE) (t : Nat) (h : t / 2 < L.length), (flatF L)[t]? = some ([L[t / 2].1, Value.int .i64 (L[t / 2].2.2 : Int)][t % 2]!)
  | [], t, h => by simp at h
  | x :: L, 0, h => rfl
  | x :: L, 1, h => rfl
  | x :: L, t + 2, h => by
    have h1 : (t + 2) / 2 = t / 2 + 1 := by omega
    have h2 : (t + 2) % 2 = t % 2 := by omega
    have h3 : t / 2 < L.length := by rw [h1] at h; simpa using h
    have e : flatF (x :: L) = x.1 :: .int .i64 (x.2.2 : Int) :: flatF L := rfl
    rw [e, List.getElem?_cons_succ, List.getElem?_cons_succ, flatF_get L t h3]
    simp only [h1, h2, List.getElem_cons_succ]

theorem flatK_eq {w : World} {blk : Nat} (d : Array (FacAt w blk)) : flatK FacAt.enc 2 d = (flatF (d.toList.map FacAt.toE)).toArray := by
  apply Array.ext
  · simp [flatF_length]
  · intro t h1 h2
    have h3 : t < d.size * 2 := by simpa using h1
    have h4 := get_flatK FacAt.enc 2 d t h3
    rw [getElem!_pos _ t h1] at h4
    rw [h4]
    have h5 : t / 2 < (d.toList.map FacAt.toE).length := by simp; omega
    have h6 := flatF_get (d.toList.map FacAt.toE) t h5
    have h7 : (flatF (d.toList.map FacAt.toE)).toArray[t] = [(d.toList.map FacAt.toE)[t / 2].1, Value.int .i64 ((d.toList.map FacAt.toE)[t / 2].2.2 : Int)][t % 2]! := by
      have h8 : t < (flatF (d.toList.map FacAt.toE)).length := by simpa using h2
      rw [List.getElem?_eq_getElem h8] at h6
      have h6 := Option.some.inj h6
      simpa using h6
    rw [h7]
    have h9 : t / 2 < d.size := by omega
    rw [getElem!_pos d (t / 2) h9]
    simp [FacAt.enc, FacAt.toE]

theorem sortList_is {w wr : World} {v : Value} {L : List FacE} (h : FcS w wr v L) (hl : L.length ≤ 100000000) :
    Calls Tryz.prog 34 #[v, .func (.func 35) #[] #[]] wr fun e w' => e = .returned (.tuple #[]) ∧ ∃ L', FcS w w' v L' ∧ L'.Perm L ∧ L'.Pairwise fun a b => ¬ Q.ordP b.2.1 a.2.1 < 0 := by
  obtain ⟨a, cap, hv, _, _, hg⟩ := own_form h.own
  by_cases h0 : L.length = 0
  · obtain rfl := List.length_eq_zero_iff.1 h0
    subst hv
    refine (AnyF.slices_SortFunc_none Tryz.sortFactors a cap (.func (.func 35) #[] #[]) wr).mono ?_
    rintro e w' ⟨he, rfl⟩
    exact ⟨he, [], h, List.Perm.refl _, List.Pairwise.nil⟩
  · obtain ⟨g, rfl, hb, hgl⟩ := hg (by omega)
    subst hv
    have hne : ∀ x ∈ L, x.2.1.length ≠ 0 → x.1.ownBlock ≠ some g := fun x hx _hx0 => by
      rcases h.rows x hx with h1 | h1
      · exact h1.1.elim
      · rcases own_ty_ne2 h1 h.own (by decide) with h2 | h2
        · rw [h2]; simp
        · exact h2
    obtain ⟨d, hd⟩ : ∃ d : Array (FacAt wr g), d.toList.map FacAt.toE = L :=
      ⟨(L.attach.map fun x => (⟨x.1.1, x.1.2.1, x.1.2.2, (h.rows x.1 x.2).rd h.below, hne x.1 x.2, (h.small x.1 x.2).1, (h.small x.1 x.2).2⟩ : FacAt wr g)).toArray, by
        simp only [List.map_map]
        have : (FacAt.toE ∘ fun x : { x // x ∈ L } => (⟨x.1.1, x.1.2.1, x.1.2.2, (h.rows x.1 x.2).rd h.below, hne x.1 x.2, (h.small x.1 x.2).1, (h.small x.1 x.2).2⟩ : FacAt wr g)) = Subtype.val := by
          funext x; rfl
        rw [this]; exact List.attach_map_subtype_val L⟩
    have hds : d.size = L.length := by rw [← hd]; simp
    have hH : HoldsK FacAt.enc 2 wr g 0 d := by
      unfold HoldsK
      rw [flatK_eq, hd]
      intro j hj
      have hj' : j < (flatF L).length := by simpa using hj
      refine ⟨?_, by rw [Nat.zero_add]; exact h.own.frozenAt j⟩
      rw [Nat.zero_add, h.own.cellAt j (by rw [← flatF_length]; exact hj')]
      simp [hj']
    have hc := sortFacs_is g cap wr d hH hgl (by omega)
    rw [hds] at hc
    refine hc.mono ?_
    rintro e w' ⟨he, d', n, os, hp, hs, rfl⟩
    have hds' : d'.size = L.length := by rw [hp.1, hds]
    have hw : sortWorldK FacAt.enc 2 wr g 0 n d' os = grow (putRow id (Sort.ahead wr n) g 0 (flatF (d'.toList.map FacAt.toE)).toArray) os := by
      rw [← flatK_eq]; rfl
    have hgr : wr.grownBy (sortWorldK FacAt.enc 2 wr g 0 n d' os) (some g) := by rw [hw]; exact grownBy_sortedV _
    have hperm : (d'.toList.map FacAt.toE).Perm L := by
      rw [← hd]
      refine List.Perm.map _ ?_
      have h1 := hp.2.2
      have e1 : d'.extract 0 L.length = d' := by rw [← hds']; simp
      have e2 : d.extract 0 L.length = d := by rw [← hds]; simp
      rw [e1, e2] at h1
      exact h1
    have hlen : (d'.toList.map FacAt.toE).length = L.length := by simp [hds']
    refine ⟨he, d'.toList.map FacAt.toE, ⟨?_, fun x hx => ?_, h.below.grown hgr h.below.size fun k hk => by injection hk with hk; omega, fun x hx => h.small x (hperm.mem_iff.1 hx)⟩, hperm, ?_⟩
    · rw [hw, hlen]
      exact ownsRow_sortedV h.own (by rw [flatF_length, hlen])
    · rcases h.rows x (hperm.mem_iff.1 hx) with h1 | h1
      · exact .inl h1
      · exact .inr (h1.kept hgr (own_ty_ne2 h1 h.own (by decide)))
    · rw [List.pairwise_iff_getElem]
      intro i j hi hj hij
      have hj' : j < d'.size := by simpa using hj
      have h1 := hs i j (Nat.zero_le _) hij (by rw [← hds']; exact hj')
      have h2 := of_decide_eq_false h1
      rw [getElem!_pos d' j hj', getElem!_pos d' i (by omega)] at h2
      simpa [FacAt.toE, FacAt.ord] using h2

end Go.Proofs.YtgcjdojhfimceaaGreat

namespace Go.Proofs.YtgcjdojhfimceaaGreat
open Go.RowKit

set_option maxRecDepth 100000 in
set_option maxHeartbeats 4000000 in
theorem factLoop_walk (p N : Nat) (F : List Nat) (v : Value) (w ws : World) (fin : List (List Nat × Nat)) (hP : Hid (M.Pr p)) (hp2 : p ≤ 1021) (hr : Hid (RowS w ws v F)) (hBw : Hid (Below w.heap.size w ws)) (hF : Hid (Q.Pol p F)) (hl : F.length ≤ 1000) (h0 : F.length ≠ 0) (hN : N ≤ 1001) (hD : Hid (Q.factLoop p N 1 F = some fin)) :
    Calls Tryz.prog 14 #[.int .i64 p, v] ws fun x w' => ∃ v' L, x = .returned v' ∧ FcS w w' v' L ∧ (strip L).Perm fin ∧ (strip L).Pairwise fun a b => ¬ Q.ordP b.1 a.1 < 0 := by
  have hp : 2 ≤ p := hP.out.1
  obtain ⟨av, cv, rfl⟩ := (hr.out.rd hBw.out).shape
  obtain ⟨n, hn⟩ : ∃ n, n = F.length := ⟨_, rfl⟩
  have HN := Lib.hid hn
  have HV0 : Hid (RowS w ws (.slice av n cv) F) := by show RowS _ _ _ _; rw [hn]; exact hr.out
  rw [← hn] at hl h0 ⊢
  have HL0 : Hid (FcS w ws (.slice none 0 0) []) := FcS.nil hBw.out
  have HD0 : Hid (∃ rest, Q.factLoop p N 1 F = some rest ∧ fin = strip [] ++ rest) := ⟨fin, hD.out, rfl⟩
  have HB0 : Hid (1 * (F.length - 1) ≤ 1000000) := by show _ ≤ _; omega
  obtain ⟨i0, hi, hz0, hz1, hz2⟩ := info_parts Tryz.infoF
  clear hn hr
  go_enter Tryz.func14, Tryz.ntmps14
  go_wp2_with (fail)
  go_loopg [1, 5, 6] N (fun g fv lv tv wx => ∃ (k cf t m cl : Nat) (af al : Option Addr) (f : List Nat) (L : List FacE), fv = .slice af k cf ∧ lv = .slice al m cl ∧ tv = .int .i64 t ∧ k ≤ 1000 ∧ k ≠ 0 ∧ t ≤ 1021000000 ∧ g ≤ N ∧ m ≤ 1000 * (N - g) ∧ Hid (k = f.length) ∧ Hid (m = L.length) ∧ Hid (RowS w wx (.slice af k cf) f) ∧ Hid (Q.Pol p f) ∧ Hid (FcS w wx (.slice al m cl) L) ∧ Hid (t * (f.length - 1) ≤ 1000000) ∧ Hid (∃ rest, Q.factLoop p g t f = some rest ∧ fin = strip L ++ rest))
  case atStart => exact ⟨n, cv, 1, 0, 0, av, none, F, [], rfl, rfl, rfl, hl, h0, by omega, Nat.le_refl _, by omega, HN, (by show _ = _; rfl), HV0, hF, HL0, HB0, HD0⟩
  case round =>
    obtain ⟨k, cf, t, m, cl, af, al, f, L, rfl, rfl, rfl, hk, hk0, ht, hgN, hm, HK, HM, HV, HPf, HL, HT, HR⟩ := hrel
    cases gk with
    | zero =>
      exfalso
      obtain ⟨rest, h1, _⟩ := HR.out
      cases h1
    | succ g =>
      by_cases hk1 : k ≤ 1
      · have hd1 : ¬ (1 : Int) < (k : Int) := by omega
        have HE : Hid (fin = strip L) := by
          obtain ⟨rest, h1, h2⟩ := HR.out
          rw [Q.fact_small (by rw [← HK.out]; exact hk1)] at h1
          injection h1 with h1
          show _ = _
          rw [h2, ← h1, List.append_nil]
        clear hk1
        go_wp2_with (fail)
        refine (sortList_is HL.out (by have := HM.out; omega)).mono ?_
        rintro e w2 ⟨rfl, L', hF2, hP2, hS2⟩
        have HEND : Hid (FcS w w2 (.slice al m cl) L' ∧ (strip L').Perm fin ∧ (strip L').Pairwise fun a b => ¬ Q.ordP b.1 a.1 < 0) :=
          ⟨hF2, by rw [HE.out]; exact hP2.map _, by unfold strip; rw [List.pairwise_map]; exact hS2⟩
        clear hF2 hP2 hS2
        go_wp2_with (fail)
        go_ret
        exact ⟨_, rfl, L', HEND.out⟩
      · have hd1 : (1 : Int) < (k : Int) := by omega
        have HB : Hid (Below w.heap.size w wr) := HL.out.below
        have HRf : Hid (Rd wr (.slice af k cf) 1 f.length (nats f)) := HV.out.rd HB.out
        go_wp2_with (fail)
        refine (derivative_is p f _ _ hp hp2 HRf HPf.out.1 (by have := HK.out; omega) (by have := HK.out; omega)).mono ?_
        rintro e w1 ⟨⟨v1, rfl, hN1⟩, hB1⟩
        have HV1 := Lib.hid (HV.out.low hB1)
        have HL1 := Lib.hid (HL.out.low hB1)
        have HS1 : Hid (Rd w1 v1 1 (Q.deriv p f).length (nats (Q.deriv p f))) := hN1.rd
        obtain ⟨s, hs⟩ : ∃ s, s = (Q.deriv p f).length := ⟨_, rfl⟩
        have HS := Lib.hid hs
        obtain ⟨a1, c1, hv1⟩ := HS1.out.shape
        subst hv1
        have HS2 : Hid (Rd w1 (.slice a1 s c1) 1 (Q.deriv p f).length (nats (Q.deriv p f))) := by show Rd _ _ _ _ _; rw [hs]; exact HS1.out
        have HRf1 : Hid (Rd w1 (.slice af k cf) 1 f.length (nats f)) := HV1.out.rd HL1.out.below
        rw [← hs]
        clear hN1 hB1 hs HS1 HV HL HRf HB
        by_cases hs0 : s = 0
        · subst hs0
          have hf1 : 2 ≤ f.length := by have := HK.out; omega
          have HR2 : Hid (∃ rest, Q.factLoop p g (t * p) (Q.rootP p f) = some rest ∧ fin = strip L ++ rest) := by
            obtain ⟨rest, h1, h2⟩ := HR.out
            rw [Q.fact_root (by omega) HS.out.symm] at h1
            exact ⟨rest, h1, h2⟩
          have HP2 : Hid (Q.Pol p (Q.rootP p f)) := Q.root_ok hP.out HPf.out hf1 HS.out.symm
          have HT2 : Hid (t * p * ((Q.rootP p f).length - 1) ≤ 1000000) := Nat.le_trans (Q.root_bound p t f) HT.out
          have ht6 : t ≤ 1000000 := by
            have h1 := HT.out
            have h2 : t * 1 ≤ t * (f.length - 1) := Nat.mul_le_mul_left t (by omega)
            omega
          have htp : t * p ≤ 1000000 * 1021 := Nat.mul_le_mul ht6 hp2
          have hrl := Q.root_len p f
          have hdl : (f.length - 1) / p ≤ f.length - 1 := Nat.div_le_self _ _
          have hrl2 : (Q.rootP p f).length ≤ 1000 := by have := HK.out; omega
          have hrl3 : (Q.rootP p f).length ≠ 0 := by rw [hrl]; exact Nat.succ_ne_zero _
          clear hrl hdl
          go_wp2_with (fail)
          refine (rootOf_is p f _ _ hp hp2 HRf1 (by have := HK.out; omega) (by omega)).mono ?_
          rintro e w2 ⟨⟨v2, rfl, hN2⟩, hB2⟩
          have HL2 := Lib.hid (HL1.out.low hB2)
          obtain ⟨a2, c2, hv2⟩ := hN2.rd.shape
          subst hv2
          obtain ⟨r, hr⟩ : ∃ r, r = (Q.rootP p f).length := ⟨_, rfl⟩
          have HRr := Lib.hid hr
          have HV2 : Hid (RowS w w2 (.slice a2 r c2) (Q.rootP p f)) := by show RowS _ _ _ _; rw [hr]; exact .inr (own_base hN2 HL1.out.below.size)
          have htp1 : (0 : Int) ≤ (t : Int) * (p : Int) ∧ (t : Int) * (p : Int) ≤ 1021000000 := by
            have : (t : Int) * (p : Int) = ((t * p : Nat) : Int) := by simp
            omega
          rw [← hr] at hrl2 hrl3 ⊢
          clear hN2 hB2 hr htp
          go_wp2_with (fail)
          go_roundg g
          case measure => omega
          case rel => exact ⟨r, c2, t * p, m, cl, _, _, _, L, rfl, rfl, by first | rfl | simp, hrl2, hrl3, by omega, by omega, by omega, HRr, HM, HV2, HP2, HL2, HT2, HR2⟩
        · have hf1 : 2 ≤ f.length := by have := HK.out; omega
          have hz : ((s : Int) == 0) = false := by rw [beq_eq_false_iff_ne]; omega
          obtain ⟨G, hG⟩ : ∃ G, G = Q.gcdP p f (Q.deriv p f) := ⟨_, rfl⟩
          obtain ⟨S, hS⟩ : ∃ S, S = (Q.divP p f G).1 := ⟨_, rfl⟩
          have hsim := Q.simple_ok hP.out HPf.out hf1 (by have := HS.out; omega)
          rw [← hG, ← hS] at hsim
          have hGP : Q.Pol p G := by rw [hG]; exact (Q.gcdP_is hP.out HPf.out (Q.deriv_pol (by omega) f)).pol
          have HR2 : Hid (∃ l f' l', Q.takeAll p t (Q.splitP p S) f = some (l, f') ∧ Q.factLoop p g t f' = some l' ∧ fin = strip L ++ (l ++ l')) := by
            obtain ⟨rest, h1, h2⟩ := HR.out
            obtain ⟨l, f', l', e1, e2, e3⟩ := Q.fact_take (by omega) (by have := HS.out; omega) h1
            rw [← hG, ← hS] at e1
            exact ⟨l, f', l', e1, e2, by rw [h2, e3]⟩
          have HGP := Lib.hid hGP
          have HSM := Lib.hid hsim
          have HDP : Hid (Q.Pol p (Q.deriv p f)) := Q.deriv_pol (by omega) f
          have hdl : (Q.deriv p f).length ≤ 1000 := by have := Q.deriv_le p f; have := HK.out; omega
          have HGS := Lib.hid (And.intro hG hS)
          clear hsim hGP hS hs0 HR
          go_wp2_with (fail)
          refine (divisorOf_is p f (Q.deriv p f) _ _ _ hP hp2 HRf1 HS2 HPf HDP (by have := HK.out; omega) (by omega)).mono ?_
          rintro e w2 ⟨⟨v2, rfl, hN2⟩, hB2⟩
          rw [← hG] at hN2
          have HG2 : Hid (Rd w2 v2 1 G.length (nats G)) := hN2.rd
          have HV2 := Lib.hid (HV1.out.low hB2)
          have HL2 := Lib.hid (HL1.out.low hB2)
          have HRf2 : Hid (Rd w2 (.slice af k cf) 1 f.length (nats f)) := HV2.out.rd HL2.out.below
          obtain ⟨a2, c2, hv2⟩ := HG2.out.shape
          subst hv2
          clear hN2 hB2 hG HV1 HL1 HRf1 HS2
          go_wp2_with (fail)
          refine (divide_is p f G _ _ _ hP hp2 HRf2 HG2 HPf.out.1 HGP (by have := HK.out; omega) HSM.out.2.2.2).mono ?_
          rintro e w3 ⟨⟨vq, vr, rfl, hNq, hNr⟩, hB3⟩
          rw [← HGS.out.2] at hNq
          obtain ⟨aq, cq, hvq⟩ := hNq.rd.shape
          obtain ⟨ar, cr, hvr⟩ := hNr.rd.shape
          subst hvq hvr
          have HSS : Hid (RowS w w3 (.slice aq S.length cq) S) := .inr (own_base hNq HL2.out.below.size)
          have HV3 := Lib.hid (HV2.out.low hB3)
          have HL3 := Lib.hid (HL2.out.low hB3)
          have HBW3 : Hid (Below w.heap.size w w3) := HL3.out.below
          clear hNq hNr hB3 HV2 HL2 HRf2 HG2
          go_wp2_with (fail)
          refine (split_is p S _ w _ hP hp2 HSS HBW3 HSM.out.1 (by have := HSM.out.2.2.1; have := HK.out; omega) HSM.out.2.1).mono ?_
          rintro e w4 ⟨⟨v4, vs4, rfl, hM4⟩, hB4⟩
          have HV4 := Lib.hid (HV3.out.low hB4)
          have HL4 := Lib.hid (HL3.out.low hB4)
          obtain ⟨Ps, hPs⟩ : ∃ Ps, Ps = Q.splitP p S := ⟨_, rfl⟩
          rw [← hPs] at hM4 HR2
          have hsum := Q.splitP_sum hP.out HSM.out.1 HSM.out.2.1
          rw [← hPs] at hsum
          have hcn : Ps.length ≤ 999 := by have := hsum.count; have := HSM.out.2.2.1; have := HK.out; omega
          have HPO : Hid (∀ M ∈ Ps, Q.Pol p M ∧ 2 ≤ M.length ∧ M.length ≤ 1000) := fun M hM => by
            have h1 := hsum.part M hM
            have := HSM.out.2.2.1; have := HK.out
            exact ⟨h1.1, h1.2.1, by omega⟩
          obtain ⟨a4, c4, hv4, _⟩ := own_form hM4.own
          subst hv4
          obtain ⟨q, hq⟩ : ∃ q, q = Ps.length := ⟨_, rfl⟩
          have HQ := Lib.hid hq
          have HM4 : Hid (MxS w w4 (.slice a4 q c4) vs4 Ps) := by show MxS _ _ _ _ _; rw [hq]; exact hM4
          have HR3 : Hid (∃ l f' l', Q.takeAll p t (Ps.drop 0) f = some (l, f') ∧ Q.factLoop p g t f' = some l' ∧ fin = strip L ++ (l ++ l')) := by rw [List.drop_zero]; exact HR2
          have ht6 : t ≤ 1000000 := by
            have h1 := HT.out
            have h2 : t * 1 ≤ t * (f.length - 1) := Nat.mul_le_mul_left t (by omega)
            omega
          rw [← hq] at hcn ⊢
          have hmb : m + 0 ≤ 1000 * (N - (g + 1)) + 0 := by omega
          clear hM4 hB4 hsum hq hPs HV3 HL3 HSS HR2 hf1 hdl ht hk1 hd1
          go_wp2_with (fail)
          go_loopg [1, 5, 43] q (fun g2 fv lv iv wx => ∃ (j k cf m' cl : Nat) (af al : Option Addr) (f : List Nat) (L : List FacE), fv = .slice af k cf ∧ lv = .slice al m' cl ∧ iv = .int .i64 j ∧ j + g2 = q ∧ k ≤ 1000 ∧ k ≠ 0 ∧ m' ≤ m + j ∧ Hid (k = f.length) ∧ Hid (m' = L.length) ∧ Hid (RowS w wx (.slice af k cf) f) ∧ Hid (Q.Pol p f) ∧ Hid (FcS w wx (.slice al m' cl) L) ∧ Hid (t * (f.length - 1) ≤ 1000000) ∧ Hid (MxS w wx (.slice a4 q c4) vs4 Ps) ∧ Hid (∃ l f' l', Q.takeAll p t (Ps.drop j) f = some (l, f') ∧ Q.factLoop p g t f' = some l' ∧ fin = strip L ++ (l ++ l')))
          case atStart => exact ⟨0, k, cf, m, cl, _, _, f, L, rfl, rfl, rfl, by omega, hk, hk0, by omega, HK, HM, HV4, HPf, HL4, HT, HM4, HR3⟩
          case round =>
            clear HK HM HV4 HPf HL4 HT HR3 hk hk0 HS HDP HGP HSM HGS HBW3
            obtain ⟨j, k, cf, m', cl, af, al, f, L, rfl, rfl, rfl, hjg, hk, hk0, hm', HK, HM, HV, HPf, HL, HT, HB, HR⟩ := hrel
            cases gk with
            | zero =>
              have hjz : ¬ ((j : Int) < (q : Int)) := by omega
              have HRn : Hid (∃ rest, Q.factLoop p g t f = some rest ∧ fin = strip L ++ rest) := by
                obtain ⟨l, f', l', e1, e2, e3⟩ := HR.out
                rw [List.drop_eq_nil_of_le (by have := HQ.out; omega), Q.takeAll] at e1
                injection e1 with e1
                injection e1 with e1 e4
                subst e1 e4
                exact ⟨l', e2, by rw [e3, List.nil_append]⟩
              go_wp2_with (fail)
              go_roundg g
              case measure => omega
              case rel => exact ⟨k, cf, t, m', cl, _, _, f, L, rfl, rfl, rfl, hk, hk0, by omega, by omega, by omega, HK, HM, HV, HPf, HL, HT, HRn⟩
            | succ g2 =>
              have hjz : (j : Int) < (q : Int) := by omega
              have hjq : j < Ps.length := by have := HQ.out; omega
              obtain ⟨gB, cp', hgB, aX, cX, e1, e2⟩ := HB.out.cell hjq
              injection hgB with hgB1 hgB2 hgB3
              subst hgB1
              obtain ⟨X, hX⟩ : ∃ X, X = Ps.getD j [] := ⟨_, rfl⟩
              rw [← hX] at e1 e2
              have hdrop : Ps.drop j = X :: Ps.drop (j + 1) := by
                rw [List.drop_eq_getElem_cons hjq, hX]; simp [List.getD, hjq]
              have hXo := HPO.out X (by rw [hX]; simp [List.getD, hjq])
              have HXP : Hid (Q.Pol p X) := hXo.1
              have hX2 := hXo.2.1
              have hX3 := hXo.2.2
              have HBw : Hid (Below w.heap.size w wr) := HL.out.below
              have hex := Q.takeOut_some hP.out HXP.out hX2 (f.length + 1) f 0 HPf.out (by have := HK.out; omega) (by omega)
              have HR2 : Hid (∃ e f1 l1 f' l', Q.takeOut p X (f.length + 1) 0 f = some (e, f1) ∧ Q.takeAll p t (Ps.drop (j + 1)) f1 = some (l1, f') ∧ Q.factLoop p g t f' = some l' ∧ fin = strip L ++ (((X, e * t) :: l1) ++ l')) := by
                obtain ⟨l, f', l', e1, e2, e3⟩ := HR.out
                rw [hdrop] at e1
                obtain ⟨e, f1, l1, d1, d2, d3⟩ := Q.take_cons e1
                exact ⟨e, f1, l1, f', l', d1, d2, e2, by rw [e3, d3]⟩
              have HEX := Lib.hid hex
              obtain ⟨x, hx⟩ : ∃ x, x = X.length := ⟨_, rfl⟩
              have HX := Lib.hid hx
              have HXS : Hid (RowS w wr (.slice aX x cX) X) := by show RowS _ _ _ _; rw [hx]; exact e2
              have HXR : Hid (Rd wr (.slice aX x cX) 1 X.length (nats X)) := HXS.out.rd HBw.out
              rw [← hx] at e1
              clear hX hdrop hXo hex hx hgB2 hgB3 e2 HR
              go_wp2_with (fail)
              refine (takeOut_is p f X _ _ w _ hP hp2 HV HBw HXR HPf HXP (by have := HK.out; omega) (by have := HK.out; omega) hX2 (by omega)).mono ?_
              rintro ee w5 ⟨e, F', v5, hto, rfl, hV5, hB5⟩
              obtain ⟨kk, f5, e1', e2', e3', e4'⟩ := HEX.out
              rw [hto] at e1'
              injection e1' with e1'
              injection e1' with e5 e6
              rw [Nat.zero_add] at e5
              subst e5 e6
              have HP5 : Hid (Q.Pol p F') := e2'
              have HR5 : Hid (∃ l1 f' l', Q.takeAll p t (Ps.drop (j + 1)) F' = some (l1, f') ∧ Q.factLoop p g t f' = some l' ∧ fin = strip L ++ (((X, e * t) :: l1) ++ l')) := by
                obtain ⟨e0, f1, l1, f', l', d1, d2, d3, d4⟩ := HR2.out
                rw [hto] at d1
                injection d1 with d1
                injection d1 with d5 d6
                subst d5 d6
                exact ⟨l1, f', l', d2, d3, d4⟩
              have HL5 := Lib.hid (HL.out.low hB5)
              have HXS5 := Lib.hid (HXS.out.low hB5)
              have HB5 := Lib.hid (HB.out.low hB5)
              obtain ⟨a5, c5, hv5⟩ := (hV5.rd HL5.out.below).shape
              subst hv5
              obtain ⟨k5, hk5⟩ : ∃ k5, k5 = F'.length := ⟨_, rfl⟩
              have HK5 := Lib.hid hk5
              have HV5 : Hid (RowS w w5 (.slice a5 k5 c5) F') := by show RowS _ _ _ _; rw [hk5]; exact hV5
              have he5 : k5 + e ≤ k := by have := HK.out; omega
              have hk50 : k5 ≠ 0 := by rw [hk5]; exact e3'
              have HT5 : Hid (t * (F'.length - 1) ≤ 1000000) := Nat.le_trans (Nat.mul_le_mul_left t (by have := HK.out; omega)) HT.out
              have het : e * t ≤ 1000 * 1000000 := Nat.mul_le_mul (by omega) ht6
              have het1 : (0 : Int) ≤ (e : Int) * (t : Int) ∧ (e : Int) * (t : Int) ≤ 1000000000 := by
                have : (e : Int) * (t : Int) = ((e * t : Nat) : Int) := by simp
                omega
              rw [← hk5]
              clear hto hV5 hB5 e2' e3' e4' hk5 HR2 HEX HV HL HXS HXR HPf HT HBw het e1
              go_wp2_with (first
                | (at_builtin; refine wpList_append_own _ rfl _ _ 26 rfl w.heap.size 31 i0 (.agg #[.slice none 0 0, .int .i64 0]) 2 32 Tryz.underlying26 hi hz0 hz1 hz2 rfl (by decide) _ _ _ rfl (HL5.out.own.alloc _) ⟨w5.heap.size, 0, none⟩ 1 1 [.slice aX x cX, .int .i64 ((e : Int) * (t : Int))] rfl rfl ?c1 ?c2 ?c3 ?c4 ?c5 ?_))
              case c1 => exact cell_2_new _ _ _ _
              case c2 => intro u hu; simp at hu; rcases hu with rfl | rfl <;> rfl
              case c3 => unfold maxLen; have := HM.out; omega
              case c4 => have := HM.out; omega
              case c5 => simp; have := HL5.out.below.size; omega
              intro v' w6 hown6 hgrow6 _
              have hown6' : w6.ownsRow w.heap.size 31 2 v' (L.length + 1) (flatF L ++ [.slice aX x cX, .int .i64 ((e * t : Nat) : Int)]) := by
                have e7 : ((e * t : Nat) : Int) = (e : Int) * (t : Int) := by simp
                rw [e7]; exact hown6
              have HL6 : Hid (FcS w w6 v' (L ++ [(.slice aX x cX, X, e * t)])) := HL5.out.append (x := (.slice aX x cX, X, e * t)) HXS5.out ⟨by have := HX.out; show X.length ≤ _; omega, fun y hy => by have := HXP.out.1 y hy; omega⟩ hown6' hgrow6
              have HB6 := Lib.hid (HB5.out.grownF HL5.out hgrow6)
              have HV6 := Lib.hid (HV5.out.grown HL5.out hgrow6)
              have HM6 : Hid (L.length + 1 = (L ++ [((.slice aX x cX, X, e * t) : FacE)]).length) := by show _ = _; simp
              have HR6 : Hid (∃ l1 f' l', Q.takeAll p t (Ps.drop (j + 1)) F' = some (l1, f') ∧ Q.factLoop p g t f' = some l' ∧ fin = strip (L ++ [((.slice aX x cX, X, e * t) : FacE)]) ++ (l1 ++ l')) := by
                obtain ⟨l1, f', l', d1, d2, d3⟩ := HR5.out
                exact ⟨l1, f', l', d1, d2, by rw [d3]; simp [strip]⟩
              obtain ⟨a6, c6, hv6, _⟩ := own_form hown6
              subst hv6
              have hm6 : L.length + 1 ≤ m + (j + 1) := by have := HM.out; omega
              clear hown6 hown6' hgrow6 HB5 HV5 HL5 HXS5 HB
              go_wp2_with (fail)
              go_roundg g2
              case measure => omega
              case rel => exact ⟨j + 1, k5, c5, L.length + 1, c6, _, _, F', _, rfl, rfl, by first | rfl | go_num, by omega, by omega, hk50, hm6, HK5, HM6, HV6, HP5, HL6, HT5, HB6, HR6⟩

end Go.Proofs.YtgcjdojhfimceaaGreat

namespace Go.Proofs.YtgcjdojhfimceaaGreat
open Go.RowKit

/-- What Factor returns: the last coefficient, and the sorted factors. -/
def RetF (p : Nat) (F : List Nat) (w : World) (x : Ending) (w' : World) : Prop :=
  ∃ (v' : Value) (L : List FacE) (fin : List (List Nat × Nat)), x = .returned (.tuple #[.int .i64 (F.getD (F.length - 1) 0 : Nat), v', .int .i64 0]) ∧ FcS w w' v' L ∧ Q.factLoop p 34 1 (Q.monicP p F) = some fin ∧ (strip L).Perm fin ∧ (strip L).Pairwise fun a b => ¬ Q.ordP b.1 a.1 < 0

set_option maxRecDepth 100000 in
set_option maxHeartbeats 2000000 in
theorem Factor_ok (p : Nat) (F : List Nat) (v : Value) (w : World) (hP : Hid (M.Pr p)) (hp2 : p ≤ 1021) (h1 : Hid (Rd w v 1 F.length (nats F))) (hF : Hid (Q.Pol p F)) (hl1 : F.length ≤ 33) (h0 : F.length ≠ 0) :
    Calls Tryz.prog 6 #[.int .i64 p, v] w (RetF p F w) := by
  have hp : 2 ≤ p := hP.out.1
  have hM := Lib.hid (rdM1 (T := 25) h1.out.zs)
  have hB : Hid (Below w.heap.size w (w.alloc (.cells #[v] 25))) := (Below.refl _ _).alloc (Nat.le_refl _) _
  have hls : Hid (∀ Z ∈ [up F], Z.length ≤ 1000000) := by intro Z hZ; simp at hZ; subst hZ; rw [up_length]; omega
  have ht : Hid (Args1 p (up F)) := args1_of hP.out hp2 hF.out hl1
  obtain ⟨_, a1, cap1, rfl, hcap, hcell⟩ := h1.out
  rcases hcell with h | ⟨b, rfl, hb, hc⟩
  · exact absurd h h0
  obtain ⟨n, hn⟩ : ∃ n, F.length = n + 1 := ⟨F.length - 1, by omega⟩
  obtain ⟨x, hx⟩ : ∃ x, x = F.getD (F.length - 1) 0 := ⟨_, rfl⟩
  have hcx : w.cell? ⟨b, n, none⟩ = some (.int .i64 (x : Int)) := by
    rw [hc _ _ (nats_get F n (by omega)), hx, show F.length - 1 = n by omega, Q.getD_get (by omega)]
  have HC : Hid (∀ W, Below w.heap.size w W → W.cell? ⟨b, n, none⟩ = some (.int .i64 (x : Int))) := fun W hW => (hW.cell (p := ⟨b, n, none⟩) hb).trans hcx
  have HN := Lib.hid (And.intro hn hx)
  have HR : Hid (∀ W, Below w.heap.size w W → Rd W (.slice (some ⟨b, 0, none⟩) (n + 1) cap1) 1 F.length (nats F)) := fun W hW => by rw [← hn]; exact h1.out.below hW (Nat.le_refl _)
  obtain ⟨fin, hfin⟩ := Q.factLoop_some hP.out 34 1 (Q.monicP p F) (Q.monic_is hP.out hF.out h0).1 (by rw [(Q.monic_is hP.out hF.out h0).2.2.1]; exact h0) (by rw [(Q.monic_is hP.out hF.out h0).2.2.1]; omega)
  have HFIN := Lib.hid hfin
  have hmo := Q.monic_is hP.out hF.out h0
  have HMP : Hid (Q.Pol p (Q.monicP p F)) := hmo.1
  have HML : Hid ((Q.monicP p F).length = n + 1) := hmo.2.2.1.trans hn
  rw [hn] at hM hB hl1 ⊢
  have hn1 : ((n + 1 : Nat) : Int) - 1 = (n : Int) := by omega
  have hz : (((n + 1 : Nat) : Int) == 0) = false := by rw [beq_eq_false_iff_ne]; omega
  have hz2 : ((n : Int) + 1 == 0) = false := by rw [beq_eq_false_iff_ne]; omega
  clear hc hcx hn hx hfin hmo h1 h0
  go_enter Tryz.func6, Tryz.ntmps6
  go_wp2_with (fail)
  refine (arePolys_yes p _ [up F] _ hM (by simp) hls ht).mono ?_
  rintro e w1 ⟨rfl, hB1⟩
  have HB := Lib.hid (hB.out.trans (hB1.mono (by simp)))
  have HR1 : Hid (Rd w1 (.slice (some ⟨b, 0, none⟩) (n + 1) cap1) 1 F.length (nats F)) := HR.out _ HB.out
  clear hB1 hM hB
  go_wp2_with (fail)
  refine (monic_ok p F _ _ hP hp2 HR1 hF (by have := HN.out.1; omega)).mono ?_
  rintro e w2 ⟨⟨v2, vc, rfl, hN2, hNc⟩, hB2⟩
  have HB2 := Lib.hid (HB.out.trans (hB2.mono HB.out.size))
  have HS2 : Hid (RowS w w2 v2 (Q.monicP p F)) := .inr (own_base hN2 HB.out.size)
  obtain ⟨a2, c2, hv2⟩ := hN2.rd.shape
  obtain ⟨a3, c3, hv3⟩ := hNc.rd.shape
  subst hv2 hv3
  have HCx : Hid (w2.cell? ⟨b, n, none⟩ = some (.int .i64 (x : Int))) := HC.out _ HB2.out
  have hcell2 := HC.out _ HB2.out
  have HFW : Hid (∀ k, Below w.heap.size w (w2.drewN k)) := fun k => below_drewN HB2.out k
  have HSW : Hid (∀ k, RowS w (w2.drewN k) (.slice a2 (Q.monicP p F).length c2) (Q.monicP p F)) := fun k => HS2.out.low (below_drewN (Below.refl _ _) k)
  rw [HML.out] at HSW ⊢
  clear hN2 hNc hB2 HB HR1
  have hwn : IntKind.i64.wrap (n : Int) = (n : Int) := IntWalk.i64_in _ (by omega)
  have hnn : n < n + 1 := Nat.lt_succ_self n
  have hnn2 : (n : Int) < (n : Int) + 1 := by omega
  have hcl : ((n : Int) + 1 - 1) = (n : Int) := by omega
  go_wp2_with (fail)
  go_region_held3 (fun w' => w'.cell? ⟨b, n, none⟩ = some (.int .i64 (x : Int))) (go_keep)
    (first
      | (go_at_call 14; refine (factLoop_walk p 34 (Q.monicP p F) _ w _ fin hP hp2 (HSW.out _) (HFW.out _) HMP (by rw [HML.out]; omega) (by rw [HML.out]; omega) (by omega) HFIN).mono ?_; rintro e w5 ⟨v5, L5, rfl, hF5, hP5, hS5⟩; obtain ⟨a5, c5, hv5, _⟩ := own_form hF5.own; subst hv5; have k5 := HC.out _ hF5.below; have HQ5 := Lib.hid (And.intro hF5 (And.intro hP5 hS5)); clear hF5 hP5 hS5))
  all_goals
    have hF6 := HQ5.out.1.low (show Below w5.heap.size w5 w5.drew from (Below.refl _ _).drew)
    go_wp2_with (fail)
    go_ret3
    have HX := HN.out.2
    refine ⟨.slice a5 L5.length c5, L5, fin, ?_, ?_, HFIN.out, HQ5.out.2.1, HQ5.out.2.2.imp fun h => by omega⟩
    · rw [← HX]; rfl
    · first | exact hF6 | exact HQ5.out.1

end Go.Proofs.YtgcjdojhfimceaaGreat

namespace Go.Proofs.YtgcjdojhfimceaaGreat
open Go.RowKit

theorem Q.adv_stop {p : Nat} {f : List Nat} {i : Nat} (h : i < f.length) (hne : f.getD i 0 ≠ p - 1) : Q.advanceP p (f.drop i) = (f.drop i).set 0 (f.getD i 0 + 1) := by
  have e : f.getD i 0 = f[i] := by simp [List.getD, h]
  rw [List.drop_eq_getElem_cons h, Q.advanceP, if_neg (by rw [← e]; exact hne), e]
  rfl
theorem Q.adv_next {p : Nat} {f : List Nat} {i : Nat} (h : i < f.length) (he : f.getD i 0 = p - 1) : Q.advanceP p (f.drop i) = 0 :: Q.advanceP p (f.drop (i + 1)) := by
  have e : f.getD i 0 = f[i] := by simp [List.getD, h]
  rw [List.drop_eq_getElem_cons h, Q.advanceP, if_pos (by rw [← e]; exact he)]
theorem Q.zset (f : List Nat) (i x : Nat) (_h : i < f.length) : (List.replicate i 0 ++ f.drop i).set i x = List.replicate i 0 ++ (f.drop i).set 0 x := by
  rw [List.set_append, if_neg (by simp), List.length_replicate, Nat.sub_self]
theorem Q.zset0 (f : List Nat) (i : Nat) (h : i < f.length) : (List.replicate i 0 ++ f.drop i).set i 0 = List.replicate (i + 1) 0 ++ f.drop (i + 1) := by
  rw [Q.zset f i 0 h, List.drop_eq_getElem_cons h, List.set_cons_zero, List.replicate_succ' (n := i), List.append_assoc]
  rfl

end Go.Proofs.YtgcjdojhfimceaaGreat
namespace Go.Proofs.YtgcjdojhfimceaaGreat
open Go.RowKit

/-- The search from f finds res in at most n steps, and never steps over the end. -/
def Q.FirstOk (p : Nat) (res : List Nat) : Nat → List Nat → Prop
  | 0, _ => False
  | n + 1, f => Q.Pol p f ∧ ((Q.irredP p f = true ∧ f = res) ∨ (Q.irredP p f = false ∧ (∃ j, j < f.length ∧ f.getD j 0 ≠ p - 1) ∧ (Q.advanceP p f).length = f.length ∧ Q.FirstOk p res n (Q.advanceP p f)))

theorem Q.rep_set (n : Nat) : (List.replicate (n + 1) 0).set n 1 = List.replicate n 0 ++ [1] := by
  rw [List.replicate_succ', List.set_append, if_neg (by simp)]
  simp

end Go.Proofs.YtgcjdojhfimceaaGreat
namespace Go.Proofs.YtgcjdojhfimceaaGreat
namespace Q

def polB' (p : Nat) (f : List Nat) : Bool := f.all (fun c => decide (c < p)) && decide (f.getD (f.length - 1) 0 ≠ 0)
theorem pol_of_B {p : Nat} {f : List Nat} (h : polB' p f = true) : Pol p f := by
  unfold polB' at h
  rw [Bool.and_eq_true, List.all_eq_true, decide_eq_true_iff] at h
  exact pol_of (fun x hx => by simpa using h.1 x hx) (.inr h.2)

def stepOk (p : Nat) (res : List Nat) : Nat → List Nat → Bool
  | 0, _ => false
  | n + 1, f => polB' p f && ((irredP p f && f == res) || (!irredP p f && (List.range f.length).any (fun j => f.getD j 0 != p - 1) && ((advanceP p f).length == f.length) && stepOk p res n (advanceP p f)))
theorem stepOk_is {p : Nat} {res : List Nat} : ∀ (n : Nat) (f : List Nat), stepOk p res n f = true → FirstOk p res n f
  | 0, f, h => by simp [stepOk] at h
  | n + 1, f, h => by
    rw [stepOk, Bool.and_eq_true, Bool.or_eq_true] at h
    refine ⟨pol_of_B h.1, ?_⟩
    rcases h.2 with h2 | h2
    · rw [Bool.and_eq_true, beq_iff_eq] at h2
      exact .inl h2
    · simp only [Bool.and_eq_true, Bool.not_eq_true', List.any_eq_true, List.mem_range, bne_iff_ne, beq_iff_eq] at h2
      exact .inr ⟨h2.1.1.1, h2.1.1.2, h2.1.2, stepOk_is n _ h2.2⟩

/-- The k-th monic polynomial of degree n, number by number. -/
def digS (p n k : Nat) : Nat → List Nat
  | 0 => List.replicate n 0 ++ [1]
  | i + 1 => (digS p n k i).set i (k / p ^ i % p)
def dig (p n k : Nat) : List Nat := digS p n k n
theorem digS_len (p n k : Nat) : ∀ i, (digS p n k i).length = n + 1
  | 0 => by simp [digS]
  | i + 1 => by rw [digS, List.length_set, digS_len p n k i]
theorem digS_last (p n k : Nat) : ∀ i, i ≤ n → (digS p n k i).getD n 0 = 1
  | 0, _ => by simp [digS, List.getD]
  | i + 1, h => by
    rw [digS, List.getD_eq_getElem?_getD, List.getElem?_set_ne (by omega), ← List.getD_eq_getElem?_getD]
    exact digS_last p n k i (by omega)
theorem digS_red {p : Nat} (hp : 2 ≤ p) (n k : Nat) : ∀ i, Red p (digS p n k i)
  | 0 => fun x hx => by
    simp only [digS, List.mem_append, List.mem_replicate, List.mem_singleton] at hx
    omega
  | i + 1 => fun x hx => by
    rcases List.mem_or_eq_of_mem_set hx with h | h
    · exact digS_red hp n k i x h
    · rw [h]; exact Nat.mod_lt _ (by omega)
theorem dig_pol {p : Nat} (hp : 2 ≤ p) (n k : Nat) : Pol p (dig p n k) ∧ (dig p n k).length = n + 1 := by
  have hl := digS_len p n k n
  refine ⟨pol_of (digS_red hp n k n) (.inr ?_), hl⟩
  unfold dig
  rw [hl, Nat.add_sub_cancel, digS_last p n k n (Nat.le_refl _)]
  omega

/-- The rounds over all of them: how many are irreducible, none if the first of them is not res. -/
def scanB (p n : Nat) (res : List Nat) : Nat → Nat → Nat → Option Nat
  | 0, _, c => some c
  | m + 1, k, c => if irredP p (dig p n k) then (if c = 0 ∧ dig p n k ≠ res then none else scanB p n res m (k + 1) (c + 1)) else scanB p n res m (k + 1) c

def resOf (p n : Nat) : List Nat := (firstLoop p 130 (List.replicate n 0 ++ [1])).getD []
def allB (p n : Nat) : Bool := stepOk p (resOf p n) 130 (List.replicate n 0 ++ [1]) && (scanB p n (resOf p n) (p ^ n) 0 0 == some (countP p n n).toNat) && decide (0 ≤ countP p n n) && ((resOf p n).length == n + 1)

set_option maxRecDepth 100000 in
theorem all_ok : ∀ x ∈ [(2, 1), (2, 2), (2, 3), (2, 4), (2, 5), (2, 6), (3, 1), (3, 2), (3, 3), (3, 4), (5, 1), (5, 2), (5, 3), (7, 1), (7, 2)], allB x.1 x.2 = true := by decide +kernel

structure AllIs (p n T : Nat) (res : List Nat) : Prop where
  first : FirstOk p res 130 (List.replicate n 0 ++ [1])
  scan : scanB p n res (p ^ n) 0 0 = some T
  count : countP p n n = (T : Int)
  len : res.length = n + 1
theorem all_is {p n : Nat} (hp : p = 2 ∨ p = 3 ∨ p = 5 ∨ p = 7) (h1 : 1 ≤ n) (h6 : n ≤ 6) (hm : p ^ n ≤ 130) : ∃ T res, AllIs p n T res := by
  have h : allB p n = true := by
    have hmem : (p, n) ∈ [(2, 1), (2, 2), (2, 3), (2, 4), (2, 5), (2, 6), (3, 1), (3, 2), (3, 3), (3, 4), (5, 1), (5, 2), (5, 3), (7, 1), (7, 2)] := by
      rcases (by omega : n = 1 ∨ n = 2 ∨ n = 3 ∨ n = 4 ∨ n = 5 ∨ n = 6) with rfl | rfl | rfl | rfl | rfl | rfl <;> rcases hp with rfl | rfl | rfl | rfl <;> first | decide | (exfalso; revert hm; decide)
    exact all_ok _ hmem
  unfold allB at h
  simp only [Bool.and_eq_true, beq_iff_eq, decide_eq_true_iff] at h
  exact ⟨(countP p n n).toNat, resOf p n, stepOk_is _ _ h.1.1.1, h.1.1.2, by omega, h.2⟩

end Q
end Go.Proofs.YtgcjdojhfimceaaGreat

namespace Go.Proofs.YtgcjdojhfimceaaGreat
namespace Q
variable {p : Nat}

/-- x^N - x. -/
def xN (p N : Nat) : List Nat := [0, p - 1] ++ List.replicate (N - 2) 0 ++ [1]
theorem xN_is (hP : M.Pr p) {N : Nat} (hN : 3 ≤ N) : Pol p (xN p N) ∧ (xN p N).length = N + 1 ∧ Mon (xN p N) ∧ ev p (xN p N) = pw (xX p) N - xX p := by
  have hp2 := hP.1
  have hl : (xN p N).length = N + 1 := by simp [xN]; omega
  have hlast : (xN p N).getD N 0 = 1 := by
    unfold xN
    rw [List.getD_eq_getElem?_getD, List.getElem?_append_right (by simp; omega)]
    simp [show N - (N - 2 + 1 + 1) = 0 by omega]
  have hm : Mon (xN p N) := ⟨by omega, by rw [hl, Nat.add_sub_cancel]; exact hlast⟩
  refine ⟨pol_of (fun x hx => ?_) (.inr (by rw [hm.2]; omega)), hl, hm, ?_⟩
  · simp only [xN, List.mem_append, List.mem_replicate, List.mem_cons, List.not_mem_nil, or_false] at hx
    omega
  · rw [← hor_x]
    have e : xN p N = 0 :: (p - 1) :: (List.replicate (N - 2) 0 ++ [1]) := by simp [xN]
    rw [e]
    show ev p [0] + xX p * (ev p [p - 1] + xX p * hor (xX p) (List.replicate (N - 2) 0 ++ [1])) = _
    rw [hor_zeros]
    have e1 : hor (xX p) [1] = 1 := by show ev p [1] + xX p * 0 = 1; rw [ev_one, Px.mul_zero, Px.add_zero]
    have e2 : ev p [p - 1] = -1 := by
      have h : ev p [p - 1] + ev p [1] = 0 := by
        rw [ev_const_add, show p - 1 + 1 = p by omega]
        exact ev_const_dvd ⟨1, by omega⟩
      rw [ev_one, Px.add_comm] at h
      exact Px.neg_eq h
    rw [e1, e2, ev_const_zero, Px.zero_add, Px.mul_one, Px.mul_add, Px.mul_neg, Px.mul_one]
    obtain ⟨K, hK⟩ : ∃ K, N = K + 2 := ⟨N - 2, by omega⟩
    rw [hK, Nat.add_sub_cancel, pw_succ, pw_succ, Px.sub_def, Px.add_comm]
    congr 1; ac_rfl

def xN' (_p N : Nat) : List Nat := List.replicate N 0 ++ [1]
theorem xD_is (hP : M.Pr p) {N : Nat} (hN : 2 ≤ N) : Pol p (difP p (xN' p N) [0, 1]) ∧ (difP p (xN' p N) [0, 1]).length = N + 1 ∧ ev p (difP p (xN' p N) [0, 1]) = pw (xX p) N - xX p := by
  have hp2 := hP.1
  have hp : 0 < p := by omega
  have hl : (xN' p N).length = N + 1 := by simp [xN']
  have hev : ev p (difP p (xN' p N) [0, 1]) = pw (xX p) N - xX p := by
    rw [ev_dif hp _ (pol_xx hP).red, ev_xx, ← hor_x (xN' p N)]
    unfold xN'
    rw [hor_zeros]
    have e1 : hor (xX p) [1] = 1 := by show ev p [1] + xX p * 0 = 1; rw [ev_one, Px.mul_zero, Px.add_zero]
    rw [e1, Px.mul_one]
  refine ⟨pol_dif hp _ _, ?_, hev⟩
  have h1 := dif_len (p := p) hp (f := xN' p N) (g := [0, 1])
  rw [hl] at h1
  have h2 : (difP p (xN' p N) [0, 1]).getD N 0 = 1 := by
    rw [dif_getD]
    have e1 : (xN' p N).getD N 0 = 1 := by simp [xN', List.getD]
    have e2 : [0, 1].getD N 0 = 0 := getD_out (by simp; omega)
    rw [e1, e2, Nat.sub_zero, Nat.add_mod_right]; exact Nat.mod_eq_of_lt (by omega)
  have h3 : ¬ (difP p (xN' p N) [0, 1]).length ≤ N := fun h => by rw [getD_out h] at h2; omega
  simp at h1
  omega

theorem Dr_neg (a : Px p) : Dr (-a) = -Dr a := by
  refine Px.neg_eq ?_
  rw [← Dr_add, Px.add_neg]
  have : Dr (0 : Px p) + Dr (0 : Px p) = Dr (0 : Px p) + 0 := by rw [← Dr_add, Px.add_zero, Px.add_zero]
  rw [Px.add_comm, Px.add_comm (Dr 0) 0] at this
  exact Px.add_cancel this
theorem Dr_x (hP : M.Pr p) : Dr (xX p) = 1 := by
  have h : deriv p [0, 1] = [1] := by
    have hp2 := hP.1
    unfold deriv
    simp only [List.length_cons, List.length_nil]
    have : (List.range (0 + 1 + 1 - 1)).map (fun i => (i + 1) * [0, 1].getD (i + 1) 0 % p) = [1] := by
      simp [List.range_succ]; exact Nat.mod_eq_of_lt (by omega)
    rw [this]; rfl
  rw [← ev_xx, ← ev_deriv, h, ev_one]

theorem sum_pow_lt (hp : 2 ≤ p) : ∀ m, ((List.range m).map fun j => p ^ (j + 1)).sum < p ^ (m + 1)
  | 0 => by simp; omega
  | m + 1 => by
    have ih := sum_pow_lt hp m
    rw [List.range_succ, List.map_append, List.sum_append]
    simp only [List.map_cons, List.map_nil, List.sum_cons, List.sum_nil, Nat.add_zero]
    have : 2 * p ^ (m + 1) ≤ p * p ^ (m + 1) := Nat.mul_le_mul_right _ hp
    rw [Nat.pow_succ p (m + 1), Nat.mul_comm _ p]; omega

theorem prodL_len (hP : M.Pr p) : ∀ {l : List (List Nat)}, (∀ g ∈ l, Pol p g ∧ g.length ≠ 0) → (prodL p l).length = 1 + (l.map fun g => g.length - 1).sum
  | [], _ => rfl
  | g :: l, h => by
    have hg := h g (by simp)
    have hl : ∀ x ∈ l, Pol p x ∧ x.length ≠ 0 := fun x hx => h x (by simp [hx])
    have ih := prodL_len hP hl
    rw [prodL, prod_length hg.2 (by omega), ih, List.map_cons, List.sum_cons]; omega

/-- In every degree there is an irreducible polynomial. -/
theorem exists_deg (hP : M.Pr p) (n : Nat) (h1 : 1 ≤ n) : ∃ g, MIrr p g ∧ g.length = n + 1 := by
  have hp2 := hP.1
  have hp : 0 < p := by omega
  by_cases hn1 : n = 1
  · subst hn1
    refine ⟨lin p 0, ⟨⟨pol_lin hp2 0, by simp [lin], fun d hd hdv => ?_⟩, by simp [lin], by simp [lin]⟩, rfl⟩
    have h := hdv.len hP hd (pol_lin hp2 0) (by simp [lin])
    simp [lin] at h ⊢
    have h0 : d.length ≠ 0 := fun e => h.2 (List.eq_nil_of_length_eq_zero e)
    omega
  · have hpow : ∀ j, 1 ≤ j → p ≤ p ^ j := fun j hj => by have := Nat.pow_le_pow_right hp hj; rwa [Nat.pow_one] at this
    have hN4 : 4 ≤ p ^ n := Nat.le_trans (show 4 ≤ p * p by have := Nat.mul_le_mul hp2 hp2; omega) (by have := Nat.pow_le_pow_right hp (show 2 ≤ n by omega); rwa [Nat.pow_two] at this)
    obtain ⟨f1, f2, f3, f4⟩ := xN_is hP (N := p ^ n) (by omega)
    obtain ⟨F, hF⟩ : ∃ F, F = xN p (p ^ n) := ⟨_, rfl⟩
    rw [← hF] at f1 f2 f3 f4
    have hx := isP_x hP
    -- the derivative is -1
    have hd : ev p (deriv p F) = -1 := by
      obtain ⟨K, hK⟩ : ∃ K, p ^ n = K + 1 := ⟨p ^ n - 1, by omega⟩
      have hpK : p ∣ K + 1 := by rw [← hK]; exact ⟨p ^ (n - 1), by rw [← Nat.pow_succ']; congr 1; omega⟩
      rw [ev_deriv, f4, Px.sub_def, Dr_add, Dr_neg, Dr_x hP, hK, Dr_pw, ev_const_dvd hpK, Px.zero_mul, Px.zero_mul, Px.zero_add]
    have hdp := drv_pol hp F
    have hG : gcdP p F (deriv p F) = [1] := by
      have G := gcdP_is hP f1 hdp
      have hne : gcdP p F (deriv p F) ≠ [] := fun h => by have := (G.zero.1 h).1; rw [this] at f2; simp at f2
      have mG := G.mon.resolve_left hne
      refine mon_len1 mG ?_
      refine dv_one hP G.pol ?_
      rw [← dx_iff, ev_one]
      have h5 := dx_iff.2 G.right
      rw [hd] at h5
      have h6 := h5.neg hp
      rwa [Px.neg_neg] at h6
    obtain ⟨l, hl, el⟩ := exists_fac hP _ (Nat.le_refl _) f1 f3
    have hln : l.Nodup := by
      rw [List.nodup_iff_count]
      intro g
      by_cases hg : g ∈ l
      · have h3 := count_gcd hP f1 (hl g hg) hl (E := []) (by simp) (c := 1) (by omega) (by omega) (by rw [ev_one, Px.one_mul]; exact el) (by rw [hG]; rfl)
        rw [List.count_nil] at h3
        split at h3
        · have := List.count_pos_iff.2 hg; omega
        · omega
      · rw [List.count_eq_zero_of_not_mem hg]; omega
    have hdv : ∀ g ∈ l, Cg p g (pw (xX p) (p ^ n)) (xX p) := fun g hg => by
      unfold Cg
      rw [← f4, el, dx_iff]
      exact dv_prodL_mem hP (fun x hx => (hl x hx).irr.pol) hg
    refine Classical.byContradiction fun hno => ?_
    have hdeg : ∀ g ∈ l, g.length - 1 < n := fun g hg => by
      have h5 := deg_le hP (hl g hg).irr h1 (hdv g hg)
      have h6 := (hl g hg).irr.two
      refine Nat.lt_of_le_of_ne h5 fun e => hno ⟨g, hl g hg, by omega⟩
    -- the product of the lesser ones
    obtain ⟨Ws, hWs⟩ : ∃ Ws, Ws = (List.range (n - 1)).map fun j => difP p (xN' p (p ^ (j + 1))) [0, 1] := ⟨_, rfl⟩
    have hW : ∀ j, j < n - 1 → Pol p (difP p (xN' p (p ^ (j + 1))) [0, 1]) ∧ (difP p (xN' p (p ^ (j + 1))) [0, 1]).length = p ^ (j + 1) + 1 ∧ ev p (difP p (xN' p (p ^ (j + 1))) [0, 1]) = pw (xX p) (p ^ (j + 1)) - xX p := fun j _ => xD_is hP (Nat.le_trans hp2 (hpow (j + 1) (by omega)))
    have hWp : ∀ w ∈ Ws, Pol p w ∧ w.length ≠ 0 := fun w hw => by
      rw [hWs] at hw
      obtain ⟨j, hj, rfl⟩ := List.mem_map.1 hw
      have := hW j (List.mem_range.1 hj)
      exact ⟨this.1, by omega⟩
    have hall : DX p (prodL p l) (ev p (prodL p Ws)) := by
      refine dx_prodL hP (IsP.ev (prodL_pol hP fun w hw => (hWp w hw).1)) hln hl fun g hg => ?_
      have h5 := hdeg g hg
      have h6 := (hl g hg).irr.two
      obtain ⟨j, hj⟩ : ∃ j, g.length - 1 = j + 1 := ⟨g.length - 2, by omega⟩
      have hmem : difP p (xN' p (p ^ (j + 1))) [0, 1] ∈ Ws := by rw [hWs]; exact List.mem_map.2 ⟨j, List.mem_range.2 (by omega), rfl⟩
      have h7 : DX p g (ev p (difP p (xN' p (p ^ (j + 1))) [0, 1])) := by
        rw [(hW j (by omega)).2.2]
        have := fermat hP (hl g hg).irr (pol_xx hP)
        rwa [ev_xx, hj] at this
      exact dx_iff.2 ((dx_iff.1 h7).trans hP (dv_prodL_mem hP (fun w hw => (hWp w hw).1) hmem))
    have hFW : Dv p F (prodL p Ws) := by
      rw [← dx_iff]
      unfold DX at hall ⊢
      rw [el]; exact hall
    have hWl := prodL_len hP hWp
    have hle := (hFW.len hP f1 (prodL_pol hP fun w hw => (hWp w hw).1) (by omega)).1
    have hsum : (Ws.map fun g => g.length - 1) = (List.range (n - 1)).map fun j => p ^ (j + 1) := by
      rw [hWs, List.map_map]
      refine List.map_congr_left fun j hj => ?_
      show (difP p (xN' p (p ^ (j + 1))) [0, 1]).length - 1 = _
      rw [(hW j (List.mem_range.1 hj)).2.1]; omega
    rw [hsum] at hWl
    have hlt := sum_pow_lt hp2 (n - 1)
    rw [show n - 1 + 1 = n by omega] at hlt
    omega

end Q
end Go.Proofs.YtgcjdojhfimceaaGreat

namespace Go.Proofs.YtgcjdojhfimceaaGreat
namespace Q
variable {p : Nat}

def sqF (p a : Nat) : List Nat := [(p - a) % p, 0, 1]

theorem sqF_pol (h2 : 2 ≤ p) (a : Nat) : Pol p (sqF p a) := by
  refine pol_of ?_ (.inr (by simp [sqF]))
  intro x hx
  simp [sqF] at hx
  rcases hx with rfl | rfl | rfl
  · exact Nat.mod_lt _ (by omega)
  · omega
  · omega

theorem sqF_mon (a : Nat) : Mon (sqF p a) := ⟨by simp [sqF], by simp [sqF]⟩

theorem neg_prod {r a : Nat} (hp : 0 < p) (hr : r < p) (h : r * r % p = a) : (p - r) * r % p = (p - a) % p := by
  have h1 : (p - r) * r + r * r = p * r := by rw [← Nat.add_mul]; congr 1; omega
  have h2 : ((p - r) * r + r * r) % p = 0 := by rw [h1]; exact Nat.mul_mod_right _ _
  rw [Nat.add_mod, h] at h2
  have h3 : (p - r) * r % p < p := Nat.mod_lt _ hp
  have h4 : a < p := by rw [← h]; exact Nat.mod_lt _ hp
  generalize (p - r) * r % p = x at h2 h3 ⊢
  by_cases h5 : a = 0
  · subst h5
    rw [Nat.add_zero, Nat.mod_eq_of_lt h3] at h2
    simp [h2]
  · have h6 : x + a = p := by
      rcases Nat.lt_or_ge (x + a) p with h7 | h7
      · rw [Nat.mod_eq_of_lt h7] at h2; omega
      · rw [Nat.mod_eq_sub_mod h7, Nat.mod_eq_of_lt (by omega)] at h2; omega
    rw [Nat.mod_eq_of_lt (by omega)]; omega

theorem prod_lin (u v : Nat) (hp : 2 ≤ p) : prodP' p [u, 1] [v, 1] = [u * v % p, (u + v) % p, 1] := by
  have h1 : 1 % p = 1 := Nat.mod_eq_of_lt hp
  simp [prodP', conv, List.range_succ, h1]

theorem prod_one (u : Nat) (hp : 2 ≤ p) (hu : u < p) : prodP' p [1] [u, 1] = [u, 1] := by
  have h1 : 1 % p = 1 := Nat.mod_eq_of_lt hp
  simp [prodP', conv, List.range_succ, h1, Nat.mod_eq_of_lt hu]

theorem sq_roots (hP : M.Pr p) {a r : Nat} (hr : r < p) (h : r * r % p = a) : RootsIs p [r, (p - r) % p] (sqF p a) := by
  have hp2 := hP.1
  have hR := rootF_is hP [r, (p - r) % p]
  have e : rootF p [r, (p - r) % p] = sqF p a := by
    show prodP' p (prodP' p [1] (lin p r)) (lin p ((p - r) % p)) = _
    unfold lin
    rw [prod_one _ hp2 (Nat.mod_lt _ (by omega)), prod_lin _ _ hp2]
    have hv : (p - (p - r) % p) % p = r := by
      by_cases h0 : r = 0
      · subst h0; simp
      · rw [Nat.mod_eq_of_lt (show p - r < p by omega), Nat.mod_eq_of_lt (by omega)]; omega
    rw [hv]
    unfold sqF
    have h1 : (p - r) % p * r % p = (p - a) % p := by rw [← neg_prod (by omega) hr h, Nat.mod_mul_mod]
    have h2 : ((p - r) % p + r) % p = 0 := by
      rw [Nat.mod_add_mod, show p - r + r = p by omega, Nat.mod_self]
    rw [h1, h2]
  rwa [e] at hR

theorem all_same {t : Nat} {l : List (List Nat)} {L : List (List Nat × Nat)} {g : List Nat} (h : FacOk t l L) (hg : g ∈ l) (hs : ∀ x ∈ l, x = g) : L = [(g, l.count g * t)] := by
  have hk : ∀ x ∈ L, x = (g, l.count g * t) := by
    intro x hx
    obtain ⟨h1, h2⟩ := h.exp x hx
    have h3 := hs _ h1
    rw [h3] at h2
    exact Prod.ext h3 h2
  obtain ⟨y, hy, _⟩ := h.all g hg
  match L, hk, hy, h.nodup with
  | [x], hk, _, _ => rw [hk x (by simp)]
  | x :: z :: r, hk, _, hn =>
    have h1 := hk x (by simp)
    have h2 := hk z (by simp)
    rw [h1, h2] at hn
    simp at hn

theorem sq_none (hP : M.Pr p) {a : Nat} (ha : a < p) (hno : ∀ r, r < p → r * r % p ≠ a) {l : List (List Nat)} (hl : ∀ g ∈ l, MIrr p g) (e : ev p (sqF p a) = ev p (prodL p l)) : l = [sqF p a] := by
  have hp2 := hP.1
  have hp : 0 < p := by omega
  have hf := sqF_pol hp2 a
  have hpl : Pol p (prodL p l) := prodL_pol hP fun g hg => (hl g hg).irr.pol
  have heq : sqF p a = prodL p l := ev_inj hp hf hpl e
  have h3 : ∀ g ∈ l, 3 ≤ g.length := by
    intro g hg
    have hgi := hl g hg
    have h2 := hgi.irr.two
    rcases Nat.lt_or_ge g.length 3 with h4 | h4
    · exfalso
      obtain ⟨c, rfl⟩ : ∃ c, g = [c, 1] := by
        match g, h2, h4, hgi.mon.2 with
        | [c, d], _, _, hd => exact ⟨c, by simp at hd; rw [hd]⟩
      have hc : c < p := hgi.irr.pol.red c (by simp)
      have hlin : lin p ((p - c) % p) = [c, 1] := by
        unfold lin
        by_cases h0 : c = 0
        · subst h0; simp
        · rw [Nat.mod_eq_of_lt (show p - c < p by omega), Nat.mod_eq_of_lt (by omega)]; congr 1; omega
      have hx : (p - c) % p < p := Nat.mod_lt _ hp
      have hdv : Dv p (lin p ((p - c) % p)) (sqF p a) := by
        rw [hlin, heq]
        exact dv_prodL_mem hP (fun k hk => (hl k hk).irr.pol) hg
      have h5 := (rem_nil_iff hP hf (pol_lin hp2 _) (by simp [lin])).2 hdv
      rw [div_lin hP (by omega) hf] at h5
      have h6 : valP p (sqF p a) ((p - c) % p) = 0 := by
        refine trim1_inj (v := valP p (sqF p a) ((p - c) % p)) (u := 0) ?_
        rw [h5]; rfl
      generalize (p - c) % p = x at hx h6
      refine hno x hx ?_
      have h7 : ((x % p * x % p) + (p - a) % p) % p = 0 := by
        have : valP p (sqF p a) x = (((0 * x + 1) % p * x + 0) % p * x + (p - a) % p) % p := rfl
        rw [this] at h6
        rw [Nat.zero_mul, Nat.zero_add, Nat.mod_eq_of_lt (show 1 < p by omega), Nat.one_mul, Nat.add_zero] at h6
        rw [← Nat.mod_add_mod] at h6
        exact h6
      rw [Nat.mod_eq_of_lt hx] at h7
      have h8 : x * x % p < p := Nat.mod_lt _ hp
      generalize x * x % p = y at h7 h8 ⊢
      by_cases h0 : a = 0
      · subst h0
        simp at h7
        rw [Nat.mod_eq_of_lt h8] at h7; exact h7
      · rw [Nat.mod_eq_of_lt (show p - a < p by omega)] at h7
        rcases Nat.lt_or_ge (y + (p - a)) p with h9 | h9
        · rw [Nat.mod_eq_of_lt h9] at h7; omega
        · rw [Nat.mod_eq_sub_mod h9, Nat.mod_eq_of_lt (by omega)] at h7; omega
    · exact h4
  have hlen := prodL_len hP (l := l) (fun g hg => ⟨(hl g hg).irr.pol, by have := h3 g hg; omega⟩)
  rw [← heq] at hlen
  have hs : (l.map fun g => g.length - 1).sum = 2 := by
    have : (sqF p a).length = 3 := rfl
    omega
  match l, h3, hs, heq with
  | [], _, hs, _ => simp at hs
  | [g], _, _, heq =>
    have hg := hl g (by simp)
    have : sqF p a = g := ev_inj hp hf hg.irr.pol (by rw [e, ev_prodL_cons]; show ev p g * ev p [1] = _; rw [ev_one, Px.mul_one])
    rw [this]
  | g :: k :: r, h3, hs, _ =>
    have h4 := h3 g (by simp)
    have h5 := h3 k (by simp)
    simp at hs
    omega

theorem facL_ev {F : List Nat} {L : List (List Nat × Nat)} {l : List (List Nat)} (hm : Mon F) (H : FacL p F L l) : ev p F = ev p (prodL p l) := by
  rw [H.val, hm.2, ev_one, Px.one_mul]

/-- No root: the polynomial itself. -/
theorem sq_fac_none (hP : M.Pr p) {a : Nat} (ha : a < p) (hno : ∀ r, r < p → r * r % p ≠ a) {L : List (List Nat × Nat)} {l : List (List Nat)} (H : FacL p (sqF p a) L l) : L = [(sqF p a, 1)] := by
  have hl := sq_none hP ha hno H.irr (facL_ev (sqF_mon a) H)
  have := all_same H.ok (g := sqF p a) (by rw [hl]; simp) (by rw [hl]; intro x hx; simpa using hx)
  rw [this, hl]; simp

theorem sq_irr_none (hP : M.Pr p) {a : Nat} (ha : a < p) (hno : ∀ r, r < p → r * r % p ≠ a) : irredP p (sqF p a) = true := by
  refine (irr_iff hP (sqF_pol hP.1 a)).2 ?_
  obtain ⟨l, h1, h2⟩ := exists_fac hP _ (Nat.le_refl _) (sqF_pol hP.1 a) (sqF_mon a)
  have hl := sq_none hP ha hno h1 h2
  exact (h1 _ (by rw [hl]; simp)).irr

theorem sq_irr_some (hP : M.Pr p) {a r : Nat} (hr : r < p) (h : r * r % p = a) : irredP p (sqF p a) = false := by
  cases hi : irredP p (sqF p a) with
  | false => rfl
  | true =>
    have hI := (irr_iff hP (sqF_pol hP.1 a)).1 hi
    have hR := sq_roots hP hr h
    have hpm := fac_perm hP (l := [sqF p a]) (k := [r, (p - r) % p].map (lin p)) (fun f hf => by simp at hf; subst hf; exact ⟨hI, sqF_mon a⟩)
      (fun f hf => by obtain ⟨y, _, rfl⟩ := List.mem_map.1 hf; exact lin_mirr hP y) (by rw [ev_prodL_cons, ← hR.val]; show _ * ev p [1] = _; rw [ev_one, Px.mul_one])
    have := hpm.length_eq
    simp at this

theorem sq_fac_zero (hP : M.Pr p) {L : List (List Nat × Nat)} {l : List (List Nat)} (H : FacL p (sqF p 0) L l) : L = [([0, 1], 2)] := by
  have hp2 := hP.1
  have hR := sq_roots hP (a := 0) (r := 0) (by omega) (by simp)
  have h0 : lin p 0 = [0, 1] := by simp [lin]
  have hl : ∀ g ∈ [0, (p - 0) % p].map (lin p), MIrr p g := fun g hg => by obtain ⟨y, _, rfl⟩ := List.mem_map.1 hg; exact lin_mirr hP y
  have hpm : l.Perm ([0, (p - 0) % p].map (lin p)) := fac_perm hP H.irr hl (by rw [← hR.val, facL_ev (sqF_mon 0) H])
  have e : [0, (p - 0) % p].map (lin p) = [[0, 1], [0, 1]] := by simp [h0]
  rw [e] at hpm
  have := all_same H.ok (g := [0, 1]) (hpm.mem_iff.2 (by simp)) (fun x hx => by have := hpm.mem_iff.1 hx; simpa using this)
  rw [this, hpm.count_eq]; simp

theorem sq_fac_two (hP : M.Pr p) (h3 : 3 ≤ p) {a r : Nat} (hr0 : r ≠ 0) (hr : r < p) (h : r * r % p = a) {L : List (List Nat × Nat)} {l : List (List Nat)} (H : FacL p (sqF p a) L l) :
    L = [([min r (p - r), 1], 1), ([max r (p - r), 1], 1)] := by
  have hp2 := hP.1
  have hodd := M.odd_prime hP h3
  have hR := sq_roots hP hr h
  have hpr : (p - r) % p = p - r := Nat.mod_eq_of_lt (by omega)
  rw [hpr] at hR
  have hne : r ≠ p - r := by omega
  obtain ⟨h1, h2⟩ := hR.fac hP (by simp [hne]) (by intro x hx; simp at hx; rcases hx with rfl | rfl <;> omega) H
  have hl : ∀ g ∈ [r, p - r].map (lin p), MIrr p g := fun g hg => by obtain ⟨y, _, rfl⟩ := List.mem_map.1 hg; exact lin_mirr hP y
  have hpm : l.Perm ([r, p - r].map (lin p)) := fac_perm hP H.irr hl (by rw [← hR.val, facL_ev (sqF_mon a) H])
  have e1 : lin p r = [p - r, 1] := by unfold lin; rw [hpr]
  have e2 : lin p (p - r) = [r, 1] := by unfold lin; rw [show p - (p - r) = r by omega, Nat.mod_eq_of_lt hr]
  match L, h1, h2, H.asc, H.ok.exp, H.ok.nodup with
  | [(x, ex), (y, ey)], _, h2, hasc, hexp, hnd =>
    have hx := hpm.mem_iff.1 (hexp (x, ex) (by simp)).1
    have hy := hpm.mem_iff.1 (hexp (y, ey) (by simp)).1
    have ex1 : ex = 1 := (h2 (x, ex) (by simp)).2
    have ey1 : ey = 1 := (h2 (y, ey) (by simp)).2
    have hlt := hasc 0 (by simp)
    simp only [List.getElem_cons_zero, List.getElem_cons_succ] at hlt
    simp [e1, e2] at hx hy
    have hord : ∀ u v : Nat, ordP [u, 1] [v, 1] < 0 → u < v := by
      intro u v huv
      simp [ordP] at huv
      split at huv
      · assumption
      · split at huv <;> simp at huv
    subst ex1 ey1
    rcases hx with rfl | rfl <;> rcases hy with rfl | rfl
    · have := hord _ _ hlt; omega
    · have := hord _ _ hlt
      rw [Nat.min_eq_right (by omega), Nat.max_eq_left (by omega)]
    · have := hord _ _ hlt
      rw [Nat.min_eq_left (by omega), Nat.max_eq_right (by omega)]
    · have := hord _ _ hlt; omega

end Q
end Go.Proofs.YtgcjdojhfimceaaGreat

namespace Go.Proofs.YtgcjdojhfimceaaGreat
open Go.RowKit

theorem Q.pol_dec {p : Nat} {f : List Nat} (h1 : f.all (fun x => decide (x < p)) = true) (h2 : Q.trimLen f = f.length) : Q.Pol p f := ⟨fun x hx => by simpa using List.all_eq_true.1 h1 x hx, h2⟩

theorem awake_firstOk : Q.FirstOk 2 [1, 1, 0, 1] 9 (List.replicate 3 0 ++ [1]) := by
  have e0 : (List.replicate 3 0 ++ [1] : List Nat) = [0, 0, 0, 1] := rfl
  rw [e0]
  have a1 : Q.advanceP 2 [0, 0, 0, 1] = [1, 0, 0, 1] := by decide +kernel
  have a2 : Q.advanceP 2 [1, 0, 0, 1] = [0, 1, 0, 1] := by decide +kernel
  have a3 : Q.advanceP 2 [0, 1, 0, 1] = [1, 1, 0, 1] := by decide +kernel
  refine ⟨Q.pol_dec (by decide +kernel) (by decide +kernel), .inr ⟨by decide +kernel, ⟨0, by simp, by simp⟩, by rw [a1]; rfl, ?_⟩⟩
  rw [a1]
  refine ⟨Q.pol_dec (by decide +kernel) (by decide +kernel), .inr ⟨by decide +kernel, ⟨1, by simp, by simp⟩, by rw [a2]; rfl, ?_⟩⟩
  rw [a2]
  refine ⟨Q.pol_dec (by decide +kernel) (by decide +kernel), .inr ⟨by decide +kernel, ⟨0, by simp, by simp⟩, by rw [a3]; rfl, ?_⟩⟩
  rw [a3]
  exact ⟨Q.pol_dec (by decide +kernel) (by decide +kernel), .inl ⟨by decide +kernel, rfl⟩⟩

theorem awake_monic : Q.monicP 5 [1, 0, 1] = [1, 0, 1] := by decide +kernel
theorem awake_fact34 : Q.factLoop 5 34 1 [1, 0, 1] = some [([3, 1], 1), ([2, 1], 1)] ∨ Q.factLoop 5 34 1 [1, 0, 1] = some [([2, 1], 1), ([3, 1], 1)] := by decide +kernel
theorem awake_pr5 : M.Pr 5 := ⟨by omega, fun d hd => by
  have h1 := Nat.le_of_dvd (by omega) hd
  rcases (by omega : d = 0 ∨ d = 1 ∨ d = 2 ∨ d = 3 ∨ d = 4 ∨ d = 5) with rfl | rfl | rfl | rfl | rfl | rfl
  all_goals first | exact .inl rfl | exact .inr rfl | (revert hd; decide)⟩
theorem awake_pr2 : M.Pr 2 := ⟨by omega, fun d hd => by
  have h1 := Nat.le_of_dvd (by omega) hd
  rcases (by omega : d = 0 ∨ d = 1 ∨ d = 2) with rfl | rfl | rfl
  all_goals first | exact .inl rfl | exact .inr rfl | (revert hd; decide)⟩

end Go.Proofs.YtgcjdojhfimceaaGreat

namespace Go.Proofs.YtgcjdojhfimceaaGreat
open Go.RowKit

theorem lit2 (w : World) (a b : Nat) (T : TypeId) : Rd (w.alloc (.cells #[.int .i64 (a : Int), .int .i64 (b : Int)] T)) (.slice (some ⟨w.heap.size, 0, none⟩) 2 2) 1 2 (nats [a, b]) := by
  refine ⟨rfl, _, _, rfl, Nat.le_refl _, .inr ⟨w.heap.size, rfl, by simp, fun j u hu => ?_⟩⟩
  match j, hu with
  | 0, hu => simp [nats] at hu; subst hu; simp
  | 1, hu => simp [nats] at hu; subst hu; simp
  | j + 2, hu => simp [nats] at hu

theorem lit3 (w : World) (a b c : Nat) (T : TypeId) : Rd (w.alloc (.cells #[.int .i64 (a : Int), .int .i64 (b : Int), .int .i64 (c : Int)] T)) (.slice (some ⟨w.heap.size, 0, none⟩) 3 3) 1 3 (nats [a, b, c]) := by
  refine ⟨rfl, _, _, rfl, Nat.le_refl _, .inr ⟨w.heap.size, rfl, by simp, fun j u hu => ?_⟩⟩
  match j, hu with
  | 0, hu => simp [nats] at hu; subst hu; simp
  | 1, hu => simp [nats] at hu; subst hu; simp
  | 2, hu => simp [nats] at hu; subst hu; simp
  | j + 3, hu => simp [nats] at hu

theorem lit4 (w : World) (a b c d : Nat) (T : TypeId) : Rd (w.alloc (.cells #[.int .i64 (a : Int), .int .i64 (b : Int), .int .i64 (c : Int), .int .i64 (d : Int)] T)) (.slice (some ⟨w.heap.size, 0, none⟩) 4 4) 1 4 (nats [a, b, c, d]) := by
  refine ⟨rfl, _, _, rfl, Nat.le_refl _, .inr ⟨w.heap.size, rfl, by simp, fun j u hu => ?_⟩⟩
  match j, hu with
  | 0, hu => simp [nats] at hu; subst hu; simp
  | 1, hu => simp [nats] at hu; subst hu; simp
  | 2, hu => simp [nats] at hu; subst hu; simp
  | 3, hu => simp [nats] at hu; subst hu; simp
  | j + 4, hu => simp [nats] at hu

/-- What the law sees of Factor's result. -/
theorem Factor_awake (w : World) (v : Value) (h1 : Hid (Rd w v 1 3 (nats [1, 0, 1]))) :
    Calls Tryz.prog 6 #[.int .i64 5, v] w fun x w' => (∃ (g cap : Nat) (u : Value), x = .returned (.tuple #[.int .i64 1, .slice (some ⟨g, 0, none⟩) 2 cap, .int .i64 0]) ∧ w'.cell? ⟨g, 0, none⟩ = some u ∧ Rd w' u 1 2 (nats [2, 1])) ∧ Below w.heap.size w w' := by
  refine (Factor_ok 5 [1, 0, 1] v w awake_pr5 (by omega) h1 (Q.pol_dec (by decide +kernel) (by decide +kernel)) (by decide) (by decide)).mono ?_
  rintro x w' ⟨v', L, fin, rfl, hF, hfin, hperm, hsort⟩
  rw [awake_monic] at hfin
  have hL : strip L = [([2, 1], 1), ([3, 1], 1)] := by
    have hne : ¬ ((strip L) = [([3, 1], 1), ([2, 1], 1)]) := fun e => by
      rw [e] at hsort
      have := (List.pairwise_cons.1 hsort).1 ([2, 1], 1) (by simp)
      exact this (by decide +kernel)
    have hp2 : (strip L).Perm [([2, 1], 1), ([3, 1], 1)] := by
      rcases awake_fact34 with h | h
      · rw [h] at hfin; injection hfin with hfin; rw [← hfin] at hperm; exact hperm.trans (List.Perm.swap ..)
      · rw [h] at hfin; injection hfin with hfin; rw [← hfin] at hperm; exact hperm
    have hlen := hp2.length_eq
    match hL : strip L, hp2, hlen with
    | [a, b], hp2, _ =>
      have ha : a ∈ [(([2, 1] : List Nat), 1), ([3, 1], 1)] := hp2.subset (by simp)
      have hb : b ∈ [(([2, 1] : List Nat), 1), ([3, 1], 1)] := hp2.subset (by simp)
      have h3 := hp2.nodup_iff.2 (by decide)
      simp at ha hb
      rcases ha with rfl | rfl <;> rcases hb with rfl | rfl
      · simp at h3
      · rfl
      · exact absurd hL hne
      · simp at h3
  have hLl : L.length = 2 := by have := congrArg List.length hL; simpa [strip] using this
  match L, hL, hLl, hF with
  | [], _, hLl, _ => simp at hLl
  | [_], _, hLl, _ => simp at hLl
  | _ :: _ :: _ :: _, _, hLl, _ => simp at hLl
  | [x1, x2], hL, _, hF =>
    obtain ⟨u1, M1, e1⟩ := x1
    obtain ⟨u2, M2, e2⟩ := x2
    simp [strip] at hL
    obtain ⟨⟨rfl, rfl⟩, rfl, rfl⟩ := hL
    obtain ⟨a, cap, hv, _, _, hblk⟩ := own_form hF.own
    obtain ⟨g, rfl, _, _⟩ := hblk (by simp)
    simp only [List.length_cons, List.length_nil] at hv
    subst hv
    have hc := hF.own.cellAt 0 (by simp)
    have hr := (hF.rows (u1, [2, 1], 1) (by simp)).rd hF.below
    refine ⟨⟨g, cap, u1, rfl, ?_, hr⟩, hF.below⟩
    rw [hc]; simp [flatF]

end Go.Proofs.YtgcjdojhfimceaaGreat
namespace Go.Proofs.YtgcjdojhfimceaaGreat
open Go.RowKit

/-- A list of factors that can be read. -/
structure RdFac (w : World) (v : Value) (L : List FacE) : Prop where
  rd : Rd w v 2 L.length (flatF L)
  rows : ∀ x ∈ L, Rd w x.1 1 x.2.1.length (nats x.2.1)
theorem RdFac.below {w w' : World} {v : Value} {L : List FacE} (h : RdFac w v L) (hB : Below w.heap.size w w') : RdFac w' v L :=
  ⟨h.rd.below hB (Nat.le_refl _), fun x hx => (h.rows x hx).below hB (Nat.le_refl _)⟩
theorem RdFac.of {w w' : World} {v : Value} {L : List FacE} (h : FcS w w' v L) : RdFac w' v L := ⟨Rd.of_own h.own, fun x hx => (h.rows x hx).rd h.below⟩
theorem RdFac.shape {w : World} {v : Value} {L : List FacE} (h : RdFac w v L) : ∃ a c, v = .slice a L.length c ∧ L.length ≤ c := by
  obtain ⟨_, a, cap, h2, h3, _⟩ := h.rd
  exact ⟨a, cap, h2, h3⟩
theorem flatF_two (L : List FacE) (k : Nat) (h : k < L.length) : (flatF L)[k * 2]? = some L[k].1 ∧ (flatF L)[k * 2 + 1]? = some (.int .i64 (L[k].2.2 : Int)) := by
  have h1 := flatF_get L (k * 2) (by omega)
  have h2 := flatF_get L (k * 2 + 1) (by omega)
  have e1 : k * 2 / 2 = k := by omega
  have e2 : (k * 2 + 1) / 2 = k := by omega
  have e3 : k * 2 % 2 = 0 := by omega
  have e4 : (k * 2 + 1) % 2 = 1 := by omega
  simp only [e1, e3] at h1
  simp only [e2, e4] at h2
  exact ⟨h1, h2⟩

/-- An entry: its two cells, and its polynomial. -/
structure HasF (w : World) (a : Option Addr) (L : List FacE) (k : Nat) (h : k < L.length) (b : Nat) (x : Option Addr) (c : Nat) : Prop where
  eq : a = some ⟨b, 0, none⟩
  lt : b < w.heap.size
  c0 : w.cell? ⟨b, k * 2, none⟩ = some (.slice x L[k].2.1.length c)
  c1 : w.cell? ⟨b, k * 2 + 1, none⟩ = some (.int .i64 (L[k].2.2 : Int))
  rd : Rd w (.slice x L[k].2.1.length c) 1 L[k].2.1.length (nats L[k].2.1)
theorem RdFac.at {w : World} {a : Option Addr} {n c : Nat} {L : List FacE} (h : RdFac w (.slice a n c) L) (k : Nat) (hk : k < L.length) : ∃ b x c, HasF w a L k hk b x c := by
  obtain ⟨_, a', cap, h2, _, h4⟩ := h.rd
  injection h2 with h2
  subst h2
  rcases h4 with h0 | ⟨b, rfl, hb, hcell⟩
  · omega
  · have hf := flatF_two L k hk
    have hr := h.rows _ (List.getElem_mem hk)
    obtain ⟨x, cx, hx⟩ := hr.shape
    refine ⟨b, x, cx, rfl, hb, ?_, hcell _ _ hf.2, ?_⟩
    · rw [← hx]; exact hcell _ _ hf.1
    · rw [← hx]; exact hr

end Go.Proofs.YtgcjdojhfimceaaGreat

namespace Go.Proofs.YtgcjdojhfimceaaGreat
namespace Q
variable {p : Nat}

def uniF (p k : Nat) : List Nat := (p - 1) :: (List.replicate (k - 1) 0 ++ [1])

theorem uniF_len {k : Nat} (h : 1 ≤ k) : (uniF p k).length = k + 1 := by simp [uniF]; omega

theorem uniF_set {k : Nat} (h : 1 ≤ k) : ((List.replicate (k + 1) 0).set k 1).set 0 (p - 1) = uniF p k := by
  obtain ⟨m, rfl⟩ : ∃ m, k = m + 1 := ⟨k - 1, by omega⟩
  apply List.ext_getElem
  · simp [uniF]
  · intro i h1 h2
    have hi : i < m + 2 := by simpa using h1
    cases i with
    | zero => simp [uniF]
    | succ i =>
      by_cases he : i = m
      · subst he
        simp [uniF]
      · have h3 : i < m := by omega
        simp only [uniF, List.getElem_cons_succ, Nat.add_sub_cancel]
        rw [List.getElem_append_left (by simpa using h3)]
        simp [List.getElem_set]
        omega

theorem uniF_last {k : Nat} (h : 1 ≤ k) : (uniF p k).getD ((uniF p k).length - 1) 0 = 1 := by
  rw [uniF_len h]
  obtain ⟨m, rfl⟩ : ∃ m, k = m + 1 := ⟨k - 1, by omega⟩
  simp [uniF, List.getD]

theorem uniF_pol (h2 : 2 ≤ p) {k : Nat} (h : 1 ≤ k) : Pol p (uniF p k) := by
  refine pol_of ?_ (.inr (by rw [uniF_last h]; omega))
  intro x hx
  unfold uniF at hx
  rcases List.mem_cons.1 hx with rfl | hx
  · omega
  · rcases List.mem_append.1 hx with hx | hx
    · have := (List.mem_replicate.1 hx).2; omega
    · simp at hx; omega

theorem uniF_mon {k : Nat} (h : 1 ≤ k) : Mon (uniF p k) := ⟨by rw [uniF_len h]; omega, uniF_last h⟩

theorem val_tail (x : Nat) : ∀ m, valP p (List.replicate m 0 ++ [1]) x = x ^ m % p
  | 0 => by simp [valP]
  | m + 1 => by
    have : valP p (List.replicate (m + 1) 0 ++ [1]) x = (valP p (List.replicate m 0 ++ [1]) x * x + 0) % p := rfl
    rw [this, val_tail x m, Nat.add_zero, Nat.mod_mul_mod, Nat.pow_succ]

theorem uniF_val (h2 : 2 ≤ p) {k : Nat} (h : 1 ≤ k) (x : Nat) : valP p (uniF p k) x = 0 ↔ x ^ k % p = 1 := by
  have e : valP p (uniF p k) x = (valP p (List.replicate (k - 1) 0 ++ [1]) x * x + (p - 1)) % p := rfl
  rw [e, val_tail, ← Nat.mod_add_mod, Nat.mod_mul_mod, ← Nat.pow_succ, show (k - 1).succ = k by omega]
  have h3 : x ^ k % p < p := Nat.mod_lt _ (by omega)
  generalize x ^ k % p = y at h3 ⊢
  constructor
  · intro h4
    rcases Nat.lt_or_ge (y + (p - 1)) p with h5 | h5
    · rw [Nat.mod_eq_of_lt h5] at h4; omega
    · rw [Nat.mod_eq_sub_mod h5, Nat.mod_eq_of_lt (by omega)] at h4; omega
  · rintro rfl
    rw [show 1 + (p - 1) = p by omega, Nat.mod_self]

/-- A linear polynomial divides just if its root is one. -/
theorem lin_mem (hP : M.Pr p) {F : List Nat} (hF : Pol p F) {l : List (List Nat)} (hl : ∀ g ∈ l, MIrr p g) (e : ev p F = ev p (prodL p l)) {x : Nat} (hx : x < p) : lin p x ∈ l ↔ valP p F x = 0 := by
  have hp2 := hP.1
  have hp : 0 < p := by omega
  have hpl : Pol p (prodL p l) := prodL_pol hP fun g hg => (hl g hg).irr.pol
  have heq : F = prodL p l := ev_inj hp hF hpl e
  have hdv : Dv p (lin p x) F ↔ valP p F x = 0 := by
    rw [← rem_nil_iff hP hF (pol_lin hp2 _) (by simp [lin]), div_lin hP (by omega) hF]
    constructor
    · intro h
      refine trim1_inj (v := valP p F x) (u := 0) ?_
      rw [h]; rfl
    · intro h; rw [h]; rfl
  rw [← hdv]
  constructor
  · intro h
    rw [heq]
    exact dv_prodL_mem hP (fun k hk => (hl k hk).irr.pol) h
  · intro h
    rw [heq] at h
    obtain ⟨g, hg, h2⟩ := (lin_mirr hP x).irr.dv_prodL hP (fun k hk => (hl k hk).irr.pol) h
    rw [(lin_mirr hP x).eq hP (hl g hg) h2]; exact hg

/-- A monic polynomial of degree 1. -/
theorem is_lin {g : List Nat} (hp : 0 < p) (hg : MIrr p g) (hl : g.length = 2) : g = lin p ((p - g.getD 0 0) % p) ∧ (p - g.getD 0 0) % p < p := by
  refine ⟨?_, Nat.mod_lt _ hp⟩
  obtain ⟨c, rfl⟩ : ∃ c, g = [c, 1] := by
    match g, hl, hg.mon.2 with
    | [c, d], _, hd => exact ⟨c, by simp at hd; rw [hd]⟩
  have hc : c < p := hg.irr.pol.red c (by simp)
  unfold lin
  show [c, 1] = [(p - (p - c) % p) % p, 1]
  by_cases h0 : c = 0
  · subst h0; simp
  · rw [Nat.mod_eq_of_lt (show p - c < p by omega), Nat.mod_eq_of_lt (by omega)]; congr 1; omega

def rootsU (p k : Nat) : List Nat := (List.range p).filter fun x => x ^ k % p == 1

/-- How many linear factors there are. -/
theorem count_lin (hP : M.Pr p) {k : Nat} (hk : 1 ≤ k) {L : List (List Nat × Nat)} {l : List (List Nat)} (H : FacL p (uniF p k) L l) : (L.filter fun y => y.1.length == 2).length = (rootsU p k).length := by
  have hp2 := hP.1
  have hp : 0 < p := by omega
  have hF := uniF_pol hp2 hk
  have e := facL_ev (uniF_mon hk) H
  have hmem : ∀ x, x < p → (lin p x ∈ l ↔ x ^ k % p = 1) := fun x hx => (lin_mem hP hF H.irr e hx).trans (uniF_val hp2 hk x)
  have hkey : ∀ y ∈ L, y.1 ∈ l := fun y hy => (H.ok.exp y hy).1
  apply Nat.le_antisymm
  · -- each linear factor has its root
    have h1 := inj_len (fun y : List Nat => (p - y.getD 0 0) % p) ((L.filter fun y => y.1.length == 2).map fun y => y.1) (rootsU p k)
      (by
        have := H.ok.nodup
        exact List.Sublist.nodup (List.Sublist.map _ (List.filter_sublist ..)) this)
      (by
        intro x hx y hy hxy
        obtain ⟨x', hx', rfl⟩ := List.mem_map.1 hx
        obtain ⟨y', hy', rfl⟩ := List.mem_map.1 hy
        have hx2 := List.mem_filter.1 hx'
        have hy2 := List.mem_filter.1 hy'
        have g1 := is_lin hp (H.irr _ (hkey _ hx2.1)) (by simpa using hx2.2)
        have g2 := is_lin hp (H.irr _ (hkey _ hy2.1)) (by simpa using hy2.2)
        rw [g1.1, g2.1]
        have hxy' : (p - x'.1.getD 0 0) % p = (p - y'.1.getD 0 0) % p := hxy
        rw [hxy'])
      (by
        intro x hx
        obtain ⟨x', hx', rfl⟩ := List.mem_map.1 hx
        have hx2 := List.mem_filter.1 hx'
        have g1 := is_lin hp (H.irr _ (hkey _ hx2.1)) (by simpa using hx2.2)
        refine List.mem_filter.2 ⟨List.mem_range.2 g1.2, ?_⟩
        rw [beq_iff_eq]
        refine (hmem _ g1.2).1 ?_
        rw [← g1.1]; exact hkey _ hx2.1)
    simpa using h1
  · have h1 := inj_len (fun x : Nat => lin p x) (rootsU p k) ((L.filter fun y => y.1.length == 2).map fun y => y.1)
      (List.Sublist.nodup (List.filter_sublist ..) List.nodup_range)
      (by
        intro x hx y hy hxy
        have hx2 := List.mem_range.1 (List.mem_filter.1 hx).1
        have hy2 := List.mem_range.1 (List.mem_filter.1 hy).1
        exact lin_inj hx2 hy2 hxy)
      (by
        intro x hx
        have hx2 := List.mem_filter.1 hx
        have h2 := (hmem x (List.mem_range.1 hx2.1)).2 (by simpa using hx2.2)
        obtain ⟨y, hy, hye⟩ := H.ok.all _ h2
        exact List.mem_map.2 ⟨y, List.mem_filter.2 ⟨hy, by rw [hye]; rfl⟩, hye⟩)
    simpa using h1

theorem dvd_mul_gcd {n k i : Nat} (hn : 1 ≤ n) (h : n ∣ i * k) : n / Nat.gcd k n ∣ i := by
  have hd : 0 < Nat.gcd k n := Nat.gcd_pos_of_pos_right _ (by omega)
  have hc : Nat.Coprime (n / Nat.gcd k n) (k / Nat.gcd k n) := (Nat.coprime_div_gcd_div_gcd hd).symm
  refine hc.dvd_of_dvd_mul_right ?_
  obtain ⟨q, hq⟩ := h
  refine ⟨q, ?_⟩
  have h1 : Nat.gcd k n ∣ k := Nat.gcd_dvd_left _ _
  have h2 : Nat.gcd k n ∣ n := Nat.gcd_dvd_right _ _
  apply Nat.eq_of_mul_eq_mul_right hd
  rw [Nat.mul_assoc, Nat.div_mul_cancel h1, hq, Nat.mul_right_comm, Nat.div_mul_cancel h2]

/-- The number of roots of unity. -/
theorem count_roots (hP : M.Pr p) {k : Nat} (hk : 1 ≤ k) : (rootsU p k).length = Nat.gcd k (p - 1) := by
  have hp2 := hP.1
  have hn : 1 ≤ p - 1 := by omega
  obtain ⟨g, hg1, hg2, hg3⟩ := M.exists_gen hP
  have hg0 : ¬ p ∣ g := fun h => by have := Nat.le_of_dvd (by omega) h; omega
  have h1p : 1 % p = 1 := Nat.mod_eq_of_lt (by omega)
  have ho : M.IsOrd g (p - 1) p := M.isOrd_of hn (by rw [h1p]; exact M.fermat hP hg0) (fun q hq hd => by rw [h1p]; exact hg3 q hq hd)
  have hd : 0 < Nat.gcd k (p - 1) := Nat.gcd_pos_of_pos_right _ (by omega)
  have hdn : Nat.gcd k (p - 1) ∣ p - 1 := Nat.gcd_dvd_right _ _
  have hdk : Nat.gcd k (p - 1) ∣ k := Nat.gcd_dvd_left _ _
  obtain ⟨s, hs⟩ := hdn
  have hsq : (p - 1) / Nat.gcd k (p - 1) = s := by
    have := Nat.mul_div_cancel_left s hd
    rw [← hs] at this; exact this
  have hs1 : 1 ≤ s := by
    rcases Nat.eq_zero_or_pos s with h | h
    · subst h; omega
    · exact h
  have hroot : ∀ t, (g ^ (t * s) % p) ^ k % p = 1 := by
    intro t
    rw [← Nat.pow_mod, ← Nat.pow_mul]
    obtain ⟨q, hq⟩ := hdk
    have : t * s * k = (p - 1) * (t * q) := by
      rw [hs]
      calc t * s * k = t * s * (Nat.gcd k (p - 1) * q) := by rw [← hq]
        _ = _ := by generalize Nat.gcd k (p - 1) = d; ac_rfl
    rw [this]
    have := M.pow_one_mul ho.one (t * q)
    rw [this, h1p]
  have hlt : ∀ t, t < Nat.gcd k (p - 1) → t * s < p - 1 := by
    intro t ht
    have : (t + 1) * s ≤ Nat.gcd k (p - 1) * s := Nat.mul_le_mul_right _ ht
    rw [← hs, Nat.add_mul] at this; omega
  apply Nat.le_antisymm
  · have h1 := inj_len (fun x : Nat => x) (rootsU p k) ((List.range (Nat.gcd k (p - 1))).map fun t => g ^ (t * s) % p)
      (List.Sublist.nodup (List.filter_sublist ..) List.nodup_range) (fun _ _ _ _ h => h) (by
        intro x hx
        have hx2 := List.mem_filter.1 hx
        have hxp := List.mem_range.1 hx2.1
        have hx1 : x ^ k % p = 1 := by simpa using hx2.2
        have hx0 : 1 ≤ x := by
          rcases Nat.eq_zero_or_pos x with h | h
          · subst h; rw [Nat.zero_pow (by omega)] at hx1; simp at hx1
          · exact h
        obtain ⟨i, hi, hie⟩ := M.powers_all hp2 ho hx0 hxp
        have hdv : p - 1 ∣ i * k := ho.dvd (by rw [Nat.pow_mul, Nat.pow_mod, hie, hx1, h1p])
        have h5 := dvd_mul_gcd hn hdv
        rw [hsq] at h5
        obtain ⟨t, ht⟩ := h5
        refine List.mem_map.2 ⟨t, List.mem_range.2 ?_, by rw [← hie, ht, Nat.mul_comm s t]⟩
        rcases Nat.lt_or_ge t (Nat.gcd k (p - 1)) with h6 | h6
        · exact h6
        · have h7 : s * Nat.gcd k (p - 1) ≤ s * t := Nat.mul_le_mul_left _ h6
          rw [Nat.mul_comm s (Nat.gcd k (p - 1)), ← hs] at h7
          omega)
    simpa using h1
  · have h1 := inj_len (fun t : Nat => g ^ (t * s) % p) (List.range (Nat.gcd k (p - 1))) (rootsU p k) List.nodup_range
      (by
        intro t ht u hu htu
        have ht2 := hlt t (List.mem_range.1 ht)
        have hu2 := hlt u (List.mem_range.1 hu)
        have htu' : g ^ (t * s) % p = g ^ (u * s) % p := htu
        rcases Nat.lt_trichotomy t u with h | h | h
        · exact absurd htu' (ho.inj (Nat.mul_lt_mul_of_pos_right h hs1) hu2)
        · exact h
        · exact absurd htu'.symm (ho.inj (Nat.mul_lt_mul_of_pos_right h hs1) ht2))
      (by
        intro t ht
        exact List.mem_filter.2 ⟨List.mem_range.2 (Nat.mod_lt _ (by omega)), by rw [beq_iff_eq]; exact hroot t⟩)
    simpa using h1

end Q
end Go.Proofs.YtgcjdojhfimceaaGreat
