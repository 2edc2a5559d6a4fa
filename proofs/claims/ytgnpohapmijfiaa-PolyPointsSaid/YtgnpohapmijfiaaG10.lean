/- Walks and plain mathematics: Srt, PwSorted, PwFcs, PwSortL, PwFactors, Fce, PwFactorApi, PwAdv, PwCount, PwFirst, PwAwf, Cnt, PwCnt, Rfm, RefA, RefB, RefC, PwAwake. -/
import Derived.Test.YtgnpohapmijfiaaG09
import Derived.Test.YtgnpohapmijfiaaG04
import Derived.Test.YtgnpohapmijfiaaG03
import Derived.Test.YtgnpohapmijfiaaG01
import Derived.Sort.OwnSorted
import Derived.Shelf.SlSortCmp.NoneTotal
import Derived.Deep.RegionHeld3
import Derived.Deep.LoopGhost
import Derived.BigQuiet
import Derived.BigRegion
namespace Go.Proofs.Ytgnpohapmijfiaa
open Go.RowKit Go.Sort Go.Proofs Go.Shelf Go.Lib

theorem heap_sortedV {w : World} {g n : Nat} {os : Array Obj} {cur : Array Value} {e : TypeId} {fr : Nat × Nat} (d : Array Value) (hb : w.heap[g]? = some (.cells cur e fr)) :
    (grow (putRow id (Sort.ahead w n) g 0 d) os).heap[g]? = some (.cells (putCells id 0 d cur) e fr) := by
  have hg : g < w.heap.size := (Array.getElem?_eq_some_iff.1 hb).1
  rw [heap_grow_old _ _ (by simpa using hg)]
  simp [putRow, mapBlock, Sort.ahead, Array.getElem?_modify, hb, onCells]

theorem grownBy_sortedV {w : World} {g n : Nat} {os : Array Obj} (d : Array Value) : w.grownBy (grow (putRow id (Sort.ahead w n) g 0 d) os) (some g) := by
  refine ⟨rfl, rfl, rfl, by simp, fun k hk hne => ?_⟩
  rw [heap_grow_old _ _ (by simpa using hk)]
  have : g ≠ k := fun e => hne (by rw [e])
  simp [putRow, mapBlock, Sort.ahead, Array.getElem?_modify, this]

theorem take_putCellsV (cur : Array Value) (ts : List Value) (h : ts.length ≤ cur.size) : (putCells id 0 ts.toArray cur).toList.take ts.length = ts := by
  apply List.ext_getElem?
  intro j
  by_cases hj : j < ts.length
  · rw [List.getElem?_take_of_lt hj, Array.getElem?_toList]
    simp [putCells, hj, show j < cur.size by omega]
  · rw [List.getElem?_take_eq_none (by omega), List.getElem?_eq_none (by omega)]

theorem ownsRow_sortedV {w : World} {base g cap n m size : Nat} {e : TypeId} {os : Array Obj} {xs ts : List Value} (h : w.ownsRow base e size (.slice (some ⟨g, 0, none⟩) m cap) m xs) (hl : ts.length = m * size) :
    (grow (putRow id (Sort.ahead w n) g 0 ts.toArray) os).ownsRow base e size (.slice (some ⟨g, 0, none⟩) m cap) m ts := by
  rcases h.2 with ⟨h0, _⟩ | ⟨g', cap', cur, h1, h2, h3, h4, h5, h6, h7⟩
  · cases h0
  cases h1
  refine ⟨hl, .inr ⟨g, cap, _, rfl, h2, heap_sortedV _ h3, h4, h5, by simp [putCells, h6], ?_⟩⟩
  rw [← hl]
  exact take_putCellsV cur ts (by rw [hl, h6]; exact Nat.mul_le_mul_right _ h4)

/-- A factor in memory, which stays there while the row in block blk is sorted. -/
structure FacAt (w : World) (blk : Nat) where
  v : Value
  M : List Nat
  e : Nat
  rd : Rd w v 1 M.length (nats M)
  ne : M.length ≠ 0 → v.ownBlock ≠ some blk
  len : M.length ≤ 100000
  small : ∀ x ∈ M, x ≤ 100000

instance (w : World) (blk : Nat) : Inhabited (FacAt w blk) := ⟨⟨.slice none 0 0, [], 0, ⟨rfl, none, 0, rfl, Nat.le_refl _, .inl rfl⟩, fun h => absurd rfl h, by simp, by simp⟩⟩

def FacAt.enc {w : World} {blk : Nat} (x : FacAt w blk) : List Value := [x.v, .int .i64 x.e]
def FacAt.ord {w : World} {blk : Nat} (x y : FacAt w blk) : Int := Q.ordP x.M y.M

theorem FacAt.keep {w : World} {blk : Nat} (x : FacAt w blk) (off m : Nat) (dk : Array (FacAt w blk)) (os : Array Obj) : Rd (sortWorldK FacAt.enc 2 w blk off m dk os) x.v 1 x.M.length (nats x.M) := by
  obtain ⟨h1, a, cap, h2, h3, h4⟩ := x.rd
  refine ⟨h1, a, cap, h2, h3, ?_⟩
  rcases h4 with h4 | ⟨b, h5, h6, h7⟩
  · exact .inl h4
  · by_cases h0 : x.M.length = 0
    · exact .inl h0
    have hb : b ≠ blk := fun e => x.ne h0 (by rw [h2, h5, e]; rfl)
    refine .inr ⟨b, h5, Nat.lt_of_lt_of_le h6 (size_sortWorldK_c _ _ _ _ _ _ _ _), fun j u hu => ?_⟩
    rw [cell?_sortWorldK_other _ _ _ _ _ _ _ _ _ hb h6]
    exact h7 j u hu

theorem drewN_grow (w : World) (os : Array Obj) (n : Nat) : (grow w os).drewN n = grow (w.drewN n) os := by
  induction n generalizing w with
  | zero => rfl
  | succ n ih => first | rfl | (simp only [World.drewN]; rw [← ih]; rfl)

set_option maxRecDepth 100000 in
set_option maxHeartbeats 1000000 in
theorem facLess_is (F G : List Nat) (v u : Value) (e1 e2 : Int) (W : World) (hv : Hid (Rd W v 1 F.length (nats F))) (hu : Hid (Rd W u 1 G.length (nats G))) (hl : F.length ≤ 100000) (hl2 : G.length ≤ 100000) (hx : Hid (∀ x ∈ F, x ≤ 100000)) (hy : Hid (∀ x ∈ G, x ≤ 100000)) :
    Calls Try.prog 103 #[.agg #[v, .int .i64 e1], .agg #[u, .int .i64 e2]] W fun e w' => e = .returned (.int .i64 (Q.ordP F G)) ∧ ∃ q os', w' = grow (W.drewN q) os' := by
  obtain ⟨av, cv, rfl⟩ := hv.out.shape
  obtain ⟨au, cu, rfl⟩ := hu.out.shape
  obtain ⟨n, hn⟩ : ∃ n, n = F.length := ⟨_, rfl⟩
  obtain ⟨m, hm⟩ : ∃ m, m = G.length := ⟨_, rfl⟩
  have HV : Hid (∀ W', Below W.heap.size W W' → Rd W' (.slice av n cv) 1 F.length (nats F)) := fun W' hB => by rw [hn]; exact hv.out.below hB (Nat.le_refl _)
  have HU : Hid (∀ W', Below W.heap.size W W' → Rd W' (.slice au m cu) 1 G.length (nats G)) := fun W' hB => by rw [hm]; exact hu.out.below hB (Nat.le_refl _)
  have HO : Hid (∀ o1 o2 k, Below W.heap.size W (((W.alloc o1).alloc o2).drewN k)) := fun o1 o2 k => below_drewN (((Below.refl _ _).alloc (Nat.le_refl _) _).alloc (by simp) _) k
  rw [← hn, ← hm]
  clear hn hm hv hu
  go_enter Try.func103, Try.ntmps103
  go_wp2_with (fail)
  refine (order_is F G _ _ _ (fun k => HV.out _ (HO.out _ _ k)) (fun k => HU.out _ (HO.out _ _ k)) hl hl2 hx hy).mono ?_
  rintro e w' ⟨rfl, n, rfl⟩
  go_wp2_with (fail)
  go_ret
  exact ⟨rfl, n, _, by rw [alloc_eq_grow, alloc_eq_grow, grow_grow, drewN_grow]⟩

end Go.Proofs.Ytgnpohapmijfiaa

namespace Go.Proofs.Ytgnpohapmijfiaa
open Go.RowKit Go.Sort Go.Proofs Go.Shelf Go.Lib

theorem Q.ordP_self : ∀ f : List Nat, Q.ordP f f = 0
  | [] => rfl
  | a :: f => by rw [Q.ordP_cons, Q.ordP_self f, if_pos rfl]; unfold Lib.compareInt; rw [if_neg (by omega), if_neg (by omega)]

/-- The order as a relation: less. -/
def Q.LtP (f g : List Nat) : Prop := Q.ordP f g < 0

theorem cmpInt_cases (a b : Int) : (Lib.compareInt a b = -1 ∧ a < b) ∨ (Lib.compareInt a b = 0 ∧ a = b) ∨ (Lib.compareInt a b = 1 ∧ b < a) := by
  unfold Lib.compareInt
  by_cases h : a < b
  · exact .inl ⟨by rw [if_pos h], h⟩
  · by_cases h2 : b < a
    · exact .inr (.inr ⟨by rw [if_neg h, if_pos h2], h2⟩)
    · exact .inr (.inl ⟨by rw [if_neg h, if_neg h2], by omega⟩)

theorem Q.ordP_flip : ∀ f g : List Nat, Q.ordP g f = - Q.ordP f g
  | [], [] => rfl
  | [], _ :: _ => rfl
  | _ :: _, [] => rfl
  | a :: f, b :: g => by
    rw [Q.ordP_cons, Q.ordP_cons, Q.ordP_flip f g]
    by_cases h : Q.ordP f g = 0
    · rw [h, if_pos (by rfl), if_pos rfl]
      rcases cmpInt_cases (a : Int) b with h1 | h1 | h1 <;> rcases cmpInt_cases (b : Int) a with h2 | h2 | h2 <;> omega
    · rw [if_neg h, if_neg (by omega)]

theorem Q.ordP_eq : ∀ {f g : List Nat}, Q.ordP f g = 0 → f = g
  | [], [], _ => rfl
  | [], _ :: _, h => by simp [Q.ordP] at h
  | _ :: _, [], h => by simp [Q.ordP] at h
  | a :: f, b :: g, h => by
    rw [Q.ordP_cons] at h
    by_cases h1 : Q.ordP f g = 0
    · rw [if_pos h1] at h
      rcases cmpInt_cases (a : Int) b with h2 | h2 | h2
      · omega
      · rw [Q.ordP_eq h1, show a = b by omega]
      · omega
    · rw [if_neg h1] at h; exact absurd h h1

theorem Q.ordP_tri (f g : List Nat) : Q.ordP f g = -1 ∨ Q.ordP f g = 0 ∨ Q.ordP f g = 1 := by
  match f, g with
  | [], [] => exact .inr (.inl rfl)
  | [], _ :: _ => exact .inl rfl
  | _ :: _, [] => exact .inr (.inr rfl)
  | a :: f, b :: g =>
    rw [Q.ordP_cons]
    by_cases h : Q.ordP f g = 0
    · rw [if_pos h]; rcases cmpInt_cases (a : Int) b with h2 | h2 | h2 <;> omega
    · rw [if_neg h]; exact Q.ordP_tri f g

theorem Q.ordP_trans : ∀ {f g h : List Nat}, Q.ordP f g = -1 → Q.ordP g h = -1 → Q.ordP f h = -1
  | [], [], _, h1, _ => by simp [Q.ordP] at h1
  | [], _ :: _, [], _, h2 => by simp [Q.ordP] at h2
  | [], _ :: _, _ :: _, _, _ => rfl
  | _ :: _, [], _, h1, _ => by simp [Q.ordP] at h1
  | _ :: _, _ :: _, [], _, h2 => by simp [Q.ordP] at h2
  | a :: f, b :: g, c :: h, h1, h2 => by
    rw [Q.ordP_cons] at h1 h2 ⊢
    by_cases e1 : Q.ordP f g = 0
    · have := Q.ordP_eq e1; subst this
      rw [if_pos e1] at h1
      by_cases e2 : Q.ordP f h = 0
      · rw [if_pos e2] at h2 ⊢
        rcases cmpInt_cases (a : Int) b with h3 | h3 | h3 <;> rcases cmpInt_cases (b : Int) c with h4 | h4 | h4 <;> rcases cmpInt_cases (a : Int) c with h5 | h5 | h5 <;> omega
      · rw [if_neg e2] at h2 ⊢; exact h2
    · rw [if_neg e1] at h1
      by_cases e2 : Q.ordP g h = 0
      · have := Q.ordP_eq e2; subst this
        rw [if_neg e1]; exact h1
      · rw [if_neg e2] at h2
        have := Q.ordP_trans h1 h2
        rw [if_neg (by omega)]; exact this

theorem facSWO (w : World) (blk : Nat) : SWO (ltOf (FacAt.ord (w := w) (blk := blk))) where
  irrefl x := by simp [ltOf, FacAt.ord, Q.ordP_self]
  trans x y z h1 h2 := by
    have g1 : Q.ordP x.M y.M < 0 := of_decide_eq_true h1
    have g2 : Q.ordP y.M z.M < 0 := of_decide_eq_true h2
    have := Q.ordP_trans (f := x.M) (g := y.M) (h := z.M) (by rcases Q.ordP_tri x.M y.M with h | h | h <;> omega) (by rcases Q.ordP_tri y.M z.M with h | h | h <;> omega)
    exact decide_eq_true (show Q.ordP x.M z.M < 0 by omega)
  ntrans x y z h1 h2 := by
    have g1 : ¬ Q.ordP x.M y.M < 0 := of_decide_eq_false h1
    have g2 : ¬ Q.ordP y.M z.M < 0 := of_decide_eq_false h2
    refine decide_eq_false (show ¬ Q.ordP x.M z.M < 0 from fun h3 => ?_)
    rcases Q.ordP_tri x.M y.M with h | h | h
    · omega
    · have e := Q.ordP_eq h; rw [e] at h3; omega
    · have e : Q.ordP y.M x.M = -1 := by rw [Q.ordP_flip x.M y.M, h]
      have := Q.ordP_trans e (h := z.M) (by rcases Q.ordP_tri x.M z.M with h | h | h <;> omega)
      omega

set_option maxHeartbeats 1000000 in
theorem sortFacs_is (blk cap : Nat) (w : World) (d : Array (FacAt w blk)) (hH : HoldsK FacAt.enc 2 w blk 0 d) (hblk : blk < w.heap.size) (hsz : d.size < 1000000000) :
    Calls Try.prog 102 #[.slice (some ⟨blk, 0, none⟩) d.size cap, .func (.func 103) #[] #[]] w fun e w' => e = .returned (.tuple #[]) ∧ ∃ d' n os, PermIn 0 d.size d d' ∧ SortedIn (ltOf (FacAt.ord (w := w) (blk := blk))) 0 d.size d' ∧ w' = sortWorldK FacAt.enc 2 w blk 0 n d' os := by
  have eg : ∀ args w, (callFunc 103 args).run Try.prog w = .ok (.enter 103 args) w := enters_of Try.func103 (by kernel_rfl) rfl
  refine AnyQ.slices_SortFunc Try.sortFactors 2 Try.isAgg65 Try.sizeOf65 FacAt.enc (fun _ => rfl) (fun x v hv => ?_) FacAt.ord (facSWO w blk) 103 #[] blk 0 cap d w eg ?_ hH hblk (by omega)
  · obtain ⟨a, cp, e⟩ := x.rd.shape
    simp [FacAt.enc] at hv
    rcases hv with rfl | rfl
    · rw [e]; rfl
    · rfl
  · intro m os dk _ x y
    exact facLess_is x.M y.M x.v y.v x.e y.e _ (x.keep 0 m dk os) (y.keep 0 m dk os) x.len y.len x.small y.small

end Go.Proofs.Ytgnpohapmijfiaa

namespace Go.Proofs.Ytgnpohapmijfiaa
open Go.RowKit

abbrev FacE := Value × List Nat × Nat
def flatF (L : List FacE) : List Value := L.flatMap fun x => [x.1, .int .i64 (x.2.2 : Int)]
def strip (L : List FacE) : List (List Nat × Nat) := L.map fun x => x.2
theorem flatF_append (L L' : List FacE) : flatF (L ++ L') = flatF L ++ flatF L' := by simp [flatF]

/-- A row of factors under way. -/
structure FcS (w wr : World) (v : Value) (L : List FacE) : Prop where
  own : wr.ownsRow w.heap.size 65 2 v L.length (flatF L)
  rows : ∀ x ∈ L, RowS w wr x.1 x.2.1
  below : Below w.heap.size w wr
  small : ∀ x ∈ L, x.2.1.length ≤ 100000 ∧ ∀ y ∈ x.2.1, y ≤ 100000

theorem FcS.low {w wr wx : World} {v : Value} {L : List FacE} (h : FcS w wr v L) (hB : Below wr.heap.size wr wx) : FcS w wx v L :=
  ⟨own_kept h.own hB, fun x hx => (h.rows x hx).low hB, h.below.trans (hB.mono h.below.size), h.small⟩
theorem FcS.nil {w wr : World} (hB : Below w.heap.size w wr) : FcS w wr (.slice none 0 0) [] := ⟨World.ownsRow_nil _ _ _ _, fun x hx => by simp at hx, hB, fun x hx => by simp at hx⟩
theorem FcS.append {w wr wx : World} {v v' : Value} {L : List FacE} {x : FacE} {o : Obj} (h : FcS w wr v L) (hx : RowS w wr x.1 x.2.1) (hsm : x.2.1.length ≤ 100000 ∧ ∀ y ∈ x.2.1, y ≤ 100000)
    (hown : wx.ownsRow w.heap.size 65 2 v' (L.length + 1) (flatF L ++ [x.1, .int .i64 (x.2.2 : Int)])) (hg : (wr.alloc o).grownBy wx v.ownBlock) : FcS w wx v' (L ++ [x]) := by
  have hBa : Below wr.heap.size wr (wr.alloc o) := (Below.refl _ _).alloc (Nat.le_refl _) _
  have hk : ∀ (t : Value) (N : List Nat), RowS w wr t N → RowS w wx t N := fun t N h1 => by
    rcases h1 with h1 | h1
    · exact .inl h1
    · exact .inr ((own_kept h1 hBa).kept hg (own_ty_ne2 h1 h.own (by decide)))
  refine ⟨?_, fun y hy => ?_, (h.below.trans (hBa.mono h.below.size)).grown hg (Nat.le_trans h.below.size hBa.size) fun g hg' => (h.own.lt g hg').1, fun y hy => ?_⟩
  · rw [List.length_append, flatF_append]
    exact hown
  · rcases List.mem_append.1 hy with h1 | h1
    · exact hk _ _ (h.rows y h1)
    · simp at h1; subst h1; exact hk _ _ hx
  · rcases List.mem_append.1 hy with h1 | h1
    · exact h.small y h1
    · simp at h1; subst h1; exact hsm

theorem RowS.grown {w wr wx : World} {u al : Value} {M : List Nat} {L : List FacE} {o : Obj} (h : RowS w wr u M) (ho : FcS w wr al L) (hg : (wr.alloc o).grownBy wx al.ownBlock) : RowS w wx u M := by
  have hBa : Below wr.heap.size wr (wr.alloc o) := (Below.refl _ _).alloc (Nat.le_refl _) _
  rcases h with h1 | h1
  · exact .inl h1
  · exact .inr ((own_kept h1 hBa).kept hg (own_ty_ne2 h1 ho.own (by decide)))

theorem MxS.grownF {w wr wx : World} {v al : Value} {vs : List Value} {Ms : List (List Nat)} {L : List FacE} {o : Obj} (h : MxS w wr v vs Ms) (ho : FcS w wr al L) (hg : (wr.alloc o).grownBy wx al.ownBlock) : MxS w wx v vs Ms := by
  have hBa : Below wr.heap.size wr (wr.alloc o) := (Below.refl _ _).alloc (Nat.le_refl _) _
  exact ⟨(own_kept h.own hBa).kept hg (own_ty_ne2 h.own ho.own (by decide)), fun i u M h1 h2 => (h.rows i u M h1 h2).grown ho hg,
    (h.below.trans (hBa.mono h.below.size)).grown hg (Nat.le_trans h.below.size hBa.size) fun g hg' => (ho.own.lt g hg').1⟩

theorem Try.infoF : (Try.prog.info? 65).map (fun i => (i.zero, i.size, i.bytes)) = some (some (.agg #[.slice none 0 0, .int .i64 0]), 2, 32) := by kernel_rfl

end Go.Proofs.Ytgnpohapmijfiaa

namespace Go.Proofs.Ytgnpohapmijfiaa
open Go.RowKit Go.Sort Go.Proofs Go.Shelf Go.Lib

def FacAt.toE {w : World} {blk : Nat} (x : FacAt w blk) : FacE := (x.v, x.M, x.e)

theorem flatF_length (L : List FacE) : (flatF L).length = L.length * 2 := by
  induction L with
  | nil => rfl
  | cons x L ih => rw [flatF, List.flatMap_cons, List.length_append, List.length_cons]; rw [flatF] at ih; rw [ih]; simp; omega

theorem flatF_get : ∀ (L : List FacE) (t : Nat) (h : t / 2 < L.length), (flatF L)[t]? = some ([L[t / 2].1, Value.int .i64 (L[t / 2].2.2 : Int)][t % 2]!)
  | [], t, h => by simp at h
  | x :: L, 0, h => rfl
  | x :: L, 1, h => rfl
  | x :: L, t + 2, h => by
    have h1 : (t + 2) / 2 = t / 2 + 1 := by omega
    have h2 : (t + 2) % 2 = t % 2 := by omega
    have h3 : t / 2 < L.length := by rw [h1] at h; simpa using h
    have e : flatF (x :: L) = x.1 :: .int .i64 (x.2.2 : Int) :: flatF L := rfl
    rw [e, List.getElem?_cons_succ, List.getElem?_cons_succ, flatF_get L t h3]
    simp only [h1, h2, List.getElem_cons_succ]

theorem flatK_eq {w : World} {blk : Nat} (d : Array (FacAt w blk)) : flatK FacAt.enc 2 d = (flatF (d.toList.map FacAt.toE)).toArray := by
  apply Array.ext
  · simp [flatF_length]
  · intro t h1 h2
    have h3 : t < d.size * 2 := by simpa using h1
    have h4 := get_flatK FacAt.enc 2 d t h3
    rw [getElem!_pos _ t h1] at h4
    rw [h4]
    have h5 : t / 2 < (d.toList.map FacAt.toE).length := by simp; omega
    have h6 := flatF_get (d.toList.map FacAt.toE) t h5
    have h7 : (flatF (d.toList.map FacAt.toE)).toArray[t] = [(d.toList.map FacAt.toE)[t / 2].1, Value.int .i64 ((d.toList.map FacAt.toE)[t / 2].2.2 : Int)][t % 2]! := by
      have h8 : t < (flatF (d.toList.map FacAt.toE)).length := by simpa using h2
      rw [List.getElem?_eq_getElem h8] at h6
      have h6 := Option.some.inj h6
      simpa using h6
    rw [h7]
    have h9 : t / 2 < d.size := by omega
    rw [getElem!_pos d (t / 2) h9]
    simp [FacAt.enc, FacAt.toE]

theorem sortList_is {w wr : World} {v : Value} {L : List FacE} (h : FcS w wr v L) (hl : L.length ≤ 100000000) :
    Calls Try.prog 102 #[v, .func (.func 103) #[] #[]] wr fun e w' => e = .returned (.tuple #[]) ∧ ∃ L', FcS w w' v L' ∧ L'.Perm L ∧ L'.Pairwise fun a b => ¬ Q.ordP b.2.1 a.2.1 < 0 := by
  obtain ⟨a, cap, hv, _, _, hg⟩ := own_form h.own
  by_cases h0 : L.length = 0
  · obtain rfl := List.length_eq_zero_iff.1 h0
    subst hv
    refine (AnyF.slices_SortFunc_none Try.sortFactors a cap (.func (.func 103) #[] #[]) wr).mono ?_
    rintro e w' ⟨he, rfl⟩
    exact ⟨he, [], h, List.Perm.refl _, List.Pairwise.nil⟩
  · obtain ⟨g, rfl, hb, hgl⟩ := hg (by omega)
    subst hv
    have hne : ∀ x ∈ L, x.2.1.length ≠ 0 → x.1.ownBlock ≠ some g := fun x hx _hx0 => by
      rcases h.rows x hx with h1 | h1
      · exact h1.1.elim
      · rcases own_ty_ne2 h1 h.own (by decide) with h2 | h2
        · rw [h2]; simp
        · exact h2
    obtain ⟨d, hd⟩ : ∃ d : Array (FacAt wr g), d.toList.map FacAt.toE = L :=
      ⟨(L.attach.map fun x => (⟨x.1.1, x.1.2.1, x.1.2.2, (h.rows x.1 x.2).rd h.below, hne x.1 x.2, (h.small x.1 x.2).1, (h.small x.1 x.2).2⟩ : FacAt wr g)).toArray, by
        simp only [List.map_map]
        have : (FacAt.toE ∘ fun x : { x // x ∈ L } => (⟨x.1.1, x.1.2.1, x.1.2.2, (h.rows x.1 x.2).rd h.below, hne x.1 x.2, (h.small x.1 x.2).1, (h.small x.1 x.2).2⟩ : FacAt wr g)) = Subtype.val := by
          funext x; rfl
        rw [this]; exact List.attach_map_subtype_val L⟩
    have hds : d.size = L.length := by rw [← hd]; simp
    have hH : HoldsK FacAt.enc 2 wr g 0 d := by
      unfold HoldsK
      rw [flatK_eq, hd]
      intro j hj
      have hj' : j < (flatF L).length := by simpa using hj
      refine ⟨?_, by rw [Nat.zero_add]; exact h.own.frozenAt j⟩
      rw [Nat.zero_add, h.own.cellAt j (by rw [← flatF_length]; exact hj')]
      simp [hj']
    have hc := sortFacs_is g cap wr d hH hgl (by omega)
    rw [hds] at hc
    refine hc.mono ?_
    rintro e w' ⟨he, d', n, os, hp, hs, rfl⟩
    have hds' : d'.size = L.length := by rw [hp.1, hds]
    have hw : sortWorldK FacAt.enc 2 wr g 0 n d' os = grow (putRow id (Sort.ahead wr n) g 0 (flatF (d'.toList.map FacAt.toE)).toArray) os := by
      rw [← flatK_eq]; rfl
    have hgr : wr.grownBy (sortWorldK FacAt.enc 2 wr g 0 n d' os) (some g) := by rw [hw]; exact grownBy_sortedV _
    have hperm : (d'.toList.map FacAt.toE).Perm L := by
      rw [← hd]
      refine List.Perm.map _ ?_
      have h1 := hp.2.2
      have e1 : d'.extract 0 L.length = d' := by rw [← hds']; simp
      have e2 : d.extract 0 L.length = d := by rw [← hds]; simp
      rw [e1, e2] at h1
      exact h1
    have hlen : (d'.toList.map FacAt.toE).length = L.length := by simp [hds']
    refine ⟨he, d'.toList.map FacAt.toE, ⟨?_, fun x hx => ?_, h.below.grown hgr h.below.size fun k hk => by injection hk with hk; omega, fun x hx => h.small x (hperm.mem_iff.1 hx)⟩, hperm, ?_⟩
    · rw [hw, hlen]
      exact ownsRow_sortedV h.own (by rw [flatF_length, hlen])
    · rcases h.rows x (hperm.mem_iff.1 hx) with h1 | h1
      · exact .inl h1
      · exact .inr (h1.kept hgr (own_ty_ne2 h1 h.own (by decide)))
    · rw [List.pairwise_iff_getElem]
      intro i j hi hj hij
      have hj' : j < d'.size := by simpa using hj
      have h1 := hs i j (Nat.zero_le _) hij (by rw [← hds']; exact hj')
      have h2 := of_decide_eq_false h1
      rw [getElem!_pos d' j hj', getElem!_pos d' i (by omega)] at h2
      simpa [FacAt.toE, FacAt.ord] using h2

end Go.Proofs.Ytgnpohapmijfiaa

namespace Go.Proofs.Ytgnpohapmijfiaa
open Go.RowKit

set_option maxRecDepth 100000 in
set_option maxHeartbeats 4000000 in
theorem factLoop_walk (p N : Nat) (F : List Nat) (v : Value) (w ws : World) (fin : List (List Nat × Nat)) (hP : Hid (M.Pr p)) (hp2 : p ≤ 1021) (hr : Hid (RowS w ws v F)) (hBw : Hid (Below w.heap.size w ws)) (hF : Hid (Q.Pol p F)) (hl : F.length ≤ 1000) (h0 : F.length ≠ 0) (hN : N ≤ 1001) (hD : Hid (Q.factLoop p N 1 F = some fin)) :
    Calls Try.prog 77 #[.int .i64 p, v] ws fun x w' => ∃ v' L, x = .returned v' ∧ FcS w w' v' L ∧ (strip L).Perm fin ∧ (strip L).Pairwise fun a b => ¬ Q.ordP b.1 a.1 < 0 := by
  have hp : 2 ≤ p := hP.out.1
  obtain ⟨av, cv, rfl⟩ := (hr.out.rd hBw.out).shape
  obtain ⟨n, hn⟩ : ∃ n, n = F.length := ⟨_, rfl⟩
  have HN := Lib.hid hn
  have HV0 : Hid (RowS w ws (.slice av n cv) F) := by show RowS _ _ _ _; rw [hn]; exact hr.out
  rw [← hn] at hl h0 ⊢
  have HL0 : Hid (FcS w ws (.slice none 0 0) []) := FcS.nil hBw.out
  have HD0 : Hid (∃ rest, Q.factLoop p N 1 F = some rest ∧ fin = strip [] ++ rest) := ⟨fin, hD.out, rfl⟩
  have HB0 : Hid (1 * (F.length - 1) ≤ 1000000) := by show _ ≤ _; omega
  obtain ⟨i0, hi, hz0, hz1, hz2⟩ := info_parts Try.infoF
  clear hn hr
  go_enter Try.func77, Try.ntmps77
  go_wp2_with (fail)
  go_loopg [1, 5, 6] N (fun g fv lv tv wx => ∃ (k cf t m cl : Nat) (af al : Option Addr) (f : List Nat) (L : List FacE), fv = .slice af k cf ∧ lv = .slice al m cl ∧ tv = .int .i64 t ∧ k ≤ 1000 ∧ k ≠ 0 ∧ t ≤ 1021000000 ∧ g ≤ N ∧ m ≤ 1000 * (N - g) ∧ Hid (k = f.length) ∧ Hid (m = L.length) ∧ Hid (RowS w wx (.slice af k cf) f) ∧ Hid (Q.Pol p f) ∧ Hid (FcS w wx (.slice al m cl) L) ∧ Hid (t * (f.length - 1) ≤ 1000000) ∧ Hid (∃ rest, Q.factLoop p g t f = some rest ∧ fin = strip L ++ rest))
  case atStart => exact ⟨n, cv, 1, 0, 0, av, none, F, [], rfl, rfl, rfl, hl, h0, by omega, Nat.le_refl _, by omega, HN, (by show _ = _; rfl), HV0, hF, HL0, HB0, HD0⟩
  case round =>
    obtain ⟨k, cf, t, m, cl, af, al, f, L, rfl, rfl, rfl, hk, hk0, ht, hgN, hm, HK, HM, HV, HPf, HL, HT, HR⟩ := hrel
    cases gk with
    | zero =>
      exfalso
      obtain ⟨rest, h1, _⟩ := HR.out
      cases h1
    | succ g =>
      by_cases hk1 : k ≤ 1
      · have hd1 : ¬ (1 : Int) < (k : Int) := by omega
        have HE : Hid (fin = strip L) := by
          obtain ⟨rest, h1, h2⟩ := HR.out
          rw [Q.fact_small (by rw [← HK.out]; exact hk1)] at h1
          injection h1 with h1
          show _ = _
          rw [h2, ← h1, List.append_nil]
        clear hk1
        go_wp2_with (fail)
        refine (sortList_is HL.out (by have := HM.out; omega)).mono ?_
        rintro e w2 ⟨rfl, L', hF2, hP2, hS2⟩
        have HEND : Hid (FcS w w2 (.slice al m cl) L' ∧ (strip L').Perm fin ∧ (strip L').Pairwise fun a b => ¬ Q.ordP b.1 a.1 < 0) :=
          ⟨hF2, by rw [HE.out]; exact hP2.map _, by unfold strip; rw [List.pairwise_map]; exact hS2⟩
        clear hF2 hP2 hS2
        go_wp2_with (fail)
        go_ret
        exact ⟨_, rfl, L', HEND.out⟩
      · have hd1 : (1 : Int) < (k : Int) := by omega
        have HB : Hid (Below w.heap.size w wr) := HL.out.below
        have HRf : Hid (Rd wr (.slice af k cf) 1 f.length (nats f)) := HV.out.rd HB.out
        go_wp2_with (fail)
        refine (derivative_is p f _ _ hp hp2 HRf HPf.out.1 (by have := HK.out; omega) (by have := HK.out; omega)).mono ?_
        rintro e w1 ⟨⟨v1, rfl, hN1⟩, hB1⟩
        have HV1 := Lib.hid (HV.out.low hB1)
        have HL1 := Lib.hid (HL.out.low hB1)
        have HS1 : Hid (Rd w1 v1 1 (Q.deriv p f).length (nats (Q.deriv p f))) := hN1.rd
        obtain ⟨s, hs⟩ : ∃ s, s = (Q.deriv p f).length := ⟨_, rfl⟩
        have HS := Lib.hid hs
        obtain ⟨a1, c1, hv1⟩ := HS1.out.shape
        subst hv1
        have HS2 : Hid (Rd w1 (.slice a1 s c1) 1 (Q.deriv p f).length (nats (Q.deriv p f))) := by show Rd _ _ _ _ _; rw [hs]; exact HS1.out
        have HRf1 : Hid (Rd w1 (.slice af k cf) 1 f.length (nats f)) := HV1.out.rd HL1.out.below
        rw [← hs]
        clear hN1 hB1 hs HS1 HV HL HRf HB
        by_cases hs0 : s = 0
        · subst hs0
          have hf1 : 2 ≤ f.length := by have := HK.out; omega
          have HR2 : Hid (∃ rest, Q.factLoop p g (t * p) (Q.rootP p f) = some rest ∧ fin = strip L ++ rest) := by
            obtain ⟨rest, h1, h2⟩ := HR.out
            rw [Q.fact_root (by omega) HS.out.symm] at h1
            exact ⟨rest, h1, h2⟩
          have HP2 : Hid (Q.Pol p (Q.rootP p f)) := Q.root_ok hP.out HPf.out hf1 HS.out.symm
          have HT2 : Hid (t * p * ((Q.rootP p f).length - 1) ≤ 1000000) := Nat.le_trans (Q.root_bound p t f) HT.out
          have ht6 : t ≤ 1000000 := by
            have h1 := HT.out
            have h2 : t * 1 ≤ t * (f.length - 1) := Nat.mul_le_mul_left t (by omega)
            omega
          have htp : t * p ≤ 1000000 * 1021 := Nat.mul_le_mul ht6 hp2
          have hrl := Q.root_len p f
          have hdl : (f.length - 1) / p ≤ f.length - 1 := Nat.div_le_self _ _
          have hrl2 : (Q.rootP p f).length ≤ 1000 := by have := HK.out; omega
          have hrl3 : (Q.rootP p f).length ≠ 0 := by rw [hrl]; exact Nat.succ_ne_zero _
          clear hrl hdl
          go_wp2_with (fail)
          refine (rootOf_is p f _ _ hp hp2 HRf1 (by have := HK.out; omega) (by omega)).mono ?_
          rintro e w2 ⟨⟨v2, rfl, hN2⟩, hB2⟩
          have HL2 := Lib.hid (HL1.out.low hB2)
          obtain ⟨a2, c2, hv2⟩ := hN2.rd.shape
          subst hv2
          obtain ⟨r, hr⟩ : ∃ r, r = (Q.rootP p f).length := ⟨_, rfl⟩
          have HRr := Lib.hid hr
          have HV2 : Hid (RowS w w2 (.slice a2 r c2) (Q.rootP p f)) := by show RowS _ _ _ _; rw [hr]; exact .inr (own_base hN2 HL1.out.below.size)
          have htp1 : (0 : Int) ≤ (t : Int) * (p : Int) ∧ (t : Int) * (p : Int) ≤ 1021000000 := by
            have : (t : Int) * (p : Int) = ((t * p : Nat) : Int) := by simp
            omega
          rw [← hr] at hrl2 hrl3 ⊢
          clear hN2 hB2 hr htp
          go_wp2_with (fail)
          go_roundg g
          case measure => omega
          case rel => exact ⟨r, c2, t * p, m, cl, _, _, _, L, rfl, rfl, by first | rfl | simp, hrl2, hrl3, by omega, by omega, by omega, HRr, HM, HV2, HP2, HL2, HT2, HR2⟩
        · have hf1 : 2 ≤ f.length := by have := HK.out; omega
          have hz : ((s : Int) == 0) = false := by rw [beq_eq_false_iff_ne]; omega
          obtain ⟨G, hG⟩ : ∃ G, G = Q.gcdP p f (Q.deriv p f) := ⟨_, rfl⟩
          obtain ⟨S, hS⟩ : ∃ S, S = (Q.divP p f G).1 := ⟨_, rfl⟩
          have hsim := Q.simple_ok hP.out HPf.out hf1 (by have := HS.out; omega)
          rw [← hG, ← hS] at hsim
          have hGP : Q.Pol p G := by rw [hG]; exact (Q.gcdP_is hP.out HPf.out (Q.deriv_pol (by omega) f)).pol
          have HR2 : Hid (∃ l f' l', Q.takeAll p t (Q.splitP p S) f = some (l, f') ∧ Q.factLoop p g t f' = some l' ∧ fin = strip L ++ (l ++ l')) := by
            obtain ⟨rest, h1, h2⟩ := HR.out
            obtain ⟨l, f', l', e1, e2, e3⟩ := Q.fact_take (by omega) (by have := HS.out; omega) h1
            rw [← hG, ← hS] at e1
            exact ⟨l, f', l', e1, e2, by rw [h2, e3]⟩
          have HGP := Lib.hid hGP
          have HSM := Lib.hid hsim
          have HDP : Hid (Q.Pol p (Q.deriv p f)) := Q.deriv_pol (by omega) f
          have hdl : (Q.deriv p f).length ≤ 1000 := by have := Q.deriv_le p f; have := HK.out; omega
          have HGS := Lib.hid (And.intro hG hS)
          clear hsim hGP hS hs0 HR
          go_wp2_with (fail)
          refine (divisorOf_is p f (Q.deriv p f) _ _ _ hP hp2 HRf1 HS2 HPf HDP (by have := HK.out; omega) (by omega)).mono ?_
          rintro e w2 ⟨⟨v2, rfl, hN2⟩, hB2⟩
          rw [← hG] at hN2
          have HG2 : Hid (Rd w2 v2 1 G.length (nats G)) := hN2.rd
          have HV2 := Lib.hid (HV1.out.low hB2)
          have HL2 := Lib.hid (HL1.out.low hB2)
          have HRf2 : Hid (Rd w2 (.slice af k cf) 1 f.length (nats f)) := HV2.out.rd HL2.out.below
          obtain ⟨a2, c2, hv2⟩ := HG2.out.shape
          subst hv2
          clear hN2 hB2 hG HV1 HL1 HRf1 HS2
          go_wp2_with (fail)
          refine (divide_is p f G _ _ _ hP hp2 HRf2 HG2 HPf.out.1 HGP (by have := HK.out; omega) HSM.out.2.2.2).mono ?_
          rintro e w3 ⟨⟨vq, vr, rfl, hNq, hNr⟩, hB3⟩
          rw [← HGS.out.2] at hNq
          obtain ⟨aq, cq, hvq⟩ := hNq.rd.shape
          obtain ⟨ar, cr, hvr⟩ := hNr.rd.shape
          subst hvq hvr
          have HSS : Hid (RowS w w3 (.slice aq S.length cq) S) := .inr (own_base hNq HL2.out.below.size)
          have HV3 := Lib.hid (HV2.out.low hB3)
          have HL3 := Lib.hid (HL2.out.low hB3)
          have HBW3 : Hid (Below w.heap.size w w3) := HL3.out.below
          clear hNq hNr hB3 HV2 HL2 HRf2 HG2
          go_wp2_with (fail)
          refine (split_is p S _ w _ hP hp2 HSS HBW3 HSM.out.1 (by have := HSM.out.2.2.1; have := HK.out; omega) HSM.out.2.1).mono ?_
          rintro e w4 ⟨⟨v4, vs4, rfl, hM4⟩, hB4⟩
          have HV4 := Lib.hid (HV3.out.low hB4)
          have HL4 := Lib.hid (HL3.out.low hB4)
          obtain ⟨Ps, hPs⟩ : ∃ Ps, Ps = Q.splitP p S := ⟨_, rfl⟩
          rw [← hPs] at hM4 HR2
          have hsum := Q.splitP_sum hP.out HSM.out.1 HSM.out.2.1
          rw [← hPs] at hsum
          have hcn : Ps.length ≤ 999 := by have := hsum.count; have := HSM.out.2.2.1; have := HK.out; omega
          have HPO : Hid (∀ M ∈ Ps, Q.Pol p M ∧ 2 ≤ M.length ∧ M.length ≤ 1000) := fun M hM => by
            have h1 := hsum.part M hM
            have := HSM.out.2.2.1; have := HK.out
            exact ⟨h1.1, h1.2.1, by omega⟩
          obtain ⟨a4, c4, hv4, _⟩ := own_form hM4.own
          subst hv4
          obtain ⟨q, hq⟩ : ∃ q, q = Ps.length := ⟨_, rfl⟩
          have HQ := Lib.hid hq
          have HM4 : Hid (MxS w w4 (.slice a4 q c4) vs4 Ps) := by show MxS _ _ _ _ _; rw [hq]; exact hM4
          have HR3 : Hid (∃ l f' l', Q.takeAll p t (Ps.drop 0) f = some (l, f') ∧ Q.factLoop p g t f' = some l' ∧ fin = strip L ++ (l ++ l')) := by rw [List.drop_zero]; exact HR2
          have ht6 : t ≤ 1000000 := by
            have h1 := HT.out
            have h2 : t * 1 ≤ t * (f.length - 1) := Nat.mul_le_mul_left t (by omega)
            omega
          rw [← hq] at hcn ⊢
          have hmb : m + 0 ≤ 1000 * (N - (g + 1)) + 0 := by omega
          clear hM4 hB4 hsum hq hPs HV3 HL3 HSS HR2 hf1 hdl ht hk1 hd1
          go_wp2_with (fail)
          go_loopg [1, 5, 43] q (fun g2 fv lv iv wx => ∃ (j k cf m' cl : Nat) (af al : Option Addr) (f : List Nat) (L : List FacE), fv = .slice af k cf ∧ lv = .slice al m' cl ∧ iv = .int .i64 j ∧ j + g2 = q ∧ k ≤ 1000 ∧ k ≠ 0 ∧ m' ≤ m + j ∧ Hid (k = f.length) ∧ Hid (m' = L.length) ∧ Hid (RowS w wx (.slice af k cf) f) ∧ Hid (Q.Pol p f) ∧ Hid (FcS w wx (.slice al m' cl) L) ∧ Hid (t * (f.length - 1) ≤ 1000000) ∧ Hid (MxS w wx (.slice a4 q c4) vs4 Ps) ∧ Hid (∃ l f' l', Q.takeAll p t (Ps.drop j) f = some (l, f') ∧ Q.factLoop p g t f' = some l' ∧ fin = strip L ++ (l ++ l')))
          case atStart => exact ⟨0, k, cf, m, cl, _, _, f, L, rfl, rfl, rfl, by omega, hk, hk0, by omega, HK, HM, HV4, HPf, HL4, HT, HM4, HR3⟩
          case round =>
            clear HK HM HV4 HPf HL4 HT HR3 hk hk0 HS HDP HGP HSM HGS HBW3
            obtain ⟨j, k, cf, m', cl, af, al, f, L, rfl, rfl, rfl, hjg, hk, hk0, hm', HK, HM, HV, HPf, HL, HT, HB, HR⟩ := hrel
            cases gk with
            | zero =>
              have hjz : ¬ ((j : Int) < (q : Int)) := by omega
              have HRn : Hid (∃ rest, Q.factLoop p g t f = some rest ∧ fin = strip L ++ rest) := by
                obtain ⟨l, f', l', e1, e2, e3⟩ := HR.out
                rw [List.drop_eq_nil_of_le (by have := HQ.out; omega), Q.takeAll] at e1
                injection e1 with e1
                injection e1 with e1 e4
                subst e1 e4
                exact ⟨l', e2, by rw [e3, List.nil_append]⟩
              go_wp2_with (fail)
              go_roundg g
              case measure => omega
              case rel => exact ⟨k, cf, t, m', cl, _, _, f, L, rfl, rfl, rfl, hk, hk0, by omega, by omega, by omega, HK, HM, HV, HPf, HL, HT, HRn⟩
            | succ g2 =>
              have hjz : (j : Int) < (q : Int) := by omega
              have hjq : j < Ps.length := by have := HQ.out; omega
              obtain ⟨gB, cp', hgB, aX, cX, e1, e2⟩ := HB.out.cell hjq
              injection hgB with hgB1 hgB2 hgB3
              subst hgB1
              obtain ⟨X, hX⟩ : ∃ X, X = Ps.getD j [] := ⟨_, rfl⟩
              rw [← hX] at e1 e2
              have hdrop : Ps.drop j = X :: Ps.drop (j + 1) := by
                rw [List.drop_eq_getElem_cons hjq, hX]; simp [List.getD, hjq]
              have hXo := HPO.out X (by rw [hX]; simp [List.getD, hjq])
              have HXP : Hid (Q.Pol p X) := hXo.1
              have hX2 := hXo.2.1
              have hX3 := hXo.2.2
              have HBw : Hid (Below w.heap.size w wr) := HL.out.below
              have hex := Q.takeOut_some hP.out HXP.out hX2 (f.length + 1) f 0 HPf.out (by have := HK.out; omega) (by omega)
              have HR2 : Hid (∃ e f1 l1 f' l', Q.takeOut p X (f.length + 1) 0 f = some (e, f1) ∧ Q.takeAll p t (Ps.drop (j + 1)) f1 = some (l1, f') ∧ Q.factLoop p g t f' = some l' ∧ fin = strip L ++ (((X, e * t) :: l1) ++ l')) := by
                obtain ⟨l, f', l', e1, e2, e3⟩ := HR.out
                rw [hdrop] at e1
                obtain ⟨e, f1, l1, d1, d2, d3⟩ := Q.take_cons e1
                exact ⟨e, f1, l1, f', l', d1, d2, e2, by rw [e3, d3]⟩
              have HEX := Lib.hid hex
              obtain ⟨x, hx⟩ : ∃ x, x = X.length := ⟨_, rfl⟩
              have HX := Lib.hid hx
              have HXS : Hid (RowS w wr (.slice aX x cX) X) := by show RowS _ _ _ _; rw [hx]; exact e2
              have HXR : Hid (Rd wr (.slice aX x cX) 1 X.length (nats X)) := HXS.out.rd HBw.out
              rw [← hx] at e1
              clear hX hdrop hXo hex hx hgB2 hgB3 e2 HR
              go_wp2_with (fail)
              refine (takeOut_is p f X _ _ w _ hP hp2 HV HBw HXR HPf HXP (by have := HK.out; omega) (by have := HK.out; omega) hX2 (by omega)).mono ?_
              rintro ee w5 ⟨e, F', v5, hto, rfl, hV5, hB5⟩
              obtain ⟨kk, f5, e1', e2', e3', e4'⟩ := HEX.out
              rw [hto] at e1'
              injection e1' with e1'
              injection e1' with e5 e6
              rw [Nat.zero_add] at e5
              subst e5 e6
              have HP5 : Hid (Q.Pol p F') := e2'
              have HR5 : Hid (∃ l1 f' l', Q.takeAll p t (Ps.drop (j + 1)) F' = some (l1, f') ∧ Q.factLoop p g t f' = some l' ∧ fin = strip L ++ (((X, e * t) :: l1) ++ l')) := by
                obtain ⟨e0, f1, l1, f', l', d1, d2, d3, d4⟩ := HR2.out
                rw [hto] at d1
                injection d1 with d1
                injection d1 with d5 d6
                subst d5 d6
                exact ⟨l1, f', l', d2, d3, d4⟩
              have HL5 := Lib.hid (HL.out.low hB5)
              have HXS5 := Lib.hid (HXS.out.low hB5)
              have HB5 := Lib.hid (HB.out.low hB5)
              obtain ⟨a5, c5, hv5⟩ := (hV5.rd HL5.out.below).shape
              subst hv5
              obtain ⟨k5, hk5⟩ : ∃ k5, k5 = F'.length := ⟨_, rfl⟩
              have HK5 := Lib.hid hk5
              have HV5 : Hid (RowS w w5 (.slice a5 k5 c5) F') := by show RowS _ _ _ _; rw [hk5]; exact hV5
              have he5 : k5 + e ≤ k := by have := HK.out; omega
              have hk50 : k5 ≠ 0 := by rw [hk5]; exact e3'
              have HT5 : Hid (t * (F'.length - 1) ≤ 1000000) := Nat.le_trans (Nat.mul_le_mul_left t (by have := HK.out; omega)) HT.out
              have het : e * t ≤ 1000 * 1000000 := Nat.mul_le_mul (by omega) ht6
              have het1 : (0 : Int) ≤ (e : Int) * (t : Int) ∧ (e : Int) * (t : Int) ≤ 1000000000 := by
                have : (e : Int) * (t : Int) = ((e * t : Nat) : Int) := by simp
                omega
              rw [← hk5]
              clear hto hV5 hB5 e2' e3' e4' hk5 HR2 HEX HV HL HXS HXR HPf HT HBw het e1
              go_wp2_with (first
                | (at_builtin; refine wpList_append_own _ rfl _ _ 59 rfl w.heap.size 65 i0 (.agg #[.slice none 0 0, .int .i64 0]) 2 32 Try.underlying59 hi hz0 hz1 hz2 rfl (by decide) _ _ _ rfl (HL5.out.own.alloc _) ⟨w5.heap.size, 0, none⟩ 1 1 [.slice aX x cX, .int .i64 ((e : Int) * (t : Int))] rfl rfl ?c1 ?c2 ?c3 ?c4 ?c5 ?_))
              case c1 => exact cell_2_new _ _ _ _
              case c2 => intro u hu; simp at hu; rcases hu with rfl | rfl <;> rfl
              case c3 => unfold maxLen; have := HM.out; omega
              case c4 => have := HM.out; omega
              case c5 => simp; have := HL5.out.below.size; omega
              intro v' w6 hown6 hgrow6 _
              have hown6' : w6.ownsRow w.heap.size 65 2 v' (L.length + 1) (flatF L ++ [.slice aX x cX, .int .i64 ((e * t : Nat) : Int)]) := by
                have e7 : ((e * t : Nat) : Int) = (e : Int) * (t : Int) := by simp
                rw [e7]; exact hown6
              have HL6 : Hid (FcS w w6 v' (L ++ [(.slice aX x cX, X, e * t)])) := HL5.out.append (x := (.slice aX x cX, X, e * t)) HXS5.out ⟨by have := HX.out; show X.length ≤ _; omega, fun y hy => by have := HXP.out.1 y hy; omega⟩ hown6' hgrow6
              have HB6 := Lib.hid (HB5.out.grownF HL5.out hgrow6)
              have HV6 := Lib.hid (HV5.out.grown HL5.out hgrow6)
              have HM6 : Hid (L.length + 1 = (L ++ [((.slice aX x cX, X, e * t) : FacE)]).length) := by show _ = _; simp
              have HR6 : Hid (∃ l1 f' l', Q.takeAll p t (Ps.drop (j + 1)) F' = some (l1, f') ∧ Q.factLoop p g t f' = some l' ∧ fin = strip (L ++ [((.slice aX x cX, X, e * t) : FacE)]) ++ (l1 ++ l')) := by
                obtain ⟨l1, f', l', d1, d2, d3⟩ := HR5.out
                exact ⟨l1, f', l', d1, d2, by rw [d3]; simp [strip]⟩
              obtain ⟨a6, c6, hv6, _⟩ := own_form hown6
              subst hv6
              have hm6 : L.length + 1 ≤ m + (j + 1) := by have := HM.out; omega
              clear hown6 hown6' hgrow6 HB5 HV5 HL5 HXS5 HB
              go_wp2_with (fail)
              go_roundg g2
              case measure => omega
              case rel => exact ⟨j + 1, k5, c5, L.length + 1, c6, _, _, F', _, rfl, rfl, by first | rfl | go_num, by omega, by omega, hk50, hm6, HK5, HM6, HV6, HP5, HL6, HT5, HB6, HR6⟩

end Go.Proofs.Ytgnpohapmijfiaa

namespace Go.Proofs.Ytgnpohapmijfiaa
open Go.RowKit
namespace Q

theorem takeAll_some {p : Nat} (hP : M.Pr p) (t : Nat) : ∀ (parts : List (List Nat)) (f : List Nat), (∀ M ∈ parts, Pol p M ∧ 2 ≤ M.length) → Pol p f → f.length ≠ 0 →
    ∃ l f', takeAll p t parts f = some (l, f') ∧ Pol p f' ∧ f'.length ≠ 0 ∧ f'.length ≤ f.length
  | [], f, _, hf, h0 => ⟨[], f, rfl, hf, h0, Nat.le_refl _⟩
  | X :: parts, f, hp, hf, h0 => by
    have hX := hp X (by simp)
    obtain ⟨e, f1, e1, e2, e3, e4⟩ := takeOut_some hP hX.1 hX.2 (f.length + 1) f 0 hf h0 (by omega)
    obtain ⟨l, f', d1, d2, d3, d4⟩ := takeAll_some hP t parts f1 (fun M hM => hp M (by simp [hM])) e2 e3
    exact ⟨(X, (0 + e) * t) :: l, f', by rw [takeAll, e1]; simp only; rw [d1], d2, d3, by omega⟩

theorem takeAll_less {p : Nat} (hP : M.Pr p) (t : Nat) {X : List Nat} {parts : List (List Nat)} {f : List Nat} (hp : ∀ M ∈ X :: parts, Pol p M ∧ 2 ≤ M.length) (hf : Pol p f) (h0 : f.length ≠ 0) (hd : Dv p X f) :
    ∃ l f', takeAll p t (X :: parts) f = some (l, f') ∧ Pol p f' ∧ f'.length ≠ 0 ∧ f'.length < f.length := by
  have hX := hp X (by simp)
  have hr : (divP p f X).2.length = 0 := by rw [(rem_nil_iff hP hf hX.1 (by omega)).2 hd]; rfl
  obtain ⟨q1, q2, q3⟩ := quot_len hP hf hX.1 hX.2 h0 hr
  obtain ⟨e, f1, e1, e2, e3, e4⟩ := takeOut_some hP hX.1 hX.2 f.length (divP p f X).1 1 q1 q2 q3
  have e5 : takeOut p X (f.length + 1) 0 f = some (1 + e, f1) := by rw [takeOut_step hr, e1]
  obtain ⟨l, f', d1, d2, d3, d4⟩ := takeAll_some hP t parts f1 (fun M hM => hp M (by simp [hM])) e2 e3
  exact ⟨(X, (1 + e) * t) :: l, f', by rw [takeAll, e5]; simp only; rw [d1], d2, d3, by omega⟩

theorem simple_dv {p : Nat} (hP : M.Pr p) {f : List Nat} (hf : Pol p f) (h2 : 2 ≤ f.length) (hd : (deriv p f).length ≠ 0) : Dv p (divP p f (gcdP p f (deriv p f))).1 f := by
  have hp := hP.1
  have hs := simple_ok hP hf h2 hd
  have G := gcdP_is hP hf (deriv_pol (p := p) (by omega) f)
  have D := div_is hP hf G.pol hs.2.2.2
  have hr := (rem_nil_iff hP hf G.pol hs.2.2.2).2 G.left
  refine ⟨_, G.pol, ?_⟩
  rw [D.val, hr, ev_nil, Px.add_zero, Px.mul_comm]

theorem factLoop_some {p : Nat} (hP : M.Pr p) : ∀ (n t : Nat) (f : List Nat), Pol p f → f.length ≠ 0 → f.length ≤ n → ∃ L, factLoop p n t f = some L
  | 0, t, f, _, h0, hl => by omega
  | n + 1, t, f, hf, h0, hl => by
    have hp := hP.1
    by_cases h1 : f.length ≤ 1
    · exact ⟨[], fact_small h1⟩
    · by_cases hd : (deriv p f).length = 0
      · rw [fact_root h1 hd]
        have hr := root_len p f
        have hlt : (f.length - 1) / p < f.length - 1 := Nat.div_lt_self (by omega) (by omega)
        exact factLoop_some hP n (t * p) _ (root_ok hP hf (by omega) hd) (by rw [hr]; exact Nat.succ_ne_zero _) (by rw [hr]; exact Nat.le_trans hlt (by omega))
      · have hs := simple_ok hP hf (by omega) hd
        have hsd := simple_dv hP hf (by omega) hd
        have hsum := splitP_sum hP hs.1 hs.2.1
        have hdv := splitP_dv hP hs.1 hs.2.1
        rw [factLoop, if_neg h1, if_neg hd]
        obtain ⟨Ps, hPs⟩ : ∃ Ps, Ps = splitP p (divP p f (gcdP p f (deriv p f))).1 := ⟨_, rfl⟩
        rw [← hPs] at hsum hdv ⊢
        cases Ps with
        | nil => exact absurd rfl hdv.2
        | cons X Ps =>
          obtain ⟨l, f', e1, e2, e3, e4⟩ := takeAll_less hP t (f := f) hsum.1 hf h0 ((hdv.1 X (by simp)).trans hP hsd)
          rw [e1]
          simp only
          obtain ⟨L, e5⟩ := factLoop_some hP n t f' e2 e3 (by omega)
          rw [e5]
          exact ⟨_, rfl⟩

end Q
end Go.Proofs.Ytgnpohapmijfiaa

namespace Go.Proofs.Ytgnpohapmijfiaa
open Go.RowKit

/-- What Factor returns: the last coefficient, and the sorted factors. -/
def RetF (p : Nat) (F : List Nat) (w : World) (x : Ending) (w' : World) : Prop :=
  ∃ (v' : Value) (L : List FacE) (fin : List (List Nat × Nat)), x = .returned (.tuple #[.int .i64 (F.getD (F.length - 1) 0 : Nat), v', .int .i64 0]) ∧ FcS w w' v' L ∧ Q.factLoop p 34 1 (Q.monicP p F) = some fin ∧ (strip L).Perm fin ∧ (strip L).Pairwise fun a b => ¬ Q.ordP b.1 a.1 < 0

set_option maxRecDepth 100000 in
set_option maxHeartbeats 2000000 in
theorem Factor_ok (p : Nat) (F : List Nat) (v : Value) (w : World) (hP : Hid (M.Pr p)) (hp2 : p ≤ 1021) (h1 : Hid (Rd w v 1 F.length (nats F))) (hF : Hid (Q.Pol p F)) (hl1 : F.length ≤ 33) (h0 : F.length ≠ 0) :
    Calls Try.prog 42 #[.int .i64 p, v] w (RetF p F w) := by
  have hp : 2 ≤ p := hP.out.1
  have hM := Lib.hid (rdM1 (T := 22) h1.out.zs)
  have hB : Hid (Below w.heap.size w (w.alloc (.cells #[v] 22))) := (Below.refl _ _).alloc (Nat.le_refl _) _
  have hls : Hid (∀ Z ∈ [up F], Z.length ≤ 1000000) := by intro Z hZ; simp at hZ; subst hZ; rw [up_length]; omega
  have ht : Hid (Args1 p (up F)) := args1_of hP.out hp2 hF.out hl1
  obtain ⟨_, a1, cap1, rfl, hcap, hcell⟩ := h1.out
  rcases hcell with h | ⟨b, rfl, hb, hc⟩
  · exact absurd h h0
  obtain ⟨n, hn⟩ : ∃ n, F.length = n + 1 := ⟨F.length - 1, by omega⟩
  obtain ⟨x, hx⟩ : ∃ x, x = F.getD (F.length - 1) 0 := ⟨_, rfl⟩
  have hcx : w.cell? ⟨b, n, none⟩ = some (.int .i64 (x : Int)) := by
    rw [hc _ _ (nats_get F n (by omega)), hx, show F.length - 1 = n by omega, Q.getD_get (by omega)]
  have HC : Hid (∀ W, Below w.heap.size w W → W.cell? ⟨b, n, none⟩ = some (.int .i64 (x : Int))) := fun W hW => (hW.cell (p := ⟨b, n, none⟩) hb).trans hcx
  have HN := Lib.hid (And.intro hn hx)
  have HR : Hid (∀ W, Below w.heap.size w W → Rd W (.slice (some ⟨b, 0, none⟩) (n + 1) cap1) 1 F.length (nats F)) := fun W hW => by rw [← hn]; exact h1.out.below hW (Nat.le_refl _)
  obtain ⟨fin, hfin⟩ := Q.factLoop_some hP.out 34 1 (Q.monicP p F) (Q.monic_is hP.out hF.out h0).1 (by rw [(Q.monic_is hP.out hF.out h0).2.2.1]; exact h0) (by rw [(Q.monic_is hP.out hF.out h0).2.2.1]; omega)
  have HFIN := Lib.hid hfin
  have hmo := Q.monic_is hP.out hF.out h0
  have HMP : Hid (Q.Pol p (Q.monicP p F)) := hmo.1
  have HML : Hid ((Q.monicP p F).length = n + 1) := hmo.2.2.1.trans hn
  rw [hn] at hM hB hl1 ⊢
  have hn1 : ((n + 1 : Nat) : Int) - 1 = (n : Int) := by omega
  have hz : (((n + 1 : Nat) : Int) == 0) = false := by rw [beq_eq_false_iff_ne]; omega
  have hz2 : ((n : Int) + 1 == 0) = false := by rw [beq_eq_false_iff_ne]; omega
  clear hc hcx hn hx hfin hmo h1 h0
  go_enter Try.func42, Try.ntmps42
  go_wp2_with (fail)
  refine (arePolys_yes p _ [up F] _ hM (by simp) hls ht).mono ?_
  rintro e w1 ⟨rfl, hB1⟩
  have HB := Lib.hid (hB.out.trans (hB1.mono (by simp)))
  have HR1 : Hid (Rd w1 (.slice (some ⟨b, 0, none⟩) (n + 1) cap1) 1 F.length (nats F)) := HR.out _ HB.out
  clear hB1 hM hB
  go_wp2_with (fail)
  refine (monic_ok p F _ _ hP hp2 HR1 hF (by have := HN.out.1; omega)).mono ?_
  rintro e w2 ⟨⟨v2, vc, rfl, hN2, hNc⟩, hB2⟩
  have HB2 := Lib.hid (HB.out.trans (hB2.mono HB.out.size))
  have HS2 : Hid (RowS w w2 v2 (Q.monicP p F)) := .inr (own_base hN2 HB.out.size)
  obtain ⟨a2, c2, hv2⟩ := hN2.rd.shape
  obtain ⟨a3, c3, hv3⟩ := hNc.rd.shape
  subst hv2 hv3
  have HCx : Hid (w2.cell? ⟨b, n, none⟩ = some (.int .i64 (x : Int))) := HC.out _ HB2.out
  have hcell2 := HC.out _ HB2.out
  have HFW : Hid (∀ k, Below w.heap.size w (w2.drewN k)) := fun k => below_drewN HB2.out k
  have HSW : Hid (∀ k, RowS w (w2.drewN k) (.slice a2 (Q.monicP p F).length c2) (Q.monicP p F)) := fun k => HS2.out.low (below_drewN (Below.refl _ _) k)
  rw [HML.out] at HSW ⊢
  clear hN2 hNc hB2 HB HR1
  have hwn : IntKind.i64.wrap (n : Int) = (n : Int) := IntWalk.i64_in _ (by omega)
  have hnn : n < n + 1 := Nat.lt_succ_self n
  have hnn2 : (n : Int) < (n : Int) + 1 := by omega
  have hcl : ((n : Int) + 1 - 1) = (n : Int) := by omega
  go_wp2_with (fail)
  go_region_held3 (fun w' => w'.cell? ⟨b, n, none⟩ = some (.int .i64 (x : Int))) (go_keep)
    (first
      | (go_at_call 77; refine (factLoop_walk p 34 (Q.monicP p F) _ w _ fin hP hp2 (HSW.out _) (HFW.out _) HMP (by rw [HML.out]; omega) (by rw [HML.out]; omega) (by omega) HFIN).mono ?_; rintro e w5 ⟨v5, L5, rfl, hF5, hP5, hS5⟩; obtain ⟨a5, c5, hv5, _⟩ := own_form hF5.own; subst hv5; have k5 := HC.out _ hF5.below; have HQ5 := Lib.hid (And.intro hF5 (And.intro hP5 hS5)); clear hF5 hP5 hS5))
  all_goals
    have hF6 := HQ5.out.1.low (show Below w5.heap.size w5 w5.drew from (Below.refl _ _).drew)
    go_wp2_with (fail)
    go_ret3
    have HX := HN.out.2
    refine ⟨.slice a5 L5.length c5, L5, fin, ?_, ?_, HFIN.out, HQ5.out.2.1, HQ5.out.2.2.imp fun h => by omega⟩
    · rw [← HX]; rfl
    · first | exact hF6 | exact HQ5.out.1

end Go.Proofs.Ytgnpohapmijfiaa

namespace Go.Proofs.Ytgnpohapmijfiaa
open Go.RowKit

theorem Q.adv_stop {p : Nat} {f : List Nat} {i : Nat} (h : i < f.length) (hne : f.getD i 0 ≠ p - 1) : Q.advanceP p (f.drop i) = (f.drop i).set 0 (f.getD i 0 + 1) := by
  have e : f.getD i 0 = f[i] := by simp [List.getD, h]
  rw [List.drop_eq_getElem_cons h, Q.advanceP, if_neg (by rw [← e]; exact hne), e]
  rfl
theorem Q.adv_next {p : Nat} {f : List Nat} {i : Nat} (h : i < f.length) (he : f.getD i 0 = p - 1) : Q.advanceP p (f.drop i) = 0 :: Q.advanceP p (f.drop (i + 1)) := by
  have e : f.getD i 0 = f[i] := by simp [List.getD, h]
  rw [List.drop_eq_getElem_cons h, Q.advanceP, if_pos (by rw [← e]; exact he)]
theorem Q.zset (f : List Nat) (i x : Nat) (_h : i < f.length) : (List.replicate i 0 ++ f.drop i).set i x = List.replicate i 0 ++ (f.drop i).set 0 x := by
  rw [List.set_append, if_neg (by simp), List.length_replicate, Nat.sub_self]
theorem Q.zset0 (f : List Nat) (i : Nat) (h : i < f.length) : (List.replicate i 0 ++ f.drop i).set i 0 = List.replicate (i + 1) 0 ++ f.drop (i + 1) := by
  rw [Q.zset f i 0 h, List.drop_eq_getElem_cons h, List.set_cons_zero, List.replicate_succ' (n := i), List.append_assoc]
  rfl

set_option maxRecDepth 100000 in
set_option maxHeartbeats 1000000 in
theorem advance_is (p g n cap : Nat) (F : List Nat) (w ws : World) (hp : 2 ≤ p) (hp2 : p ≤ 1021) (hS : Hid (RSt w ws g n cap F)) (hl : n ≤ 100000) (hF : Hid (∀ x ∈ F, x < p)) (hj : Hid (∃ j, j < n ∧ F.getD j 0 ≠ p - 1)) :
    Calls Try.prog 72 #[.int .i64 p, .slice (some ⟨g, 0, none⟩) n cap] ws fun x w' => x = .returned (.tuple #[]) ∧ RSt w w' g n cap (Q.advanceP p F) := by
  have HL : Hid (F.length = n) := hS.out.len
  have H0 : Hid (RSt w ws g n cap (List.replicate 0 0 ++ F.drop 0)) := hS
  have HA : Hid (Q.advanceP p F = List.replicate 0 0 ++ Q.advanceP p (F.drop 0)) := by show _ = _; rw [List.drop_zero]; rfl
  have HK : Hid (∀ k, k < 0 → F.getD k 0 = p - 1) := fun k hk => absurd hk (by omega)
  have hpp : (p : Int) - 1 = ((p - 1 : Nat) : Int) := by omega
  clear hS
  go_enter Try.func72, Try.ntmps72
  go_wp2_with (fail)
  go_loopw [4] (fun iv wr => ∃ i : Nat, iv = .int .i64 i ∧ i ≤ n ∧ Hid (RSt w wr g n cap (List.replicate i 0 ++ F.drop i)) ∧ Hid (Q.advanceP p F = List.replicate i 0 ++ Q.advanceP p (F.drop i)) ∧ Hid (∀ k, k < i → F.getD k 0 = p - 1)) (fun iv _ => n - (intOf iv).toNat)
  case atStart => exact ⟨0, rfl, by omega, H0, HA, HK⟩
  case round =>
    obtain ⟨i, rfl, hi, HS, HA, HK⟩ := hrel
    have hin : i < n := by
      obtain ⟨j, h1, h2⟩ := hj.out
      rcases Nat.lt_or_ge i n with h | h
      · exact h
      · exact absurd (HK.out j (by omega)) h2
    have hiF : i < F.length := by have := HL.out; omega
    obtain ⟨x, hx⟩ : ∃ x, x = F.getD i 0 := ⟨_, rfl⟩
    have hgx : (List.replicate i 0 ++ F.drop i).getD i 0 = x := by
      rw [hx]; simp [List.getD, List.getElem?_append, hiF]
    have hc := HS.out.cell hin
    rw [hgx] at hc
    have hfr := HS.out.free i
    have hxp : x < p := by rw [hx]; exact hF.out _ (by rw [show F.getD i 0 = F[i] by simp [List.getD, hiF]]; exact List.getElem_mem hiF)
    have hin2 : (i : Int) < (n : Int) := by omega
    by_cases he : x = p - 1
    · have hd : ((x : Int) == (p : Int) - 1) = true := by rw [beq_iff_eq]; omega
      have HSn : Hid (RSt w (wr.setCell ⟨g, i, none⟩ (.int .i64 0)) g n cap (List.replicate (i + 1) 0 ++ F.drop (i + 1))) := by
        have h1 := HS.out.set i 0
        rw [Q.zset0 F i hiF] at h1
        exact h1
      have HAn : Hid (Q.advanceP p F = List.replicate (i + 1) 0 ++ Q.advanceP p (F.drop (i + 1))) := by
        show _ = _
        rw [HA.out, Q.adv_next hiF (by rw [← hx]; exact he), List.replicate_succ' (n := i), List.append_assoc]
        rfl
      have HKn : Hid (∀ k, k < i + 1 → F.getD k 0 = p - 1) := fun k hk => by
        rcases Nat.lt_or_ge k i with h | h
        · exact HK.out k h
        · rw [show k = i by omega, ← hx]; exact he
      clear he hx hgx
      go_wp2_with (fail)
      go_roundw
      case rel => exact ⟨i + 1, by go_num, by omega, HSn, HAn, HKn⟩
      case measure => simp [intOf]; omega
    · have hd : ((x : Int) == (p : Int) - 1) = false := by rw [beq_eq_false_iff_ne]; omega
      have HSn : Hid (RSt w (wr.setCell ⟨g, i, none⟩ (.int .i64 ((x : Int) + 1))) g n cap (Q.advanceP p F)) := by
        have h1 := HS.out.set i (x + 1)
        rw [Q.zset F i (x + 1) hiF, hx, ← Q.adv_stop hiF (by rw [← hx]; exact he), ← HA.out, ← hx] at h1
        exact h1
      clear he hx hgx
      go_wp2_with (fail)
      go_end0
      exact ⟨rfl, HSn.out⟩

end Go.Proofs.Ytgnpohapmijfiaa

namespace Go.Proofs.Ytgnpohapmijfiaa
open Go.RowKit

set_option maxHeartbeats 1000000 in
theorem isDegree_is (n : Int) (w : World) : Calls Try.prog 68 #[.int .i64 n] w fun x w' => x = .returned (.bool (decide (1 ≤ n ∧ n ≤ 32))) ∧ w' = w := by
  by_cases h1 : 1 ≤ n
  · by_cases h2 : n ≤ 32
    · have hd1 : decide (1 ≤ n) = true := by simpa using h1
      have hd2 : decide (n ≤ 32) = true := by simpa using h2
      have HE : Hid (decide (1 ≤ n ∧ n ≤ 32) = true) := by show _ = _; simp [h1, h2]
      go_enter Try.func68, Try.ntmps68
      go_wp2_with (fail)
      go_ret
      exact ⟨by first | (rw [HE.out]; rfl) | rfl, rfl⟩
    · have hd1 : decide (1 ≤ n) = true := by simpa using h1
      have hd2 : decide (n ≤ 32) = false := by simpa using h2
      have HE : Hid (decide (1 ≤ n ∧ n ≤ 32) = false) := by show _ = _; simp [h2]
      go_enter Try.func68, Try.ntmps68
      go_wp2_with (fail)
      go_ret
      exact ⟨by first | (rw [HE.out]; rfl) | rfl, rfl⟩
  · have hd1 : decide (1 ≤ n) = false := by simpa using h1
    have HE : Hid (decide (1 ≤ n ∧ n ≤ 32) = false) := by show _ = _; simp [h1]
    go_enter Try.func68, Try.ntmps68
    go_wp2_with (fail)
    go_ret
    exact ⟨by first | (rw [HE.out]; rfl) | rfl, rfl⟩

end Go.Proofs.Ytgnpohapmijfiaa

namespace Go.Proofs.Ytgnpohapmijfiaa
open Go.RowKit

/-- The search from f finds res in at most n steps, and never steps over the end. -/
def Q.FirstOk (p : Nat) (res : List Nat) : Nat → List Nat → Prop
  | 0, _ => False
  | n + 1, f => Q.Pol p f ∧ ((Q.irredP p f = true ∧ f = res) ∨ (Q.irredP p f = false ∧ (∃ j, j < f.length ∧ f.getD j 0 ≠ p - 1) ∧ (Q.advanceP p f).length = f.length ∧ Q.FirstOk p res n (Q.advanceP p f)))

theorem Q.rep_set (n : Nat) : (List.replicate (n + 1) 0).set n 1 = List.replicate n 0 ++ [1] := by
  rw [List.replicate_succ', List.set_append, if_neg (by simp)]
  simp

set_option maxRecDepth 100000 in
set_option maxHeartbeats 2000000 in
theorem First_ok (p n N : Nat) (res : List Nat) (w : World) (hP : Hid (M.Pr p)) (hp2 : p ≤ 1021) (hn1 : 1 ≤ n) (hn2 : n ≤ 32) (hD : Hid (Q.FirstOk p res N (List.replicate n 0 ++ [1]))) :
    Calls Try.prog 38 #[.int .i64 p, .int .i64 n] w (RetE w res) := by
  have hp : 2 ≤ p := hP.out.1
  have hfi : Hid (FieldI (p : Int)) := ⟨by omega, by omega, by rw [Int.toNat_natCast]; exact hP.out⟩
  have hde : Hid (decide (1 ≤ (n : Int) ∧ (n : Int) ≤ 32) = true) := by show _ = _; rw [decide_eq_true_iff]; omega
  obtain ⟨i0, hi, hz0, hz1, hz2⟩ := info_parts Try.infoZ
  go_enter Try.func38, Try.ntmps38
  go_wp2_with (fail)
  refine (isField_yes p w hfi).mono ?_
  rintro e w1 ⟨rfl, hB1⟩
  have HB1 := Lib.hid hB1
  clear hB1
  go_wp2_with (fail)
  refine (isDegree_is n w1).mono ?_
  rintro e w1' ⟨rfl, rfl⟩
  rw [hde.out]
  go_wp2_with (at_make; refine wpList_make_full _ rfl _ _ 22 rfl w.heap.size 3 i0 (.int .i64 0) 1 Try.underlying22 hi hz0 hz1 .i64 .i64 _ _ (n + 1) rfl rfl rfl rfl (by rw [hz2]; omega) (by unfold maxLen; omega) HB1.out.size ?_)
  intro w2 hown2 hgrow2
  obtain ⟨g, hg⟩ : ∃ g, g = w1'.heap.size := ⟨_, rfl⟩
  have HS2 : Hid (RSt w w2 g (n + 1) (n + 1) (List.replicate (n + 1) 0)) := by
    refine ⟨?_, HB1.out.trans ((below_of_grown hgrow2).mono HB1.out.size)⟩
    rw [← nats_zeros, hg]; exact hown2
  have d1 := HS2.out.cell (Nat.lt_succ_self n)
  have d2 := HS2.out.free n
  have HS3 : Hid (RSt w (w2.setCell ⟨g, n, none⟩ (.int .i64 1)) g (n + 1) (n + 1) (List.replicate n 0 ++ [1])) := by
    have h1 := HS2.out.set n 1
    rw [Q.rep_set] at h1
    exact h1
  have hnn : (n : Int) < (n : Int) + 1 := by omega
  rw [← hg]
  clear hown2 hgrow2 hg
  go_wp2_with (fail)
  go_loopg [] N (fun gk wx => gk ≤ N ∧ ∃ f, Hid (RSt w wx g (n + 1) (n + 1) f) ∧ Hid (Q.FirstOk p res gk f))
  case atStart => exact ⟨Nat.le_refl _, _, HS3, hD⟩
  case round =>
    obtain ⟨hgN, f, HS, HO⟩ := hrel
    cases gk with
    | zero => exact HO.out.elim
    | succ gk' =>
      have hlen : f.length = n + 1 := HS.out.len
      obtain ⟨hPf, hcase⟩ := HO.out
      have HPf := Lib.hid hPf
      have HBw := Lib.hid HS.out.below
      have HRf : Hid (Rd wr (.slice (some ⟨g, 0, none⟩) (n + 1) (n + 1)) 1 f.length (nats f)) := by show Rd _ _ _ _ _; rw [hlen]; exact Rd.of_own HS.out.own
      rcases hcase with ⟨hirr, hres⟩ | ⟨hirr, hj, hal, hrec⟩
      · have HE := Lib.hid (And.intro hirr hres)
        clear hirr hres hPf
        go_wp2_with (fail)
        refine (isIrreducible_is p f _ _ hP hp2 HRf HPf (by omega)).mono ?_
        rintro e w5 ⟨rfl, hB5⟩
        rw [HE.out.1]
        have HS5 : Hid (NewL w w5 (.slice (some ⟨g, 0, none⟩) (n + 1) (n + 1)) res ∧ Below w.heap.size w w5) := by
          refine ⟨?_, HBw.out.trans (hB5.mono HBw.out.size)⟩
          have h1 := own_kept HS.out.own hB5
          show World.ownsRow _ _ _ _ _ _ _
          rw [← HE.out.2, hlen]; exact h1
        clear hB5
        go_wp2_with (fail)
        go_ret2
        exact ⟨⟨_, rfl, HS5.out.1⟩, HS5.out.2⟩
      · have HE := Lib.hid (And.intro hirr (And.intro hj (And.intro hal hrec)))
        clear hirr hj hal hrec hPf
        go_wp2_with (fail)
        refine (isIrreducible_is p f _ _ hP hp2 HRf HPf (by omega)).mono ?_
        rintro e w5 ⟨rfl, hB5⟩
        rw [HE.out.1]
        have HS5 : Hid (RSt w w5 g (n + 1) (n + 1) f) := ⟨own_kept HS.out.own hB5, HBw.out.trans (hB5.mono HBw.out.size)⟩
        clear hB5
        go_wp2_with (fail)
        refine (advance_is p g (n + 1) (n + 1) f w _ hp hp2 HS5 (by omega) HPf.out.1 (by have := HE.out.2.1; rw [hlen] at this; exact this)).mono ?_
        rintro e w6 ⟨rfl, hS6⟩
        have HS6 := Lib.hid hS6
        have HO6 : Hid (Q.FirstOk p res gk' (Q.advanceP p f)) := HE.out.2.2.2
        clear hS6
        go_wp2_with (fail)
        go_roundg gk'
        case measure => omega
        case rel => exact ⟨by omega, _, HS6, HO6⟩

end Go.Proofs.Ytgnpohapmijfiaa

namespace Go.Proofs.Ytgnpohapmijfiaa
open Go.RowKit

theorem Q.pol_dec {p : Nat} {f : List Nat} (h1 : f.all (fun x => decide (x < p)) = true) (h2 : Q.trimLen f = f.length) : Q.Pol p f := ⟨fun x hx => by simpa using List.all_eq_true.1 h1 x hx, h2⟩

theorem awake_firstOk : Q.FirstOk 2 [1, 1, 0, 1] 9 (List.replicate 3 0 ++ [1]) := by
  have e0 : (List.replicate 3 0 ++ [1] : List Nat) = [0, 0, 0, 1] := rfl
  rw [e0]
  have a1 : Q.advanceP 2 [0, 0, 0, 1] = [1, 0, 0, 1] := by decide +kernel
  have a2 : Q.advanceP 2 [1, 0, 0, 1] = [0, 1, 0, 1] := by decide +kernel
  have a3 : Q.advanceP 2 [0, 1, 0, 1] = [1, 1, 0, 1] := by decide +kernel
  refine ⟨Q.pol_dec (by decide +kernel) (by decide +kernel), .inr ⟨by decide +kernel, ⟨0, by simp, by simp⟩, by rw [a1]; rfl, ?_⟩⟩
  rw [a1]
  refine ⟨Q.pol_dec (by decide +kernel) (by decide +kernel), .inr ⟨by decide +kernel, ⟨1, by simp, by simp⟩, by rw [a2]; rfl, ?_⟩⟩
  rw [a2]
  refine ⟨Q.pol_dec (by decide +kernel) (by decide +kernel), .inr ⟨by decide +kernel, ⟨0, by simp, by simp⟩, by rw [a3]; rfl, ?_⟩⟩
  rw [a3]
  exact ⟨Q.pol_dec (by decide +kernel) (by decide +kernel), .inl ⟨by decide +kernel, rfl⟩⟩

theorem awake_monic : Q.monicP 5 [1, 0, 1] = [1, 0, 1] := by decide +kernel
theorem awake_fact34 : Q.factLoop 5 34 1 [1, 0, 1] = some [([3, 1], 1), ([2, 1], 1)] ∨ Q.factLoop 5 34 1 [1, 0, 1] = some [([2, 1], 1), ([3, 1], 1)] := by decide +kernel
theorem awake_pr5 : M.Pr 5 := ⟨by omega, fun d hd => by
  have h1 := Nat.le_of_dvd (by omega) hd
  rcases (by omega : d = 0 ∨ d = 1 ∨ d = 2 ∨ d = 3 ∨ d = 4 ∨ d = 5) with rfl | rfl | rfl | rfl | rfl | rfl
  all_goals first | exact .inl rfl | exact .inr rfl | (revert hd; decide)⟩
theorem awake_pr2 : M.Pr 2 := ⟨by omega, fun d hd => by
  have h1 := Nat.le_of_dvd (by omega) hd
  rcases (by omega : d = 0 ∨ d = 1 ∨ d = 2) with rfl | rfl | rfl
  all_goals first | exact .inl rfl | exact .inr rfl | (revert hd; decide)⟩

end Go.Proofs.Ytgnpohapmijfiaa

namespace Go.Proofs.Ytgnpohapmijfiaa
namespace Q

/-- What is left of p^n after d rounds. -/
def leftAt (p k n d : Nat) : Int := (List.range d).foldl (fun left d => if n % (d + 1) = 0 then left - ((d + 1 : Nat) : Int) * countP p k (d + 1) else left) ((p ^ n : Nat) : Int)

theorem leftAt_zero (p k n : Nat) : leftAt p k n 0 = ((p ^ n : Nat) : Int) := rfl
theorem leftAt_succ (p k n d : Nat) : leftAt p k n (d + 1) = if n % (d + 1) = 0 then leftAt p k n d - ((d + 1 : Nat) : Int) * countP p k (d + 1) else leftAt p k n d := by
  unfold leftAt; rw [List.range_succ, List.foldl_append]; rfl
theorem countP_succ (p k n : Nat) : countP p (k + 1) n = leftAt p k n (n - 1) / (n : Int) := rfl

def geo (p : Nat) : Nat → Nat
  | 0 => 0
  | d + 1 => geo p d + p ^ (d + 1)

theorem geo_le {p : Nat} (hp : 2 ≤ p) : ∀ d, geo p d + 2 ≤ 2 * p ^ d
  | 0 => by simp [geo]
  | d + 1 => by
    have ih := geo_le hp d
    have h1 : p ^ d * 2 ≤ p ^ d * p := Nat.mul_le_mul_left _ hp
    rw [geo, Nat.pow_succ]
    omega

theorem geo_lt {p n d : Nat} (hp : 2 ≤ p) (h : d < n) : geo p d < p ^ n := by
  have h1 := geo_le hp d
  have h2 : p ^ (d + 1) ≤ p ^ n := Nat.pow_le_pow_right (by omega) h
  have h3 : p ^ d * 2 ≤ p ^ d * p := Nat.mul_le_mul_left _ hp
  rw [Nat.pow_succ] at h2
  omega

theorem count_bd {p : Nat} (hp : 2 ≤ p) : ∀ (k n : Nat), 1 ≤ n → 0 ≤ countP p k n ∧ (n : Int) * countP p k n ≤ ((p ^ n : Nat) : Int)
  | 0, n, _ => ⟨by simp [countP], by simp only [countP, Int.mul_zero]; exact Int.natCast_nonneg _⟩
  | k + 1, n, h => by
    have H : ∀ d, ((p ^ n : Nat) : Int) - (geo p d : Nat) ≤ leftAt p k n d ∧ leftAt p k n d ≤ ((p ^ n : Nat) : Int) := by
      intro d
      induction d with
      | zero => simp [geo, leftAt_zero]
      | succ d ih =>
        have ⟨c1, c2⟩ := count_bd hp k (d + 1) (by omega)
        have c3 : 0 ≤ ((d + 1 : Nat) : Int) * countP p k (d + 1) := Int.mul_nonneg (by omega) c1
        rw [leftAt_succ, geo]
        split
        · omega
        · omega
    have h1 := H (n - 1)
    have h2 := geo_lt hp (show n - 1 < n by omega)
    rw [countP_succ]
    have h0 : (0 : Int) ≤ leftAt p k n (n - 1) := by omega
    refine ⟨Int.ediv_nonneg h0 (by omega), Int.le_trans (Int.mul_ediv_self_le (by omega)) h1.2⟩

theorem left_bd {p : Nat} (hp : 2 ≤ p) (k n d : Nat) (h : d < n) : 0 ≤ leftAt p k n d ∧ leftAt p k n d ≤ ((p ^ n : Nat) : Int) := by
  have H : ∀ d, ((p ^ n : Nat) : Int) - (geo p d : Nat) ≤ leftAt p k n d ∧ leftAt p k n d ≤ ((p ^ n : Nat) : Int) := by
    intro d
    induction d with
    | zero => simp [geo, leftAt_zero]
    | succ d ih =>
      have ⟨c1, c2⟩ := count_bd hp k (d + 1) (by omega)
      have c3 : 0 ≤ ((d + 1 : Nat) : Int) * countP p k (d + 1) := Int.mul_nonneg (by omega) c1
      rw [leftAt_succ, geo]
      split
      · omega
      · omega
  have h1 := H d
  have h2 := geo_lt hp h
  omega

/-- The Moebius function, off a factorization. -/
def mobL : List (Nat × Nat) → Int
  | [] => 1
  | x :: l => if 1 < x.2 then 0 else - mobL l

def facOf (n : Nat) : List (Nat × Nat) := ([2, 3, 5, 7, 11, 13, 17, 19, 23, 29, 31].filterMap fun q => let e := (List.range 6).filter (fun e => n % q ^ (e + 1) == 0); if e.length = 0 then none else some (q, e.length))

theorem pr_small {n : Nat} (h2 : 2 ≤ n) (h : ∀ d, d < n → 2 ≤ d → n % d ≠ 0) : M.Pr n := by
  refine ⟨h2, fun d hd => ?_⟩
  have hd0 : 0 < d := Nat.pos_of_dvd_of_pos hd (by omega)
  have hle := Nat.le_of_dvd (by omega) hd
  by_cases h1 : d = 1
  · exact .inl h1
  · by_cases hn : d = n
    · exact .inr hn
    · exact absurd (Nat.mod_eq_zero_of_dvd hd) (h d (by omega) (by omega))

def goodFac : Nat → List (Nat × Nat) → Bool
  | _, [] => true
  | lo, x :: l => decide (lo < x.1) && (decide (2 ≤ x.1) && ((List.range x.1).all fun d => decide (d < 2) || decide (x.1 % d ≠ 0))) && decide (1 ≤ x.2) && goodFac x.1 l

theorem goodFac_is : ∀ (l : List (Nat × Nat)) (lo : Nat), goodFac lo l = true → M.FacFrom lo l
  | [], _, _ => trivial
  | x :: l, lo, h => by
    simp only [goodFac, Bool.and_eq_true, decide_eq_true_eq, List.all_eq_true, List.mem_range, Bool.or_eq_true] at h
    exact ⟨h.1.1.1, pr_small h.1.1.2.1 (fun d h1 h2 => (h.1.1.2.2 d h1).resolve_left (by omega)), h.1.2, goodFac_is l _ h.2⟩

theorem facOf_is {n : Nat} (h1 : 1 ≤ n) (h2 : n ≤ 32) : M.IsFac n (facOf n) := by
  have H : ∀ n, n < 33 → 1 ≤ n → goodFac 1 (facOf n) = true ∧ M.prodP (facOf n) = n := by decide +kernel
  have ⟨a, b⟩ := H n (by omega) h1
  exact ⟨goodFac_is _ _ a, b⟩

/-- The reference's sum after j rounds: d runs from n down. -/
def sumAt (p n : Nat) : Nat → Int
  | 0 => 0
  | j + 1 => if n % (n - j) = 0 then sumAt p n j + mobL (facOf (n / (n - j))) * ((p ^ (n - j) : Nat) : Int) else sumAt p n j

theorem mobL_bd : ∀ l, -1 ≤ mobL l ∧ mobL l ≤ 1
  | [] => by simp [mobL]
  | x :: l => by have := mobL_bd l; rw [mobL]; split <;> omega

theorem sumAt_bd {p n : Nat} : ∀ j, j ≤ n → -((geo p n : Nat) : Int) + ((geo p (n - j) : Nat) : Int) ≤ sumAt p n j ∧ sumAt p n j ≤ ((geo p n : Nat) : Int) - ((geo p (n - j) : Nat) : Int)
  | 0, _ => by simp [sumAt]; omega
  | j + 1, h => by
    have ih := sumAt_bd (p := p) (n := n) j (by omega)
    have e : geo p (n - j) = geo p (n - (j + 1)) + p ^ (n - j) := by
      obtain ⟨d, hd⟩ : ∃ d, n - j = d + 1 := ⟨n - j - 1, by omega⟩
      rw [hd, show n - (j + 1) = d by omega, geo]
    rw [sumAt]
    split
    · have hm := mobL_bd (facOf (n / (n - j)))
      have hx : -((p ^ (n - j) : Nat) : Int) ≤ mobL (facOf (n / (n - j))) * ((p ^ (n - j) : Nat) : Int) ∧ mobL (facOf (n / (n - j))) * ((p ^ (n - j) : Nat) : Int) ≤ ((p ^ (n - j) : Nat) : Int) := by
        generalize p ^ (n - j) = P
        have h0 : (0 : Int) ≤ (P : Int) := Int.natCast_nonneg _
        rcases (by omega : mobL (facOf (n / (n - j))) = -1 ∨ mobL (facOf (n / (n - j))) = 0 ∨ mobL (facOf (n / (n - j))) = 1) with h1 | h1 | h1 <;> rw [h1] <;> constructor <;> omega
      rw [e] at ih
      omega
    · rw [e] at ih; omega

theorem sumAt_abs {p n : Nat} (hp : 2 ≤ p) (h : p ^ n ≤ 2305843009213693952) (j : Nat) (hj : j ≤ n) : -4611686018427387904 ≤ sumAt p n j ∧ sumAt p n j ≤ 4611686018427387904 := by
  have h1 := sumAt_bd (p := p) j hj
  have h2 := geo_le hp n
  omega

def cntOk (p n : Nat) : Bool :=
  if p ^ n ≤ 2305843009213693952 then decide (0 ≤ sumAt p n n) &&
    if p ^ n ≤ 576460752303423488 then decide (countP p n n = sumAt p n n / (n : Int))
    else decide ((9007199254740992 : Int) < sumAt p n n / (n : Int))
  else true

def cntAll (n : Nat) : Bool := (List.range 1020).all fun p => cntOk (p + 2) n

set_option maxRecDepth 100000 in
theorem cntAll_is : ∀ n, n < 32 → cntAll (n + 1) = true := by decide +kernel

theorem cnt_is {p n : Nat} (hp : 2 ≤ p) (hp2 : p ≤ 1021) (h1 : 1 ≤ n) (h2 : n ≤ 32) : cntOk p n = true := by
  have h3 := cntAll_is (n - 1) (by omega)
  rw [show n - 1 + 1 = n by omega] at h3
  have h4 := List.all_eq_true.1 h3 (p - 2) (List.mem_range.2 (by omega))
  rw [show p - 2 + 2 = p by omega] at h4
  exact h4

end Q
end Go.Proofs.Ytgnpohapmijfiaa

namespace Go.Proofs.Ytgnpohapmijfiaa
open Go.RowKit

theorem Q.pow_pos' {p : Nat} (hp : 2 ≤ p) (i : Nat) : 1 ≤ p ^ i := Nat.pos_of_ne_zero fun h => by
  have := Nat.pow_eq_zero.1 h; omega

theorem Q.pow_le' {p i n : Nat} (hp : 2 ≤ p) (h : i ≤ n) : p ^ i ≤ p ^ n := Nat.pow_le_pow_right (by omega) h

set_option maxRecDepth 100000 in
set_option maxHeartbeats 2000000 in
theorem countOf_is (p : Nat) (hp : 2 ≤ p) (_hp2 : p ≤ 1021) : ∀ (k n : Nat) (w : World), 1 ≤ n → n ≤ k → n ≤ 32 → Hid (p ^ n ≤ 2305843009213693952) →
    Calls Try.prog 69 #[.int .i64 p, .int .i64 n] w fun x w' => x = .returned (.int .i64 (Q.countP p k n)) ∧ w' = w := by
  intro k
  induction k with
  | zero => intro n w h1 h2; omega
  | succ k ih =>
    intro n w h1 h2 h3 hpw
    have HIH := Lib.hid ih
    clear ih
    have HE : Hid (Q.leftAt p k n (n - 1) / (n : Int) = Q.countP p (k + 1) n) := (Q.countP_succ p k n).symm
    have hnz : ((n : Int) == 0) = false := by rw [beq_eq_false_iff_ne]; omega
    go_enter Try.func69, Try.ntmps69
    go_wp2_with (fail)
    go_loopw [5, 8] (fun lv iv wx => ∃ (i y : Nat), lv = .int .i64 y ∧ iv = .int .i64 i ∧ i ≤ n ∧ y ≤ 2305843009213693952 ∧ Hid (y = p ^ i) ∧ wx = w) (fun _ iv _ => n - (intOf iv).toNat)
    case atStart => exact ⟨0, 1, rfl, rfl, by omega, by omega, (Nat.pow_zero p).symm, by first | rfl | trivial⟩
    case round =>
      obtain ⟨i, y, rfl, rfl, hi, hy, HY, rfl⟩ := hrel
      by_cases hlt : i < n
      · have HY2 : Hid (y * p = p ^ (i + 1)) := by show _ = _; rw [Nat.pow_succ, ← HY.out]
        have hb : y * p ≤ 2305843009213693952 := by rw [HY2.out]; exact Nat.le_trans (Q.pow_le' hp (by omega)) hpw.out
        have hb1 : (0 : Int) ≤ (y : Int) * (p : Int) ∧ (y : Int) * (p : Int) ≤ 2305843009213693952 := by
          have : (y : Int) * (p : Int) = ((y * p : Nat) : Int) := by simp
          omega
        have HZ : Hid ((y : Int) * (p : Int) = ((y * p : Nat) : Int)) := by show _ = _; simp
        go_wp2_with (fail)
        go_roundw
        case rel => exact ⟨i + 1, y * p, by first | (rw [← HZ.out]) | (rw [← HZ.out]; go_num), by go_num, by omega, hb, HY2, by first | rfl | trivial⟩
        case measure => simp [intOf]; omega
      · obtain rfl : i = n := by omega
        have HL0 : Hid ((y : Int) = Q.leftAt p k i 0) := by show _ = _; rw [Q.leftAt_zero, HY.out]
        go_wp2_with (fail)
        go_loopw [5, 6] (fun lv dv wx => ∃ (d : Nat) (L : Int), lv = .int .i64 L ∧ dv = .int .i64 d ∧ 1 ≤ d ∧ d ≤ i ∧ 0 ≤ L ∧ L ≤ 2305843009213693952 ∧ Hid (L = Q.leftAt p k i (d - 1)) ∧ wx = wr) (fun _ dv _ => i - (intOf dv).toNat)
        case atStart => exact ⟨1, (y : Int), rfl, rfl, by omega, by omega, by omega, by omega, HL0, by first | rfl | trivial⟩
        case round =>
          obtain ⟨d, L, rfl, rfl, hd1, hd, hL0, hL1, HL, rfl⟩ := hrel
          by_cases hdl : d < i
          · have hc1 : (d : Int) < (i : Int) := by omega
            have hd0 : ((d : Int) == 0) = false := by rw [beq_eq_false_iff_ne]; omega
            have HB := Lib.hid (Q.left_bd hp k i d hdl)
            have HPI : Hid (((p ^ i : Nat) : Int) ≤ 2305843009213693952) := by show _ ≤ _; have := hpw.out; omega
            have HS : Hid (Q.leftAt p k i d = if i % d = 0 then Q.leftAt p k i (d - 1) - ((d : Nat) : Int) * Q.countP p k d else Q.leftAt p k i (d - 1)) := by
              have := Q.leftAt_succ p k i (d - 1); rw [show d - 1 + 1 = d by omega] at this; exact this
            by_cases hm : i % d = 0
            · have hme : ((i : Int) % (d : Int) == 0) = true := by
                rw [beq_iff_eq]; exact_mod_cast congrArg (fun z : Nat => (z : Int)) hm
              have HC := Lib.hid (Q.count_bd hp k d hd1)
              obtain ⟨c, hc⟩ : ∃ c, c = Q.countP p k d := ⟨_, rfl⟩
              have HCE := Lib.hid hc
              have HL2 : Hid (L - (d : Int) * c = Q.leftAt p k i (d + 1 - 1)) := by
                show _ = _; rw [Nat.add_sub_cancel, HS.out, if_pos hm, ← HL.out, hc]
              have hpd : Hid (p ^ d ≤ 2305843009213693952) := Nat.le_trans (Q.pow_le' hp (by omega)) hpw.out
              have hbb : 0 ≤ (d : Int) * c ∧ (d : Int) * c ≤ 2305843009213693952 := by
                have h4 := HC.out
                have h5 := hpd.out
                rw [← hc] at h4
                refine ⟨Int.mul_nonneg (by omega) h4.1, by omega⟩
              have hbs : 0 ≤ L - (d : Int) * c ∧ L - (d : Int) * c ≤ 2305843009213693952 := by
                have h4 := HB.out; have h5 := HPI.out; have h6 := HL2.out; rw [Nat.add_sub_cancel] at h6; rw [h6]; omega
              clear hc hm
              go_wp2_with (go_at_call 69; refine (HIH.out d _ (by omega) (by omega) (by omega) hpd).mono ?_; rintro e w' ⟨rfl, rfl⟩; rw [← HCE.out])
              go_roundw
              case rel => exact ⟨d + 1, L - (d : Int) * c, by first | rfl | go_num, by go_num, by omega, by omega, hbs.1, hbs.2, HL2, by first | rfl | trivial⟩
              case measure => simp [intOf]; omega
            · have hme : ((i : Int) % (d : Int) == 0) = false := by
                rw [beq_eq_false_iff_ne]; intro h; exact hm (by exact_mod_cast h)
              have HL2 : Hid (L = Q.leftAt p k i (d + 1 - 1)) := by show _ = _; rw [Nat.add_sub_cancel, HS.out, if_neg hm, ← HL.out]
              clear hm
              go_wp2_with (fail)
              go_roundw
              case rel => exact ⟨d + 1, L, rfl, by go_num, by omega, by omega, hL0, hL1, HL2, by first | rfl | trivial⟩
              case measure => simp [intOf]; omega
          · have hdi : d = i := by omega
            have hc1 : decide ((d : Int) < (i : Int)) = false := by rw [decide_eq_false_iff_not]; omega
            have HR : Hid (L / (i : Int) = Q.countP p (k + 1) i) := by show _ = _; rw [← HE.out, HL.out, hdi]
            have hq : 0 ≤ L / (i : Int) ∧ L / (i : Int) ≤ 2305843009213693952 := by
              refine ⟨Int.ediv_nonneg hL0 (by omega), ?_⟩
              have := Int.ediv_le_self (i : Int) hL0
              omega
            clear hdi
            go_wp2_with (fail)
            go_ret
            exact ⟨by rw [← HR.out]; rfl, rfl⟩

set_option maxRecDepth 100000 in
set_option maxHeartbeats 2000000 in
theorem Count_ok (p n : Nat) (w : World) (hP : Hid (M.Pr p)) (hp2 : p ≤ 1021) (hn1 : 1 ≤ n) (hn2 : n ≤ 32) (hpw : Hid (p ^ n ≤ 576460752303423488)) (hcl : Hid (Q.countP p n n ≤ 9007199254740992)) :
    Calls Try.prog 36 #[.int .i64 p, .int .i64 n] w fun x w' => x = .returned (.tuple #[.int .i64 (Q.countP p n n), .int .i64 0]) ∧ Below w.heap.size w w' := by
  have hp : 2 ≤ p := hP.out.1
  have hfi : Hid (FieldI (p : Int)) := ⟨by omega, by omega, by rw [Int.toNat_natCast]; exact hP.out⟩
  have hde : Hid (decide (1 ≤ (n : Int) ∧ (n : Int) ≤ 32) = true) := by show _ = _; rw [decide_eq_true_iff]; omega
  have hzp : ((p : Int) == 0) = false := by rw [beq_eq_false_iff_ne]; omega
  go_enter Try.func36, Try.ntmps36
  go_wp2_with (fail)
  refine (isField_yes p w hfi).mono ?_
  rintro e w1 ⟨rfl, hB1⟩
  have HB1 := Lib.hid hB1
  clear hB1
  go_wp2_with (fail)
  refine (isDegree_is n w1).mono ?_
  rintro e w1' ⟨rfl, rfl⟩
  rw [hde.out]
  go_wp2_with (fail)
  go_loopw [6, 17] (fun lv iv wx => ∃ (i y : Nat), lv = .int .i64 y ∧ iv = .int .i64 i ∧ i ≤ n ∧ 1 ≤ y ∧ y ≤ 576460752303423488 ∧ Hid (y = p ^ i) ∧ wx = w1') (fun _ iv _ => n - (intOf iv).toNat)
  case atStart => exact ⟨0, 1, rfl, rfl, by omega, by omega, by omega, (Nat.pow_zero p).symm, by first | rfl | trivial⟩
  case round =>
    obtain ⟨i, y, rfl, rfl, hi, hy0, hy, HY, rfl⟩ := hrel
    by_cases hlt : i < n
    · have HY2 : Hid (y * p = p ^ (i + 1)) := by show _ = _; rw [Nat.pow_succ, ← HY.out]
      have hq : ((576460752303423488 : Int) / (p : Int)) = ((576460752303423488 / p : Nat) : Int) := rfl
      obtain ⟨q, hqq⟩ : ∃ q : Nat, q = 576460752303423488 / p := ⟨_, rfl⟩
      have hqle : q ≤ 576460752303423488 := by rw [hqq]; exact Nat.div_le_self _ _
      have hqi : q < y ↔ 576460752303423488 < y * p := by rw [hqq]; exact Nat.div_lt_iff_lt_mul (by omega)
      rw [← hqq] at hq
      have hilt : (i : Int) < (n : Int) := by omega
      have hb : y * p ≤ 576460752303423488 := by rw [HY2.out]; exact Nat.le_trans (Q.pow_le' hp (by omega)) hpw.out
      have hb1 : (0 : Int) ≤ (y : Int) * (p : Int) ∧ (y : Int) * (p : Int) ≤ 576460752303423488 := by
        have : (y : Int) * (p : Int) = ((y * p : Nat) : Int) := by simp
        omega
      have hb2 : 1 ≤ y * p := by rw [HY2.out]; exact Q.pow_pos' hp _
      have HZ : Hid ((y : Int) * (p : Int) = ((y * p : Nat) : Int)) := by show _ = _; simp
      have hde2 : decide ((q : Int) < (y : Int)) = false := by rw [decide_eq_false_iff_not]; have := hqi; omega
      have hde4 : ¬ ((q : Int) < (y : Int)) := by have := hqi; omega
      clear hqi hqq hqle
      go_wp2_with (fail)
      go_roundw
      case rel => exact ⟨i + 1, y * p, by first | (rw [← HZ.out]) | (rw [← HZ.out]; go_num), by go_num, by omega, hb2, hb, HY2, by first | rfl | trivial⟩
      case measure => simp [intOf]; omega
    · obtain rfl : i = n := by omega
      have HC := Lib.hid (Q.count_bd hp i i (by omega))
      obtain ⟨c, hc⟩ : ∃ c, c = Q.countP p i i := ⟨_, rfl⟩
      have HCE := Lib.hid hc
      have HPW : Hid (p ^ i ≤ 2305843009213693952) := Nat.le_trans hpw.out (by omega)
      have hde3 : decide ((9007199254740992 : Int) < c) = false := by rw [decide_eq_false_iff_not]; have := hcl.out; rw [← hc] at this; omega
      clear hc
      go_wp2_with (go_at_call 69; refine (countOf_is p hp hp2 i i _ (by omega) (by omega) (by omega) HPW).mono ?_; rintro e w' ⟨rfl, rfl⟩; rw [← HCE.out])
      go_ret2
      exact ⟨by first | rfl | (rw [← HCE.out]; rfl) | (rw [← HCE.out]), HB1.out⟩


set_option maxRecDepth 100000 in
set_option maxHeartbeats 2000000 in
theorem Count_big (p n : Nat) (w : World) (hP : Hid (M.Pr p)) (hp2 : p ≤ 1021) (hn1 : 1 ≤ n) (hn2 : n ≤ 32) (hpw : Hid (p ^ n ≤ 576460752303423488)) (hcl : Hid (9007199254740992 < Q.countP p n n)) :
    Calls Try.prog 36 #[.int .i64 p, .int .i64 n] w fun x w' => x = .returned (.tuple #[.int .i64 0, .int .i64 5]) ∧ Below w.heap.size w w' := by
  have hp : 2 ≤ p := hP.out.1
  have hfi : Hid (FieldI (p : Int)) := ⟨by omega, by omega, by rw [Int.toNat_natCast]; exact hP.out⟩
  have hde : Hid (decide (1 ≤ (n : Int) ∧ (n : Int) ≤ 32) = true) := by show _ = _; rw [decide_eq_true_iff]; omega
  have hzp : ((p : Int) == 0) = false := by rw [beq_eq_false_iff_ne]; omega
  go_enter Try.func36, Try.ntmps36
  go_wp2_with (fail)
  refine (isField_yes p w hfi).mono ?_
  rintro e w1 ⟨rfl, hB1⟩
  have HB1 := Lib.hid hB1
  clear hB1
  go_wp2_with (fail)
  refine (isDegree_is n w1).mono ?_
  rintro e w1' ⟨rfl, rfl⟩
  rw [hde.out]
  go_wp2_with (fail)
  go_loopw [6, 17] (fun lv iv wx => ∃ (i y : Nat), lv = .int .i64 y ∧ iv = .int .i64 i ∧ i ≤ n ∧ 1 ≤ y ∧ y ≤ 576460752303423488 ∧ Hid (y = p ^ i) ∧ wx = w1') (fun _ iv _ => n - (intOf iv).toNat)
  case atStart => exact ⟨0, 1, rfl, rfl, by omega, by omega, by omega, (Nat.pow_zero p).symm, by first | rfl | trivial⟩
  case round =>
    obtain ⟨i, y, rfl, rfl, hi, hy0, hy, HY, rfl⟩ := hrel
    by_cases hlt : i < n
    · have HY2 : Hid (y * p = p ^ (i + 1)) := by show _ = _; rw [Nat.pow_succ, ← HY.out]
      have hq : ((576460752303423488 : Int) / (p : Int)) = ((576460752303423488 / p : Nat) : Int) := rfl
      obtain ⟨q, hqq⟩ : ∃ q : Nat, q = 576460752303423488 / p := ⟨_, rfl⟩
      have hqle : q ≤ 576460752303423488 := by rw [hqq]; exact Nat.div_le_self _ _
      have hqi : q < y ↔ 576460752303423488 < y * p := by rw [hqq]; exact Nat.div_lt_iff_lt_mul (by omega)
      rw [← hqq] at hq
      have hilt : (i : Int) < (n : Int) := by omega
      have hb : y * p ≤ 576460752303423488 := by rw [HY2.out]; exact Nat.le_trans (Q.pow_le' hp (by omega)) hpw.out
      have hb1 : (0 : Int) ≤ (y : Int) * (p : Int) ∧ (y : Int) * (p : Int) ≤ 576460752303423488 := by
        have : (y : Int) * (p : Int) = ((y * p : Nat) : Int) := by simp
        omega
      have hb2 : 1 ≤ y * p := by rw [HY2.out]; exact Q.pow_pos' hp _
      have HZ : Hid ((y : Int) * (p : Int) = ((y * p : Nat) : Int)) := by show _ = _; simp
      have hde2 : decide ((q : Int) < (y : Int)) = false := by rw [decide_eq_false_iff_not]; have := hqi; omega
      have hde4 : ¬ ((q : Int) < (y : Int)) := by have := hqi; omega
      clear hqi hqq hqle
      go_wp2_with (fail)
      go_roundw
      case rel => exact ⟨i + 1, y * p, by first | (rw [← HZ.out]) | (rw [← HZ.out]; go_num), by go_num, by omega, hb2, hb, HY2, by first | rfl | trivial⟩
      case measure => simp [intOf]; omega
    · obtain rfl : i = n := by omega
      have HC := Lib.hid (Q.count_bd hp i i (by omega))
      obtain ⟨c, hc⟩ : ∃ c, c = Q.countP p i i := ⟨_, rfl⟩
      have HCE := Lib.hid hc
      have HPW : Hid (p ^ i ≤ 2305843009213693952) := Nat.le_trans hpw.out (by omega)
      have hde3 : decide ((9007199254740992 : Int) < c) = true := by rw [decide_eq_true_iff]; have := hcl.out; rw [← hc] at this; omega
      clear hc
      go_wp2_with (go_at_call 69; refine (countOf_is p hp hp2 i i _ (by omega) (by omega) (by omega) HPW).mono ?_; rintro e w' ⟨rfl, rfl⟩; rw [← HCE.out])
      go_ret2
      exact ⟨by first | rfl | (rw [← HCE.out]; rfl) | (rw [← HCE.out]), HB1.out⟩


set_option maxRecDepth 100000 in
set_option maxHeartbeats 2000000 in
theorem Count_far (p n : Nat) (w : World) (hP : Hid (M.Pr p)) (hp2 : p ≤ 1021) (hn1 : 1 ≤ n) (hn2 : n ≤ 32) (hpw : Hid (576460752303423488 < p ^ n)) :
    Calls Try.prog 36 #[.int .i64 p, .int .i64 n] w fun x w' => x = .returned (.tuple #[.int .i64 0, .int .i64 5]) ∧ Below w.heap.size w w' := by
  have hp : 2 ≤ p := hP.out.1
  have hfi : Hid (FieldI (p : Int)) := ⟨by omega, by omega, by rw [Int.toNat_natCast]; exact hP.out⟩
  have hde : Hid (decide (1 ≤ (n : Int) ∧ (n : Int) ≤ 32) = true) := by show _ = _; rw [decide_eq_true_iff]; omega
  have hzp : ((p : Int) == 0) = false := by rw [beq_eq_false_iff_ne]; omega
  go_enter Try.func36, Try.ntmps36
  go_wp2_with (fail)
  refine (isField_yes p w hfi).mono ?_
  rintro e w1 ⟨rfl, hB1⟩
  have HB1 := Lib.hid hB1
  clear hB1
  go_wp2_with (fail)
  refine (isDegree_is n w1).mono ?_
  rintro e w1' ⟨rfl, rfl⟩
  rw [hde.out]
  go_wp2_with (fail)
  go_loopw [6, 17] (fun lv iv wx => ∃ (i y : Nat), lv = .int .i64 y ∧ iv = .int .i64 i ∧ i ≤ n ∧ 1 ≤ y ∧ y ≤ 576460752303423488 ∧ Hid (y = p ^ i) ∧ wx = w1') (fun _ iv _ => n - (intOf iv).toNat)
  case atStart => exact ⟨0, 1, rfl, rfl, by omega, by omega, by omega, (Nat.pow_zero p).symm, by first | rfl | trivial⟩
  case round =>
    obtain ⟨i, y, rfl, rfl, hi, hy0, hy, HY, rfl⟩ := hrel
    by_cases hlt : i < n
    · have HY2 : Hid (y * p = p ^ (i + 1)) := by show _ = _; rw [Nat.pow_succ, ← HY.out]
      have hq : ((576460752303423488 : Int) / (p : Int)) = ((576460752303423488 / p : Nat) : Int) := rfl
      obtain ⟨q, hqq⟩ : ∃ q : Nat, q = 576460752303423488 / p := ⟨_, rfl⟩
      have hqle : q ≤ 576460752303423488 := by rw [hqq]; exact Nat.div_le_self _ _
      have hqi : q < y ↔ 576460752303423488 < y * p := by rw [hqq]; exact Nat.div_lt_iff_lt_mul (by omega)
      rw [← hqq] at hq
      have hilt : (i : Int) < (n : Int) := by omega
      by_cases hbig : q < y
      · have hde2 : decide ((q : Int) < (y : Int)) = true := by rw [decide_eq_true_iff]; omega
        clear hqi hqq
        go_wp2_with (fail)
        go_ret2
        exact ⟨rfl, HB1.out⟩
      · have hde2 : decide ((q : Int) < (y : Int)) = false := by rw [decide_eq_false_iff_not]; omega
        have hb : y * p ≤ 576460752303423488 := by omega
        have hb1 : (0 : Int) ≤ (y : Int) * (p : Int) ∧ (y : Int) * (p : Int) ≤ 576460752303423488 := by
          have : (y : Int) * (p : Int) = ((y * p : Nat) : Int) := by simp
          omega
        have hb2 : 1 ≤ y * p := by rw [HY2.out]; exact Q.pow_pos' hp _
        have HZ : Hid ((y : Int) * (p : Int) = ((y * p : Nat) : Int)) := by show _ = _; simp
        clear hqi hqq hqle
        go_wp2_with (fail)
        go_roundw
        case rel => exact ⟨i + 1, y * p, by first | (rw [← HZ.out]) | (rw [← HZ.out]; go_num), by go_num, by omega, hb2, hb, HY2, by first | rfl | trivial⟩
        case measure => simp [intOf]; omega
    · obtain rfl : i = n := by omega
      exact absurd hpw.out (by have := HY.out; omega)


set_option maxHeartbeats 1000000 in
theorem Count_arg (p n : Int) (w : World) (h : Hid (¬ (FieldI p ∧ 1 ≤ n ∧ n ≤ 32))) :
    Calls Try.prog 36 #[.int .i64 p, .int .i64 n] w fun x w' => x = .returned (.tuple #[.int .i64 0, .int .i64 2]) ∧ Below w.heap.size w w' := by
  by_cases hf : FieldI p
  · have hfi := Lib.hid hf
    have hde : Hid (decide (1 ≤ n ∧ n ≤ 32) = false) := by show _ = _; rw [decide_eq_false_iff_not]; exact fun hc => h.out ⟨hf, hc⟩
    clear hf h
    go_enter Try.func36, Try.ntmps36
    go_wp2_with (fail)
    refine (isField_yes p w hfi).mono ?_
    rintro e w1 ⟨rfl, hB1⟩
    have HB1 := Lib.hid hB1
    clear hB1
    go_wp2_with (fail)
    refine (isDegree_is n w1).mono ?_
    rintro e w1' ⟨rfl, rfl⟩
    rw [hde.out]
    go_wp2_with (fail)
    go_ret2
    exact ⟨rfl, HB1.out⟩
  · have hfi := Lib.hid hf
    clear hf h
    go_enter Try.func36, Try.ntmps36
    go_wp2_with (fail)
    refine (isField_no p w hfi).mono ?_
    rintro e w1 ⟨rfl, hB1⟩
    have HB1 := Lib.hid hB1
    clear hB1
    go_wp2_with (fail)
    go_ret2
    exact ⟨rfl, HB1.out⟩

end Go.Proofs.Ytgnpohapmijfiaa

namespace Go.Proofs.Ytgnpohapmijfiaa
namespace Q
variable {p : Nat}

def scaleL (p : Nat) (f : List Nat) (c : Nat) : List Nat := f.map fun x => x * c % p
def scaleP (p : Nat) (f : List Nat) (c : Nat) : List Nat := trim (scaleL p f c)

theorem scaleL_length (p : Nat) (f : List Nat) (c : Nat) : (scaleL p f c).length = f.length := by simp [scaleL]
theorem scaleL_getD (p : Nat) (f : List Nat) (c i : Nat) : (scaleL p f c).getD i 0 = f.getD i 0 * c % p := by
  simp only [scaleL, List.getD_eq_getElem?_getD, List.getElem?_map]
  cases f[i]? <;> simp
theorem scaleL_red (hp : 0 < p) (f : List Nat) (c : Nat) : Red p (scaleL p f c) := by
  intro x hx
  obtain ⟨y, _, rfl⟩ := List.mem_map.1 hx
  exact Nat.mod_lt _ hp
theorem scaleP_pol (hp : 0 < p) (f : List Nat) (c : Nat) : Pol p (scaleP p f c) := (scaleL_red hp f c).trim
theorem scaleP_getD (p : Nat) (f : List Nat) (c i : Nat) : (scaleP p f c).getD i 0 = f.getD i 0 * c % p := by
  rw [scaleP, trim_getD, scaleL_getD]
theorem scaleP_le (p : Nat) (f : List Nat) (c : Nat) : (scaleP p f c).length ≤ f.length := by
  rw [scaleP, trim_length]; exact Nat.le_trans (trimLen_le _) (by rw [scaleL_length]; exact Nat.le_refl _)

theorem sub_mod_eq {a b : Nat} (hp : 2 ≤ p) (hb : b < p) : (a + b * (p - 1) % p) % p = (a + p - b) % p := by
  rw [Nat.add_mod_mod]
  rcases Nat.eq_zero_or_pos b with rfl | h0
  · simp
  · obtain ⟨c, rfl⟩ : ∃ c, b = c + 1 := ⟨b - 1, by omega⟩
    obtain ⟨q, rfl⟩ : ∃ q, p = q + 1 := ⟨p - 1, by omega⟩
    have e : a + (c + 1) * (q + 1 - 1) = (a + (q + 1) - (c + 1)) + c * (q + 1) := by
      rw [show q + 1 - 1 = q by omega, Nat.mul_add, Nat.mul_one, Nat.add_mul, Nat.one_mul]; omega
    rw [e, Nat.add_mul_mod_self_right]

theorem sub_is (hp : 2 ≤ p) (f : List Nat) {g : List Nat} (hg : Red p g) : sumP p f (scaleP p g (p - 1)) = difP p f g := by
  refine (pol_sum (by omega) _ _).ext (pol_dif (by omega) _ _) fun i => ?_
  rw [sum_getD, dif_getD, scaleP_getD]
  exact sub_mod_eq hp (hg.getD (by omega) i)

theorem ev_scale (f : List Nat) (c : Nat) : ev p (scaleP p f c) = ev p f * ev p [c] := by
  rw [Px.mul_comm]
  unfold ev
  rw [Px.mul_of]
  refine Px.eq fun i => ?_
  have h1 : cau (cf [c]) (cf f) i = (c : Int) * cf f i := by
    have h2 : cf [c] = fun k => if k = 0 then (c : Int) else 0 := by
      funext k; rcases k with _ | k <;> simp [cf]
    rw [h2, cau_mono, if_pos (Nat.zero_le _), Nat.sub_zero]
  rw [h1]
  obtain ⟨k, hk⟩ := natmod_eqv p (f.getD i 0 * c)
  refine ⟨k, ?_⟩
  unfold cf
  rw [scaleP_getD, hk, Int.natCast_mul, Int.mul_comm (c : Int)]

theorem scale_monic (hP : M.Pr p) {f : List Nat} (hf : Pol p f) (h0 : f.length ≠ 0) : scaleP p f (invM p (f.getD (f.length - 1) 0)) = monicP p f := by
  have hp : 0 < p := by have := hP.1; omega
  refine ev_inj hp (scaleP_pol hp _ _) (monic_is hP hf h0).1 ?_
  rw [ev_scale, (monic_is hP hf h0).2.2.2.1, monicC, if_neg h0]

theorem takeAway_none {i : Nat} {g rest : List Nat} (hr : Red p rest) : takeAway p 0 i g rest = rest := by
  refine List.ext_getElem (takeAway_length ..) fun k h1 h2 => ?_
  simp only [takeAway, List.getElem_mapIdx]
  split
  · simp only [Nat.sub_zero, Nat.add_mul_mod_self_left]; exact Nat.mod_eq_of_lt (hr _ (List.getElem_mem _))
  · rfl

/-- The reference's division: it takes away also what is zero. -/
def divLoopR (p inv : Nat) (g : List Nat) : Nat → List Nat → List Nat → List Nat × List Nat
  | 0, rest, q => (rest, q)
  | i + 1, rest, q => divLoopR p inv g i (takeAway p (rest.getD (i + (g.length - 1)) 0 * inv % p) i g rest) ((rest.getD (i + (g.length - 1)) 0 * inv % p) :: q)

theorem divLoopR_is (hp : 0 < p) (inv : Nat) (g : List Nat) : ∀ (i : Nat) (rest q : List Nat), Red p rest → divLoopR p inv g i rest q = divLoop p inv g i rest q
  | 0, _, _, _ => rfl
  | i + 1, rest, q, hr => by
    rw [divLoopR, divLoop]
    split
    · next h0 => rw [h0, takeAway_none hr]; exact divLoopR_is hp inv g i _ _ hr
    · exact divLoopR_is hp inv g i _ _ (takeAway_red hp hr)

theorem inv_unique (hP : M.Pr p) {a i : Nat} (ha : a < p) (h0 : a ≠ 0) (hi : i < p) (h : a * i % p = 1) : i = invM p a := by
  obtain ⟨h1, h2, _⟩ := inv_spec hP ha h0
  have e : i * (a * invM p a) % p = invM p a * (a * i) % p := by congr 1; ac_rfl
  rw [Nat.mul_mod, h2, Nat.mul_mod (invM p a), h] at e
  simpa [Nat.mod_eq_of_lt hi, Nat.mod_eq_of_lt h1] using e

end Q
end Go.Proofs.Ytgnpohapmijfiaa

namespace Go.Proofs.Ytgnpohapmijfiaa
open Go.RowKit

/-- What a list's cells are, whatever the block. -/
theorem Rd.at {w : World} {a : Option Addr} {n cap : Nat} {F : List Nat} (h : Rd w (.slice a n cap) 1 F.length (nats F)) (i : Nat) (hi : i < F.length) :
    ∃ b, a = some ⟨b, 0, none⟩ ∧ b < w.heap.size ∧ w.cell? ⟨b, i, none⟩ = some (.int .i64 (F.getD i 0 : Nat)) := by
  obtain ⟨_, a1, cap1, e, hcap, hcell⟩ := h
  injection e with e1 e2 e3
  subst e1
  rcases hcell with h | ⟨b, rfl, hb, hc⟩
  · omega
  · exact ⟨b, rfl, hb, by rw [hc _ _ (nats_get F i hi), Q.getD_get hi]⟩

set_option maxRecDepth 100000 in
set_option maxHeartbeats 1000000 in
theorem Same_is (F G : List Nat) (v u : Value) (t : Bool) (w : World) (hv : Hid (Rd w v 1 F.length (nats F))) (hu : Hid (Rd w u 1 G.length (nats G))) (hl : F.length ≤ 1000000) (hl2 : G.length ≤ 1000000) (ht : Hid (F = G ↔ t = true)) :
    Calls Try.prog 25 #[v, u] w fun x w' => x = .returned (.bool t) ∧ ∃ n, w' = w.drewN n := by
  obtain ⟨_, a1, cap1, rfl, hcap1, _⟩ := hv.out
  obtain ⟨_, a2, cap2, rfl, hcap2, _⟩ := hu.out
  have H1 : Hid (∀ i, i < F.length → ∃ b, a1 = some ⟨b, 0, none⟩ ∧ b < w.heap.size ∧ w.cell? ⟨b, i, none⟩ = some (.int .i64 (F.getD i 0 : Nat))) := fun i hi => hv.out.at i hi
  have H2 : Hid (∀ i, i < G.length → ∃ b, a2 = some ⟨b, 0, none⟩ ∧ b < w.heap.size ∧ w.cell? ⟨b, i, none⟩ = some (.int .i64 (G.getD i 0 : Nat))) := fun i hi => hu.out.at i hi
  clear hv hu
  obtain ⟨m1, hm1⟩ : ∃ m1, m1 = F.length := ⟨_, rfl⟩
  obtain ⟨m2, hm2⟩ : ∃ m2, m2 = G.length := ⟨_, rfl⟩
  rw [← hm1] at hl hcap1 H1 ⊢
  rw [← hm2] at hl2 hcap2 H2 ⊢
  have HM := Lib.hid (And.intro hm1 hm2)
  clear hm1 hm2
  by_cases he : m1 = m2
  · subst he
    have hd : ((m1 : Int) != (m1 : Int)) = false := by simp
    go_enter Try.func25, Try.ntmps25
    go_wp2_with (fail)
    go_loopw [5] (fun iv wx => ∃ (k m : Nat), iv = .int .i64 k ∧ k ≤ m1 ∧ Hid (∀ i, i < k → F.getD i 0 = G.getD i 0) ∧ wx = w.drewN m) (fun iv _ => m1 - (intOf iv).toNat)
    case atStart => exact ⟨0, 0, rfl, by omega, fun i hi => absurd hi (by omega), by first | rfl | trivial | simp⟩
    case round =>
      obtain ⟨k, m, rfl, hk, HK, rfl⟩ := hrel
      by_cases hlt : k < m1
      · obtain ⟨b1, rfl, hb1, c1⟩ := H1.out k hlt
        obtain ⟨b2, rfl, hb2, c2⟩ := H2.out k hlt
        obtain ⟨x, hx⟩ : ∃ x, x = F.getD k 0 := ⟨_, rfl⟩
        obtain ⟨y, hy⟩ : ∃ y, y = G.getD k 0 := ⟨_, rfl⟩
        rw [← hx] at c1
        rw [← hy] at c2
        have HXY := Lib.hid (And.intro hx hy)
        clear hx hy
        have hkl : (k : Int) < (m1 : Int) := by omega
        by_cases hxy : x = y
        · have hd2 : ((x : Int) != (y : Int)) = false := by rw [hxy]; simp
          have HK2 : Hid (∀ i, i < k + 1 → F.getD i 0 = G.getD i 0) := fun i hi => by
            rcases Nat.lt_or_ge i k with h | h
            · exact HK.out i h
            · obtain rfl : i = k := by omega
              rw [← HXY.out.1, ← HXY.out.2, hxy]
          have HE := Lib.hid hxy
          clear hxy
          go_wp2_with (fail)
          go_quiet (fail)
          go_wp2_with (fail)
          go_roundw
          case rel => exact ⟨k + 1, _, by go_num, by omega, HK2, rfl⟩
          case measure => simp [intOf]; omega
        · have hd2 : ((x : Int) != (y : Int)) = true := by rw [bne_iff_ne]; omega
          have htf : Hid (t = false) := by
            cases t with
            | false => rfl
            | true => exact absurd (ht.out.2 rfl) fun e => hxy (by rw [HXY.out.1, HXY.out.2, e])
          clear hxy
          go_wp2_with (fail)
          go_quiet (fail)
          go_wp2_with (fail)
          go_ret
          exact ⟨by rw [htf.out]; rfl, _, by first | rfl | exact World.drewN_drewN _ _ _⟩
      · obtain rfl : k = m1 := by omega
        have htt : Hid (t = true) := ht.out.1 (Q.ext_getD (by rw [← HM.out.1, ← HM.out.2]) fun i hi => HK.out i (by rw [HM.out.1]; exact hi))
        go_wp2_with (fail)
        go_ret
        exact ⟨by rw [htt.out]; rfl, _, rfl⟩
  · have hd : ((m1 : Int) != (m2 : Int)) = true := by rw [bne_iff_ne]; omega
    have htf : Hid (t = false) := by
      cases t with
      | false => rfl
      | true => exact absurd (ht.out.2 rfl) fun e => he (by rw [HM.out.1, HM.out.2, e])
    clear he
    go_enter Try.func25, Try.ntmps25
    go_wp2_with (fail)
    go_ret
    exact ⟨by rw [htf.out]; rfl, 0, rfl⟩

set_option maxHeartbeats 1000000 in
theorem at_is (F : List Nat) (i : Nat) (v : Value) (w : World) (hv : Hid (Rd w v 1 F.length (nats F))) (_hl : F.length ≤ 1000000) (_hi : i ≤ 1000000) :
    Calls Try.prog 54 #[v, .int .i64 i] w fun x w' => x = .returned (.int .i64 (F.getD i 0 : Nat)) ∧ w' = w := by
  obtain ⟨_, a1, cap1, rfl, hcap1, _⟩ := hv.out
  by_cases h : i < F.length
  · obtain ⟨b, rfl, hb, c⟩ := hv.out.at i h
    obtain ⟨x, hx⟩ : ∃ x, x = F.getD i 0 := ⟨_, rfl⟩
    rw [← hx] at c ⊢
    clear hx hv
    have hil : (i : Int) < (F.length : Int) := by omega
    go_enter Try.func54, Try.ntmps54
    go_wp2_with (fail)
    go_ret
    exact ⟨rfl, rfl⟩
  · have hz : Hid (F.getD i 0 = 0) := Q.getD_out (by omega)
    have hil : decide ((i : Int) < (F.length : Int)) = false := by rw [decide_eq_false_iff_not]; omega
    clear hv
    go_enter Try.func54, Try.ntmps54
    go_wp2_with (fail)
    go_ret
    exact ⟨by rw [hz.out]; rfl, rfl⟩

/-- A copy of the first n numbers, appended to nil. -/
theorem take_cells {w : World} {ad : Addr} {n : Nat} {F : List Nat} (h : ∀ i, i < F.length → ∃ b, some ad = some ⟨b, 0, none⟩ ∧ b < w.heap.size ∧ w.cell? ⟨b, i, none⟩ = some (.int .i64 (F.getD i 0 : Nat))) :
    ∀ j u, (nats (F.take n))[j]? = some u → w.cell? (ad.add j) = some u := by
  intro j u hu
  have hj : j < (F.take n).length := by
    rcases Nat.lt_or_ge j (F.take n).length with h1 | h1
    · exact h1
    · rw [List.getElem?_eq_none (by rw [nats_length]; exact h1)] at hu; cases hu
  have hjF : j < F.length := by rw [List.length_take] at hj; omega
  obtain ⟨b, e, hb, hc⟩ := h j hjF
  injection e with e
  subst e
  have hadd : (⟨b, 0, none⟩ : Addr).add j = ⟨b, j, none⟩ := by unfold Addr.add; split <;> simp_all
  rw [hadd, hc, ← hu, nats_get _ _ hj, Q.getD_get hjF, List.getElem_take]

theorem nats_one (F : List Nat) : ∀ u ∈ nats F, u.oneCell' = true := fun u hu => by unfold nats at hu; obtain ⟨z, _, rfl⟩ := List.mem_map.1 hu; rfl

set_option maxRecDepth 100000 in
set_option maxHeartbeats 2000000 in
theorem rtrim_is (F : List Nat) (v : Value) (w : World) (hv : Hid (Rd w v 1 F.length (nats F))) (hl : F.length ≤ 1000000) :
    Calls Try.prog 55 #[v] w (RetL w (Q.trim F)) := by
  obtain ⟨_, a, cap, rfl, hcap, _⟩ := hv.out
  have H1 : Hid (∀ i, i < F.length → ∃ b, a = some ⟨b, 0, none⟩ ∧ b < w.heap.size ∧ w.cell? ⟨b, i, none⟩ = some (.int .i64 (F.getD i 0 : Nat))) := fun i hi => hv.out.at i hi
  obtain ⟨n, hn⟩ : ∃ n, n = F.length := ⟨_, rfl⟩
  obtain ⟨T, hT⟩ : ∃ T, T = Q.trimLen F := ⟨_, rfl⟩
  have hTn : T ≤ n := by rw [hT, hn]; exact Q.trimLen_le F
  have HT0 : Hid (∀ j, T ≤ j → F.getD j 0 = 0) := fun j hj => Q.trimLen_zero F j (by omega)
  have HT1 : Hid (0 < T → F.getD (T - 1) 0 ≠ 0) := fun h => by rw [hT]; exact Q.trimLen_last F (by omega)
  have HN := Lib.hid (And.intro hn hT)
  rw [← hn] at hl hcap ⊢
  clear hv hn hT
  obtain ⟨i0, hi, hz0, hz1, hz2⟩ := info_parts Try.infoZ
  go_enter Try.func55, Try.ntmps55
  go_wp2_with (fail)
  go_loopw [3] (fun iv wx => ∃ (k : Nat), iv = .int .i64 k ∧ T ≤ k ∧ k ≤ n ∧ wx = w) (fun iv _ => (intOf iv).toNat)
  case atStart => exact ⟨n, rfl, hTn, by omega, rfl⟩
  case round =>
    obtain ⟨k, rfl, hk1, hk2, rfl⟩ := hrel
    by_cases hlt : T < k
    · obtain ⟨j, rfl⟩ : ∃ j, k = j + 1 := ⟨k - 1, by omega⟩
      obtain ⟨b, rfl, hb, c⟩ := H1.out j (by have := HN.out.1; omega)
      rw [HT0.out j (by omega)] at c
      have hp : decide ((0 : Int) < ((j + 1 : Nat) : Int)) = true := by rw [decide_eq_true_iff]; omega
      have hj1 : ((j + 1 : Nat) : Int) - 1 = (j : Int) := by omega
      have hj2 : (j : Int) < (n : Int) := by omega
      go_wp2_with (fail)
      go_roundw
      case rel => exact ⟨j, by first | rfl | go_num, by omega, by omega, by first | rfl | trivial⟩
      case measure => simp [intOf]
    · obtain rfl : k = T := by omega
      have HNEXT : True := trivial
      have HF : Hid ((nats (F.take k)).length = k * 1) := by show _ = _; rw [nats_length, List.length_take, ← HN.out.1]; omega
      have HR : ∀ (v' : Value) (w1 : World), w1.ownsRow wr.heap.size 3 1 v' k (nats (F.take k)) → Below wr.heap.size wr w1 → NewL wr w1 v' (Q.trim F) ∧ Below wr.heap.size wr w1 := fun v' w1 h1 h2 => by
        refine ⟨?_, h2⟩
        unfold NewL
        rw [Q.trim_length, ← HN.out.2]
        have : Q.trim F = F.take k := by rw [HN.out.2]; rfl
        rw [this]; exact h1
      have HRR := Lib.hid HR
      clear HR
      by_cases h0 : k = 0
      · subst h0
        have hd0 : decide ((0 : Int) < ((0 : Nat) : Int)) = false := rfl
        rcases a with _ | ad
        · go_wp2_with (fail)
          go_ret
          exact ⟨⟨_, rfl, (HRR.out (.slice none 0 0) wr (World.ownsRow_nil _ _ _ _) (Below.refl _ _)).1⟩, Below.refl _ _⟩
        · go_wp2_with (at_builtin; refine wpList_append_own _ rfl _ _ 22 rfl wr.heap.size 3 i0 (.int .i64 0) 1 8 Try.underlying22 hi hz0 hz1 hz2 rfl (by decide) _ 0 [] rfl (World.ownsRow_nil _ _ _ _) ad 0 cap [] rfl rfl (by simp) (by simp) (by unfold maxLen; omega) (by omega) (by simp) ?_)
          intro v' w1 hown hgrow _
          have hB1 : Below wr.heap.size wr w1 := (Below.refl _ _).grown hgrow (Nat.le_refl _) (by intro g hg; simp [Value.ownBlock] at hg)
          have HR := Lib.hid (HRR.out v' w1 hown hB1)
          clear hown hgrow hB1
          go_wp2_with (fail)
          go_ret
          exact ⟨⟨_, rfl, HR.out.1⟩, HR.out.2⟩
      · obtain ⟨j, hj⟩ : ∃ j, k = j + 1 := ⟨k - 1, by omega⟩
        obtain ⟨b, rfl, hb, c⟩ := H1.out j (by have := HN.out.1; omega)
        obtain ⟨x, hx⟩ : ∃ x, x = F.getD j 0 := ⟨_, rfl⟩
        have hx0 : ((x : Int) == 0) = false := by
          rw [beq_eq_false_iff_ne, hx]
          have := HT1.out (by omega)
          rw [hj, Nat.add_sub_cancel] at this
          omega
        rw [← hx] at c
        have hp : decide ((0 : Int) < (k : Int)) = true := by rw [decide_eq_true_iff]; omega
        have hj1 : (k : Int) - 1 = (j : Int) := by omega
        have hj2 : (j : Int) < (n : Int) := by omega
        have HC : Hid (∀ i u, (nats (F.take k))[i]? = some u → wr.cell? ((⟨b, 0, none⟩ : Addr).add i) = some u) := take_cells (n := k) (fun i hi => H1.out i hi)
        have H1' := Lib.hid (nats_one (F.take k))
        clear hx hj
        go_wp2_with (at_builtin; refine wpList_append_own _ rfl _ _ 22 rfl wr.heap.size 3 i0 (.int .i64 0) 1 8 Try.underlying22 hi hz0 hz1 hz2 rfl (by decide) _ 0 [] rfl (World.ownsRow_nil _ _ _ _) ⟨b, 0, none⟩ k cap (nats (F.take k)) rfl HF.out HC.out H1'.out (by unfold maxLen; omega) (by omega) (by simp) ?_)
        intro v' w1 hown hgrow _
        have hB1 : Below wr.heap.size wr w1 := (Below.refl _ _).grown hgrow (Nat.le_refl _) (by intro g hg; simp [Value.ownBlock] at hg)
        have HR := Lib.hid (HRR.out v' w1 hown hB1)
        clear hown hgrow hB1
        go_wp2_with (fail)
        go_ret
        exact ⟨⟨_, rfl, HR.out.1⟩, HR.out.2⟩


/-- A list under way: k numbers are there. -/
def LSt (w wr : World) (v : Value) (F : List Nat) : Prop := NewL w wr v F ∧ Below w.heap.size w wr

theorem LSt.start (w : World) : LSt w w (.slice none 0 0) [] := ⟨NewL.nil _ _, Below.refl _ _⟩

theorem LSt.push {w wr w1 : World} {v v' : Value} {F : List Nat} {x k : Nat} {o : Obj} (h : LSt w wr v F) (hk : k = F.length + 1)
    (hown : w1.ownsRow w.heap.size 3 1 v' k (nats F ++ [.int .i64 (x : Int)])) (hg : (wr.alloc o).grownBy w1 v.ownBlock) : LSt w w1 v' (F ++ [x]) := by
  have hlt := h.1.lt
  refine ⟨?_, (h.2.alloc h.2.size o).grown hg (by have := h.2.size; simp; omega) (fun b hb => by have := (hlt b hb).1; omega)⟩
  unfold NewL
  rw [nats_append, show (F ++ [x]).length = k by simp; omega]
  exact hown

theorem LSt.shape {w wr : World} {v : Value} {F : List Nat} (h : LSt w wr v F) : ∃ a cap, v = .slice a F.length cap ∧ F.length ≤ cap ∧ cap ≤ 9223372036854775807 := by
  obtain ⟨a, cap, h1, h2, h3, _⟩ := own_form h.1
  exact ⟨a, cap, h1, h2, h3⟩

set_option maxRecDepth 100000 in
set_option maxHeartbeats 2000000 in
theorem rAdd_is (p : Nat) (F G : List Nat) (v1 v2 : Value) (w : World) (hp : 2 ≤ p) (hp2 : p ≤ 1021) (h1 : Hid (Rd w v1 1 F.length (nats F))) (h2 : Hid (Rd w v2 1 G.length (nats G))) (hF : Hid (Q.Red p F)) (hG : Hid (Q.Red p G)) (hl1 : F.length ≤ 100000) (hl2 : G.length ≤ 100000) :
    Calls Try.prog 26 #[.int .i64 p, v1, v2] w (RetL w (Q.sumP p F G)) := by
  obtain ⟨a1, cap1, hv1⟩ := h1.out.shape
  obtain ⟨a2, cap2, hv2⟩ := h2.out.shape
  subst hv1 hv2
  have hzp : ((p : Int) == 0) = false := by rw [beq_eq_false_iff_ne]; omega
  obtain ⟨C, hC⟩ : ∃ C, C = Q.comb (fun a b => (a + b) % p) F G := ⟨_, rfl⟩
  obtain ⟨n, hn⟩ : ∃ n, n = max F.length G.length := ⟨_, rfl⟩
  have hCl : C.length = n := by rw [hC, hn]; exact Q.comb_length _ _ _
  have hnb : n ≤ 100000 := by omega
  have hCg : Hid (∀ i, i < n → C.getD i 0 = (F.getD i 0 + G.getD i 0) % p) := fun i hi => by
    rw [hC, Q.comb_getD _ (by simp)]
  have hCC : Hid (C.length = n ∧ Q.trim C = Q.sumP p F G) := ⟨hCl, by rw [hC]; rfl⟩
  obtain ⟨m1, hm1⟩ : ∃ m1, m1 = F.length := ⟨_, rfl⟩
  obtain ⟨m2, hm2⟩ : ∃ m2, m2 = G.length := ⟨_, rfl⟩
  have hmx0 : max m1 m2 = n := by omega
  have hmx2 : max (m1 : Int) (m2 : Int) = (n : Int) := by omega
  have hmx : (if m1 < m2 then (m2 : Int) else (m1 : Int)) = (n : Int) := by split <;> omega
  rw [← hm1] at hl1
  rw [← hm2] at hl2
  have HM := Lib.hid (And.intro hm1 hm2)
  rw [← hm1] at h1
  rw [← hm2] at h2
  rw [← hm1, ← hm2]
  clear hC hCl hn hm1 hm2
  obtain ⟨i0, hi, hz0, hz1, hz2⟩ := info_parts Try.infoZ
  go_enter Try.func26, Try.ntmps26
  go_wp2_with (fail)
  go_loopw [7, 8] (fun lv iv wx => ∃ (k : Nat), iv = .int .i64 k ∧ k ≤ n ∧ Hid (LSt w wx lv (C.take k))) (fun _ iv _ => n - (intOf iv).toNat)
  case atStart => exact ⟨0, rfl, by omega, by show LSt _ _ _ _; rw [List.take_zero]; exact LSt.start w⟩
  case round =>
    obtain ⟨k, rfl, hk, HS⟩ := hrel
    have hkl : (C.take k).length = k := by rw [List.length_take, hCC.out.1]; omega
    obtain ⟨a3, cap3, hv3, hc3, hc4⟩ := HS.out.shape
    subst hv3
    rw [hkl] at HS hc3 ⊢
    by_cases hlt : k < n
    · have h1' : Hid (Rd wr (.slice a1 m1 cap1) 1 F.length (nats F)) := by show Rd _ _ _ _ _; rw [← HM.out.1]; exact h1.out.below HS.out.2 (Nat.le_refl _)
      have h2' : Hid (Rd wr (.slice a2 m2 cap2) 1 G.length (nats G)) := by show Rd _ _ _ _ _; rw [← HM.out.2]; exact h2.out.below HS.out.2 (Nat.le_refl _)
      obtain ⟨x, hx⟩ : ∃ x, x = F.getD k 0 := ⟨_, rfl⟩
      obtain ⟨y, hy⟩ : ∃ y, y = G.getD k 0 := ⟨_, rfl⟩
      have hxp : x < p := by rw [hx]; exact hF.out.getD (by omega) k
      have hyp : y < p := by rw [hy]; exact hG.out.getD (by omega) k
      have HXY := Lib.hid (And.intro hx hy)
      have hxy : ((x : Int) + (y : Int)) % (p : Int) = (((x + y) % p : Nat) : Int) := by rw [Int.natCast_emod, Int.natCast_add]
      have HT : Hid (C.take (k + 1) = C.take k ++ [(x + y) % p]) := by
        show _ = _
        rw [List.take_succ_eq_append_getElem (by rw [hCC.out.1]; exact hlt), ← Q.getD_get (by rw [hCC.out.1]; exact hlt), hCg.out k hlt, hx, hy]
      obtain ⟨z, hz⟩ : ∃ z, z = (x + y) % p := ⟨_, rfl⟩
      rw [← hz] at hxy HT
      have HOWN : Hid (wr.ownsRow w.heap.size 3 1 (.slice a3 k cap3) k (nats (C.take k))) := by
        have := HS.out.1; unfold NewL at this; rw [hkl] at this; exact this
      have HKL := Lib.hid hkl
      have hklt : (k : Int) < (n : Int) := by omega
      clear hx hy hz hkl
      go_wp2_with (fail)
      refine (at_is F k _ _ h1' (by have := HM.out.1; omega) (by omega)).mono ?_
      rintro e w' ⟨rfl, rfl⟩
      rw [← HXY.out.1]
      go_wp2_with (fail)
      refine (at_is G k _ _ h2' (by have := HM.out.2; omega) (by omega)).mono ?_
      rintro e w' ⟨rfl, rfl⟩
      rw [← HXY.out.2]
      go_wp2_with (at_builtin; refine wpList_append_own _ rfl _ _ 22 rfl w.heap.size 3 i0 (.int .i64 0) 1 8 Try.underlying22 hi hz0 hz1 hz2 rfl (by decide) _ _ _ rfl (HOWN.out.alloc _) ⟨w'.heap.size, 0, none⟩ 1 1 [.int .i64 z] rfl rfl ?c1 ?c2 ?c3 ?c4 ?c5 ?_)
      case c1 => exact cell_one_new _ _ _
      case c2 => intro u hu; simp at hu; rw [hu]; rfl
      case c3 => unfold maxLen; omega
      case c4 => omega
      case c5 => have := HS.out.2.size; simp; omega
      intro v' w3 hown3 hgrow3 _
      have HS4 : Hid (LSt w w3 v' (C.take (k + 1))) := by
        show LSt _ _ _ _
        rw [HT.out]
        exact HS.out.push (by rw [HKL.out]) hown3 hgrow3
      obtain ⟨a4, cap4, hv4, _⟩ := HS4.out.shape
      rw [List.length_take, hCC.out.1, show min (k + 1) n = k + 1 by omega] at hv4
      subst hv4
      clear hown3 hgrow3
      go_wp2_with (fail)
      go_roundw
      case rel => exact ⟨k + 1, by go_num, by omega, HS4⟩
      case measure => simp [intOf]; omega
    · obtain rfl : k = n := by omega
      have hCt : C.take k = C := List.take_of_length_le (by rw [hCC.out.1]; omega)
      rw [hCt] at HS
      have HRD : Hid (Rd wr (.slice a3 k cap3) 1 C.length (nats C)) := HS.out.1.rd
      clear hCt hkl
      go_wp2_with (fail)
      refine (rtrim_is C _ _ HRD (by rw [hCC.out.1]; omega)).mono ?_
      rintro e w5 ⟨⟨v5, rfl, hN5⟩, hB5⟩
      have HR : Hid (NewL w w5 v5 (Q.sumP p F G) ∧ Below w.heap.size w w5) := by
        rw [hCC.out.2] at hN5
        exact ⟨hN5.from HS.out.2.size, HS.out.2.trans (hB5.mono HS.out.2.size)⟩
      obtain ⟨a6, cap6, hv6⟩ := HR.out.1.rd.shape
      subst hv6
      clear hN5 hB5
      go_wp2_with (fail)
      go_ret
      exact ⟨⟨_, rfl, HR.out.1⟩, HR.out.2⟩

end Go.Proofs.Ytgnpohapmijfiaa

namespace Go.Proofs.Ytgnpohapmijfiaa
open Go.RowKit

set_option maxRecDepth 100000 in
set_option maxHeartbeats 1000000 in
theorem rPoly_is (p : Int) (v : Value) (Z : List Int) (t : Bool) (w : World) (hr : Hid (Rd w v 1 Z.length (zs Z))) (hlen : Z.length ≤ 1000000) (ht : Hid (polyB p Z = t)) :
    Calls Try.prog 23 #[.int .i64 p, v] w fun x w' => x = .returned (.bool t) ∧ w = w' := by
  obtain ⟨_, a, cap, hv, hcap, hcell⟩ := hr.out
  subst hv
  have HC := Lib.hid hcell
  clear hcell hr
  obtain ⟨m, hm⟩ : ∃ m, m = Z.length := ⟨_, rfl⟩
  have HM := Lib.hid hm
  rw [← hm] at hcap hlen ⊢
  clear hm
  by_cases h33 : m ≤ 33
  · have hd : decide ((33 : Int) < (m : Int)) = false := by simp; omega
    go_enter Try.func23, Try.ntmps23
    go_wp2_with (fail)
    go_loop [5] (fun i => ∃ (k : Nat), i = .int .i64 k ∧ k ≤ m ∧ Hid (∀ j (h : j < Z.length), j < k → 0 ≤ Z[j] ∧ Z[j] < p)) (fun i => m - (intOf i).toNat)
    case atStart => exact ⟨0, rfl, by omega, fun j _ hj => by omega⟩
    case round =>
      obtain ⟨k, rfl, hk, HK⟩ := hrel
      by_cases hlt : k < m
      · rcases HC.out with h0 | ⟨b, rfl, hb, hcell⟩
        · have := HM.out; omega
        have hkl : k < Z.length := by have := HM.out; omega
        have c0 : w.cell? ⟨b, k, none⟩ = some (.int .i64 Z[k]) := hcell _ _ (zs_get Z k hkl)
        clear hcell
        obtain ⟨c, hck⟩ : ∃ c, c = Z[k] := ⟨_, rfl⟩
        rw [← hck] at c0
        have HCK := Lib.hid hck
        clear hck
        by_cases hin : 0 ≤ c ∧ c < p
        · have HIN := Lib.hid hin
          have hd1 : decide (c < 0) = false := by rw [decide_eq_false_iff_not]; omega
          have hd2 : decide (p ≤ c) = false := by rw [decide_eq_false_iff_not]; omega
          clear hin
          go_wp2_with (fail)
          go_round
          case rel =>
            refine ⟨k + 1, by go_num, by omega, fun j hj hjk => ?_⟩
            by_cases e1 : j = k
            · subst e1; rw [← HCK.out]; exact HIN.out
            · exact HK.out j hj (by omega)
          case measure => simp [intOf]; omega
        · have HB : Hid ((decide (0 ≤ c) && decide (c < p)) = false) := by
            show _ = _
            rw [Bool.eq_false_iff]; intro h; simp at h; exact hin h
          have hf : Hid (t = false) := by
            show _ = _
            rw [← ht.out, polyB]
            have : (Z.all fun c => decide (0 ≤ c) && decide (c < p)) = false := by
              rw [List.all_eq_false]
              exact ⟨Z[k], List.getElem_mem hkl, by rw [← HCK.out, HB.out]; simp⟩
            rw [this]; simp
          by_cases hc0 : c < 0
          · have hd1 : decide (c < 0) = true := by rw [decide_eq_true_iff]; exact hc0
            clear hin
            go_wp2_with (fail)
            go_ret
            exact ⟨ret_bb hf.out.symm, rfl⟩
          · have hd1 : decide (c < 0) = false := by rw [decide_eq_false_iff_not]; exact hc0
            have hd2 : decide (p ≤ c) = true := by rw [decide_eq_true_iff]; omega
            clear hin
            go_wp2_with (fail)
            go_ret
            exact ⟨ret_bb hf.out.symm, rfl⟩
      · obtain rfl : k = m := by omega
        have hall : Hid ((Z.all fun c => decide (0 ≤ c) && decide (c < p)) = true) := by
          show _ = _
          rw [List.all_eq_true]
          intro x hx
          obtain ⟨j, hj, rfl⟩ := List.getElem_of_mem hx
          have := HK.out j hj (by have := HM.out; omega)
          simp [this.1, this.2]
        by_cases h0 : k = 0
        · have hz : ((k : Int) == 0) = true := by simp [h0]
          have hf : Hid (t = true) := by
            show _ = _
            have h1 := HM.out
            have h2 : (Z.length == 0) = true := by rw [beq_iff_eq]; omega
            have h3 : decide (Z.length ≤ 33) = true := decide_eq_true (by omega)
            rw [← ht.out, polyB, hall.out, h2, h3]; rfl
          clear h0
          go_wp2_with (fail)
          go_ret
          exact ⟨ret_bb hf.out.symm, rfl⟩
        · have hz : ((k : Int) == 0) = false := by simp; omega
          rcases HC.out with h1 | ⟨b, rfl, hb, hcell⟩
          · have := HM.out; omega
          have hkl : k - 1 < Z.length := by have := HM.out; omega
          have c0 : w.cell? ⟨b, k - 1, none⟩ = some (.int .i64 Z[k - 1]) := hcell _ _ (zs_get Z (k - 1) hkl)
          clear hcell
          obtain ⟨c, hck⟩ : ∃ c, c = Z[k - 1] := ⟨_, rfl⟩
          rw [← hck] at c0
          have hf : Hid (t = (c != 0)) := by
            show _ = _
            have h1 := HM.out
            have h2 : Z.getD (k - 1) 0 = c := by rw [hck]; simp [List.getD, hkl]
            rw [← ht.out, polyB, hall.out, ← h1, h2]
            have h3 : (k == 0) = false := by simpa using h0
            simp [h3, h33]
          clear hck
          have hk1 : (0 : Int) ≤ (k : Int) - 1 := by omega
          have hk2 : ((k : Int) - 1).toNat = k - 1 := by omega
          go_wp2_with (fail)
          go_ret
          exact ⟨ret_bb hf.out.symm, rfl⟩
  · have hd : decide ((33 : Int) < (m : Int)) = true := by simp; omega
    have hf : Hid (t = false) := by
      show _ = _
      have h1 := HM.out
      rw [← ht.out, polyB]
      have : decide (Z.length ≤ 33) = false := by simp; omega
      rw [this]; simp
    go_enter Try.func23, Try.ntmps23
    go_wp2_with (fail)
    go_ret
    exact ⟨ret_bb hf.out.symm, rfl⟩


set_option maxHeartbeats 1000000 in
theorem rField_is (p : Int) (t : Bool) (w : World) (ht : Hid (FieldI p ↔ t = true)) :
    Calls Try.prog 22 #[.int .i64 p] w fun x w' => x = .returned (.bool t) ∧ w = w' := by
  by_cases h2 : 2 ≤ p
  · by_cases h3 : p ≤ 1021
    · have hd1 : decide (2 ≤ p) = true := by simpa using h2
      have hd2 : decide (p ≤ 1021) = true := by simpa using h3
      cases t with
      | true =>
        have hf : Hid (PrI p) := ⟨h2, by omega, (ht.out.2 rfl).2.2⟩
        go_enter Try.func22, Try.ntmps22
        go_wp2_with (go_at_call 53; refine (Prime_yes p _ hf).mono ?_; rintro e w' ⟨rfl, rfl⟩)
        go_ret
        exact ⟨rfl, rfl⟩
      | false =>
        have hf : Hid (¬ PrI p) := fun h => by have := ht.out.1 ⟨h2, h3, h.2.2⟩; cases this
        go_enter Try.func22, Try.ntmps22
        go_wp2_with (go_at_call 53; refine (Prime_no p _ hf).mono ?_; rintro e w' ⟨rfl, rfl⟩)
        go_ret
        exact ⟨rfl, rfl⟩
    · have hd1 : decide (2 ≤ p) = true := by simpa using h2
      have hd2 : decide (p ≤ 1021) = false := by simpa using h3
      have hf : Hid (t = false) := by
        cases t with
        | false => rfl
        | true => exact absurd (ht.out.2 rfl).2.1 h3
      go_enter Try.func22, Try.ntmps22
      go_wp2_with (fail)
      go_ret
      exact ⟨ret_bb hf.out.symm, rfl⟩
  · have hd1 : decide (2 ≤ p) = false := by simpa using h2
    have hf : Hid (t = false) := by
      cases t with
      | false => rfl
      | true => exact absurd (ht.out.2 rfl).1 h2
    go_enter Try.func22, Try.ntmps22
    go_wp2_with (fail)
    go_ret
    exact ⟨ret_bb hf.out.symm, rfl⟩

set_option maxRecDepth 100000 in
set_option maxHeartbeats 1000000 in
theorem rValue_is (p x : Nat) (F : List Nat) (v : Value) (w : World) (hp : 2 ≤ p) (hp2 : p ≤ 1021) (hx : x < p) (hr : Hid (Rd w v 1 F.length (nats F))) (hF : Hid (Q.Red p F)) (hl : F.length ≤ 100000) :
    Calls Try.prog 33 #[.int .i64 p, v, .int .i64 x] w fun e w' => e = .returned (.int .i64 (Q.valP p F x : Nat)) ∧ w' = w := by
  obtain ⟨_, a, cap, rfl, hcap, hcell⟩ := hr.out
  obtain ⟨n, hn⟩ : ∃ n, n = F.length := ⟨_, rfl⟩
  have HC : Hid (∀ i, i < F.length → ∃ b, a = some ⟨b, 0, none⟩ ∧ b < w.heap.size ∧ w.cell? ⟨b, i, none⟩ = some (.int .i64 (F.getD i 0 : Nat))) := fun i hi => hr.out.at i hi
  have HN := Lib.hid hn
  rw [← hn] at hl hcap ⊢
  clear hcell hr hn
  have hzp : ((p : Int) == 0) = false := by simp; omega
  have H0 : Hid (0 = Q.valP p (F.drop n) x) := by show _ = _; rw [List.drop_of_length_le (by have := HN.out; omega)]; rfl
  go_enter Try.func33, Try.ntmps33
  go_wp2_with (fail)
  go_loopw [7, 8] (fun yv i wr => ∃ (k y : Nat), yv = .int .i64 y ∧ i = .int .i64 ((k : Int) - 1) ∧ k ≤ n ∧ y < p ∧ Hid (y = Q.valP p (F.drop k) x) ∧ wr = w) (fun _ i _ => ((intOf i) + 1).toNat)
  case atStart => exact ⟨n, 0, rfl, rfl, by omega, by omega, H0, by first | rfl | trivial⟩
  case round =>
    obtain ⟨k, y, rfl, rfl, hk, hy, HY, rfl⟩ := hrel
    by_cases hlt : 0 < k
    · obtain ⟨j, rfl⟩ : ∃ j, k = j + 1 := ⟨k - 1, by omega⟩
      obtain ⟨b, rfl, hb, hc⟩ := HC.out j (by have := HN.out; omega)
      obtain ⟨c, hcc⟩ : ∃ c, c = F.getD j 0 := ⟨_, rfl⟩
      have hcp : c < p := by rw [hcc]; exact hF.out.getD (by omega) _
      rw [← hcc] at hc
      have HY2 : Hid ((y * x + c) % p = Q.valP p (F.drop j) x) := by
        show _ = _
        have h3 : j < F.length := by have := HN.out; omega
        rw [List.drop_eq_getElem_cons h3, HY.out, hcc, ← Q.getD_get h3]
        rfl
      have hj1 : (((j + 1 : Nat) : Int)) - 1 = (j : Int) := by omega
      have hjn : (j : Int) < (n : Int) := by omega
      have hj0 : decide ((0 : Int) ≤ ((j + 1 : Nat) : Int) - 1) = true := by rw [decide_eq_true_iff]; omega
      have hyx : y * x ≤ 1021 * 1021 := Nat.mul_le_mul (by omega) (by omega)
      have hb1 : (y : Int) * (x : Int) = ((y * x : Nat) : Int) := by simp
      have hb2 : (0 : Int) ≤ (y : Int) * (x : Int) ∧ (y : Int) * (x : Int) ≤ 1042441 := by omega
      have hb3 : ((y : Int) * (x : Int) + (c : Int)) % (p : Int) = (((y * x + c) % p : Nat) : Int) := by rw [hb1]; rfl
      have hlp : (y * x + c) % p < p := Nat.mod_lt _ (by omega)
      rw [hj1] at hj0 ⊢
      clear hcc hb1 hyx hj1
      go_wp2_with (fail)
      go_roundw
      case rel => exact ⟨j, _, by first | rfl | go_num, by first | rfl | go_num, by omega, hlp, HY2, by first | rfl | trivial⟩
      case measure => simp [intOf]
    · obtain rfl : k = 0 := by omega
      have HE : Hid (y = Q.valP p F x) := by have := HY.out; rw [List.drop_zero] at this; exact this
      have hj0 : decide ((0 : Int) ≤ ((0 : Nat) : Int) - 1) = false := by rw [decide_eq_false_iff_not]; omega
      go_wp2_with (fail)
      go_ret
      exact ⟨by rw [← HE.out]; rfl, rfl⟩

set_option maxRecDepth 100000 in
set_option maxHeartbeats 2000000 in
theorem rScale_is (p c : Nat) (F : List Nat) (v1 : Value) (w : World) (hp : 2 ≤ p) (hp2 : p ≤ 1021) (hcp : c < p) (h1 : Hid (Rd w v1 1 F.length (nats F))) (hF : Hid (Q.Red p F)) (hl1 : F.length ≤ 100000) :
    Calls Try.prog 67 #[.int .i64 p, v1, .int .i64 c] w (RetL w (Q.scaleP p F c)) := by
  obtain ⟨_, a1, cap1, rfl, hcap1, _⟩ := h1.out
  have HC1 : Hid (∀ i, i < F.length → ∃ b, a1 = some ⟨b, 0, none⟩ ∧ b < w.heap.size ∧ w.cell? ⟨b, i, none⟩ = some (.int .i64 (F.getD i 0 : Nat))) := fun i hi => h1.out.at i hi
  have hzp : ((p : Int) == 0) = false := by rw [beq_eq_false_iff_ne]; omega
  obtain ⟨C, hC⟩ : ∃ C, C = Q.scaleL p F c := ⟨_, rfl⟩
  obtain ⟨n, hn⟩ : ∃ n, n = F.length := ⟨_, rfl⟩
  have hCg : Hid (∀ i, C.getD i 0 = F.getD i 0 * c % p) := fun i => by rw [hC, Q.scaleL_getD]
  have hCC : Hid (C.length = n ∧ Q.trim C = Q.scaleP p F c) := ⟨by rw [hC, hn]; exact Q.scaleL_length _ _ _, by rw [hC]; rfl⟩
  have HN := Lib.hid hn
  rw [← hn] at hl1 hcap1 ⊢
  clear hC hn h1
  obtain ⟨i0, hi, hz0, hz1, hz2⟩ := info_parts Try.infoZ
  go_enter Try.func67, Try.ntmps67
  go_wp2_with (fail)
  go_loopw [7, 8] (fun lv iv wx => ∃ (k : Nat), iv = .int .i64 k ∧ k ≤ n ∧ Hid (LSt w wx lv (C.take k))) (fun _ iv _ => n - (intOf iv).toNat)
  case atStart => exact ⟨0, rfl, by omega, by show LSt _ _ _ _; rw [List.take_zero]; exact LSt.start w⟩
  case round =>
    obtain ⟨k, rfl, hk, HS⟩ := hrel
    have hkl : (C.take k).length = k := by rw [List.length_take, hCC.out.1]; omega
    obtain ⟨a3, cap3, hv3, hc3, hc4⟩ := HS.out.shape
    subst hv3
    rw [hkl] at HS hc3 ⊢
    by_cases hlt : k < n
    · obtain ⟨b1, rfl, hb1, c1'⟩ := HC1.out k (by rw [← HN.out]; exact hlt)
      obtain ⟨x, hx⟩ : ∃ x, x = F.getD k 0 := ⟨_, rfl⟩
      have hxp : x < p := by rw [hx]; exact hF.out.getD (by omega) k
      have c1 : wr.cell? ⟨b1, k, none⟩ = some (.int .i64 (x : Int)) := by rw [HS.out.2.cell (p := ⟨b1, k, none⟩) hb1, c1', hx]
      have hxy : ((x : Int) * (c : Int)) % (p : Int) = (((x * c) % p : Nat) : Int) := by rw [Int.natCast_emod, Int.natCast_mul]
      have hm := mul_bd1021 x c p hxp hcp hp2
      have HT : Hid (C.take (k + 1) = C.take k ++ [(x * c) % p]) := by
        show _ = _
        rw [List.take_succ_eq_append_getElem (by rw [hCC.out.1]; exact hlt), ← Q.getD_get (by rw [hCC.out.1]; exact hlt), hCg.out k, hx]
      obtain ⟨z, hz⟩ : ∃ z, z = (x * c) % p := ⟨_, rfl⟩
      rw [← hz] at hxy HT
      have HOWN : Hid (wr.ownsRow w.heap.size 3 1 (.slice a3 k cap3) k (nats (C.take k))) := by
        have := HS.out.1; unfold NewL at this; rw [hkl] at this; exact this
      have HKL := Lib.hid hkl
      have hklt : (k : Int) < (n : Int) := by omega
      clear hx hz hkl c1'
      go_wp2_with (at_builtin; refine wpList_append_own _ rfl _ _ 22 rfl w.heap.size 3 i0 (.int .i64 0) 1 8 Try.underlying22 hi hz0 hz1 hz2 rfl (by decide) _ _ _ rfl (HOWN.out.alloc _) ⟨wr.heap.size, 0, none⟩ 1 1 [.int .i64 z] rfl rfl ?c1 ?c2 ?c3 ?c4 ?c5 ?_)
      case c1 => exact cell_one_new _ _ _
      case c2 => intro u hu; simp at hu; rw [hu]; rfl
      case c3 => unfold maxLen; omega
      case c4 => omega
      case c5 => have := HS.out.2.size; simp; omega
      intro v' w3 hown3 hgrow3 _
      have HS4 : Hid (LSt w w3 v' (C.take (k + 1))) := by
        show LSt _ _ _ _
        rw [HT.out]
        exact HS.out.push (by rw [HKL.out]) hown3 hgrow3
      obtain ⟨a4, cap4, hv4, _⟩ := HS4.out.shape
      rw [List.length_take, hCC.out.1, show min (k + 1) n = k + 1 by omega] at hv4
      subst hv4
      clear hown3 hgrow3
      go_wp2_with (fail)
      go_roundw
      case rel => exact ⟨k + 1, by go_num, by omega, HS4⟩
      case measure => simp [intOf]; omega
    · obtain rfl : k = n := by omega
      have hCt : C.take k = C := List.take_of_length_le (by rw [hCC.out.1]; omega)
      rw [hCt] at HS
      have HRD : Hid (Rd wr (.slice a3 k cap3) 1 C.length (nats C)) := HS.out.1.rd
      clear hCt hkl
      go_wp2_with (fail)
      refine (rtrim_is C _ _ HRD (by rw [hCC.out.1]; omega)).mono ?_
      rintro e w5 ⟨⟨v5, rfl, hN5⟩, hB5⟩
      have HR : Hid (NewL w w5 v5 (Q.scaleP p F c) ∧ Below w.heap.size w w5) := by
        rw [hCC.out.2] at hN5
        exact ⟨hN5.from HS.out.2.size, HS.out.2.trans (hB5.mono HS.out.2.size)⟩
      obtain ⟨a6, cap6, hv6⟩ := HR.out.1.rd.shape
      subst hv6
      clear hN5 hB5
      go_wp2_with (fail)
      go_ret
      exact ⟨⟨_, rfl, HR.out.1⟩, HR.out.2⟩

end Go.Proofs.Ytgnpohapmijfiaa

namespace Go.Proofs.Ytgnpohapmijfiaa
open Go.RowKit

set_option maxRecDepth 100000 in
set_option maxHeartbeats 1000000 in
theorem rSub_is (p : Nat) (F G : List Nat) (v1 v2 : Value) (w : World) (hp : 2 ≤ p) (hp2 : p ≤ 1021) (h1 : Hid (Rd w v1 1 F.length (nats F))) (h2 : Hid (Rd w v2 1 G.length (nats G))) (hF : Hid (Q.Red p F)) (hG : Hid (Q.Red p G)) (hl1 : F.length ≤ 100000) (hl2 : G.length ≤ 100000) :
    Calls Try.prog 75 #[.int .i64 p, v1, v2] w (RetL w (Q.difP p F G)) := by
  obtain ⟨a1, cap1, hv1⟩ := h1.out.shape
  obtain ⟨a2, cap2, hv2⟩ := h2.out.shape
  subst hv1 hv2
  obtain ⟨q, hq⟩ : ∃ q : Nat, q = p - 1 := ⟨_, rfl⟩
  have hq1 : (p : Int) - 1 = (q : Int) := by omega
  have HQ := Lib.hid hq
  have hqp : q < p := by omega
  have HSL := Lib.hid (Q.scaleP_le p G q)
  clear hq
  go_enter Try.func75, Try.ntmps75
  go_wp2_with (fail)
  refine (rScale_is p q G _ _ hp hp2 hqp h2 hG hl2).mono ?_
  rintro e w2 ⟨⟨v, rfl, hN⟩, hB⟩
  have HB := Lib.hid hB
  have HR : Hid (Rd w2 v 1 (Q.scaleP p G q).length (nats (Q.scaleP p G q))) := hN.rd
  have h1' : Hid (Rd w2 (.slice a1 F.length cap1) 1 F.length (nats F)) := h1.out.below hB (Nat.le_refl _)
  obtain ⟨a3, cap3, hv3⟩ := HR.out.shape
  subst hv3
  have HS : Hid (Q.Red p (Q.scaleP p G q)) := (Q.scaleP_pol (by omega) G q).red
  clear hN hB
  go_wp2_with (fail)
  refine (rAdd_is p F _ _ _ _ hp hp2 h1' HR hF HS hl1 (by have := HSL.out; omega)).mono ?_
  rintro e w3 ⟨⟨v3, rfl, hN⟩, hB⟩
  have HN : Hid (NewL w w3 v3 (Q.difP p F G) ∧ Below w.heap.size w w3) := by
    rw [HQ.out, Q.sub_is hp F hG.out] at hN
    exact ⟨hN.from HB.out.size, HB.out.trans (hB.mono HB.out.size)⟩
  obtain ⟨a4, cap4, hv4⟩ := HN.out.1.rd.shape
  subst hv4
  clear hN hB
  go_wp2_with (fail)
  go_ret
  exact ⟨⟨_, rfl, HN.out.1⟩, HN.out.2⟩

set_option maxHeartbeats 1000000 in
theorem rinverse_is (p a : Nat) (w : World) (hP : Hid (M.Pr p)) (hp2 : p ≤ 1021) (ha : a < p) (h0 : a ≠ 0) :
    Calls Try.prog 57 #[.int .i64 p, .int .i64 a] w fun x w' => x = .returned (.int .i64 (Q.invM p a : Nat)) ∧ w' = w := by
  have hi := Q.inv_spec hP.out ha h0
  have hi1 := hi.1
  have HI : Hid ((a : Int) * ((Q.invM p a : Nat) : Int) % (p : Int) = 1 % (p : Int)) := by
    show _ = _
    have h1 := hi.2.1
    have h2 : (1 : Nat) % p = 1 := Nat.mod_eq_of_lt hP.out.1
    rw [← h2] at h1
    exact_mod_cast h1
  obtain ⟨i, hii⟩ : ∃ i, i = Q.invM p a := ⟨_, rfl⟩
  rw [← hii] at HI hi1 ⊢
  clear hi hii
  go_enter Try.func57, Try.ntmps57
  go_wp2_with (fail)
  refine (Inverse_yes (a : Int) (p : Int) (i : Int) _ (by omega) (by omega) (by omega) (by omega) (by omega) HI).mono ?_
  rintro e w' ⟨rfl, rfl⟩
  go_wp2_with (fail)
  go_ret
  exact ⟨rfl, rfl⟩

theorem rMul_nil (p : Nat) (F G : List Nat) (v1 v2 : Value) (w : World) (h1 : Hid (Rd w v1 1 F.length (nats F))) (h2 : Hid (Rd w v2 1 G.length (nats G))) (h0 : F.length = 0 ∨ G.length = 0) :
    Calls Try.prog 27 #[.int .i64 p, v1, v2] w (RetL w (Q.prodP' p F G)) := by
  obtain ⟨_, a1, cap1, rfl, hcap1, _⟩ := h1.out
  obtain ⟨_, a2, cap2, rfl, hcap2, _⟩ := h2.out
  clear h1 h2
  have HP := Lib.hid (Q.prod_nil (p := p) h0)
  by_cases hf : F.length = 0
  · have hz : ((F.length : Int) == 0) = true := by simp [hf]
    clear hf h0
    go_enter Try.func27, Try.ntmps27
    go_wp2_with (fail)
    go_ret
    rw [HP.out]
    exact ⟨⟨_, rfl, NewL.nil _ _⟩, Below.refl _ _⟩
  · have hg : G.length = 0 := by omega
    have hz : ((F.length : Int) == 0) = false := by rw [beq_eq_false_iff_ne]; omega
    have hz2 : ((G.length : Int) == 0) = true := by simp [hg]
    clear hf hg h0
    go_enter Try.func27, Try.ntmps27
    go_wp2_with (fail)
    go_ret
    rw [HP.out]
    exact ⟨⟨_, rfl, NewL.nil _ _⟩, Below.refl _ _⟩

set_option maxRecDepth 100000 in
set_option maxHeartbeats 2000000 in
theorem rMul_some (p : Nat) (F G : List Nat) (v1 v2 : Value) (w : World) (hP : Hid (M.Pr p)) (hp2 : p ≤ 1021) (h1 : Hid (Rd w v1 1 F.length (nats F))) (h2 : Hid (Rd w v2 1 G.length (nats G)))
    (hF : Hid (Q.Pol p F)) (hG : Hid (Q.Pol p G)) (hl1 : F.length ≤ 100000) (hl2 : G.length ≤ 100000) (hf : F.length ≠ 0) (hg : G.length ≠ 0) :
    Calls Try.prog 27 #[.int .i64 p, v1, v2] w (RetL w (Q.prodP' p F G)) := by
  have hp : 2 ≤ p := hP.out.1
  obtain ⟨_, a1, cap1, rfl, hcap1, hcell1⟩ := h1.out
  obtain ⟨_, a2, cap2, rfl, hcap2, hcell2⟩ := h2.out
  rcases hcell1 with h0 | ⟨b1, rfl, hb1, hc1⟩
  · omega
  rcases hcell2 with h0 | ⟨b2, rfl, hb2, hc2⟩
  · omega
  have HC1 := Lib.hid hc1
  have HC2 := Lib.hid hc2
  clear hc1 hc2 h1 h2
  have HP := Lib.hid (Q.prodAt_done p F G hf hg)
  have HZ := Lib.hid (Q.prodAt_zero p F G)
  have HLN : Hid ((Q.prodP' p F G).length = F.length + G.length - 1 ∧ Q.trim (Q.prodP' p F G) = Q.prodP' p F G) := ⟨Q.prod_length hf hg, Q.trim_of_pol (Q.pol_prod hP.out hF.out hG.out)⟩
  obtain ⟨m1, hm1⟩ : ∃ m1, m1 = F.length := ⟨_, rfl⟩
  obtain ⟨m2, hm2⟩ : ∃ m2, m2 = G.length := ⟨_, rfl⟩
  rw [← hm1] at hl1 hcap1 hf ⊢
  rw [← hm2] at hl2 hcap2 hg ⊢
  have HM := Lib.hid (And.intro hm1 hm2)
  clear hm1 hm2
  have hz1 : ((m1 : Int) == 0) = false := by simp; omega
  have hz2 : ((m2 : Int) == 0) = false := by simp; omega
  have hzp : ((p : Int) == 0) = false := by simp; omega
  obtain ⟨n, hn⟩ : ∃ n, n = m1 + m2 - 1 := ⟨_, rfl⟩
  have hnn : (m1 : Int) + (m2 : Int) - 1 = (n : Int) := by omega
  have hnb : n ≤ 2000000 := by omega
  have HN := Lib.hid hn
  clear hn hf hg
  obtain ⟨i0, hi, hz0, hz3, hz4⟩ := info_parts Try.infoZ
  go_enter Try.func27, Try.ntmps27
  go_wp2_with (at_make; refine wpList_make_full _ rfl _ _ 22 rfl w.heap.size 3 i0 (.int .i64 0) 1 Try.underlying22 hi hz0 hz3 .i64 .i64 _ _ n rfl rfl rfl rfl (by rw [hz4]; omega) (by unfold maxLen; omega) (Nat.le_refl _) ?_)
  intro w0 hown0 hgrow0
  have HS0 : Hid (RSt w w0 w.heap.size n n (Q.prodAt p F G 0 0)) := by
    refine ⟨?_, below_of_grown hgrow0⟩
    rw [HZ.out, ← nats_zeros, ← HM.out.1, ← HM.out.2, ← HN.out]
    exact hown0
  clear hown0 hgrow0
  go_wp2_with (fail)
  go_loopw [8] (fun i wr => ∃ (k : Nat), i = .int .i64 k ∧ k ≤ m1 ∧ Hid (RSt w wr w.heap.size n n (Q.prodAt p F G k 0))) (fun i _ => m1 - (intOf i).toNat)
  case atStart => exact ⟨0, rfl, by omega, HS0⟩
  case round =>
    obtain ⟨k, rfl, hk, HS⟩ := hrel
    by_cases hlt : k < m1
    · have hkl : k < F.length := by have := HM.out.1; omega
      have hk1 : (k : Int) < (m1 : Int) := by omega
      go_wp2_with (fail)
      go_loopw [9] (fun i wr => ∃ (j : Nat), i = .int .i64 j ∧ j ≤ m2 ∧ Hid (RSt w wr w.heap.size n n (Q.prodAt p F G k j))) (fun i _ => m2 - (intOf i).toNat)
      case atStart => exact ⟨0, rfl, by omega, HS⟩
      case round =>
        obtain ⟨j, rfl, hj, HJ⟩ := hrel
        by_cases hjl : j < m2
        · have hjl2 : j < G.length := by have := HM.out.2; omega
          obtain ⟨x, hx⟩ : ∃ x, x = F.getD k 0 := ⟨_, rfl⟩
          have hxp : x < p := by rw [hx]; exact hF.out.red.getD (by omega) k
          have c1 : wr.cell? ⟨b1, k, none⟩ = some (.int .i64 (x : Int)) := by
            rw [HJ.out.below.cell (p := ⟨b1, k, none⟩) hb1, HC1.out _ _ (nats_get F k hkl), hx, Q.getD_get hkl]
          obtain ⟨y, hy⟩ : ∃ y, y = G.getD j 0 := ⟨_, rfl⟩
          have hyp : y < p := by rw [hy]; exact hG.out.red.getD (by omega) j
          have c2 : wr.cell? ⟨b2, j, none⟩ = some (.int .i64 (y : Int)) := by
            rw [HJ.out.below.cell (p := ⟨b2, j, none⟩) hb2, HC2.out _ _ (nats_get G j hjl2), hy, Q.getD_get hjl2]
          have hkj : k + j < n := by have := HN.out; omega
          have hkj2 : (k : Int) + (j : Int) < (n : Int) := by omega
          have hkj3 : ((k : Int) + (j : Int)).toNat = k + j := by omega
          obtain ⟨t, ht⟩ : ∃ t : Nat, t = k + j := ⟨_, rfl⟩
          have hkj4 : (k : Int) + (j : Int) = (t : Int) := by omega
          have hkj5 : IntKind.i64.wrap (t : Int) = (t : Int) := IntWalk.i64_in _ (by omega)
          have hkj6 : IntKind.i64.wrap ((k : Int) + (j : Int)) = (t : Int) := by rw [hkj4]; exact hkj5
          have htn : (t : Int) < (n : Int) := by omega
          have htn2 : t < n := by omega
          rw [← ht] at hkj hkj3
          obtain ⟨z, hz⟩ : ∃ z, z = (Q.prodAt p F G k j).getD t 0 := ⟨_, rfl⟩
          have hzp' : z < p := by rw [hz]; exact (Q.prodAt_red p (by omega) F G k j).getD (by omega) _
          have c3 : wr.cell? ⟨w.heap.size, t, none⟩ = some (.int .i64 (z : Int)) := by rw [HJ.out.cell hkj, hz]
          have hfr : wr.frozen? ⟨w.heap.size, t, none⟩ = false := HJ.out.free _
          have hm := mul_bd1021 x y p hxp hyp hp2
          obtain ⟨u, hu⟩ : ∃ u : Nat, u = (z + x * y) % p := ⟨_, rfl⟩
          have hue : ((z : Int) + (x : Int) * (y : Int)) % (p : Int) = (u : Int) := by rw [hu]; simp
          have hw1 : IntKind.i64.wrap ((x : Int) * (y : Int)) = (x : Int) * (y : Int) := IntWalk.i64_in _ (by omega)
          have hw2 : IntKind.i64.wrap ((z : Int) + (x : Int) * (y : Int)) = (z : Int) + (x : Int) * (y : Int) := IntWalk.i64_in _ (by omega)
          have hend : Hid (∀ W, W = wr ∨ W = wr → True) := fun _ _ => trivial
          have hst : Hid (RSt w (wr.setCell ⟨w.heap.size, t, none⟩ (.int .i64 (u : Int))) w.heap.size n n (Q.prodAt p F G k (j + 1))) := by
            show RSt _ _ _ _ _ _
            rw [← Q.prodAt_step p F G k j hkl hjl2, ← ht, ← hz, ← hy, ← hx, ← hu]
            exact HJ.out.set _ _
          have hk3 : (k : Int) < (m1 : Int) := by omega
          have hj3 : (j : Int) < (m2 : Int) := by omega
          clear hz hy hx hu ht
          go_wp2_with (fail)
          go_region
          all_goals
            go_wp2_with (fail)
            go_roundw
            case rel => exact ⟨j + 1, by go_num, by omega, by first | exact hst | exact hst.out.low (Below.refl _ _).drew | exact hst.out.low (below_drewN (Below.refl _ _) _)⟩
            case measure => simp [intOf]; omega
        · obtain rfl : j = m2 := by omega
          have HJ' : Hid (RSt w wr w.heap.size n n (Q.prodAt p F G (k + 1) 0)) := by have := HJ.out; rw [HM.out.2, Q.prodAt_next] at this; exact this
          go_wp2_with (fail)
          go_roundw
          case rel => exact ⟨k + 1, by go_num, by omega, HJ'⟩
          case measure => simp [intOf]; omega
    · obtain rfl : k = m1 := by omega
      have HR : Hid (RSt w wr w.heap.size n n (Q.prodP' p F G)) := by have := HS.out; rw [HM.out.1, HP.out] at this; exact this
      have HRD : Hid (Rd wr (.slice (some ⟨w.heap.size, 0, none⟩) n n) 1 (Q.prodP' p F G).length (nats (Q.prodP' p F G))) := HR.out.new.rd
      go_wp2_with (fail)
      refine (rtrim_is _ _ _ HRD (by have := HLN.out.1; have := HM.out; have := HN.out; omega)).mono ?_
      rintro e w5 ⟨⟨v5, rfl, hN5⟩, hB5⟩
      have HRR : Hid (NewL w w5 v5 (Q.prodP' p F G) ∧ Below w.heap.size w w5) := by
        rw [HLN.out.2] at hN5
        exact ⟨hN5.from HR.out.below.size, HR.out.below.trans (hB5.mono HR.out.below.size)⟩
      obtain ⟨a6, cap6, hv6⟩ := HRR.out.1.rd.shape
      subst hv6
      clear hN5 hB5
      go_wp2_with (fail)
      go_ret
      exact ⟨⟨_, rfl, HRR.out.1⟩, HRR.out.2⟩

theorem rMul_is (p : Nat) (F G : List Nat) (v1 v2 : Value) (w : World) (hP : Hid (M.Pr p)) (hp2 : p ≤ 1021) (h1 : Hid (Rd w v1 1 F.length (nats F))) (h2 : Hid (Rd w v2 1 G.length (nats G)))
    (hF : Hid (Q.Pol p F)) (hG : Hid (Q.Pol p G)) (hl1 : F.length ≤ 100000) (hl2 : G.length ≤ 100000) :
    Calls Try.prog 27 #[.int .i64 p, v1, v2] w (RetL w (Q.prodP' p F G)) := by
  by_cases h0 : F.length = 0 ∨ G.length = 0
  · exact rMul_nil p F G v1 v2 w h1 h2 h0
  · exact rMul_some p F G v1 v2 w hP hp2 h1 h2 hF hG hl1 hl2 (by omega) (by omega)

end Go.Proofs.Ytgnpohapmijfiaa

namespace Go.Proofs.Ytgnpohapmijfiaa
open Go.RowKit

theorem lit2 (w : World) (a b : Nat) (T : TypeId) : Rd (w.alloc (.cells #[.int .i64 (a : Int), .int .i64 (b : Int)] T)) (.slice (some ⟨w.heap.size, 0, none⟩) 2 2) 1 2 (nats [a, b]) := by
  refine ⟨rfl, _, _, rfl, Nat.le_refl _, .inr ⟨w.heap.size, rfl, by simp, fun j u hu => ?_⟩⟩
  match j, hu with
  | 0, hu => simp [nats] at hu; subst hu; simp
  | 1, hu => simp [nats] at hu; subst hu; simp
  | j + 2, hu => simp [nats] at hu

theorem lit3 (w : World) (a b c : Nat) (T : TypeId) : Rd (w.alloc (.cells #[.int .i64 (a : Int), .int .i64 (b : Int), .int .i64 (c : Int)] T)) (.slice (some ⟨w.heap.size, 0, none⟩) 3 3) 1 3 (nats [a, b, c]) := by
  refine ⟨rfl, _, _, rfl, Nat.le_refl _, .inr ⟨w.heap.size, rfl, by simp, fun j u hu => ?_⟩⟩
  match j, hu with
  | 0, hu => simp [nats] at hu; subst hu; simp
  | 1, hu => simp [nats] at hu; subst hu; simp
  | 2, hu => simp [nats] at hu; subst hu; simp
  | j + 3, hu => simp [nats] at hu

theorem lit4 (w : World) (a b c d : Nat) (T : TypeId) : Rd (w.alloc (.cells #[.int .i64 (a : Int), .int .i64 (b : Int), .int .i64 (c : Int), .int .i64 (d : Int)] T)) (.slice (some ⟨w.heap.size, 0, none⟩) 4 4) 1 4 (nats [a, b, c, d]) := by
  refine ⟨rfl, _, _, rfl, Nat.le_refl _, .inr ⟨w.heap.size, rfl, by simp, fun j u hu => ?_⟩⟩
  match j, hu with
  | 0, hu => simp [nats] at hu; subst hu; simp
  | 1, hu => simp [nats] at hu; subst hu; simp
  | 2, hu => simp [nats] at hu; subst hu; simp
  | 3, hu => simp [nats] at hu; subst hu; simp
  | j + 4, hu => simp [nats] at hu

theorem Mul_awake (w : World) (v1 v2 : Value) (h1 : Hid (Rd w v1 1 2 (nats [2, 1]))) (h2 : Hid (Rd w v2 1 2 (nats [3, 1]))) :
    Calls Try.prog 21 #[.int .i64 5, v1, v2] w (RetE w [1, 0, 1]) := by
  have h := Mul_ok 5 [2, 1] [3, 1] v1 v2 w awake_pr5 (by omega) h1 h2 (Q.pol_dec (by decide +kernel) (by decide +kernel)) (Q.pol_dec (by decide +kernel) (by decide +kernel)) (by decide) (by decide) (by rw [Q.awake_prod]; decide)
  rw [Q.awake_prod] at h
  exact h

/-- What the law sees of Factor's result. -/
theorem Factor_awake (w : World) (v : Value) (h1 : Hid (Rd w v 1 3 (nats [1, 0, 1]))) :
    Calls Try.prog 42 #[.int .i64 5, v] w fun x w' => (∃ (g cap : Nat) (u : Value), x = .returned (.tuple #[.int .i64 1, .slice (some ⟨g, 0, none⟩) 2 cap, .int .i64 0]) ∧ w'.cell? ⟨g, 0, none⟩ = some u ∧ Rd w' u 1 2 (nats [2, 1])) ∧ Below w.heap.size w w' := by
  refine (Factor_ok 5 [1, 0, 1] v w awake_pr5 (by omega) h1 (Q.pol_dec (by decide +kernel) (by decide +kernel)) (by decide) (by decide)).mono ?_
  rintro x w' ⟨v', L, fin, rfl, hF, hfin, hperm, hsort⟩
  rw [awake_monic] at hfin
  have hL : strip L = [([2, 1], 1), ([3, 1], 1)] := by
    have hne : ¬ ((strip L) = [([3, 1], 1), ([2, 1], 1)]) := fun e => by
      rw [e] at hsort
      have := (List.pairwise_cons.1 hsort).1 ([2, 1], 1) (by simp)
      exact this (by decide +kernel)
    have hp2 : (strip L).Perm [([2, 1], 1), ([3, 1], 1)] := by
      rcases awake_fact34 with h | h
      · rw [h] at hfin; injection hfin with hfin; rw [← hfin] at hperm; exact hperm.trans (List.Perm.swap ..)
      · rw [h] at hfin; injection hfin with hfin; rw [← hfin] at hperm; exact hperm
    have hlen := hp2.length_eq
    match hL : strip L, hp2, hlen with
    | [a, b], hp2, _ =>
      have ha : a ∈ [(([2, 1] : List Nat), 1), ([3, 1], 1)] := hp2.subset (by simp)
      have hb : b ∈ [(([2, 1] : List Nat), 1), ([3, 1], 1)] := hp2.subset (by simp)
      have h3 := hp2.nodup_iff.2 (by decide)
      simp at ha hb
      rcases ha with rfl | rfl <;> rcases hb with rfl | rfl
      · simp at h3
      · rfl
      · exact absurd hL hne
      · simp at h3
  have hLl : L.length = 2 := by have := congrArg List.length hL; simpa [strip] using this
  match L, hL, hLl, hF with
  | [], _, hLl, _ => simp at hLl
  | [_], _, hLl, _ => simp at hLl
  | _ :: _ :: _ :: _, _, hLl, _ => simp at hLl
  | [x1, x2], hL, _, hF =>
    obtain ⟨u1, M1, e1⟩ := x1
    obtain ⟨u2, M2, e2⟩ := x2
    simp [strip] at hL
    obtain ⟨⟨rfl, rfl⟩, rfl, rfl⟩ := hL
    obtain ⟨a, cap, hv, _, _, hblk⟩ := own_form hF.own
    obtain ⟨g, rfl, _, _⟩ := hblk (by simp)
    simp only [List.length_cons, List.length_nil] at hv
    subst hv
    have hc := hF.own.cellAt 0 (by simp)
    have hr := (hF.rows (u1, [2, 1], 1) (by simp)).rd hF.below
    refine ⟨⟨g, cap, u1, rfl, ?_, hr⟩, hF.below⟩
    rw [hc]; simp [flatF]

theorem Count_awake (w : World) : Calls Try.prog 36 #[.int .i64 2, .int .i64 3] w fun x w' => x = .returned (.tuple #[.int .i64 2, .int .i64 0]) ∧ Below w.heap.size w w' := by
  have e : Q.countP 2 3 3 = 2 := by decide +kernel
  have h := Count_ok 2 3 w awake_pr2 (by omega) (by omega) (by omega) (by show _ ≤ _; decide) (by show _ ≤ _; rw [e]; decide)
  rw [e] at h
  exact h

theorem First_awake (w : World) : Calls Try.prog 38 #[.int .i64 2, .int .i64 3] w (RetE w [1, 1, 0, 1]) :=
  First_ok 2 3 9 [1, 1, 0, 1] w awake_pr2 (by omega) (by omega) (by omega) awake_firstOk

set_option maxRecDepth 100000 in
set_option maxHeartbeats 4000000 in
theorem awake_is (w : World) : Calls Try.prog 24 #[] w fun x w' => x = .returned (.bool true) ∧ Below w.heap.size w w' := by
  have HA : Hid (Below w.heap.size w ((w.alloc (.cells #[.int .i64 2, .int .i64 1] 3)).alloc (.cells #[.int .i64 3, .int .i64 1] 3))) := ((Below.refl _ _).alloc (Nat.le_refl _) _).alloc (by simp) _
  have HR2 : Hid (Rd ((w.alloc (.cells #[.int .i64 2, .int .i64 1] 3)).alloc (.cells #[.int .i64 3, .int .i64 1] 3)) (.slice (some ⟨w.heap.size + 1, 0, none⟩) 2 2) 1 2 (nats [3, 1])) := by
    have h := lit2 (w.alloc (.cells #[.int .i64 2, .int .i64 1] 3)) 3 1 3
    rw [World.size_alloc] at h
    exact h
  have HR1 : Hid (Rd ((w.alloc (.cells #[.int .i64 2, .int .i64 1] 3)).alloc (.cells #[.int .i64 3, .int .i64 1] 3)) (.slice (some ⟨w.heap.size, 0, none⟩) 2 2) 1 2 (nats [2, 1])) :=
    (lit2 w 2 1 3).below ((Below.refl _ _).alloc (Nat.le_refl _) _) (Nat.le_refl _)
  go_enter Try.func24, Try.ntmps24
  go_wp2_with (fail)
  refine (Mul_awake _ _ _ HR1 HR2).mono ?_
  rintro e w1 ⟨⟨vm, rfl, hN⟩, hB⟩
  have HB1 := Lib.hid (HA.out.trans (hB.mono (by simp; omega)))
  have HN1 : Hid (NewL w w1 vm [1, 0, 1]) := hN.from HA.out.size
  obtain ⟨a1, c1, hv1⟩ := hN.rd.shape
  subst hv1
  have HRf : Hid (Rd (w1.alloc (.cells #[.int .i64 1, .int .i64 0, .int .i64 1] 3)) (.slice (some ⟨w1.heap.size, 0, none⟩) 3 3) 1 3 (nats [1, 0, 1])) := lit3 w1 1 0 1 3
  clear hN hB HR1 HR2
  go_wp2_with (fail)
  refine (Factor_awake _ _ HRf).mono ?_
  rintro e w2 ⟨⟨g, cap, u, rfl, hcell, hu⟩, hB⟩
  have HB2' : Hid (Below w1.heap.size w1 w2) := ((Below.refl _ _).alloc (Nat.le_refl _) _).trans (hB.mono (by simp))
  have HB2 := Lib.hid (HB1.out.trans (HB2'.out.mono HB1.out.size))
  have HN2 : Hid (NewL w w2 (.slice a1 3 c1) [1, 0, 1]) := HN1.out.keep HB2'.out
  obtain ⟨a2, c2, hv2⟩ := hu.shape
  subst hv2
  have HU := Lib.hid (And.intro hcell hu)
  clear hcell hu hB HB1 HN1 HB2' HRf
  go_wp2_with (fail)
  refine (Count_awake _).mono ?_
  rintro e w3 ⟨rfl, hB⟩
  have HB3 := Lib.hid (HB2.out.trans (hB.mono HB2.out.size))
  have HN3 : Hid (NewL w w3 (.slice a1 3 c1) [1, 0, 1]) := HN2.out.keep hB
  have hgl := World.block_lt_of_cell? w2 _ HU.out.1
  have HU3 : Hid (w3.cell? ⟨g, 0, none⟩ = some (.slice a2 2 c2) ∧ Rd w3 (.slice a2 2 c2) 1 2 (nats [2, 1])) := ⟨by rw [hB.cell (p := ⟨g, 0, none⟩) hgl]; exact HU.out.1, HU.out.2.below hB (Nat.le_refl _)⟩
  clear hB HN2 HU hgl HB2
  go_wp2_with (fail)
  refine (First_awake _).mono ?_
  rintro e w4 ⟨⟨vf, rfl, hN⟩, hB⟩
  have HB4 := Lib.hid (HB3.out.trans (hB.mono HB3.out.size))
  have HN4 : Hid (NewL w w4 (.slice a1 3 c1) [1, 0, 1]) := HN3.out.keep hB
  have hgl := World.block_lt_of_cell? w3 _ HU3.out.1
  have HU4 : Hid (w4.cell? ⟨g, 0, none⟩ = some (.slice a2 2 c2) ∧ Rd w4 (.slice a2 2 c2) 1 2 (nats [2, 1])) := ⟨by rw [hB.cell (p := ⟨g, 0, none⟩) hgl]; exact HU3.out.1, HU3.out.2.below hB (Nat.le_refl _)⟩
  have HF4 : Hid (NewL w w4 vf [1, 1, 0, 1]) := hN.from HB3.out.size
  obtain ⟨a4, c4, hv4⟩ := hN.rd.shape
  subst hv4
  have HRs : Hid (Rd (w4.alloc (.cells #[.int .i64 1, .int .i64 0, .int .i64 1] 3)) (.slice (some ⟨w4.heap.size, 0, none⟩) 3 3) 1 3 (nats [1, 0, 1])) := lit3 w4 1 0 1 3
  have HRm : Hid (Rd (w4.alloc (.cells #[.int .i64 1, .int .i64 0, .int .i64 1] 3)) (.slice a1 3 c1) 1 3 (nats [1, 0, 1])) := HN4.out.rd.below ((Below.refl _ _).alloc (Nat.le_refl _) _) (Nat.le_refl _)
  clear hB hN HN3 HU3 hgl HB3
  go_wp2_with (fail)
  refine (Same_is [1, 0, 1] [1, 0, 1] _ _ true _ HRm HRs (by decide) (by decide) ⟨fun _ => rfl, fun _ => rfl⟩).mono ?_
  rintro e w5 ⟨rfl, n5, hw5⟩
  have HB45 : Hid (Below w4.heap.size w4 w5) := by rw [hw5]; exact below_drewN ((Below.refl _ _).alloc (Nat.le_refl _) _) _
  have HB5 := Lib.hid (HB4.out.trans (HB45.out.mono HB4.out.size))
  have hgl := World.block_lt_of_cell? w4 _ HU4.out.1
  have hc5 : w5.cell? ⟨g, 0, none⟩ = some (.slice a2 2 c2) := by rw [HB45.out.cell (p := ⟨g, 0, none⟩) hgl]; exact HU4.out.1
  have HS1 : Hid (Rd (w5.alloc (.cells #[.int .i64 2, .int .i64 1] 3)) (.slice (some ⟨w5.heap.size, 0, none⟩) 2 2) 1 2 (nats [2, 1])) := lit2 w5 2 1 3
  have HS2 : Hid (Rd (w5.alloc (.cells #[.int .i64 2, .int .i64 1] 3)) (.slice a2 2 c2) 1 2 (nats [2, 1])) := (HU4.out.2.below HB45.out (Nat.le_refl _)).below ((Below.refl _ _).alloc (Nat.le_refl _) _) (Nat.le_refl _)
  have HF5 : Hid (NewL w w5 (.slice a4 4 c4) [1, 1, 0, 1]) := HF4.out.keep HB45.out
  have hcg : (w5.alloc (.cells #[.int .i64 2, .int .i64 1] 3)).cell? ⟨g, 0, none⟩ = some (.slice a2 2 c2) := by
    rw [((Below.refl w5.heap.size w5).alloc (Nat.le_refl _) _).cell (p := ⟨g, 0, none⟩) (Nat.lt_of_lt_of_le hgl HB45.out.size)]; exact hc5
  clear hw5 hgl HB4 HRs HRm HN4 HU4 HF4
  go_wp2_with (fail)
  refine (Same_is [2, 1] [2, 1] _ _ true _ HS2 HS1 (by decide) (by decide) ⟨fun _ => rfl, fun _ => rfl⟩).mono ?_
  rintro e w6 ⟨rfl, n6, hw6⟩
  have HB56 : Hid (Below w5.heap.size w5 w6) := by rw [hw6]; exact below_drewN ((Below.refl _ _).alloc (Nat.le_refl _) _) _
  have HB6 := Lib.hid (HB5.out.trans (HB56.out.mono HB5.out.size))
  have HT1 : Hid (Rd (w6.alloc (.cells #[.int .i64 1, .int .i64 1, .int .i64 0, .int .i64 1] 3)) (.slice (some ⟨w6.heap.size, 0, none⟩) 4 4) 1 4 (nats [1, 1, 0, 1])) := lit4 w6 1 1 0 1 3
  have HT2 : Hid (Rd (w6.alloc (.cells #[.int .i64 1, .int .i64 1, .int .i64 0, .int .i64 1] 3)) (.slice a4 4 c4) 1 4 (nats [1, 1, 0, 1])) := (HF5.out.keep HB56.out).rd.below ((Below.refl _ _).alloc (Nat.le_refl _) _) (Nat.le_refl _)
  clear hw6 HS1 HS2 HB5 hc5 hcg HF5
  go_wp2_with (fail)
  refine (Same_is [1, 1, 0, 1] [1, 1, 0, 1] _ _ true _ HT2 HT1 (by decide) (by decide) ⟨fun _ => rfl, fun _ => rfl⟩).mono ?_
  rintro e w7 ⟨rfl, n7, hw7⟩
  have HB67 : Hid (Below w6.heap.size w6 w7) := by rw [hw7]; exact below_drewN ((Below.refl _ _).alloc (Nat.le_refl _) _) _
  have HB7 := Lib.hid (HB6.out.trans (HB67.out.mono HB6.out.size))
  clear hw7 HT1 HT2 HB6
  go_wp2_with (fail)
  go_ret
  exact ⟨rfl, HB7.out⟩

end Go.Proofs.Ytgnpohapmijfiaa
