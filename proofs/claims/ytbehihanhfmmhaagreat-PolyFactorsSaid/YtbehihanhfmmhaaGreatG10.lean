/- Walks and plain mathematics: Srt, PwSorted, PwFcs, PwSortL, PwFactors, Fce, PwFactorApi, Rfm, Ird, Lag, Frb, Lin, Frx, Ber, Spp, Drv. -/
import Derived.Test.YtbehihanhfmmhaaGreatG09
import Derived.Test.YtbehihanhfmmhaaGreatG03
import Derived.Sort.OwnSorted
import Derived.Shelf.SlSortCmp.NoneTotal
import Derived.Deep.RegionHeld3
namespace Go.Proofs.YtbehihanhfmmhaaGreat
open Go.RowKit Go.Sort Go.Proofs Go.Shelf Go.Lib

theorem heap_sortedV {w : World} {g n : Nat} {os : Array Obj} {cur : Array Value} {e : TypeId} {fr : Nat × Nat} (d : Array Value) (hb : w.heap[g]? = some (.cells cur e fr)) :
    (grow (putRow id (Sort.ahead w n) g 0 d) os).heap[g]? = some (.cells (putCells id 0 d cur) e fr) := by
  have hg : g < w.heap.size := (Array.getElem?_eq_some_iff.1 hb).1
  rw [heap_grow_old _ _ (by simpa using hg)]
  simp [putRow, mapBlock, Sort.ahead, Array.getElem?_modify, hb, onCells]

theorem grownBy_sortedV {w : World} {g n : Nat} {os : Array Obj} (d : Array Value) : w.grownBy (grow (putRow id (Sort.ahead w n) g 0 d) os) (some g) := by
  refine ⟨rfl, rfl, rfl, by simp, fun k hk hne => ?_⟩
  rw [heap_grow_old _ _ (by simpa using hk)]
  have : g ≠ k := fun e => hne (by rw [e])
  simp [putRow, mapBlock, Sort.ahead, Array.getElem?_modify, this]

theorem take_putCellsV (cur : Array Value) (ts : List Value) (h : ts.length ≤ cur.size) : (putCells id 0 ts.toArray cur).toList.take ts.length = ts := by
  apply List.ext_getElem?
  intro j
  by_cases hj : j < ts.length
  · rw [List.getElem?_take_of_lt hj, Array.getElem?_toList]
    simp [putCells, hj, show j < cur.size by omega]
  · rw [List.getElem?_take_eq_none (by omega), List.getElem?_eq_none (by omega)]

theorem ownsRow_sortedV {w : World} {base g cap n m size : Nat} {e : TypeId} {os : Array Obj} {xs ts : List Value} (h : w.ownsRow base e size (.slice (some ⟨g, 0, none⟩) m cap) m xs) (hl : ts.length = m * size) :
    (grow (putRow id (Sort.ahead w n) g 0 ts.toArray) os).ownsRow base e size (.slice (some ⟨g, 0, none⟩) m cap) m ts := by
  rcases h.2 with ⟨h0, _⟩ | ⟨g', cap', cur, h1, h2, h3, h4, h5, h6, h7⟩
  · cases h0
  cases h1
  refine ⟨hl, .inr ⟨g, cap, _, rfl, h2, heap_sortedV _ h3, h4, h5, by simp [putCells, h6], ?_⟩⟩
  rw [← hl]
  exact take_putCellsV cur ts (by rw [hl, h6]; exact Nat.mul_le_mul_right _ h4)

/-- A factor in memory, which stays there while the row in block blk is sorted. -/
structure FacAt (w : World) (blk : Nat) where
  v : Value
  M : List Nat
  e : Nat
  rd : Rd w v 1 M.length (nats M)
  ne : M.length ≠ 0 → v.ownBlock ≠ some blk
  len : M.length ≤ 100000
  small : ∀ x ∈ M, x ≤ 100000

instance (w : World) (blk : Nat) : Inhabited (FacAt w blk) := ⟨⟨.slice none 0 0, [], 0, ⟨rfl, none, 0, rfl, Nat.le_refl _, .inl rfl⟩, fun h => absurd rfl h, by simp, by simp⟩⟩

def FacAt.enc {w : World} {blk : Nat} (x : FacAt w blk) : List Value := [x.v, .int .i64 x.e]
def FacAt.ord {w : World} {blk : Nat} (x y : FacAt w blk) : Int := Q.ordP x.M y.M

theorem FacAt.keep {w : World} {blk : Nat} (x : FacAt w blk) (off m : Nat) (dk : Array (FacAt w blk)) (os : Array Obj) : Rd (sortWorldK FacAt.enc 2 w blk off m dk os) x.v 1 x.M.length (nats x.M) := by
  obtain ⟨h1, a, cap, h2, h3, h4⟩ := x.rd
  refine ⟨h1, a, cap, h2, h3, ?_⟩
  rcases h4 with h4 | ⟨b, h5, h6, h7⟩
  · exact .inl h4
  · by_cases h0 : x.M.length = 0
    · exact .inl h0
    have hb : b ≠ blk := fun e => x.ne h0 (by rw [h2, h5, e]; rfl)
    refine .inr ⟨b, h5, Nat.lt_of_lt_of_le h6 (size_sortWorldK_c _ _ _ _ _ _ _ _), fun j u hu => ?_⟩
    rw [cell?_sortWorldK_other _ _ _ _ _ _ _ _ _ hb h6]
    exact h7 j u hu

theorem drewN_grow (w : World) (os : Array Obj) (n : Nat) : (grow w os).drewN n = grow (w.drewN n) os := by
  induction n generalizing w with
  | zero => rfl
  | succ n ih => first | rfl | (simp only [World.drewN]; rw [← ih]; rfl)

set_option maxRecDepth 100000 in
set_option maxHeartbeats 1000000 in
theorem facLess_is (F G : List Nat) (v u : Value) (e1 e2 : Int) (W : World) (hv : Hid (Rd W v 1 F.length (nats F))) (hu : Hid (Rd W u 1 G.length (nats G))) (hl : F.length ≤ 100000) (hl2 : G.length ≤ 100000) (hx : Hid (∀ x ∈ F, x ≤ 100000)) (hy : Hid (∀ x ∈ G, x ≤ 100000)) :
    Calls Tryz.prog 43 #[.agg #[v, .int .i64 e1], .agg #[u, .int .i64 e2]] W fun e w' => e = .returned (.int .i64 (Q.ordP F G)) ∧ ∃ q os', w' = grow (W.drewN q) os' := by
  obtain ⟨av, cv, rfl⟩ := hv.out.shape
  obtain ⟨au, cu, rfl⟩ := hu.out.shape
  obtain ⟨n, hn⟩ : ∃ n, n = F.length := ⟨_, rfl⟩
  obtain ⟨m, hm⟩ : ∃ m, m = G.length := ⟨_, rfl⟩
  have HV : Hid (∀ W', Below W.heap.size W W' → Rd W' (.slice av n cv) 1 F.length (nats F)) := fun W' hB => by rw [hn]; exact hv.out.below hB (Nat.le_refl _)
  have HU : Hid (∀ W', Below W.heap.size W W' → Rd W' (.slice au m cu) 1 G.length (nats G)) := fun W' hB => by rw [hm]; exact hu.out.below hB (Nat.le_refl _)
  have HO : Hid (∀ o1 o2 k, Below W.heap.size W (((W.alloc o1).alloc o2).drewN k)) := fun o1 o2 k => below_drewN (((Below.refl _ _).alloc (Nat.le_refl _) _).alloc (by simp) _) k
  rw [← hn, ← hm]
  clear hn hm hv hu
  go_enter Tryz.func43, Tryz.ntmps43
  go_wp2_with (fail)
  refine (order_is F G _ _ _ (fun k => HV.out _ (HO.out _ _ k)) (fun k => HU.out _ (HO.out _ _ k)) hl hl2 hx hy).mono ?_
  rintro e w' ⟨rfl, n, rfl⟩
  go_wp2_with (fail)
  go_ret
  exact ⟨rfl, n, _, by rw [alloc_eq_grow, alloc_eq_grow, grow_grow, drewN_grow]⟩

end Go.Proofs.YtbehihanhfmmhaaGreat

namespace Go.Proofs.YtbehihanhfmmhaaGreat
open Go.RowKit Go.Sort Go.Proofs Go.Shelf Go.Lib

theorem Q.ordP_self : ∀ f : List Nat, Q.ordP f f = 0
  | [] => rfl
  | a :: f => by rw [Q.ordP_cons, Q.ordP_self f, if_pos rfl]; unfold Lib.compareInt; rw [if_neg (by omega), if_neg (by omega)]

/-- The order as a relation: less. -/
def Q.LtP (f g : List Nat) : Prop := Q.ordP f g < 0

theorem cmpInt_cases (a b : Int) : (Lib.compareInt a b = -1 ∧ a < b) ∨ (Lib.compareInt a b = 0 ∧ a = b) ∨ (Lib.compareInt a b = 1 ∧ b < a) := by
  unfold Lib.compareInt
  by_cases h : a < b
  · exact .inl ⟨by rw [if_pos h], h⟩
  · by_cases h2 : b < a
    · exact .inr (.inr ⟨by rw [if_neg h, if_pos h2], h2⟩)
    · exact .inr (.inl ⟨by rw [if_neg h, if_neg h2], by omega⟩)

theorem Q.ordP_flip : ∀ f g : List Nat, Q.ordP g f = - Q.ordP f g
  | [], [] => rfl
  | [], _ :: _ => rfl
  | _ :: _, [] => rfl
  | a :: f, b :: g => by
    rw [Q.ordP_cons, Q.ordP_cons, Q.ordP_flip f g]
    by_cases h : Q.ordP f g = 0
    · rw [h, if_pos (by rfl), if_pos rfl]
      rcases cmpInt_cases (a : Int) b with h1 | h1 | h1 <;> rcases cmpInt_cases (b : Int) a with h2 | h2 | h2 <;> omega
    · rw [if_neg h, if_neg (by omega)]

theorem Q.ordP_eq : ∀ {f g : List Nat}, Q.ordP f g = 0 → f = g
  | [], [], _ => rfl
  | [], _ :: _, h => by simp [Q.ordP] at h
  | _ :: _, [], h => by simp [Q.ordP] at h
  | a :: f, b :: g, h => by
    rw [Q.ordP_cons] at h
    by_cases h1 : Q.ordP f g = 0
    · rw [if_pos h1] at h
      rcases cmpInt_cases (a : Int) b with h2 | h2 | h2
      · omega
      · rw [Q.ordP_eq h1, show a = b by omega]
      · omega
    · rw [if_neg h1] at h; exact absurd h h1

theorem Q.ordP_tri (f g : List Nat) : Q.ordP f g = -1 ∨ Q.ordP f g = 0 ∨ Q.ordP f g = 1 := by
  match f, g with
  | [], [] => exact .inr (.inl rfl)
  | [], _ :: _ => exact .inl rfl
  | _ :: _, [] => exact .inr (.inr rfl)
  | a :: f, b :: g =>
    rw [Q.ordP_cons]
    by_cases h : Q.ordP f g = 0
    · rw [if_pos h]; rcases cmpInt_cases (a : Int) b with h2 | h2 | h2 <;> omega
    · rw [if_neg h]; exact Q.ordP_tri f g

theorem Q.ordP_trans : ∀ {f g h : List Nat}, Q.ordP f g = -1 → Q.ordP g h = -1 → Q.ordP f h = -1
  | [], [], _, h1, _ => by simp [Q.ordP] at h1
  | [], _ :: _, [], _, h2 => by simp [Q.ordP] at h2
  | [], _ :: _, _ :: _, _, _ => rfl
  | _ :: _, [], _, h1, _ => by simp [Q.ordP] at h1
  | _ :: _, _ :: _, [], _, h2 => by simp [Q.ordP] at h2
  | a :: f, b :: g, c :: h, h1, h2 => by
    rw [Q.ordP_cons] at h1 h2 ⊢
    by_cases e1 : Q.ordP f g = 0
    · have := Q.ordP_eq e1; subst this
      rw [if_pos e1] at h1
      by_cases e2 : Q.ordP f h = 0
      · rw [if_pos e2] at h2 ⊢
        rcases cmpInt_cases (a : Int) b with h3 | h3 | h3 <;> rcases cmpInt_cases (b : Int) c with h4 | h4 | h4 <;> rcases cmpInt_cases (a : Int) c with h5 | h5 | h5 <;> omega
      · rw [if_neg e2] at h2 ⊢; exact h2
    · rw [if_neg e1] at h1
      by_cases e2 : Q.ordP g h = 0
      · have := Q.ordP_eq e2; subst this
        rw [if_neg e1]; exact h1
      · rw [if_neg e2] at h2
        have := Q.ordP_trans h1 h2
        rw [if_neg (by omega)]; exact this

theorem facSWO (w : World) (blk : Nat) : SWO (ltOf (FacAt.ord (w := w) (blk := blk))) where
  irrefl x := by simp [ltOf, FacAt.ord, Q.ordP_self]
  trans x y z h1 h2 := by
    have g1 : Q.ordP x.M y.M < 0 := of_decide_eq_true h1
    have g2 : Q.ordP y.M z.M < 0 := of_decide_eq_true h2
    have := Q.ordP_trans (f := x.M) (g := y.M) (h := z.M) (by rcases Q.ordP_tri x.M y.M with h | h | h <;> omega) (by rcases Q.ordP_tri y.M z.M with h | h | h <;> omega)
    exact decide_eq_true (show Q.ordP x.M z.M < 0 by omega)
  ntrans x y z h1 h2 := by
    have g1 : ¬ Q.ordP x.M y.M < 0 := of_decide_eq_false h1
    have g2 : ¬ Q.ordP y.M z.M < 0 := of_decide_eq_false h2
    refine decide_eq_false (show ¬ Q.ordP x.M z.M < 0 from fun h3 => ?_)
    rcases Q.ordP_tri x.M y.M with h | h | h
    · omega
    · have e := Q.ordP_eq h; rw [e] at h3; omega
    · have e : Q.ordP y.M x.M = -1 := by rw [Q.ordP_flip x.M y.M, h]
      have := Q.ordP_trans e (h := z.M) (by rcases Q.ordP_tri x.M z.M with h | h | h <;> omega)
      omega

set_option maxHeartbeats 1000000 in
theorem sortFacs_is (blk cap : Nat) (w : World) (d : Array (FacAt w blk)) (hH : HoldsK FacAt.enc 2 w blk 0 d) (hblk : blk < w.heap.size) (hsz : d.size < 1000000000) :
    Calls Tryz.prog 42 #[.slice (some ⟨blk, 0, none⟩) d.size cap, .func (.func 43) #[] #[]] w fun e w' => e = .returned (.tuple #[]) ∧ ∃ d' n os, PermIn 0 d.size d d' ∧ SortedIn (ltOf (FacAt.ord (w := w) (blk := blk))) 0 d.size d' ∧ w' = sortWorldK FacAt.enc 2 w blk 0 n d' os := by
  have eg : ∀ args w, (callFunc 43 args).run Tryz.prog w = .ok (.enter 43 args) w := enters_of Tryz.func43 (by kernel_rfl) rfl
  refine AnyQ.slices_SortFunc Tryz.sortFactors 2 Tryz.isAgg36 Tryz.sizeOf36 FacAt.enc (fun _ => rfl) (fun x v hv => ?_) FacAt.ord (facSWO w blk) 43 #[] blk 0 cap d w eg ?_ hH hblk (by omega)
  · obtain ⟨a, cp, e⟩ := x.rd.shape
    simp [FacAt.enc] at hv
    rcases hv with rfl | rfl
    · rw [e]; rfl
    · rfl
  · intro m os dk _ x y
    exact facLess_is x.M y.M x.v y.v x.e y.e _ (x.keep 0 m dk os) (y.keep 0 m dk os) x.len y.len x.small y.small

end Go.Proofs.YtbehihanhfmmhaaGreat

namespace Go.Proofs.YtbehihanhfmmhaaGreat
open Go.RowKit

abbrev FacE := Value × List Nat × Nat
def flatF (L : List FacE) : List Value := L.flatMap fun x => [x.1, .int .i64 (x.2.2 : Int)]
def strip (L : List FacE) : List (List Nat × Nat) := L.map fun x => x.2
theorem flatF_append (L L' : List FacE) : flatF (L ++ L') = flatF L ++ flatF L' := by simp [flatF]

/-- A row of factors under way. -/
structure FcS (w wr : World) (v : Value) (L : List FacE) : Prop where
  own : wr.ownsRow w.heap.size 36 2 v L.length (flatF L)
  rows : ∀ x ∈ L, RowS w wr x.1 x.2.1
  below : Below w.heap.size w wr
  small : ∀ x ∈ L, x.2.1.length ≤ 100000 ∧ ∀ y ∈ x.2.1, y ≤ 100000

theorem FcS.low {w wr wx : World} {v : Value} {L : List FacE} (h : FcS w wr v L) (hB : Below wr.heap.size wr wx) : FcS w wx v L :=
  ⟨own_kept h.own hB, fun x hx => (h.rows x hx).low hB, h.below.trans (hB.mono h.below.size), h.small⟩
theorem FcS.nil {w wr : World} (hB : Below w.heap.size w wr) : FcS w wr (.slice none 0 0) [] := ⟨World.ownsRow_nil _ _ _ _, fun x hx => by simp at hx, hB, fun x hx => by simp at hx⟩
theorem FcS.append {w wr wx : World} {v v' : Value} {L : List FacE} {x : FacE} {o : Obj} (h : FcS w wr v L) (hx : RowS w wr x.1 x.2.1) (hsm : x.2.1.length ≤ 100000 ∧ ∀ y ∈ x.2.1, y ≤ 100000)
    (hown : wx.ownsRow w.heap.size 36 2 v' (L.length + 1) (flatF L ++ [x.1, .int .i64 (x.2.2 : Int)])) (hg : (wr.alloc o).grownBy wx v.ownBlock) : FcS w wx v' (L ++ [x]) := by
  have hBa : Below wr.heap.size wr (wr.alloc o) := (Below.refl _ _).alloc (Nat.le_refl _) _
  have hk : ∀ (t : Value) (N : List Nat), RowS w wr t N → RowS w wx t N := fun t N h1 => by
    rcases h1 with h1 | h1
    · exact .inl h1
    · exact .inr ((own_kept h1 hBa).kept hg (own_ty_ne2 h1 h.own (by decide)))
  refine ⟨?_, fun y hy => ?_, (h.below.trans (hBa.mono h.below.size)).grown hg (Nat.le_trans h.below.size hBa.size) fun g hg' => (h.own.lt g hg').1, fun y hy => ?_⟩
  · rw [List.length_append, flatF_append]
    exact hown
  · rcases List.mem_append.1 hy with h1 | h1
    · exact hk _ _ (h.rows y h1)
    · simp at h1; subst h1; exact hk _ _ hx
  · rcases List.mem_append.1 hy with h1 | h1
    · exact h.small y h1
    · simp at h1; subst h1; exact hsm

theorem RowS.grown {w wr wx : World} {u al : Value} {M : List Nat} {L : List FacE} {o : Obj} (h : RowS w wr u M) (ho : FcS w wr al L) (hg : (wr.alloc o).grownBy wx al.ownBlock) : RowS w wx u M := by
  have hBa : Below wr.heap.size wr (wr.alloc o) := (Below.refl _ _).alloc (Nat.le_refl _) _
  rcases h with h1 | h1
  · exact .inl h1
  · exact .inr ((own_kept h1 hBa).kept hg (own_ty_ne2 h1 ho.own (by decide)))

theorem MxS.grownF {w wr wx : World} {v al : Value} {vs : List Value} {Ms : List (List Nat)} {L : List FacE} {o : Obj} (h : MxS w wr v vs Ms) (ho : FcS w wr al L) (hg : (wr.alloc o).grownBy wx al.ownBlock) : MxS w wx v vs Ms := by
  have hBa : Below wr.heap.size wr (wr.alloc o) := (Below.refl _ _).alloc (Nat.le_refl _) _
  exact ⟨(own_kept h.own hBa).kept hg (own_ty_ne2 h.own ho.own (by decide)), fun i u M h1 h2 => (h.rows i u M h1 h2).grown ho hg,
    (h.below.trans (hBa.mono h.below.size)).grown hg (Nat.le_trans h.below.size hBa.size) fun g hg' => (ho.own.lt g hg').1⟩

theorem Tryz.infoF : (Tryz.prog.info? 36).map (fun i => (i.zero, i.size, i.bytes)) = some (some (.agg #[.slice none 0 0, .int .i64 0]), 2, 32) := by kernel_rfl

end Go.Proofs.YtbehihanhfmmhaaGreat

namespace Go.Proofs.YtbehihanhfmmhaaGreat
open Go.RowKit Go.Sort Go.Proofs Go.Shelf Go.Lib

def FacAt.toE {w : World} {blk : Nat} (x : FacAt w blk) : FacE := (x.v, x.M, x.e)

theorem flatF_length (L : List FacE) : (flatF L).length = L.length * 2 := by
  induction L with
  | nil => rfl
  | cons x L ih => rw [flatF, List.flatMap_cons, List.length_append, List.length_cons]; rw [flatF] at ih; rw [ih]; simp; omega

theorem flatF_get : ∀ (L : List FacE) (t : Nat) (h : t / 2 < L.length), (flatF L)[t]? = some ([L[t / 2].1, Value.int .i64 (L[t / 2].2.2 : Int)][t % 2]!)
  | [], t, h => by simp at h
  | x :: L, 0, h => rfl
  | x :: L, 1, h => rfl
  | x :: L, t + 2, h => by
    have h1 : (t + 2) / 2 = t / 2 + 1 := by omega
    have h2 : (t + 2) % 2 = t % 2 := by omega
    have h3 : t / 2 < L.length := by rw [h1] at h; simpa using h
    have e : flatF (x :: L) = x.1 :: .int .i64 (x.2.2 : Int) :: flatF L := rfl
    rw [e, List.getElem?_cons_succ, List.getElem?_cons_succ, flatF_get L t h3]
    simp only [h1, h2, List.getElem_cons_succ]

theorem flatK_eq {w : World} {blk : Nat} (d : Array (FacAt w blk)) : flatK FacAt.enc 2 d = (flatF (d.toList.map FacAt.toE)).toArray := by
  apply Array.ext
  · simp [flatF_length]
  · intro t h1 h2
    have h3 : t < d.size * 2 := by simpa using h1
    have h4 := get_flatK FacAt.enc 2 d t h3
    rw [getElem!_pos _ t h1] at h4
    rw [h4]
    have h5 : t / 2 < (d.toList.map FacAt.toE).length := by simp; omega
    have h6 := flatF_get (d.toList.map FacAt.toE) t h5
    have h7 : (flatF (d.toList.map FacAt.toE)).toArray[t] = [(d.toList.map FacAt.toE)[t / 2].1, Value.int .i64 ((d.toList.map FacAt.toE)[t / 2].2.2 : Int)][t % 2]! := by
      have h8 : t < (flatF (d.toList.map FacAt.toE)).length := by simpa using h2
      rw [List.getElem?_eq_getElem h8] at h6
      have h6 := Option.some.inj h6
      simpa using h6
    rw [h7]
    have h9 : t / 2 < d.size := by omega
    rw [getElem!_pos d (t / 2) h9]
    simp [FacAt.enc, FacAt.toE]

theorem sortList_is {w wr : World} {v : Value} {L : List FacE} (h : FcS w wr v L) (hl : L.length ≤ 100000000) :
    Calls Tryz.prog 42 #[v, .func (.func 43) #[] #[]] wr fun e w' => e = .returned (.tuple #[]) ∧ ∃ L', FcS w w' v L' ∧ L'.Perm L ∧ L'.Pairwise fun a b => ¬ Q.ordP b.2.1 a.2.1 < 0 := by
  obtain ⟨a, cap, hv, _, _, hg⟩ := own_form h.own
  by_cases h0 : L.length = 0
  · obtain rfl := List.length_eq_zero_iff.1 h0
    subst hv
    refine (AnyF.slices_SortFunc_none Tryz.sortFactors a cap (.func (.func 43) #[] #[]) wr).mono ?_
    rintro e w' ⟨he, rfl⟩
    exact ⟨he, [], h, List.Perm.refl _, List.Pairwise.nil⟩
  · obtain ⟨g, rfl, hb, hgl⟩ := hg (by omega)
    subst hv
    have hne : ∀ x ∈ L, x.2.1.length ≠ 0 → x.1.ownBlock ≠ some g := fun x hx _hx0 => by
      rcases h.rows x hx with h1 | h1
      · exact h1.1.elim
      · rcases own_ty_ne2 h1 h.own (by decide) with h2 | h2
        · rw [h2]; simp
        · exact h2
    obtain ⟨d, hd⟩ : ∃ d : Array (FacAt wr g), d.toList.map FacAt.toE = L :=
      ⟨(L.attach.map fun x => (⟨x.1.1, x.1.2.1, x.1.2.2, (h.rows x.1 x.2).rd h.below, hne x.1 x.2, (h.small x.1 x.2).1, (h.small x.1 x.2).2⟩ : FacAt wr g)).toArray, by
        simp only [List.map_map]
        have : (FacAt.toE ∘ fun x : { x // x ∈ L } => (⟨x.1.1, x.1.2.1, x.1.2.2, (h.rows x.1 x.2).rd h.below, hne x.1 x.2, (h.small x.1 x.2).1, (h.small x.1 x.2).2⟩ : FacAt wr g)) = Subtype.val := by
          funext x; rfl
        rw [this]; exact List.attach_map_subtype_val L⟩
    have hds : d.size = L.length := by rw [← hd]; simp
    have hH : HoldsK FacAt.enc 2 wr g 0 d := by
      unfold HoldsK
      rw [flatK_eq, hd]
      intro j hj
      have hj' : j < (flatF L).length := by simpa using hj
      refine ⟨?_, by rw [Nat.zero_add]; exact h.own.frozenAt j⟩
      rw [Nat.zero_add, h.own.cellAt j (by rw [← flatF_length]; exact hj')]
      simp [hj']
    have hc := sortFacs_is g cap wr d hH hgl (by omega)
    rw [hds] at hc
    refine hc.mono ?_
    rintro e w' ⟨he, d', n, os, hp, hs, rfl⟩
    have hds' : d'.size = L.length := by rw [hp.1, hds]
    have hw : sortWorldK FacAt.enc 2 wr g 0 n d' os = grow (putRow id (Sort.ahead wr n) g 0 (flatF (d'.toList.map FacAt.toE)).toArray) os := by
      rw [← flatK_eq]; rfl
    have hgr : wr.grownBy (sortWorldK FacAt.enc 2 wr g 0 n d' os) (some g) := by rw [hw]; exact grownBy_sortedV _
    have hperm : (d'.toList.map FacAt.toE).Perm L := by
      rw [← hd]
      refine List.Perm.map _ ?_
      have h1 := hp.2.2
      have e1 : d'.extract 0 L.length = d' := by rw [← hds']; simp
      have e2 : d.extract 0 L.length = d := by rw [← hds]; simp
      rw [e1, e2] at h1
      exact h1
    have hlen : (d'.toList.map FacAt.toE).length = L.length := by simp [hds']
    refine ⟨he, d'.toList.map FacAt.toE, ⟨?_, fun x hx => ?_, h.below.grown hgr h.below.size fun k hk => by injection hk with hk; omega, fun x hx => h.small x (hperm.mem_iff.1 hx)⟩, hperm, ?_⟩
    · rw [hw, hlen]
      exact ownsRow_sortedV h.own (by rw [flatF_length, hlen])
    · rcases h.rows x (hperm.mem_iff.1 hx) with h1 | h1
      · exact .inl h1
      · exact .inr (h1.kept hgr (own_ty_ne2 h1 h.own (by decide)))
    · rw [List.pairwise_iff_getElem]
      intro i j hi hj hij
      have hj' : j < d'.size := by simpa using hj
      have h1 := hs i j (Nat.zero_le _) hij (by rw [← hds']; exact hj')
      have h2 := of_decide_eq_false h1
      rw [getElem!_pos d' j hj', getElem!_pos d' i (by omega)] at h2
      simpa [FacAt.toE, FacAt.ord] using h2

end Go.Proofs.YtbehihanhfmmhaaGreat

namespace Go.Proofs.YtbehihanhfmmhaaGreat
open Go.RowKit

set_option maxRecDepth 100000 in
set_option maxHeartbeats 4000000 in
theorem factLoop_walk (p N : Nat) (F : List Nat) (v : Value) (w ws : World) (fin : List (List Nat × Nat)) (hP : Hid (M.Pr p)) (hp2 : p ≤ 1021) (hr : Hid (RowS w ws v F)) (hBw : Hid (Below w.heap.size w ws)) (hF : Hid (Q.Pol p F)) (hl : F.length ≤ 1000) (h0 : F.length ≠ 0) (hN : N ≤ 1001) (hD : Hid (Q.factLoop p N 1 F = some fin)) :
    Calls Tryz.prog 16 #[.int .i64 p, v] ws fun x w' => ∃ v' L, x = .returned v' ∧ FcS w w' v' L ∧ (strip L).Perm fin ∧ (strip L).Pairwise fun a b => ¬ Q.ordP b.1 a.1 < 0 := by
  have hp : 2 ≤ p := hP.out.1
  obtain ⟨av, cv, rfl⟩ := (hr.out.rd hBw.out).shape
  obtain ⟨n, hn⟩ : ∃ n, n = F.length := ⟨_, rfl⟩
  have HN := Lib.hid hn
  have HV0 : Hid (RowS w ws (.slice av n cv) F) := by show RowS _ _ _ _; rw [hn]; exact hr.out
  rw [← hn] at hl h0 ⊢
  have HL0 : Hid (FcS w ws (.slice none 0 0) []) := FcS.nil hBw.out
  have HD0 : Hid (∃ rest, Q.factLoop p N 1 F = some rest ∧ fin = strip [] ++ rest) := ⟨fin, hD.out, rfl⟩
  have HB0 : Hid (1 * (F.length - 1) ≤ 1000000) := by show _ ≤ _; omega
  obtain ⟨i0, hi, hz0, hz1, hz2⟩ := info_parts Tryz.infoF
  clear hn hr
  go_enter Tryz.func16, Tryz.ntmps16
  go_wp2_with (fail)
  go_loopg [1, 5, 6] N (fun g fv lv tv wx => ∃ (k cf t m cl : Nat) (af al : Option Addr) (f : List Nat) (L : List FacE), fv = .slice af k cf ∧ lv = .slice al m cl ∧ tv = .int .i64 t ∧ k ≤ 1000 ∧ k ≠ 0 ∧ t ≤ 1021000000 ∧ g ≤ N ∧ m ≤ 1000 * (N - g) ∧ Hid (k = f.length) ∧ Hid (m = L.length) ∧ Hid (RowS w wx (.slice af k cf) f) ∧ Hid (Q.Pol p f) ∧ Hid (FcS w wx (.slice al m cl) L) ∧ Hid (t * (f.length - 1) ≤ 1000000) ∧ Hid (∃ rest, Q.factLoop p g t f = some rest ∧ fin = strip L ++ rest))
  case atStart => exact ⟨n, cv, 1, 0, 0, av, none, F, [], rfl, rfl, rfl, hl, h0, by omega, Nat.le_refl _, by omega, HN, (by show _ = _; rfl), HV0, hF, HL0, HB0, HD0⟩
  case round =>
    obtain ⟨k, cf, t, m, cl, af, al, f, L, rfl, rfl, rfl, hk, hk0, ht, hgN, hm, HK, HM, HV, HPf, HL, HT, HR⟩ := hrel
    cases gk with
    | zero =>
      exfalso
      obtain ⟨rest, h1, _⟩ := HR.out
      cases h1
    | succ g =>
      by_cases hk1 : k ≤ 1
      · have hd1 : ¬ (1 : Int) < (k : Int) := by omega
        have HE : Hid (fin = strip L) := by
          obtain ⟨rest, h1, h2⟩ := HR.out
          rw [Q.fact_small (by rw [← HK.out]; exact hk1)] at h1
          injection h1 with h1
          show _ = _
          rw [h2, ← h1, List.append_nil]
        clear hk1
        go_wp2_with (fail)
        refine (sortList_is HL.out (by have := HM.out; omega)).mono ?_
        rintro e w2 ⟨rfl, L', hF2, hP2, hS2⟩
        have HEND : Hid (FcS w w2 (.slice al m cl) L' ∧ (strip L').Perm fin ∧ (strip L').Pairwise fun a b => ¬ Q.ordP b.1 a.1 < 0) :=
          ⟨hF2, by rw [HE.out]; exact hP2.map _, by unfold strip; rw [List.pairwise_map]; exact hS2⟩
        clear hF2 hP2 hS2
        go_wp2_with (fail)
        go_ret
        exact ⟨_, rfl, L', HEND.out⟩
      · have hd1 : (1 : Int) < (k : Int) := by omega
        have HB : Hid (Below w.heap.size w wr) := HL.out.below
        have HRf : Hid (Rd wr (.slice af k cf) 1 f.length (nats f)) := HV.out.rd HB.out
        go_wp2_with (fail)
        refine (derivative_is p f _ _ hp hp2 HRf HPf.out.1 (by have := HK.out; omega) (by have := HK.out; omega)).mono ?_
        rintro e w1 ⟨⟨v1, rfl, hN1⟩, hB1⟩
        have HV1 := Lib.hid (HV.out.low hB1)
        have HL1 := Lib.hid (HL.out.low hB1)
        have HS1 : Hid (Rd w1 v1 1 (Q.deriv p f).length (nats (Q.deriv p f))) := hN1.rd
        obtain ⟨s, hs⟩ : ∃ s, s = (Q.deriv p f).length := ⟨_, rfl⟩
        have HS := Lib.hid hs
        obtain ⟨a1, c1, hv1⟩ := HS1.out.shape
        subst hv1
        have HS2 : Hid (Rd w1 (.slice a1 s c1) 1 (Q.deriv p f).length (nats (Q.deriv p f))) := by show Rd _ _ _ _ _; rw [hs]; exact HS1.out
        have HRf1 : Hid (Rd w1 (.slice af k cf) 1 f.length (nats f)) := HV1.out.rd HL1.out.below
        rw [← hs]
        clear hN1 hB1 hs HS1 HV HL HRf HB
        by_cases hs0 : s = 0
        · subst hs0
          have hf1 : 2 ≤ f.length := by have := HK.out; omega
          have HR2 : Hid (∃ rest, Q.factLoop p g (t * p) (Q.rootP p f) = some rest ∧ fin = strip L ++ rest) := by
            obtain ⟨rest, h1, h2⟩ := HR.out
            rw [Q.fact_root (by omega) HS.out.symm] at h1
            exact ⟨rest, h1, h2⟩
          have HP2 : Hid (Q.Pol p (Q.rootP p f)) := Q.root_ok hP.out HPf.out hf1 HS.out.symm
          have HT2 : Hid (t * p * ((Q.rootP p f).length - 1) ≤ 1000000) := Nat.le_trans (Q.root_bound p t f) HT.out
          have ht6 : t ≤ 1000000 := by
            have h1 := HT.out
            have h2 : t * 1 ≤ t * (f.length - 1) := Nat.mul_le_mul_left t (by omega)
            omega
          have htp : t * p ≤ 1000000 * 1021 := Nat.mul_le_mul ht6 hp2
          have hrl := Q.root_len p f
          have hdl : (f.length - 1) / p ≤ f.length - 1 := Nat.div_le_self _ _
          have hrl2 : (Q.rootP p f).length ≤ 1000 := by have := HK.out; omega
          have hrl3 : (Q.rootP p f).length ≠ 0 := by rw [hrl]; exact Nat.succ_ne_zero _
          clear hrl hdl
          go_wp2_with (fail)
          refine (rootOf_is p f _ _ hp hp2 HRf1 (by have := HK.out; omega) (by omega)).mono ?_
          rintro e w2 ⟨⟨v2, rfl, hN2⟩, hB2⟩
          have HL2 := Lib.hid (HL1.out.low hB2)
          obtain ⟨a2, c2, hv2⟩ := hN2.rd.shape
          subst hv2
          obtain ⟨r, hr⟩ : ∃ r, r = (Q.rootP p f).length := ⟨_, rfl⟩
          have HRr := Lib.hid hr
          have HV2 : Hid (RowS w w2 (.slice a2 r c2) (Q.rootP p f)) := by show RowS _ _ _ _; rw [hr]; exact .inr (own_base hN2 HL1.out.below.size)
          have htp1 : (0 : Int) ≤ (t : Int) * (p : Int) ∧ (t : Int) * (p : Int) ≤ 1021000000 := by
            have : (t : Int) * (p : Int) = ((t * p : Nat) : Int) := by simp
            omega
          rw [← hr] at hrl2 hrl3 ⊢
          clear hN2 hB2 hr htp
          go_wp2_with (fail)
          go_roundg g
          case measure => omega
          case rel => exact ⟨r, c2, t * p, m, cl, _, _, _, L, rfl, rfl, by first | rfl | simp, hrl2, hrl3, by omega, by omega, by omega, HRr, HM, HV2, HP2, HL2, HT2, HR2⟩
        · have hf1 : 2 ≤ f.length := by have := HK.out; omega
          have hz : ((s : Int) == 0) = false := by rw [beq_eq_false_iff_ne]; omega
          obtain ⟨G, hG⟩ : ∃ G, G = Q.gcdP p f (Q.deriv p f) := ⟨_, rfl⟩
          obtain ⟨S, hS⟩ : ∃ S, S = (Q.divP p f G).1 := ⟨_, rfl⟩
          have hsim := Q.simple_ok hP.out HPf.out hf1 (by have := HS.out; omega)
          rw [← hG, ← hS] at hsim
          have hGP : Q.Pol p G := by rw [hG]; exact (Q.gcdP_is hP.out HPf.out (Q.deriv_pol (by omega) f)).pol
          have HR2 : Hid (∃ l f' l', Q.takeAll p t (Q.splitP p S) f = some (l, f') ∧ Q.factLoop p g t f' = some l' ∧ fin = strip L ++ (l ++ l')) := by
            obtain ⟨rest, h1, h2⟩ := HR.out
            obtain ⟨l, f', l', e1, e2, e3⟩ := Q.fact_take (by omega) (by have := HS.out; omega) h1
            rw [← hG, ← hS] at e1
            exact ⟨l, f', l', e1, e2, by rw [h2, e3]⟩
          have HGP := Lib.hid hGP
          have HSM := Lib.hid hsim
          have HDP : Hid (Q.Pol p (Q.deriv p f)) := Q.deriv_pol (by omega) f
          have hdl : (Q.deriv p f).length ≤ 1000 := by have := Q.deriv_le p f; have := HK.out; omega
          have HGS := Lib.hid (And.intro hG hS)
          clear hsim hGP hS hs0 HR
          go_wp2_with (fail)
          refine (divisorOf_is p f (Q.deriv p f) _ _ _ hP hp2 HRf1 HS2 HPf HDP (by have := HK.out; omega) (by omega)).mono ?_
          rintro e w2 ⟨⟨v2, rfl, hN2⟩, hB2⟩
          rw [← hG] at hN2
          have HG2 : Hid (Rd w2 v2 1 G.length (nats G)) := hN2.rd
          have HV2 := Lib.hid (HV1.out.low hB2)
          have HL2 := Lib.hid (HL1.out.low hB2)
          have HRf2 : Hid (Rd w2 (.slice af k cf) 1 f.length (nats f)) := HV2.out.rd HL2.out.below
          obtain ⟨a2, c2, hv2⟩ := HG2.out.shape
          subst hv2
          clear hN2 hB2 hG HV1 HL1 HRf1 HS2
          go_wp2_with (fail)
          refine (divide_is p f G _ _ _ hP hp2 HRf2 HG2 HPf.out.1 HGP (by have := HK.out; omega) HSM.out.2.2.2).mono ?_
          rintro e w3 ⟨⟨vq, vr, rfl, hNq, hNr⟩, hB3⟩
          rw [← HGS.out.2] at hNq
          obtain ⟨aq, cq, hvq⟩ := hNq.rd.shape
          obtain ⟨ar, cr, hvr⟩ := hNr.rd.shape
          subst hvq hvr
          have HSS : Hid (RowS w w3 (.slice aq S.length cq) S) := .inr (own_base hNq HL2.out.below.size)
          have HV3 := Lib.hid (HV2.out.low hB3)
          have HL3 := Lib.hid (HL2.out.low hB3)
          have HBW3 : Hid (Below w.heap.size w w3) := HL3.out.below
          clear hNq hNr hB3 HV2 HL2 HRf2 HG2
          go_wp2_with (fail)
          refine (split_is p S _ w _ hP hp2 HSS HBW3 HSM.out.1 (by have := HSM.out.2.2.1; have := HK.out; omega) HSM.out.2.1).mono ?_
          rintro e w4 ⟨⟨v4, vs4, rfl, hM4⟩, hB4⟩
          have HV4 := Lib.hid (HV3.out.low hB4)
          have HL4 := Lib.hid (HL3.out.low hB4)
          obtain ⟨Ps, hPs⟩ : ∃ Ps, Ps = Q.splitP p S := ⟨_, rfl⟩
          rw [← hPs] at hM4 HR2
          have hsum := Q.splitP_sum hP.out HSM.out.1 HSM.out.2.1
          rw [← hPs] at hsum
          have hcn : Ps.length ≤ 999 := by have := hsum.count; have := HSM.out.2.2.1; have := HK.out; omega
          have HPO : Hid (∀ M ∈ Ps, Q.Pol p M ∧ 2 ≤ M.length ∧ M.length ≤ 1000) := fun M hM => by
            have h1 := hsum.part M hM
            have := HSM.out.2.2.1; have := HK.out
            exact ⟨h1.1, h1.2.1, by omega⟩
          obtain ⟨a4, c4, hv4, _⟩ := own_form hM4.own
          subst hv4
          obtain ⟨q, hq⟩ : ∃ q, q = Ps.length := ⟨_, rfl⟩
          have HQ := Lib.hid hq
          have HM4 : Hid (MxS w w4 (.slice a4 q c4) vs4 Ps) := by show MxS _ _ _ _ _; rw [hq]; exact hM4
          have HR3 : Hid (∃ l f' l', Q.takeAll p t (Ps.drop 0) f = some (l, f') ∧ Q.factLoop p g t f' = some l' ∧ fin = strip L ++ (l ++ l')) := by rw [List.drop_zero]; exact HR2
          have ht6 : t ≤ 1000000 := by
            have h1 := HT.out
            have h2 : t * 1 ≤ t * (f.length - 1) := Nat.mul_le_mul_left t (by omega)
            omega
          rw [← hq] at hcn ⊢
          have hmb : m + 0 ≤ 1000 * (N - (g + 1)) + 0 := by omega
          clear hM4 hB4 hsum hq hPs HV3 HL3 HSS HR2 hf1 hdl ht hk1 hd1
          go_wp2_with (fail)
          go_loopg [1, 5, 43] q (fun g2 fv lv iv wx => ∃ (j k cf m' cl : Nat) (af al : Option Addr) (f : List Nat) (L : List FacE), fv = .slice af k cf ∧ lv = .slice al m' cl ∧ iv = .int .i64 j ∧ j + g2 = q ∧ k ≤ 1000 ∧ k ≠ 0 ∧ m' ≤ m + j ∧ Hid (k = f.length) ∧ Hid (m' = L.length) ∧ Hid (RowS w wx (.slice af k cf) f) ∧ Hid (Q.Pol p f) ∧ Hid (FcS w wx (.slice al m' cl) L) ∧ Hid (t * (f.length - 1) ≤ 1000000) ∧ Hid (MxS w wx (.slice a4 q c4) vs4 Ps) ∧ Hid (∃ l f' l', Q.takeAll p t (Ps.drop j) f = some (l, f') ∧ Q.factLoop p g t f' = some l' ∧ fin = strip L ++ (l ++ l')))
          case atStart => exact ⟨0, k, cf, m, cl, _, _, f, L, rfl, rfl, rfl, by omega, hk, hk0, by omega, HK, HM, HV4, HPf, HL4, HT, HM4, HR3⟩
          case round =>
            clear HK HM HV4 HPf HL4 HT HR3 hk hk0 HS HDP HGP HSM HGS HBW3
            obtain ⟨j, k, cf, m', cl, af, al, f, L, rfl, rfl, rfl, hjg, hk, hk0, hm', HK, HM, HV, HPf, HL, HT, HB, HR⟩ := hrel
            cases gk with
            | zero =>
              have hjz : ¬ ((j : Int) < (q : Int)) := by omega
              have HRn : Hid (∃ rest, Q.factLoop p g t f = some rest ∧ fin = strip L ++ rest) := by
                obtain ⟨l, f', l', e1, e2, e3⟩ := HR.out
                rw [List.drop_eq_nil_of_le (by have := HQ.out; omega), Q.takeAll] at e1
                injection e1 with e1
                injection e1 with e1 e4
                subst e1 e4
                exact ⟨l', e2, by rw [e3, List.nil_append]⟩
              go_wp2_with (fail)
              go_roundg g
              case measure => omega
              case rel => exact ⟨k, cf, t, m', cl, _, _, f, L, rfl, rfl, rfl, hk, hk0, by omega, by omega, by omega, HK, HM, HV, HPf, HL, HT, HRn⟩
            | succ g2 =>
              have hjz : (j : Int) < (q : Int) := by omega
              have hjq : j < Ps.length := by have := HQ.out; omega
              obtain ⟨gB, cp', hgB, aX, cX, e1, e2⟩ := HB.out.cell hjq
              injection hgB with hgB1 hgB2 hgB3
              subst hgB1
              obtain ⟨X, hX⟩ : ∃ X, X = Ps.getD j [] := ⟨_, rfl⟩
              rw [← hX] at e1 e2
              have hdrop : Ps.drop j = X :: Ps.drop (j + 1) := by
                rw [List.drop_eq_getElem_cons hjq, hX]; simp [List.getD, hjq]
              have hXo := HPO.out X (by rw [hX]; simp [List.getD, hjq])
              have HXP : Hid (Q.Pol p X) := hXo.1
              have hX2 := hXo.2.1
              have hX3 := hXo.2.2
              have HBw : Hid (Below w.heap.size w wr) := HL.out.below
              have hex := Q.takeOut_some hP.out HXP.out hX2 (f.length + 1) f 0 HPf.out (by have := HK.out; omega) (by omega)
              have HR2 : Hid (∃ e f1 l1 f' l', Q.takeOut p X (f.length + 1) 0 f = some (e, f1) ∧ Q.takeAll p t (Ps.drop (j + 1)) f1 = some (l1, f') ∧ Q.factLoop p g t f' = some l' ∧ fin = strip L ++ (((X, e * t) :: l1) ++ l')) := by
                obtain ⟨l, f', l', e1, e2, e3⟩ := HR.out
                rw [hdrop] at e1
                obtain ⟨e, f1, l1, d1, d2, d3⟩ := Q.take_cons e1
                exact ⟨e, f1, l1, f', l', d1, d2, e2, by rw [e3, d3]⟩
              have HEX := Lib.hid hex
              obtain ⟨x, hx⟩ : ∃ x, x = X.length := ⟨_, rfl⟩
              have HX := Lib.hid hx
              have HXS : Hid (RowS w wr (.slice aX x cX) X) := by show RowS _ _ _ _; rw [hx]; exact e2
              have HXR : Hid (Rd wr (.slice aX x cX) 1 X.length (nats X)) := HXS.out.rd HBw.out
              rw [← hx] at e1
              clear hX hdrop hXo hex hx hgB2 hgB3 e2 HR
              go_wp2_with (fail)
              refine (takeOut_is p f X _ _ w _ hP hp2 HV HBw HXR HPf HXP (by have := HK.out; omega) (by have := HK.out; omega) hX2 (by omega)).mono ?_
              rintro ee w5 ⟨e, F', v5, hto, rfl, hV5, hB5⟩
              obtain ⟨kk, f5, e1', e2', e3', e4'⟩ := HEX.out
              rw [hto] at e1'
              injection e1' with e1'
              injection e1' with e5 e6
              rw [Nat.zero_add] at e5
              subst e5 e6
              have HP5 : Hid (Q.Pol p F') := e2'
              have HR5 : Hid (∃ l1 f' l', Q.takeAll p t (Ps.drop (j + 1)) F' = some (l1, f') ∧ Q.factLoop p g t f' = some l' ∧ fin = strip L ++ (((X, e * t) :: l1) ++ l')) := by
                obtain ⟨e0, f1, l1, f', l', d1, d2, d3, d4⟩ := HR2.out
                rw [hto] at d1
                injection d1 with d1
                injection d1 with d5 d6
                subst d5 d6
                exact ⟨l1, f', l', d2, d3, d4⟩
              have HL5 := Lib.hid (HL.out.low hB5)
              have HXS5 := Lib.hid (HXS.out.low hB5)
              have HB5 := Lib.hid (HB.out.low hB5)
              obtain ⟨a5, c5, hv5⟩ := (hV5.rd HL5.out.below).shape
              subst hv5
              obtain ⟨k5, hk5⟩ : ∃ k5, k5 = F'.length := ⟨_, rfl⟩
              have HK5 := Lib.hid hk5
              have HV5 : Hid (RowS w w5 (.slice a5 k5 c5) F') := by show RowS _ _ _ _; rw [hk5]; exact hV5
              have he5 : k5 + e ≤ k := by have := HK.out; omega
              have hk50 : k5 ≠ 0 := by rw [hk5]; exact e3'
              have HT5 : Hid (t * (F'.length - 1) ≤ 1000000) := Nat.le_trans (Nat.mul_le_mul_left t (by have := HK.out; omega)) HT.out
              have het : e * t ≤ 1000 * 1000000 := Nat.mul_le_mul (by omega) ht6
              have het1 : (0 : Int) ≤ (e : Int) * (t : Int) ∧ (e : Int) * (t : Int) ≤ 1000000000 := by
                have : (e : Int) * (t : Int) = ((e * t : Nat) : Int) := by simp
                omega
              rw [← hk5]
              clear hto hV5 hB5 e2' e3' e4' hk5 HR2 HEX HV HL HXS HXR HPf HT HBw het e1
              go_wp2_with (first
                | (at_builtin; refine wpList_append_own _ rfl _ _ 24 rfl w.heap.size 36 i0 (.agg #[.slice none 0 0, .int .i64 0]) 2 32 Tryz.underlying24 hi hz0 hz1 hz2 rfl (by decide) _ _ _ rfl (HL5.out.own.alloc _) ⟨w5.heap.size, 0, none⟩ 1 1 [.slice aX x cX, .int .i64 ((e : Int) * (t : Int))] rfl rfl ?c1 ?c2 ?c3 ?c4 ?c5 ?_))
              case c1 => exact cell_2_new _ _ _ _
              case c2 => intro u hu; simp at hu; rcases hu with rfl | rfl <;> rfl
              case c3 => unfold maxLen; have := HM.out; omega
              case c4 => have := HM.out; omega
              case c5 => simp; have := HL5.out.below.size; omega
              intro v' w6 hown6 hgrow6 _
              have hown6' : w6.ownsRow w.heap.size 36 2 v' (L.length + 1) (flatF L ++ [.slice aX x cX, .int .i64 ((e * t : Nat) : Int)]) := by
                have e7 : ((e * t : Nat) : Int) = (e : Int) * (t : Int) := by simp
                rw [e7]; exact hown6
              have HL6 : Hid (FcS w w6 v' (L ++ [(.slice aX x cX, X, e * t)])) := HL5.out.append (x := (.slice aX x cX, X, e * t)) HXS5.out ⟨by have := HX.out; show X.length ≤ _; omega, fun y hy => by have := HXP.out.1 y hy; omega⟩ hown6' hgrow6
              have HB6 := Lib.hid (HB5.out.grownF HL5.out hgrow6)
              have HV6 := Lib.hid (HV5.out.grown HL5.out hgrow6)
              have HM6 : Hid (L.length + 1 = (L ++ [((.slice aX x cX, X, e * t) : FacE)]).length) := by show _ = _; simp
              have HR6 : Hid (∃ l1 f' l', Q.takeAll p t (Ps.drop (j + 1)) F' = some (l1, f') ∧ Q.factLoop p g t f' = some l' ∧ fin = strip (L ++ [((.slice aX x cX, X, e * t) : FacE)]) ++ (l1 ++ l')) := by
                obtain ⟨l1, f', l', d1, d2, d3⟩ := HR5.out
                exact ⟨l1, f', l', d1, d2, by rw [d3]; simp [strip]⟩
              obtain ⟨a6, c6, hv6, _⟩ := own_form hown6
              subst hv6
              have hm6 : L.length + 1 ≤ m + (j + 1) := by have := HM.out; omega
              clear hown6 hown6' hgrow6 HB5 HV5 HL5 HXS5 HB
              go_wp2_with (fail)
              go_roundg g2
              case measure => omega
              case rel => exact ⟨j + 1, k5, c5, L.length + 1, c6, _, _, F', _, rfl, rfl, by first | rfl | go_num, by omega, by omega, hk50, hm6, HK5, HM6, HV6, HP5, HL6, HT5, HB6, HR6⟩

end Go.Proofs.YtbehihanhfmmhaaGreat

namespace Go.Proofs.YtbehihanhfmmhaaGreat
open Go.RowKit
namespace Q

theorem takeAll_some {p : Nat} (hP : M.Pr p) (t : Nat) : ∀ (parts : List (List Nat)) (f : List Nat), (∀ M ∈ parts, Pol p M ∧ 2 ≤ M.length) → Pol p f → f.length ≠ 0 →
    ∃ l f', takeAll p t parts f = some (l, f') ∧ Pol p f' ∧ f'.length ≠ 0 ∧ f'.length ≤ f.length
  | [], f, _, hf, h0 => ⟨[], f, rfl, hf, h0, Nat.le_refl _⟩
  | X :: parts, f, hp, hf, h0 => by
    have hX := hp X (by simp)
    obtain ⟨e, f1, e1, e2, e3, e4⟩ := takeOut_some hP hX.1 hX.2 (f.length + 1) f 0 hf h0 (by omega)
    obtain ⟨l, f', d1, d2, d3, d4⟩ := takeAll_some hP t parts f1 (fun M hM => hp M (by simp [hM])) e2 e3
    exact ⟨(X, (0 + e) * t) :: l, f', by rw [takeAll, e1]; simp only; rw [d1], d2, d3, by omega⟩

theorem takeAll_less {p : Nat} (hP : M.Pr p) (t : Nat) {X : List Nat} {parts : List (List Nat)} {f : List Nat} (hp : ∀ M ∈ X :: parts, Pol p M ∧ 2 ≤ M.length) (hf : Pol p f) (h0 : f.length ≠ 0) (hd : Dv p X f) :
    ∃ l f', takeAll p t (X :: parts) f = some (l, f') ∧ Pol p f' ∧ f'.length ≠ 0 ∧ f'.length < f.length := by
  have hX := hp X (by simp)
  have hr : (divP p f X).2.length = 0 := by rw [(rem_nil_iff hP hf hX.1 (by omega)).2 hd]; rfl
  obtain ⟨q1, q2, q3⟩ := quot_len hP hf hX.1 hX.2 h0 hr
  obtain ⟨e, f1, e1, e2, e3, e4⟩ := takeOut_some hP hX.1 hX.2 f.length (divP p f X).1 1 q1 q2 q3
  have e5 : takeOut p X (f.length + 1) 0 f = some (1 + e, f1) := by rw [takeOut_step hr, e1]
  obtain ⟨l, f', d1, d2, d3, d4⟩ := takeAll_some hP t parts f1 (fun M hM => hp M (by simp [hM])) e2 e3
  exact ⟨(X, (1 + e) * t) :: l, f', by rw [takeAll, e5]; simp only; rw [d1], d2, d3, by omega⟩

theorem simple_dv {p : Nat} (hP : M.Pr p) {f : List Nat} (hf : Pol p f) (h2 : 2 ≤ f.length) (hd : (deriv p f).length ≠ 0) : Dv p (divP p f (gcdP p f (deriv p f))).1 f := by
  have hp := hP.1
  have hs := simple_ok hP hf h2 hd
  have G := gcdP_is hP hf (deriv_pol (p := p) (by omega) f)
  have D := div_is hP hf G.pol hs.2.2.2
  have hr := (rem_nil_iff hP hf G.pol hs.2.2.2).2 G.left
  refine ⟨_, G.pol, ?_⟩
  rw [D.val, hr, ev_nil, Px.add_zero, Px.mul_comm]

theorem factLoop_some {p : Nat} (hP : M.Pr p) : ∀ (n t : Nat) (f : List Nat), Pol p f → f.length ≠ 0 → f.length ≤ n → ∃ L, factLoop p n t f = some L
  | 0, t, f, _, h0, hl => by omega
  | n + 1, t, f, hf, h0, hl => by
    have hp := hP.1
    by_cases h1 : f.length ≤ 1
    · exact ⟨[], fact_small h1⟩
    · by_cases hd : (deriv p f).length = 0
      · rw [fact_root h1 hd]
        have hr := root_len p f
        have hlt : (f.length - 1) / p < f.length - 1 := Nat.div_lt_self (by omega) (by omega)
        exact factLoop_some hP n (t * p) _ (root_ok hP hf (by omega) hd) (by rw [hr]; exact Nat.succ_ne_zero _) (by rw [hr]; exact Nat.le_trans hlt (by omega))
      · have hs := simple_ok hP hf (by omega) hd
        have hsd := simple_dv hP hf (by omega) hd
        have hsum := splitP_sum hP hs.1 hs.2.1
        have hdv := splitP_dv hP hs.1 hs.2.1
        rw [factLoop, if_neg h1, if_neg hd]
        obtain ⟨Ps, hPs⟩ : ∃ Ps, Ps = splitP p (divP p f (gcdP p f (deriv p f))).1 := ⟨_, rfl⟩
        rw [← hPs] at hsum hdv ⊢
        cases Ps with
        | nil => exact absurd rfl hdv.2
        | cons X Ps =>
          obtain ⟨l, f', e1, e2, e3, e4⟩ := takeAll_less hP t (f := f) hsum.1 hf h0 ((hdv.1 X (by simp)).trans hP hsd)
          rw [e1]
          simp only
          obtain ⟨L, e5⟩ := factLoop_some hP n t f' e2 e3 (by omega)
          rw [e5]
          exact ⟨_, rfl⟩

end Q
end Go.Proofs.YtbehihanhfmmhaaGreat

namespace Go.Proofs.YtbehihanhfmmhaaGreat
open Go.RowKit

/-- What Factor returns: the last coefficient, and the sorted factors. -/
def RetF (p : Nat) (F : List Nat) (w : World) (x : Ending) (w' : World) : Prop :=
  ∃ (v' : Value) (L : List FacE) (fin : List (List Nat × Nat)), x = .returned (.tuple #[.int .i64 (F.getD (F.length - 1) 0 : Nat), v', .int .i64 0]) ∧ FcS w w' v' L ∧ Q.factLoop p 34 1 (Q.monicP p F) = some fin ∧ (strip L).Perm fin ∧ (strip L).Pairwise fun a b => ¬ Q.ordP b.1 a.1 < 0

set_option maxRecDepth 100000 in
set_option maxHeartbeats 2000000 in
theorem Factor_ok (p : Nat) (F : List Nat) (v : Value) (w : World) (hP : Hid (M.Pr p)) (hp2 : p ≤ 1021) (h1 : Hid (Rd w v 1 F.length (nats F))) (hF : Hid (Q.Pol p F)) (hl1 : F.length ≤ 33) (h0 : F.length ≠ 0) :
    Calls Tryz.prog 5 #[.int .i64 p, v] w (RetF p F w) := by
  have hp : 2 ≤ p := hP.out.1
  have hM := Lib.hid (rdM1 (T := 22) h1.out.zs)
  have hB : Hid (Below w.heap.size w (w.alloc (.cells #[v] 22))) := (Below.refl _ _).alloc (Nat.le_refl _) _
  have hls : Hid (∀ Z ∈ [up F], Z.length ≤ 1000000) := by intro Z hZ; simp at hZ; subst hZ; rw [up_length]; omega
  have ht : Hid (Args1 p (up F)) := args1_of hP.out hp2 hF.out hl1
  obtain ⟨_, a1, cap1, rfl, hcap, hcell⟩ := h1.out
  rcases hcell with h | ⟨b, rfl, hb, hc⟩
  · exact absurd h h0
  obtain ⟨n, hn⟩ : ∃ n, F.length = n + 1 := ⟨F.length - 1, by omega⟩
  obtain ⟨x, hx⟩ : ∃ x, x = F.getD (F.length - 1) 0 := ⟨_, rfl⟩
  have hcx : w.cell? ⟨b, n, none⟩ = some (.int .i64 (x : Int)) := by
    rw [hc _ _ (nats_get F n (by omega)), hx, show F.length - 1 = n by omega, Q.getD_get (by omega)]
  have HC : Hid (∀ W, Below w.heap.size w W → W.cell? ⟨b, n, none⟩ = some (.int .i64 (x : Int))) := fun W hW => (hW.cell (p := ⟨b, n, none⟩) hb).trans hcx
  have HN := Lib.hid (And.intro hn hx)
  have HR : Hid (∀ W, Below w.heap.size w W → Rd W (.slice (some ⟨b, 0, none⟩) (n + 1) cap1) 1 F.length (nats F)) := fun W hW => by rw [← hn]; exact h1.out.below hW (Nat.le_refl _)
  obtain ⟨fin, hfin⟩ := Q.factLoop_some hP.out 34 1 (Q.monicP p F) (Q.monic_is hP.out hF.out h0).1 (by rw [(Q.monic_is hP.out hF.out h0).2.2.1]; exact h0) (by rw [(Q.monic_is hP.out hF.out h0).2.2.1]; omega)
  have HFIN := Lib.hid hfin
  have hmo := Q.monic_is hP.out hF.out h0
  have HMP : Hid (Q.Pol p (Q.monicP p F)) := hmo.1
  have HML : Hid ((Q.monicP p F).length = n + 1) := hmo.2.2.1.trans hn
  rw [hn] at hM hB hl1 ⊢
  have hn1 : ((n + 1 : Nat) : Int) - 1 = (n : Int) := by omega
  have hz : (((n + 1 : Nat) : Int) == 0) = false := by rw [beq_eq_false_iff_ne]; omega
  have hz2 : ((n : Int) + 1 == 0) = false := by rw [beq_eq_false_iff_ne]; omega
  clear hc hcx hn hx hfin hmo h1 h0
  go_enter Tryz.func5, Tryz.ntmps5
  go_wp2_with (fail)
  refine (arePolys_yes p _ [up F] _ hM (by simp) hls ht).mono ?_
  rintro e w1 ⟨rfl, hB1⟩
  have HB := Lib.hid (hB.out.trans (hB1.mono (by simp)))
  have HR1 : Hid (Rd w1 (.slice (some ⟨b, 0, none⟩) (n + 1) cap1) 1 F.length (nats F)) := HR.out _ HB.out
  clear hB1 hM hB
  go_wp2_with (fail)
  refine (monic_ok p F _ _ hP hp2 HR1 hF (by have := HN.out.1; omega)).mono ?_
  rintro e w2 ⟨⟨v2, vc, rfl, hN2, hNc⟩, hB2⟩
  have HB2 := Lib.hid (HB.out.trans (hB2.mono HB.out.size))
  have HS2 : Hid (RowS w w2 v2 (Q.monicP p F)) := .inr (own_base hN2 HB.out.size)
  obtain ⟨a2, c2, hv2⟩ := hN2.rd.shape
  obtain ⟨a3, c3, hv3⟩ := hNc.rd.shape
  subst hv2 hv3
  have HCx : Hid (w2.cell? ⟨b, n, none⟩ = some (.int .i64 (x : Int))) := HC.out _ HB2.out
  have hcell2 := HC.out _ HB2.out
  have HFW : Hid (∀ k, Below w.heap.size w (w2.drewN k)) := fun k => below_drewN HB2.out k
  have HSW : Hid (∀ k, RowS w (w2.drewN k) (.slice a2 (Q.monicP p F).length c2) (Q.monicP p F)) := fun k => HS2.out.low (below_drewN (Below.refl _ _) k)
  rw [HML.out] at HSW ⊢
  clear hN2 hNc hB2 HB HR1
  have hwn : IntKind.i64.wrap (n : Int) = (n : Int) := IntWalk.i64_in _ (by omega)
  have hnn : n < n + 1 := Nat.lt_succ_self n
  have hnn2 : (n : Int) < (n : Int) + 1 := by omega
  have hcl : ((n : Int) + 1 - 1) = (n : Int) := by omega
  go_wp2_with (fail)
  go_region_held3 (fun w' => w'.cell? ⟨b, n, none⟩ = some (.int .i64 (x : Int))) (go_keep)
    (first
      | (go_at_call 16; refine (factLoop_walk p 34 (Q.monicP p F) _ w _ fin hP hp2 (HSW.out _) (HFW.out _) HMP (by rw [HML.out]; omega) (by rw [HML.out]; omega) (by omega) HFIN).mono ?_; rintro e w5 ⟨v5, L5, rfl, hF5, hP5, hS5⟩; obtain ⟨a5, c5, hv5, _⟩ := own_form hF5.own; subst hv5; have k5 := HC.out _ hF5.below; have HQ5 := Lib.hid (And.intro hF5 (And.intro hP5 hS5)); clear hF5 hP5 hS5))
  all_goals
    have hF6 := HQ5.out.1.low (show Below w5.heap.size w5 w5.drew from (Below.refl _ _).drew)
    go_wp2_with (fail)
    go_ret3
    have HX := HN.out.2
    refine ⟨.slice a5 L5.length c5, L5, fin, ?_, ?_, HFIN.out, HQ5.out.2.1, HQ5.out.2.2.imp fun h => by omega⟩
    · rw [← HX]; rfl
    · first | exact hF6 | exact HQ5.out.1

end Go.Proofs.YtbehihanhfmmhaaGreat

namespace Go.Proofs.YtbehihanhfmmhaaGreat
namespace Q
variable {p : Nat}

def scaleL (p : Nat) (f : List Nat) (c : Nat) : List Nat := f.map fun x => x * c % p
def scaleP (p : Nat) (f : List Nat) (c : Nat) : List Nat := trim (scaleL p f c)

theorem scaleL_length (p : Nat) (f : List Nat) (c : Nat) : (scaleL p f c).length = f.length := by simp [scaleL]
theorem scaleL_getD (p : Nat) (f : List Nat) (c i : Nat) : (scaleL p f c).getD i 0 = f.getD i 0 * c % p := by
  simp only [scaleL, List.getD_eq_getElem?_getD, List.getElem?_map]
  cases f[i]? <;> simp
theorem scaleL_red (hp : 0 < p) (f : List Nat) (c : Nat) : Red p (scaleL p f c) := by
  intro x hx
  obtain ⟨y, _, rfl⟩ := List.mem_map.1 hx
  exact Nat.mod_lt _ hp
theorem scaleP_pol (hp : 0 < p) (f : List Nat) (c : Nat) : Pol p (scaleP p f c) := (scaleL_red hp f c).trim
theorem scaleP_getD (p : Nat) (f : List Nat) (c i : Nat) : (scaleP p f c).getD i 0 = f.getD i 0 * c % p := by
  rw [scaleP, trim_getD, scaleL_getD]
theorem scaleP_le (p : Nat) (f : List Nat) (c : Nat) : (scaleP p f c).length ≤ f.length := by
  rw [scaleP, trim_length]; exact Nat.le_trans (trimLen_le _) (by rw [scaleL_length]; exact Nat.le_refl _)

theorem sub_mod_eq {a b : Nat} (hp : 2 ≤ p) (hb : b < p) : (a + b * (p - 1) % p) % p = (a + p - b) % p := by
  rw [Nat.add_mod_mod]
  rcases Nat.eq_zero_or_pos b with rfl | h0
  · simp
  · obtain ⟨c, rfl⟩ : ∃ c, b = c + 1 := ⟨b - 1, by omega⟩
    obtain ⟨q, rfl⟩ : ∃ q, p = q + 1 := ⟨p - 1, by omega⟩
    have e : a + (c + 1) * (q + 1 - 1) = (a + (q + 1) - (c + 1)) + c * (q + 1) := by
      rw [show q + 1 - 1 = q by omega, Nat.mul_add, Nat.mul_one, Nat.add_mul, Nat.one_mul]; omega
    rw [e, Nat.add_mul_mod_self_right]

theorem sub_is (hp : 2 ≤ p) (f : List Nat) {g : List Nat} (hg : Red p g) : sumP p f (scaleP p g (p - 1)) = difP p f g := by
  refine (pol_sum (by omega) _ _).ext (pol_dif (by omega) _ _) fun i => ?_
  rw [sum_getD, dif_getD, scaleP_getD]
  exact sub_mod_eq hp (hg.getD (by omega) i)

theorem ev_scale (f : List Nat) (c : Nat) : ev p (scaleP p f c) = ev p f * ev p [c] := by
  rw [Px.mul_comm]
  unfold ev
  rw [Px.mul_of]
  refine Px.eq fun i => ?_
  have h1 : cau (cf [c]) (cf f) i = (c : Int) * cf f i := by
    have h2 : cf [c] = fun k => if k = 0 then (c : Int) else 0 := by
      funext k; rcases k with _ | k <;> simp [cf]
    rw [h2, cau_mono, if_pos (Nat.zero_le _), Nat.sub_zero]
  rw [h1]
  obtain ⟨k, hk⟩ := natmod_eqv p (f.getD i 0 * c)
  refine ⟨k, ?_⟩
  unfold cf
  rw [scaleP_getD, hk, Int.natCast_mul, Int.mul_comm (c : Int)]

theorem scale_monic (hP : M.Pr p) {f : List Nat} (hf : Pol p f) (h0 : f.length ≠ 0) : scaleP p f (invM p (f.getD (f.length - 1) 0)) = monicP p f := by
  have hp : 0 < p := by have := hP.1; omega
  refine ev_inj hp (scaleP_pol hp _ _) (monic_is hP hf h0).1 ?_
  rw [ev_scale, (monic_is hP hf h0).2.2.2.1, monicC, if_neg h0]

theorem takeAway_none {i : Nat} {g rest : List Nat} (hr : Red p rest) : takeAway p 0 i g rest = rest := by
  refine List.ext_getElem (takeAway_length ..) fun k h1 h2 => ?_
  simp only [takeAway, List.getElem_mapIdx]
  split
  · simp only [Nat.sub_zero, Nat.add_mul_mod_self_left]; exact Nat.mod_eq_of_lt (hr _ (List.getElem_mem _))
  · rfl

/-- The reference's division: it takes away also what is zero. -/
def divLoopR (p inv : Nat) (g : List Nat) : Nat → List Nat → List Nat → List Nat × List Nat
  | 0, rest, q => (rest, q)
  | i + 1, rest, q => divLoopR p inv g i (takeAway p (rest.getD (i + (g.length - 1)) 0 * inv % p) i g rest) ((rest.getD (i + (g.length - 1)) 0 * inv % p) :: q)

theorem divLoopR_is (hp : 0 < p) (inv : Nat) (g : List Nat) : ∀ (i : Nat) (rest q : List Nat), Red p rest → divLoopR p inv g i rest q = divLoop p inv g i rest q
  | 0, _, _, _ => rfl
  | i + 1, rest, q, hr => by
    rw [divLoopR, divLoop]
    split
    · next h0 => rw [h0, takeAway_none hr]; exact divLoopR_is hp inv g i _ _ hr
    · exact divLoopR_is hp inv g i _ _ (takeAway_red hp hr)

theorem inv_unique (hP : M.Pr p) {a i : Nat} (ha : a < p) (h0 : a ≠ 0) (hi : i < p) (h : a * i % p = 1) : i = invM p a := by
  obtain ⟨h1, h2, _⟩ := inv_spec hP ha h0
  have e : i * (a * invM p a) % p = invM p a * (a * i) % p := by congr 1; ac_rfl
  rw [Nat.mul_mod, h2, Nat.mul_mod (invM p a), h] at e
  simpa [Nat.mod_eq_of_lt hi, Nat.mod_eq_of_lt h1] using e

end Q
end Go.Proofs.YtbehihanhfmmhaaGreat

namespace Go.Proofs.YtbehihanhfmmhaaGreat
namespace Q
variable {p : Nat}

structure Irr (p : Nat) (f : List Nat) : Prop where
  pol : Pol p f
  two : 2 ≤ f.length
  dv : ∀ d, Pol p d → Dv p d f → d.length = 1 ∨ d.length = f.length

theorem eq_prod (hP : M.Pr p) {f q d : List Nat} (hf : Pol p f) (hq : Pol p q) (hd : Pol p d) (e : ev p f = ev p q * ev p d) : f = prodP' p q d :=
  ev_inj (by have := hP.1; omega) hf (pol_prod hP hq hd) (by rw [ev_prod]; exact e)

theorem Dv.back (hP : M.Pr p) {d f : List Nat} (hd : Pol p d) (hf : Pol p f) (h0 : f.length ≠ 0) (hl : d.length = f.length) (h : Dv p d f) : Dv p f d := by
  obtain ⟨q, hq, e⟩ := h
  have e1 := eq_prod hP hf hq hd e
  have hq0 : q.length ≠ 0 := fun h => by rw [e1, prod_nil (.inl h)] at h0; simp at h0
  have h1 := prod_len (p := p) hq0 (show d.length ≠ 0 by omega)
  rw [← e1] at h1
  obtain ⟨c, rfl⟩ : ∃ c, q = [c] := by
    match q, h1 with
    | [c], _ => exact ⟨c, rfl⟩
    | [], _ => exact absurd rfl hq0
    | _ :: _ :: _, h1 => simp at h1; omega
  have hc : c < p := hq.red c (by simp)
  have hc0 : c ≠ 0 := by have := hq.ne (by simp); simpa using this
  have hi := inv_spec hP hc hc0
  refine ⟨[invM p c], pol_const hi.1 hi.2.2, ?_⟩
  rw [e, ← Px.mul_assoc, ev_const_mul _ _ (by rw [Nat.mul_comm]; exact hi.2.1), Px.one_mul]

theorem mon_len1 {d : List Nat} (h : Mon d) (hl : d.length = 1) : d = [1] := by
  match d, hl with
  | [c], _ => have := h.2; simp at this; rw [this]

theorem Irr.ne {f : List Nat} (h : Irr p f) : f.length ≠ 0 := by have := h.two; omega

theorem Irr.gcd (hP : M.Pr p) {f g : List Nat} (h : Irr p f) (hg : Pol p g) : Dv p f g ∨ gcdP p f g = [1] := by
  have G := gcdP_is hP h.pol hg
  have h0 := h.ne
  have hne : gcdP p f g ≠ [] := fun e => by have := (G.zero.1 e).1; rw [this] at h0; simp at h0
  have hm := G.mon.resolve_left hne
  rcases h.dv _ G.pol G.left with h1 | h1
  · exact .inr (mon_len1 hm h1)
  · exact .inl ((Dv.back hP G.pol h.pol h0 h1 G.left).trans hP G.right)

theorem Irr.bez (hP : M.Pr p) {f g : List Nat} (h : Irr p f) (hg : Pol p g) (hn : ¬ Dv p f g) : ∃ a b, Pol p a ∧ Pol p b ∧ (1 : Px p) = ev p a * ev p f + ev p b * ev p g := by
  obtain ⟨a, b, ha, hb, e⟩ := (gcdP_is hP h.pol hg).comb
  rw [(h.gcd hP hg).resolve_left hn, ev_one] at e
  exact ⟨a, b, ha, hb, e⟩

theorem Irr.prime (hP : M.Pr p) {f g k : List Nat} (h : Irr p f) (hg : Pol p g) (hk : Pol p k) (hd : Dv p f (prodP' p g k)) : Dv p f g ∨ Dv p f k := by
  by_cases hn : Dv p f g
  · exact .inl hn
  · right
    obtain ⟨a, b, ha, hb, e⟩ := h.bez hP hg hn
    obtain ⟨q, hq, e2⟩ := hd
    rw [ev_prod] at e2
    refine ⟨sumP p (prodP' p a k) (prodP' p b q), pol_sum (by have := hP.1; omega) _ _, ?_⟩
    rw [ev_sum, ev_prod, ev_prod, Px.add_mul]
    calc ev p k = (ev p a * ev p f + ev p b * ev p g) * ev p k := by rw [← e, Px.one_mul]
      _ = ev p a * ev p k * ev p f + ev p b * (ev p g * ev p k) := by rw [Px.add_mul]; ac_rfl
      _ = ev p a * ev p k * ev p f + ev p b * ev p q * ev p f := by rw [e2]; ac_rfl

/-- The product of a list of polynomials. -/
def prodL (p : Nat) : List (List Nat) → List Nat
  | [] => [1]
  | f :: l => prodP' p f (prodL p l)

theorem pol_one (hP : M.Pr p) : Pol p [1] := pol_const (by have := hP.1; omega) (by omega)

theorem prodL_pol (hP : M.Pr p) : ∀ {l : List (List Nat)}, (∀ f ∈ l, Pol p f) → Pol p (prodL p l)
  | [], _ => pol_one hP
  | f :: l, h => pol_prod hP (h f (by simp)) (prodL_pol hP fun g hg => h g (by simp [hg]))

theorem ev_prodL_cons (f : List Nat) (l : List (List Nat)) : ev p (prodL p (f :: l)) = ev p f * ev p (prodL p l) := by rw [prodL, ev_prod]

theorem ev_prodL_append : ∀ (l k : List (List Nat)), ev p (prodL p (l ++ k)) = ev p (prodL p l) * ev p (prodL p k)
  | [], k => by rw [List.nil_append, prodL, ev_one, Px.one_mul]
  | f :: l, k => by rw [List.cons_append, ev_prodL_cons, ev_prodL_cons, ev_prodL_append l k, Px.mul_assoc]

theorem ev_prodL_perm {l k : List (List Nat)} (h : l.Perm k) : ev p (prodL p l) = ev p (prodL p k) := by
  induction h with
  | nil => rfl
  | cons x _ ih => rw [ev_prodL_cons, ev_prodL_cons, ih]
  | swap x y l => rw [ev_prodL_cons, ev_prodL_cons, ev_prodL_cons, ev_prodL_cons]; ac_rfl
  | trans _ _ ih1 ih2 => exact ih1.trans ih2

theorem dv_one (hP : M.Pr p) {f : List Nat} (hf : Pol p f) (h : Dv p f [1]) : f.length = 1 := by
  have h1 := h.len hP hf (pol_one hP) (by simp)
  simp at h1; have h2 := h1.2; have h3 := h1.1
  have : f.length ≠ 0 := by simpa using h2
  omega

theorem Irr.dv_prodL (hP : M.Pr p) {f : List Nat} (h : Irr p f) : ∀ {l : List (List Nat)}, (∀ g ∈ l, Pol p g) → Dv p f (prodL p l) → ∃ g ∈ l, Dv p f g
  | [], _, hd => by have := dv_one hP h.pol hd; have := h.two; omega
  | g :: l, hl, hd => by
    rcases h.prime hP (hl g (by simp)) (prodL_pol hP fun k hk => hl k (by simp [hk])) hd with h1 | h1
    · exact ⟨g, by simp, h1⟩
    · obtain ⟨k, hk, h2⟩ := h.dv_prodL hP (fun k hk => hl k (by simp [hk])) h1
      exact ⟨k, by simp [hk], h2⟩

theorem dv_prodL_mem (hP : M.Pr p) {l : List (List Nat)} (hl : ∀ g ∈ l, Pol p g) {g : List Nat} (hg : g ∈ l) : Dv p g (prodL p l) := by
  obtain ⟨s, t, rfl⟩ := List.append_of_mem hg
  have hpol : Pol p (prodL p (s ++ t)) := prodL_pol hP fun k hk => hl k (by simp at hk ⊢; rcases hk with h | h <;> simp [h])
  refine ⟨prodL p (s ++ t), hpol, ?_⟩
  rw [ev_prodL_append, ev_prodL_append, ev_prodL_cons]; ac_rfl

/-- Monic and irreducible. -/
structure MIrr (p : Nat) (f : List Nat) : Prop where
  irr : Irr p f
  mon : Mon f

theorem MIrr.eq (hP : M.Pr p) {f g : List Nat} (hf : MIrr p f) (hg : MIrr p g) (h : Dv p f g) : f = g := by
  rcases hg.irr.dv f hf.irr.pol h with h1 | h1
  · have := hf.irr.two; omega
  · exact mon_unique hP hf.irr.pol hg.irr.pol hf.mon hg.mon h (Dv.back hP hf.irr.pol hg.irr.pol hg.irr.ne h1 h)

theorem ev_ne (hP : M.Pr p) {f : List Nat} (hf : Pol p f) (h0 : f.length ≠ 0) : ev p f ≠ 0 := fun e => by
  have := (ev_zero_iff (by have := hP.1; omega) hf).1 e
  rw [this] at h0; simp at h0

theorem MIrr.cancel (hP : M.Pr p) {f a b : List Nat} (hf : Irr p f) (ha : Pol p a) (hb : Pol p b) (e : ev p f * ev p a = ev p f * ev p b) : a = b :=
  mul_cancel hP ha hb hf.pol (fun e => by have := hf.ne; rw [e] at this; simp at this) (by rw [Px.mul_comm, e, Px.mul_comm])

/-- Unique factorization. -/
theorem fac_perm (hP : M.Pr p) : ∀ {l k : List (List Nat)}, (∀ f ∈ l, MIrr p f) → (∀ f ∈ k, MIrr p f) → ev p (prodL p l) = ev p (prodL p k) → l.Perm k
  | [], [], _, _, _ => .nil
  | [], g :: k, _, hk, e => by
    exfalso
    have h1 := dv_prodL_mem hP (fun f hf => (hk f hf).irr.pol) (List.mem_cons_self (a := g) (l := k))
    obtain ⟨q, hq, e1⟩ := h1
    have := dv_one hP (hk g (by simp)).irr.pol ⟨q, hq, by rw [← e1, ← e]; rfl⟩
    have := (hk g (by simp)).irr.two
    omega
  | f :: l, k, hl, hk, e => by
    have hf := hl f (by simp)
    have h1 : Dv p f (prodL p k) := by
      obtain ⟨q, hq, e1⟩ := dv_prodL_mem hP (fun f hf => (hl f hf).irr.pol) (List.mem_cons_self (a := f) (l := l))
      exact ⟨q, hq, by rw [← e, e1]⟩
    obtain ⟨g, hg, h2⟩ := hf.irr.dv_prodL hP (fun g hg => (hk g hg).irr.pol) h1
    obtain rfl := hf.eq hP (hk g hg) h2
    obtain ⟨s, t, rfl⟩ := List.append_of_mem hg
    have hst : ∀ x ∈ s ++ t, MIrr p x := fun x hx => hk x (by simp at hx ⊢; rcases hx with h | h <;> simp [h])
    have h3 : prodL p l = prodL p (s ++ t) := by
      refine MIrr.cancel hP hf.irr (prodL_pol hP fun x hx => (hl x (by simp [hx])).irr.pol) (prodL_pol hP fun x hx => (hst x hx).irr.pol) ?_
      rw [← ev_prodL_cons, e, ev_prodL_append, ev_prodL_cons, ev_prodL_append]; ac_rfl
    have h4 := fac_perm hP (fun x hx => hl x (by simp [hx])) hst (congrArg (ev p) h3)
    exact (h4.cons f).trans List.perm_middle.symm

/-- Every polynomial of at least degree 1 has an irreducible divisor. -/
theorem exists_irr (hP : M.Pr p) : ∀ (n : Nat) {f : List Nat}, f.length ≤ n → Pol p f → 2 ≤ f.length → ∃ g, MIrr p g ∧ Dv p g f
  | 0, f, h, _, h2 => by omega
  | n + 1, f, h, hf, h2 => by
    by_cases hi : Irr p f
    · have hm := monic_is hP hf (by omega)
      refine ⟨monicP p f, ⟨⟨hm.1, by omega, fun d hd hdv => ?_⟩, hm.2.1⟩, hm.2.2.2.2.2⟩
      rw [hm.2.2.1]
      exact hi.dv d hd (hdv.trans hP hm.2.2.2.2.2)
    · obtain ⟨d, hd, hdv, h1⟩ : ∃ d, Pol p d ∧ Dv p d f ∧ ¬ (d.length = 1 ∨ d.length = f.length) := by
        refine Classical.byContradiction fun hc => hi ⟨hf, h2, fun d hd hdv => Classical.byContradiction fun h3 => hc ⟨d, hd, hdv, h3⟩⟩
      have h3 := hdv.len hP hd hf (by omega)
      obtain ⟨g, hg, hgd⟩ := exists_irr hP n (show d.length ≤ n by omega) hd (by omega)
      exact ⟨g, hg, hgd.trans hP hdv⟩

theorem mon_prod (hP : M.Pr p) {f g : List Nat} (hf : Pol p f) (hg : Pol p g) (mf : Mon f) (mg : Mon g) : Mon (prodP' p f g) := by
  have h1 := prod_len (p := p) mf.1 mg.1
  have h0 := mf.1
  have h0' := mg.1
  refine ⟨by omega, ?_⟩
  have h2 := prod_getD p f g (f.length + g.length - 2)
  rw [cau_top mf.1 mg.1] at h2
  unfold cf at h2
  rw [mf.2, mg.2] at h2
  rw [show (prodP' p f g).length - 1 = f.length + g.length - 2 by have := mf.1; have := mg.1; omega]
  have h3 : (1 : Int) % (p : Int) = 1 := Int.emod_eq_of_lt (by omega) (by have := hP.1; omega)
  simp only [Int.natCast_one, Int.one_mul] at h2
  rw [h3] at h2
  exact_mod_cast h2

theorem mon_cofactor (hP : M.Pr p) {f g q : List Nat} (hg : Pol p g) (hq : Pol p q) (mf : Mon f) (mg : Mon g) (e : f = prodP' p q g) : Mon q := by
  have hq0 : q.length ≠ 0 := fun h => by have := mf.1; rw [e, prod_nil (.inl h)] at this; simp at this
  refine ⟨hq0, ?_⟩
  have h1 := prod_len (p := p) hq0 mg.1
  have h2 := prod_getD p q g (q.length + g.length - 2)
  rw [cau_top hq0 mg.1] at h2
  unfold cf at h2
  rw [mg.2, ← e, show q.length + g.length - 2 = f.length - 1 by rw [← e] at h1; omega, mf.2] at h2
  have h4 := hq.red.getD (by have := hP.1; omega) (q.length - 1)
  rw [Int.natCast_one, Int.mul_one, Int.emod_eq_of_lt (by omega) (by omega)] at h2
  exact_mod_cast h2.symm

/-- Every monic polynomial is a product of irreducible ones. -/
theorem exists_fac (hP : M.Pr p) : ∀ (n : Nat) {f : List Nat}, f.length ≤ n → Pol p f → Mon f → ∃ l, (∀ g ∈ l, MIrr p g) ∧ ev p f = ev p (prodL p l)
  | 0, f, h, _, m => by have := m.1; omega
  | n + 1, f, h, hf, m => by
    by_cases h1 : f.length = 1
    · exact ⟨[], by simp, by rw [mon_len1 m h1]; rfl⟩
    · obtain ⟨g, hg, q, hq, e⟩ := exists_irr hP f.length (Nat.le_refl _) hf (by have := m.1; omega)
      have e1 := eq_prod hP hf hq hg.irr.pol e
      have mq := mon_cofactor hP hg.irr.pol hq m hg.mon e1
      have h2 := prod_len (p := p) mq.1 hg.irr.ne
      rw [← e1] at h2
      have h3 := hg.irr.two
      obtain ⟨l, hl, e2⟩ := exists_fac hP n (show q.length ≤ n by omega) hq mq
      exact ⟨g :: l, fun x hx => (List.mem_cons.1 hx).elim (fun h => h ▸ hg) (hl x), by rw [ev_prodL_cons, e, e2, Px.mul_comm]⟩

end Q
end Go.Proofs.YtbehihanhfmmhaaGreat

namespace Go.Proofs.YtbehihanhfmmhaaGreat
namespace Q
variable {p : Nat}

theorem val_trim (hP : M.Pr p) {a : Nat} (ha : a ≤ p) {f : List Nat} (hf : Red p f) : valP p (trim f) a = valP p f a := by
  obtain ⟨q, hq, e⟩ := val_div' hP ha f
  exact val_of hP ha (val_lt (by have := hP.1; omega) f a) hf.trim hq (by rw [ev_trim]; exact e)

theorem val_scale (hP : M.Pr p) {a : Nat} (ha : a ≤ p) (f : List Nat) (c : Nat) : valP p (scaleP p f c) a = valP p f a * c % p := by
  have hp : 0 < p := by have := hP.1; omega
  obtain ⟨q, hq, e⟩ := val_div' hP ha f
  refine val_of hP ha (Nat.mod_lt _ hp) (scaleP_pol hp f c) (q := scaleP p q c) (scaleP_pol hp q c) ?_
  rw [ev_scale, ev_scale, e, Px.add_mul, ev_const_congr (c := valP p f a * c % p) (d := valP p f a * c) (Nat.mod_mod _ _), ← ev_const_mul']
  ac_rfl

theorem val_const (hp : 0 < p) (c a : Nat) (h : c < p) : valP p [c] a = c := by
  simp [valP, Nat.mod_eq_of_lt h]

theorem mul_ne (hP : M.Pr p) {a b : Nat} (ha : a < p) (hb : b < p) (h1 : a ≠ 0) (h2 : b ≠ 0) : a * b % p ≠ 0 := fun h => by
  rcases (fld_of hP).2 a b ha hb h with h | h
  · exact h1 h
  · exact h2 h

/-! ### The program's way -/
/-- One more point. -/
def thrStep (p : Nat) (f z : List Nat) (x y : Nat) : List Nat × List Nat :=
  let t := (y + p - valP p f x) * invM p (valP p z x) % p
  (sumP p f (trim (prodP' p z [t])), prodP' p z (lin p x))

structure Thr (p : Nat) (L : List (Nat × Nat)) (f z : List Nat) : Prop where
  fpol : Pol p f
  zpol : Pol p z
  flen : f.length ≤ L.length
  zlen : z.length = L.length + 1
  fval : ∀ q ∈ L, valP p f q.1 = q.2
  zval : ∀ q ∈ L, valP p z q.1 = 0
  zno : ∀ x, x < p → (∀ q ∈ L, q.1 ≠ x) → valP p z x ≠ 0

theorem Thr.start (hP : M.Pr p) : Thr p [] [] [1] where
  fpol := Pol.nil p
  zpol := pol_const (by have := hP.1; omega) (by omega)
  flen := by simp
  zlen := rfl
  fval := by simp
  zval := by simp
  zno := fun x _ _ => by rw [val_const (by have := hP.1; omega) 1 x (by have := hP.1; omega)]; omega

theorem Thr.step (hP : M.Pr p) {L : List (Nat × Nat)} {f z : List Nat} (h : Thr p L f z) (hL : ∀ q ∈ L, q.1 < p) {x y : Nat} (hx : x < p) (hy : y < p) (hn : ∀ q ∈ L, q.1 ≠ x) :
    Thr p (L ++ [(x, y)]) (thrStep p f z x y).1 (thrStep p f z x y).2 := by
  have h2 := hP.1
  have hp : 0 < p := by omega
  obtain ⟨t, ht⟩ : ∃ t, t = (y + p - valP p f x) * invM p (valP p z x) % p := ⟨_, rfl⟩
  have htp : t < p := by rw [ht]; exact Nat.mod_lt _ hp
  have hv := val_lt hp f x
  have hz := val_lt hp z x
  have hz0 := h.zno x hx hn
  have hinv := inv_spec hP hz hz0
  have htr : trim (prodP' p z [t]) = prodP' p z (trim [t]) ∨ t = 0 := by
    by_cases h0 : t = 0
    · exact .inr h0
    · left
      rw [trim_of_pol (pol_const htp h0), trim_of_pol (pol_prod hP h.zpol (pol_const htp h0))]
  have hTpol : Pol p (trim (prodP' p z [t])) := (red_prod hp _ _).trim
  have hTval : ∀ a, a < p → valP p (trim (prodP' p z [t])) a = valP p z a * t % p := fun a ha => by
    rcases htr with e | e
    · rw [e, val_prod hP (by omega) h.zpol (pol_trim1 hp t htp), val_trim hP (by omega) (by intro x hx; simp at hx; omega), val_const hp t a htp]
    · rw [val_trim hP (by omega) (red_prod hp _ _), e]
      obtain ⟨q, hq, ee⟩ := val_div' hP (show a ≤ p by omega) (prodP' p z [0])
      have e0 : ev p (prodP' p z [0]) = 0 := by rw [ev_prod, ev_const_zero, Px.mul_zero]
      have h3 := val_of hP (show a ≤ p by omega) (val_lt hp (prodP' p z [0]) a) (Pol.nil p) hq (by rw [ev_nil, ← e0]; exact ee)
      rw [← h3]
      simp [valP]
  have hTlen : (trim (prodP' p z [t])).length ≤ L.length + 1 := by
    have h3 := trimLen_le (prodP' p z [t])
    have h4 : (prodP' p z [t]).length = z.length := by
      rw [prod_length (by rw [h.zlen]; omega) (by simp)]; simp
    rw [trim_length, ← h.zlen]; omega
  have hlin := pol_lin (p := p) h2 x
  have e1 : (thrStep p f z x y).1 = sumP p f (trim (prodP' p z [t])) := by rw [ht]; rfl
  have e2 : (thrStep p f z x y).2 = prodP' p z (lin p x) := rfl
  rw [e1, e2]
  refine ⟨pol_sum hp _ _, pol_prod hP h.zpol hlin, ?_, ?_, ?_, ?_, ?_⟩
  · have h3 := sum_len hp (f := f) (g := trim (prodP' p z [t]))
    have h4 := h.flen
    simp; omega
  · have h3 := prod_len (p := p) (f := z) (g := lin p x) (by rw [h.zlen]; omega) (by simp [lin])
    have h4 := h.zlen
    simp [lin] at h3 ⊢; omega
  · intro q hq
    rw [List.mem_append] at hq
    rcases hq with hq | hq
    · have hqp := hL q hq
      rw [val_sum hP (by omega), hTval _ hqp, h.zval q hq, h.fval q hq, Nat.zero_mul, Nat.zero_mod, Nat.add_zero, Nat.mod_eq_of_lt]
      rw [← h.fval q hq]; exact val_lt hp _ _
    · simp at hq
      subst hq
      simp only
      rw [val_sum hP (by omega), hTval _ hx, ht, Nat.add_mod_mod]
      have e3 : valP p z x * ((y + p - valP p f x) * invM p (valP p z x) % p) % p = (y + p - valP p f x) % p := by
        rw [Nat.mul_mod_mod, show valP p z x * ((y + p - valP p f x) * invM p (valP p z x)) = (y + p - valP p f x) * (valP p z x * invM p (valP p z x)) by ac_rfl, Nat.mul_mod, hinv.2.1, Nat.mul_one, Nat.mod_mod]
      rw [Nat.add_mod, e3, ← Nat.add_mod, show valP p f x + (y + p - valP p f x) = y + p by omega, Nat.add_mod_right, Nat.mod_eq_of_lt hy]
  · intro q hq
    rw [List.mem_append] at hq
    rcases hq with hq | hq
    · have hqp := hL q hq
      rw [val_prod hP (by omega) h.zpol hlin, h.zval q hq, Nat.zero_mul, Nat.zero_mod]
    · simp at hq
      subst hq
      simp only
      rw [val_prod hP (by omega) h.zpol hlin, val_lin hP (by omega) hx, show x + (p - x) = p by omega, Nat.mod_self, Nat.mul_zero, Nat.zero_mod]
  · intro u hu hnu
    rw [val_prod hP (by omega) h.zpol hlin]
    have h3 := h.zno u hu (fun q hq => hnu q (List.mem_append_left _ hq))
    have h4 := val_lin_ne hP hx hu (fun e => hnu (x, y) (List.mem_append_right _ (by simp)) e.symm)
    exact mul_ne hP (val_lt hp _ _) (val_lt hp _ _) h3 h4

def xAt (L : List (Nat × Nat)) (i : Nat) : Nat := (L.getD i (0, 0)).1
def yAt (L : List (Nat × Nat)) (i : Nat) : Nat := (L.getD i (0, 0)).2

/-- Good points. -/
structure Pts (p : Nat) (L : List (Nat × Nat)) : Prop where
  xs : ∀ i, i < L.length → xAt L i < p
  ys : ∀ i, i < L.length → yAt L i < p
  ne : ∀ i k, i < L.length → k < i → xAt L k ≠ xAt L i

/-- The program's polynomial and its zero behind k points. -/
def thrAt (p : Nat) (L : List (Nat × Nat)) : Nat → List Nat × List Nat
  | 0 => ([], [1])
  | k + 1 => thrStep p (thrAt p L k).1 (thrAt p L k).2 (xAt L k) (yAt L k)

theorem take_succ_pt {L : List (Nat × Nat)} {k : Nat} (h : k < L.length) : L.take (k + 1) = L.take k ++ [(xAt L k, yAt L k)] := by
  have e : (xAt L k, yAt L k) = L[k] := by simp [xAt, yAt, List.getD_eq_getElem?_getD, List.getElem?_eq_getElem h]
  rw [e, List.take_succ_eq_append_getElem h]

theorem mem_take_pt {L : List (Nat × Nat)} {k : Nat} {q : Nat × Nat} (h : q ∈ L.take k) : ∃ i, i < k ∧ i < L.length ∧ q.1 = xAt L i ∧ q.2 = yAt L i := by
  obtain ⟨i, h1, h2⟩ := List.mem_iff_getElem.1 h
  rw [List.length_take] at h1
  refine ⟨i, by omega, by omega, ?_, ?_⟩ <;> (rw [List.getElem_take] at h2; simp [xAt, yAt, List.getD_eq_getElem?_getD, List.getElem?_eq_getElem (show i < L.length by omega), h2])

theorem thrAt_is (hP : M.Pr p) {L : List (Nat × Nat)} (hL : Pts p L) : ∀ k, k ≤ L.length → Thr p (L.take k) (thrAt p L k).1 (thrAt p L k).2
  | 0, _ => by rw [List.take_zero]; exact Thr.start hP
  | k + 1, h => by
    rw [take_succ_pt (by omega)]
    refine (thrAt_is hP hL k (by omega)).step hP ?_ (hL.xs k (by omega)) (hL.ys k (by omega)) ?_
    · intro q hq
      obtain ⟨i, h1, h2, h3, _⟩ := mem_take_pt hq
      rw [h3]; exact hL.xs i h2
    · intro q hq
      obtain ⟨i, h1, h2, h3, _⟩ := mem_take_pt hq
      rw [h3]; exact hL.ne k i (by omega) h1

/-- A polynomial with the points' values is the program's. -/
theorem thr_unique (hP : M.Pr p) {L : List (Nat × Nat)} (hL : Pts p L) {g : List Nat} (hg : Pol p g) (hl : g.length ≤ L.length) (hv : ∀ i, i < L.length → valP p g (xAt L i) = yAt L i) : g = (thrAt p L L.length).1 := by
  have T := thrAt_is hP hL L.length (Nat.le_refl _)
  rw [List.take_length] at T
  have hx : ∀ (n : Nat), ((List.range n).map (xAt L)).length = n := by simp
  refine interp_unique hP (xs := (List.range L.length).map (xAt L)) hg T.fpol (by rw [hx]; exact hl) (by rw [hx]; exact T.flen) ?_ ?_
  · refine List.pairwise_iff_getElem.2 fun i j hi hj hij => ?_
    simp at hi hj ⊢
    exact hL.ne j i hj hij
  · intro x hx
    obtain ⟨i, hi, rfl⟩ := List.mem_map.1 hx
    have hi' := List.mem_range.1 hi
    refine ⟨hL.xs i hi', ?_⟩
    rw [hv i hi']
    have hm : L[i] ∈ L := List.getElem_mem hi'
    have h3 := T.fval L[i] hm
    have e1 : xAt L i = L[i].1 := by simp [xAt, List.getD_eq_getElem?_getD, List.getElem?_eq_getElem hi']
    have e2 : yAt L i = L[i].2 := by simp [yAt, List.getD_eq_getElem?_getD, List.getElem?_eq_getElem hi']
    rw [e1, e2, h3]

/-! ### The reference's way -/
def lagT (p : Nat) (L : List (Nat × Nat)) (i : Nat) : Nat → List Nat
  | 0 => [yAt L i]
  | k + 1 => if k = i then lagT p L i k else prodP' p (trim (lagT p L i k)) (lin p (xAt L k))
def lagB (p : Nat) (L : List (Nat × Nat)) (i : Nat) : Nat → Nat
  | 0 => 1
  | k + 1 => if k = i then lagB p L i k else lagB p L i k * (xAt L i + p - xAt L k) % p

theorem lagT_red (hp : 0 < p) {L : List (Nat × Nat)} {i : Nat} (hy : yAt L i < p) : ∀ k, Red p (lagT p L i k)
  | 0 => by intro x hx; simp [lagT] at hx; omega
  | k + 1 => by
    rw [lagT]; split
    · exact lagT_red hp hy k
    · exact red_prod hp _ _

theorem lagT_len {L : List (Nat × Nat)} {i : Nat} : ∀ k, (lagT p L i k).length ≤ k + 1 - (if i < k then 1 else 0)
  | 0 => by simp [lagT]
  | k + 1 => by
    have ih := lagT_len (L := L) (i := i) k
    rw [lagT]
    split
    · next h => subst h; rw [if_pos (by omega)]; rw [if_neg (by omega)] at ih; omega
    · next h =>
      have h1 := trimLen_le (lagT p L i k)
      rw [← trim_length] at h1
      by_cases h0 : (trim (lagT p L i k)).length = 0
      · rw [prod_nil (.inl h0)]; simp
      · rw [prod_length h0 (by simp [lin])]
        simp only [lin, List.length_cons, List.length_nil]
        by_cases hik : i < k
        · rw [if_pos hik] at ih; rw [if_pos (by omega)]; omega
        · rw [if_neg hik] at ih; rw [if_neg (by omega)]; omega

theorem lagB_lt (h2 : 2 ≤ p) {L : List (Nat × Nat)} {i : Nat} : ∀ k, lagB p L i k < p
  | 0 => by simp [lagB]; omega
  | k + 1 => by
    rw [lagB]; split
    · exact lagB_lt h2 k
    · exact Nat.mod_lt _ (by omega)

theorem lagB_ne (hP : M.Pr p) {L : List (Nat × Nat)} (hL : Pts p L) {i : Nat} (hi : i < L.length) : ∀ k, k ≤ L.length → lagB p L i k ≠ 0
  | 0, _ => by simp [lagB]
  | k + 1, h => by
    have h2 := hP.1
    rw [lagB]; split
    · exact lagB_ne hP hL hi k (by omega)
    · next hne =>
      have h3 := lagB_ne hP hL hi k (by omega)
      have h4 := hL.xs i hi
      have h5 := hL.xs k (by omega)
      have h6 : xAt L k ≠ xAt L i := by
        rcases Nat.lt_or_ge k i with h7 | h7
        · exact hL.ne i k hi h7
        · exact (hL.ne k i (by omega) (by omega)).symm
      rw [← Nat.mul_mod_mod]
      refine mul_ne hP (lagB_lt h2 k) (Nat.mod_lt _ (by omega)) h3 fun h0 => ?_
      rcases Nat.lt_or_ge (xAt L i) (xAt L k) with h7 | h7
      · rw [Nat.mod_eq_of_lt (by omega)] at h0; omega
      · rw [show xAt L i + p - xAt L k = (xAt L i - xAt L k) + p by omega, Nat.add_mod_right, Nat.mod_eq_of_lt (by omega)] at h0; omega

theorem lagT_val (hP : M.Pr p) {L : List (Nat × Nat)} (hL : Pts p L) {i : Nat} (hi : i < L.length) : ∀ k, k ≤ L.length → valP p (lagT p L i k) (xAt L i) = yAt L i * lagB p L i k % p
  | 0, _ => by
    have := hL.ys i hi
    rw [lagT, lagB, val_const (by have := hP.1; omega) _ _ this, Nat.mul_one, Nat.mod_eq_of_lt this]
  | k + 1, h => by
    have h2 := hP.1
    have ih := lagT_val hP hL hi k (by omega)
    rw [lagT, lagB]; split
    · exact ih
    · have h4 := hL.xs i hi
      have h5 := hL.xs k (by omega)
      have hr := lagT_red (p := p) (by omega) (hL.ys i hi) k
      rw [val_prod hP (by omega) hr.trim (pol_lin h2 _), val_trim hP (by omega) hr, ih, val_lin hP (by omega) h4]
      rw [← Nat.mul_mod, show xAt L i + (p - xAt L k) = xAt L i + p - xAt L k by omega, Nat.mul_mod_mod]
      congr 1
      rw [Nat.mul_assoc]

theorem lagT_zero (hP : M.Pr p) {L : List (Nat × Nat)} (hL : Pts p L) {i j : Nat} (hi : i < L.length) (hj : j < L.length) (hij : j ≠ i) : ∀ k, k ≤ L.length → j < k → valP p (lagT p L i k) (xAt L j) = 0
  | 0, _, h => by omega
  | k + 1, h, hk => by
    have h2 := hP.1
    have hxj := hL.xs j hj
    have hr := lagT_red (p := p) (by omega) (hL.ys i hi) k
    rw [lagT]; split
    · next e => exact lagT_zero hP hL hi hj hij k (by omega) (by omega)
    · next e =>
      have h5 := hL.xs k (by omega)
      rw [val_prod hP (by omega) hr.trim (pol_lin h2 _), val_trim hP (by omega) hr]
      by_cases hjk : j = k
      · subst hjk
        rw [val_lin hP (by omega) hxj, show xAt L j + (p - xAt L j) = p by omega, Nat.mod_self, Nat.mul_zero, Nat.zero_mod]
      · rw [lagT_zero hP hL hi hj hij k (by omega) (by omega), Nat.zero_mul, Nat.zero_mod]

def lagS (p : Nat) (L : List (Nat × Nat)) : Nat → List Nat
  | 0 => []
  | i + 1 => sumP p (lagS p L i) (scaleP p (lagT p L i L.length) (invM p (lagB p L i L.length)))

theorem lagS_pol (hp : 0 < p) (L : List (Nat × Nat)) : ∀ i, Pol p (lagS p L i)
  | 0 => Pol.nil p
  | _ + 1 => pol_sum hp _ _

theorem lagS_len (hp : 0 < p) (L : List (Nat × Nat)) : ∀ i, i ≤ L.length → (lagS p L i).length ≤ L.length
  | 0, _ => by simp [lagS]
  | i + 1, h => by
    have h1 := lagS_len hp L i (by omega)
    have h2 := sum_len hp (f := lagS p L i) (g := scaleP p (lagT p L i L.length) (invM p (lagB p L i L.length)))
    have h3 := scaleP_le p (lagT p L i L.length) (invM p (lagB p L i L.length))
    have h4 := lagT_len (p := p) (L := L) (i := i) L.length
    rw [if_pos (by omega)] at h4
    rw [lagS]; omega

theorem lagS_val (hP : M.Pr p) {L : List (Nat × Nat)} (hL : Pts p L) {j : Nat} (hj : j < L.length) : ∀ i, i ≤ L.length → valP p (lagS p L i) (xAt L j) = if j < i then yAt L j else 0
  | 0, _ => by simp [lagS, valP]
  | i + 1, h => by
    have h2 := hP.1
    have hxj := hL.xs j hj
    have hyj := hL.ys j hj
    have ih := lagS_val hP hL hj i (by omega)
    rw [lagS, val_sum hP (by omega), ih, val_scale hP (by omega)]
    by_cases hji : j = i
    · subst hji
      rw [if_neg (by omega), if_pos (by omega), Nat.zero_add, Nat.mod_mod, lagT_val hP hL hj _ (Nat.le_refl _)]
      have hB := inv_spec hP (lagB_lt h2 (L := L) (i := j) L.length) (lagB_ne hP hL hj _ (Nat.le_refl _))
      rw [Nat.mod_mul_mod, Nat.mul_assoc, Nat.mul_mod, hB.2.1, Nat.mul_one, Nat.mod_mod, Nat.mod_eq_of_lt hyj]
    · rw [lagT_zero hP hL (by omega) hj hji _ (Nat.le_refl _) hj, Nat.zero_mul, Nat.zero_mod, Nat.add_zero]
      by_cases h3 : j < i
      · rw [if_pos h3, if_pos (by omega), Nat.mod_eq_of_lt hyj]
      · rw [if_neg h3, if_neg (by omega), Nat.zero_mod]

theorem lag_is (hP : M.Pr p) {L : List (Nat × Nat)} (hL : Pts p L) : lagS p L L.length = (thrAt p L L.length).1 := by
  have hp : 0 < p := by have := hP.1; omega
  refine thr_unique hP hL (lagS_pol hp L _) (lagS_len hp L _ (Nat.le_refl _)) fun i hi => ?_
  rw [lagS_val hP hL hi _ (Nat.le_refl _), if_pos hi]

end Q
end Go.Proofs.YtbehihanhfmmhaaGreat

namespace Go.Proofs.YtbehihanhfmmhaaGreat
namespace Q
variable {p : Nat}

def pw (a : Px p) : Nat → Px p
  | 0 => 1
  | n + 1 => pw a n * a

theorem pw_zero (a : Px p) : pw a 0 = 1 := rfl
theorem pw_succ (a : Px p) (n : Nat) : pw a (n + 1) = pw a n * a := rfl
theorem pw_one (a : Px p) : pw a 1 = a := by rw [pw_succ, pw_zero, Px.one_mul]
theorem pw_add (a : Px p) (m : Nat) : ∀ n, pw a (m + n) = pw a m * pw a n
  | 0 => by rw [Nat.add_zero, pw_zero, Px.mul_one]
  | n + 1 => by rw [← Nat.add_assoc, pw_succ, pw_add a m n, pw_succ, Px.mul_assoc]
theorem pw_mul (a b : Px p) : ∀ n, pw (a * b) n = pw a n * pw b n
  | 0 => by rw [pw_zero, pw_zero, pw_zero, Px.one_mul]
  | n + 1 => by rw [pw_succ, pw_succ, pw_succ, pw_mul a b n]; ac_rfl
theorem pw_pw (a : Px p) (m : Nat) : ∀ n, pw (pw a m) n = pw a (m * n)
  | 0 => rfl
  | n + 1 => by rw [pw_succ, pw_pw a m n, Nat.mul_succ, pw_add]
theorem pw_zero' {n : Nat} (h : n ≠ 0) : pw (0 : Px p) n = 0 := by
  obtain ⟨k, rfl⟩ : ∃ k, n = k + 1 := ⟨n - 1, by omega⟩
  rw [pw_succ, Px.mul_zero]
theorem pw_const (c : Nat) : ∀ n, pw (ev p [c]) n = ev p [c ^ n]
  | 0 => by rw [pw_zero, Nat.pow_zero, ev_one]
  | n + 1 => by rw [pw_succ, pw_const c n, ev_const_mul', Nat.pow_succ]

/-- A sum of n elements. -/
def sx : Nat → (Nat → Px p) → Px p
  | 0, _ => 0
  | n + 1, F => sx n F + F n
theorem sx_congr {n : Nat} {F G : Nat → Px p} (h : ∀ i, i < n → F i = G i) : sx n F = sx n G := by
  induction n with
  | zero => rfl
  | succ n ih => rw [sx, sx, ih fun i hi => h i (by omega), h n (by omega)]
theorem sx_zero {n : Nat} {F : Nat → Px p} (h : ∀ i, i < n → F i = 0) : sx n F = 0 := by
  induction n with
  | zero => rfl
  | succ n ih => rw [sx, ih fun i hi => h i (by omega), h n (by omega), Px.add_zero]
theorem sx_add (n : Nat) (F G : Nat → Px p) : sx n (fun i => F i + G i) = sx n F + sx n G := by
  induction n with
  | zero => rw [sx, sx, sx, Px.add_zero]
  | succ n ih => rw [sx, sx, sx, ih]; ac_rfl
theorem sx_mul (n : Nat) (c : Px p) (F : Nat → Px p) : sx n (fun i => c * F i) = c * sx n F := by
  induction n with
  | zero => rw [sx, sx, Px.mul_zero]
  | succ n ih => rw [sx, sx, ih, Px.mul_add]
theorem sx_head (n : Nat) (F : Nat → Px p) : sx (n + 1) F = F 0 + sx n fun i => F (i + 1) := by
  induction n with
  | zero => rw [sx, sx, sx, Px.zero_add, Px.add_zero]
  | succ n ih => rw [sx, ih, sx, Px.add_assoc]

def chs : Nat → Nat → Nat
  | _, 0 => 1
  | 0, _ + 1 => 0
  | n + 1, k + 1 => chs n k + chs n (k + 1)
theorem chs_zero (n : Nat) : chs n 0 = 1 := by cases n <;> rfl
theorem chs_out : ∀ (n k : Nat), n < k → chs n k = 0
  | _, 0, h => by omega
  | 0, _ + 1, _ => rfl
  | n + 1, k + 1, h => by rw [chs, chs_out n k (by omega), chs_out n (k + 1) (by omega)]
theorem chs_self : ∀ n, chs n n = 1
  | 0 => rfl
  | n + 1 => by rw [chs, chs_self n, chs_out n (n + 1) (by omega)]
theorem chs_mul : ∀ (n k : Nat), (k + 1) * chs (n + 1) (k + 1) = (n + 1) * chs n k
  | 0, 0 => rfl
  | 0, k + 1 => by rw [chs_out 0 (k + 1) (by omega), chs_out (0 + 1) (k + 1 + 1) (by omega)]; simp
  | n + 1, 0 => by
    have h := chs_mul n 0
    have e : chs (n + 1 + 1) (0 + 1) = chs (n + 1) 0 + chs (n + 1) (0 + 1) := rfl
    rw [chs_zero] at h
    rw [e, chs_zero, Nat.mul_add, h]; omega
  | n + 1, k + 1 => by
    have h1 := chs_mul n k
    have h2 := chs_mul n (k + 1)
    have e : chs (n + 2) (k + 2) = chs (n + 1) (k + 1) + chs (n + 1) (k + 2) := rfl
    have e2 : chs (n + 1) (k + 1) = chs n k + chs n (k + 1) := rfl
    rw [e, Nat.mul_add, h2, show (k + 1 + 1) * chs (n + 1) (k + 1) = (k + 1) * chs (n + 1) (k + 1) + chs (n + 1) (k + 1) by rw [Nat.add_mul (k + 1), Nat.one_mul], h1, Nat.add_mul (n + 1) 1, Nat.one_mul, e2, Nat.mul_add]
    omega
theorem chs_prime (hP : M.Pr p) {k : Nat} (h0 : k ≠ 0) (h : k < p) : p ∣ chs p k := by
  obtain ⟨j, rfl⟩ : ∃ j, k = j + 1 := ⟨k - 1, by omega⟩
  obtain ⟨q, hq⟩ : ∃ q, p = q + 1 := ⟨p - 1, by omega⟩
  have h1 := chs_mul q j
  rw [← hq] at h1
  rcases hP.dvd_mul (⟨_, h1⟩ : p ∣ (j + 1) * chs p (j + 1)) with h2 | h2
  · exact absurd h2 (M.not_dvd_of_lt (by omega) h)
  · exact h2

theorem binomial (a b : Px p) : ∀ n, pw (a + b) n = sx (n + 1) fun k => ev p [chs n k] * (pw a k * pw b (n - k))
  | 0 => by rw [pw_zero, sx, sx, chs_zero, ev_one, pw_zero, pw_zero, Px.one_mul, Px.one_mul, Px.zero_add]
  | n + 1 => by
    rw [pw_succ, binomial a b n, Px.mul_add, Px.mul_comm _ a, Px.mul_comm _ b, ← sx_mul, ← sx_mul]
    rw [sx_head (n + 1), chs_zero, ev_one, pw_zero, Px.one_mul, Px.one_mul, Nat.sub_zero]
    have e1 : sx (n + 1) (fun i => ev p [chs (n + 1) (i + 1)] * (pw a (i + 1) * pw b (n + 1 - (i + 1)))) = sx (n + 1) (fun i => a * (ev p [chs n i] * (pw a i * pw b (n - i)))) + sx n (fun i => b * (ev p [chs n (i + 1)] * (pw a (i + 1) * pw b (n - (i + 1))))) := by
      have e2 : sx n (fun i => b * (ev p [chs n (i + 1)] * (pw a (i + 1) * pw b (n - (i + 1))))) = sx (n + 1) (fun i => ev p [chs n (i + 1)] * (pw a (i + 1) * pw b (n - i))) := by
        rw [sx, chs_out n (n + 1) (by omega), ev_const_zero, Px.zero_mul, Px.add_zero]
        refine sx_congr fun i hi => ?_
        have e4 : pw b (n - i) = pw b (n - (i + 1)) * b := by rw [← pw_succ, show n - (i + 1) + 1 = n - i by omega]
        rw [e4]; ac_rfl
      rw [e2, ← sx_add]
      refine sx_congr fun i hi => ?_
      rw [chs, ← ev_const_add, Px.add_mul, Nat.add_sub_add_right, pw_succ]; ac_rfl
    rw [e1, sx_head n fun i => b * (ev p [chs n i] * (pw a i * pw b (n - i))), chs_zero, ev_one, pw_zero, Px.one_mul, Px.one_mul, Nat.sub_zero, pw_succ]
    ac_rfl

theorem ev_const_dvd {c : Nat} (h : p ∣ c) : ev p [c] = 0 := by
  rw [← ev_const_zero (p := p)]; exact ev_const_congr (by rw [Nat.mod_eq_zero_of_dvd h, Nat.zero_mod])

theorem frob_add (hP : M.Pr p) (a b : Px p) : pw (a + b) p = pw a p + pw b p := by
  obtain ⟨q, hq⟩ : ∃ q, p = q + 1 := ⟨p - 1, by have := hP.1; omega⟩
  have h1 := binomial a b p
  have e3 : ∀ F : Nat → Px p, sx (p + 1) F = F 0 + (sx q (fun i => F (i + 1)) + F p) := fun F => by
    rw [sx_head, show sx p (fun i => F (i + 1)) = sx (q + 1) (fun i => F (i + 1)) by rw [← hq], sx, ← hq]
  rw [h1, e3, sx_zero (n := q), chs_zero, chs_self, ev_one, Nat.sub_self, pw_zero, pw_zero, Px.mul_one, Px.one_mul, Px.one_mul, Px.one_mul, Px.zero_add, Nat.sub_zero, Px.add_comm]
  intro i hi
  rw [ev_const_dvd (chs_prime hP (by omega) (by omega)), Px.zero_mul]

theorem frob_const (hP : M.Pr p) (c : Nat) : pw (ev p [c]) p = ev p [c] := by
  rw [pw_const]
  refine ev_const_congr ?_
  obtain ⟨q, hq⟩ : ∃ q, p = q + 1 := ⟨p - 1, by have := hP.1; omega⟩
  by_cases hd : p ∣ c
  · rw [Nat.mod_eq_zero_of_dvd hd, Nat.mod_eq_zero_of_dvd (Nat.dvd_trans hd (by rw [hq, Nat.pow_succ]; exact Nat.dvd_mul_left ..))]
  · have h1 := M.fermat hP hd
    have h2 : c ^ p = c ^ (p - 1) * c := by rw [← Nat.pow_succ]; congr 1; omega
    rw [h2, Nat.mul_mod, h1, Nat.one_mul, Nat.mod_mod]

/-- The value of f at u (Horner's way). -/
def hor (u : Px p) : List Nat → Px p
  | [] => 0
  | c :: f => ev p [c] + u * hor u f

theorem hor_x : ∀ f : List Nat, hor (xX p) f = ev p f
  | [] => ev_nil.symm
  | c :: f => by rw [hor, hor_x f, ← ev_cons]

theorem frob_hor (hP : M.Pr p) (u : Px p) : ∀ f : List Nat, pw (hor u f) p = hor (pw u p) f
  | [] => by rw [hor, hor, pw_zero' (by have := hP.1; omega)]
  | c :: f => by rw [hor, hor, frob_add hP, frob_const hP, pw_mul, frob_hor hP u f]

theorem hor_const (a : Nat) : ∀ f : List Nat, hor (ev p [a]) f = ev p [valP p f a]
  | [] => by rw [hor]; exact ev_const_zero.symm
  | c :: f => by
    rw [hor, hor_const a f, ev_const_mul', ev_const_add, val_cons]
    exact ev_const_congr (by rw [Nat.mod_mod]; congr 1; rw [Nat.add_comm, Nat.mul_comm])

/-- The quotient by the root a (synthetic division). -/
def qS (p a : Nat) : List Nat → List Nat
  | [] => []
  | [_] => []
  | _ :: d :: f => valP p (d :: f) a :: qS p a (d :: f)

theorem qS_len (a : Nat) : ∀ f : List Nat, (qS p a f).length = f.length - 1
  | [] => rfl
  | [_] => rfl
  | _ :: d :: f => by rw [qS, List.length_cons, qS_len a (d :: f)]; simp

theorem qS_last (h2 : 2 ≤ p) (a : Nat) : ∀ f : List Nat, 2 ≤ f.length → f.getLast? = some 1 → (qS p a f).getLast? = some 1
  | [], h, _ => by simp at h
  | [_], h, _ => by simp at h
  | [c, d], _, h => by
    simp at h; subst h
    simp [qS, valP, Nat.mod_eq_of_lt (show 1 < p by omega)]
  | c :: d :: e :: f, _, h => by
    have h1 := qS_last h2 a (d :: e :: f) (by simp) (by simpa using h)
    have e1 : qS p a (c :: d :: e :: f) = valP p (d :: e :: f) a :: qS p a (d :: e :: f) := rfl
    rw [e1, List.getLast?_cons, h1]; rfl

theorem hor_qS (u : Px p) (a : Nat) : ∀ f : List Nat, hor u f = hor u (qS p a f) * (u - ev p [a]) + ev p [valP p f a]
  | [] => by rw [qS, hor, Px.zero_mul, Px.zero_add]; exact ev_const_zero.symm
  | [c] => by
    rw [qS, hor, hor, hor, Px.mul_zero, Px.add_zero, Px.zero_mul, Px.zero_add]
    exact ev_const_congr (by simp [valP])
  | c :: d :: f => by
    have ih := hor_qS u a (d :: f)
    obtain ⟨g, hg⟩ : ∃ g, g = d :: f := ⟨_, rfl⟩
    rw [← hg] at ih
    have e1 : qS p a (c :: d :: f) = valP p g a :: qS p a g := by rw [hg]; rfl
    have e2 : ev p [valP p (c :: g) a] = ev p [valP p g a] * ev p [a] + ev p [c] := by
      rw [val_cons, ev_const_mul', ev_const_add]; exact ev_const_congr (Nat.mod_mod _ _)
    rw [e1, ← hg, hor, ih, hor, e2]
    rw [Px.mul_sub, Px.mul_sub]
    have e3 : u * (hor u (qS p a g) * u - hor u (qS p a g) * ev p [a] + ev p [valP p g a]) = u * hor u (qS p a g) * u - u * hor u (qS p a g) * ev p [a] + u * ev p [valP p g a] := by
      rw [Px.mul_add, Px.mul_sub, ← Px.mul_assoc, ← Px.mul_assoc]
    rw [e3, Px.add_mul, Px.add_mul, Px.sub_def, Px.sub_def, Px.neg_add_rev]
    have e4 : -(ev p [valP p g a] * ev p [a]) + ev p [valP p g a] * ev p [a] = 0 := Px.neg_add _
    calc _ = ev p [c] + u * hor u (qS p a g) * u + -(u * hor u (qS p a g) * ev p [a]) + u * ev p [valP p g a] + 0 := by rw [Px.add_zero]; ac_rfl
      _ = _ := by rw [← e4]; ac_rfl

def prodS (p : Nat) (u : Px p) : List Nat → Px p
  | [] => 1
  | a :: xs => (u - ev p [a]) * prodS p u xs

theorem roots_split (hP : M.Pr p) : ∀ (xs : List Nat) (f : List Nat), xs.Nodup → (∀ x ∈ xs, x < p ∧ valP p f x = 0) → xs.length < f.length → f.getLast? = some 1 →
    ∃ q : List Nat, q.length = f.length - xs.length ∧ q.getLast? = some 1 ∧ ∀ u, hor u f = prodS p u xs * hor u q
  | [], f, _, _, _, hl => ⟨f, by simp, hl, fun u => by rw [prodS, Px.one_mul]⟩
  | a :: xs, f, hn, hx, hlt, hl => by
    have h2 := hP.1
    rw [List.nodup_cons] at hn
    rw [List.length_cons] at hlt
    have ha := hx a (by simp)
    obtain ⟨q, h3, h4, h5⟩ := roots_split hP xs (qS p a f) hn.2 (fun x hxm => by
      have h6 := hx x (by simp [hxm])
      refine ⟨h6.1, ?_⟩
      have h7 := hor_qS (ev p [x]) a f
      rw [hor_const, hor_const, h6.2, ha.2, ev_const_zero, Px.add_zero] at h7
      have hxa : x ≠ a := fun e => hn.1 (e ▸ hxm)
      have hv := val_lt (p := p) (by omega) (qS p a f) x
      refine Classical.byContradiction fun h0 => ?_
      have e8 : ev p [x] - ev p [a] = ev p [(x + p - a) % p] := by
        rw [Px.sub_eq_iff, ev_const_add]
        refine ev_const_congr ?_
        rw [Nat.add_mod, Nat.mod_mod, ← Nat.add_mod, show a + (x + p - a) = x + p by omega, Nat.add_mod_right]
      have h9 : (x + p - a) % p ≠ 0 := fun h0 => by
        rcases Nat.lt_or_ge x a with h1 | h1
        · rw [Nat.mod_eq_of_lt (by omega)] at h0; omega
        · rw [show x + p - a = (x - a) + p by omega, Nat.add_mod_right, Nat.mod_eq_of_lt (by omega)] at h0; omega
      have h10 := mul_ne hP hv (Nat.mod_lt (x + p - a) (by omega)) h0 h9
      rw [e8, ev_const_mul'] at h7
      have h11 := pol_const (p := p) (Nat.mod_lt _ (by omega)) h10
      have h12 : ev p [valP p (qS p a f) x * ((x + p - a) % p) % p] = 0 := by rw [ev_const_congr (Nat.mod_mod _ _), ← h7]
      exact absurd ((ev_zero_iff (by omega) h11).1 h12) (by simp)) (by rw [qS_len]; omega) (qS_last h2 a f (by omega) hl)
    refine ⟨q, by rw [h3, qS_len, List.length_cons]; omega, h4, fun u => ?_⟩
    rw [hor_qS u a f, ha.2, ev_const_zero, Px.add_zero, h5 u, prodS]; ac_rfl

theorem hor_zeros (u : Px p) (f : List Nat) : ∀ k, hor u (List.replicate k 0 ++ f) = pw u k * hor u f
  | 0 => by rw [List.replicate_zero, List.nil_append, pw_zero, Px.one_mul]
  | k + 1 => by rw [List.replicate_succ, List.cons_append, hor, hor_zeros u f k, ev_const_zero, Px.zero_add, pw_succ]; ac_rfl

/-- All elements of the field are the roots of u^p - u. -/
theorem prod_all (hP : M.Pr p) (u : Px p) : prodS p u (List.range p) = pw u p - u := by
  have h2 := hP.1
  obtain ⟨q, hq⟩ : ∃ q, p = q + 2 := ⟨p - 2, by omega⟩
  obtain ⟨F, hF⟩ : ∃ F : List Nat, F = 0 :: (p - 1) :: (List.replicate q 0 ++ [1]) := ⟨_, rfl⟩
  have hFl : F.length = p + 1 := by rw [hF]; simp; omega
  have hh : ∀ u : Px p, hor u F = pw u p - u := fun u => by
    rw [hF, hor, hor, hor_zeros, hor, hor, ev_const_zero, Px.zero_add, Px.mul_zero, Px.add_zero, ev_one, Px.mul_one, Px.mul_add]
    have e1 : u * ev p [p - 1] + u = 0 := by
      have : u * ev p [p - 1] + u * ev p [1] = 0 := by
        rw [← Px.mul_add, ev_const_add, show p - 1 + 1 = p by omega, ev_const_dvd (Nat.dvd_refl p), Px.mul_zero]
      rwa [ev_one, Px.mul_one] at this
    have e2 : pw u p = u * (u * pw u q) := by
      have : pw u p = pw u (q + 2) := by rw [← hq]
      rw [this, pw_succ, pw_succ]; ac_rfl
    rw [← e2]
    symm
    rw [Px.sub_eq_iff]
    calc pw u p = pw u p + 0 := by rw [Px.add_zero]
      _ = _ := by rw [← e1]; ac_rfl
  have hv : ∀ x, x < p → valP p F x = 0 := fun x hx => by
    have h3 := hor_const (p := p) x F
    rw [hh, frob_const hP, Px.sub_self] at h3
    refine Classical.byContradiction fun h0 => ?_
    have := (ev_zero_iff (by omega) (pol_const (val_lt (by omega) F x) h0)).1 h3.symm
    simp at this
  have hlast : F.getLast? = some 1 := by
    rw [hF, ← List.cons_append, ← List.cons_append, List.getLast?_append]; simp
  obtain ⟨Q, h4, h5, h6⟩ := roots_split hP (List.range p) F List.nodup_range (fun x hx => ⟨List.mem_range.1 hx, hv x (List.mem_range.1 hx)⟩) (by rw [hFl, List.length_range]; omega) hlast
  rw [hFl, List.length_range] at h4
  have h7 := h6 u
  match Q, h4, h5 with
  | [c], _, h5 =>
    simp at h5; subst h5
    rw [hh, hor, hor, Px.mul_zero, Px.add_zero, ev_one, Px.mul_one] at h7
    exact h7.symm
  | [], h4, _ => simp at h4
  | _ :: _ :: _, h4, _ => simp at h4

end Q
end Go.Proofs.YtbehihanhfmmhaaGreat

namespace Go.Proofs.YtbehihanhfmmhaaGreat
namespace Q
variable {p : Nat}

theorem sm_delta {n c : Nat} (hc : c < n) (x : Int) : sm n (fun j => if j = c then x else 0) = x := by
  induction n with
  | zero => omega
  | succ n ih =>
    rw [sm]
    by_cases h : c = n
    · subst h
      rw [sm_zero (fun i hi => by rw [if_neg (by omega)]), if_pos rfl]; omega
    · rw [ih (by omega), if_neg (by omega)]; omega

theorem sm_dvd {n : Nat} {F : Nat → Int} {d : Int} (h : ∀ i, i < n → d ∣ F i) : d ∣ sm n F := by
  induction n with
  | zero => exact ⟨0, by simp [sm]⟩
  | succ n ih => rw [sm]; exact Int.dvd_add (ih fun i hi => h i (by omega)) (h n (by omega))

theorem sm_dvd_sub {n : Nat} {F G : Nat → Int} {d : Int} (h : ∀ i, i < n → d ∣ F i - G i) : d ∣ sm n F - sm n G := by
  induction n with
  | zero => exact ⟨0, by simp [sm]⟩
  | succ n ih =>
    rw [sm, sm]
    have h1 := ih fun i hi => h i (by omega)
    have h2 := Int.dvd_add h1 (h n (by omega))
    rw [show sm n F + F n - (sm n G + G n) = sm n F - sm n G + (F n - G n) by omega]; exact h2

def rowAt (rows : List (List Nat)) (i : Nat) : List Nat := rows.getD i []
def dot (n : Nat) (r : List Nat) (h : Nat → Int) : Int := sm n fun j => cf r j * h j

theorem dvd_mod (a : Nat) : (p : Int) ∣ ((a % p : Nat) : Int) - (a : Int) := by
  obtain ⟨k, hk⟩ := natmod_eqv p a
  exact ⟨k, by omega⟩

theorem scale_getD (r : List Nat) (c i : Nat) : (((prodP' p r [c]).getD i 0 : Nat) : Int) = (cf r i * c) % p := by
  rw [prod_getD]
  congr 1
  have h := sm_more (n := i) (m := i + 1) (F := fun k => cf r k * cf [c] (i - k)) 
  unfold cau
  rw [sm, sm_zero]
  · simp [cf]
  · intro k hk
    rw [cf_out (f := [c]) (by simp; omega), Int.mul_zero]

theorem dmr {d x : Int} (c : Int) (h : d ∣ x) : d ∣ c * x := by obtain ⟨k, rfl⟩ := h; exact ⟨c * k, by ac_rfl⟩

theorem dvd_cf_mul {a b c : Int} (h : (p : Int) ∣ a - b) : (p : Int) ∣ a * c - b * c := by
  rw [← Int.sub_mul]; exact Int.dvd_mul_of_dvd_left h

theorem dot_scale (n : Nat) (r : List Nat) (c : Nat) (h : Nat → Int) : (p : Int) ∣ dot n (prodP' p r [c]) h - c * dot n r h := by
  unfold dot
  rw [← sm_mul]
  refine sm_dvd_sub fun i _ => ?_
  have h1 : (p : Int) ∣ cf (prodP' p r [c]) i - cf r i * c := by
    unfold cf
    rw [scale_getD]
    unfold cf
    exact ⟨-(((r.getD i 0 : Nat) : Int) * c / p), by have := Int.mul_ediv_add_emod (((r.getD i 0 : Nat) : Int) * c) p; rw [Int.mul_neg]; omega⟩
  have h2 := dvd_cf_mul (c := h i) h1
  rw [show (c : Int) * (cf r i * h i) = cf r i * c * h i by ac_rfl]
  exact h2

theorem dot_comb (n : Nat) (x r : List Nat) (t : Nat) (h : Nat → Int) : (p : Int) ∣ dot n (comb (fun a b => (a + t * b) % p) x r) h - (dot n x h + t * dot n r h) := by
  unfold dot
  rw [← sm_mul, ← sm_add]
  refine sm_dvd_sub fun i _ => ?_
  have h1 : (p : Int) ∣ cf (comb (fun a b => (a + t * b) % p) x r) i - (cf x i + t * cf r i) := by
    unfold cf
    rw [comb_getD _ (by simp)]
    have := dvd_mod (p := p) (x.getD i 0 + t * r.getD i 0)
    rw [Int.natCast_add, Int.natCast_mul] at this
    exact this
  have h2 := dvd_cf_mul (c := h i) h1
  rw [show cf x i * h i + (t : Int) * (cf r i * h i) = (cf x i + t * cf r i) * h i by rw [Int.add_mul]; ac_rfl]
  exact h2

theorem set_rowAt (rows : List (List Nat)) (d : Nat) (x : List Nat) (i : Nat) (hd : d < rows.length) : rowAt (rows.set d x) i = if i = d then x else rowAt rows i := by
  unfold rowAt
  rw [List.getD_eq_getElem?_getD, List.getElem?_set]
  by_cases h : i = d
  · subst h; simp [hd]
  · rw [if_neg (fun e => h e.symm), if_neg h, List.getD_eq_getElem?_getD]

theorem swap_rowAt (rows : List (List Nat)) (a d i : Nat) (ha : a < rows.length) (hd : d < rows.length) : rowAt (swapRows rows a d) i = if i = d then rowAt rows a else if i = a then rowAt rows d else rowAt rows i := by
  unfold swapRows
  rw [set_rowAt _ _ _ _ (by simpa using hd), set_rowAt _ _ _ _ ha]
  rfl

theorem swap_length (rows : List (List Nat)) (a d : Nat) : (swapRows rows a d).length = rows.length := by simp [swapRows]
theorem clear_length (rows : List (List Nat)) (r j : Nat) : (clearCol p rows r j).length = rows.length := by simp [clearCol]

theorem clear_rowAt (rows : List (List Nat)) (r j i : Nat) (hr : r < rows.length) (hi : i < rows.length) :
    rowAt (clearCol p rows r j) i = if i = r then prodP' p (rowAt rows r) [invM p ((rowAt rows r).getD j 0)]
      else if p - (rowAt rows i).getD j 0 < p then comb (fun a b => (a + (p - (rowAt rows i).getD j 0) * b) % p) (rowAt rows i) (prodP' p (rowAt rows r) [invM p ((rowAt rows r).getD j 0)]) else rowAt rows i := by
  have e : ∀ k, k < rows.length → ∀ X : List (List Nat), X.length = rows.length → rowAt (X.mapIdx fun i x => if i ≠ r ∧ p - x.getD j 0 < p then comb (fun a b => (a + (p - x.getD j 0) * b) % p) x (prodP' p (rowAt rows r) [invM p ((rowAt rows r).getD j 0)]) else x) k = (if k ≠ r ∧ p - (rowAt X k).getD j 0 < p then comb (fun a b => (a + (p - (rowAt X k).getD j 0) * b) % p) (rowAt X k) (prodP' p (rowAt rows r) [invM p ((rowAt rows r).getD j 0)]) else rowAt X k) := by
    intro k hk X hX
    have hk2 : k < X.length := by omega
    have e1 : rowAt X k = X[k] := by unfold rowAt; simp [List.getD, hk2]
    rw [e1]
    unfold rowAt
    rw [List.getD_eq_getElem?_getD, List.getElem?_mapIdx, List.getElem?_eq_getElem hk2]
    rfl
  have h := e i hi (rows.set r (prodP' p (rowAt rows r) [invM p ((rowAt rows r).getD j 0)])) (by simp)
  rw [set_rowAt _ _ _ _ hr] at h
  unfold clearCol
  refine h.trans ?_
  by_cases h1 : i = r
  · subst h1; simp
  · simp only [h1, if_false, ne_eq, not_false_eq_true, true_and]

/-- What the rounds of the elimination keep: j columns are done, with d pivots. -/
structure RedInv (p n : Nat) (m : List (List Nat)) (j d : Nat) (rows : List (List Nat)) (piv : List Int) : Prop where
  len : rows.length = n
  red : ∀ i, i < n → Red p (rowAt rows i)
  plen : piv.length = n
  ker : ∀ h : Nat → Int, (∀ i, i < n → (p : Int) ∣ dot n (rowAt rows i) h) ↔ (∀ i, i < n → (p : Int) ∣ dot n (rowAt m i) h)
  dle : d ≤ j
  pv : ∀ c, c < n → piv.getD c (-1) = -1 ∨ ∃ r, r < d ∧ c < j ∧ piv.getD c (-1) = (r : Int) ∧ (rowAt rows r).getD c 0 = 1 ∧ ∀ i, i < n → i ≠ r → (rowAt rows i).getD c 0 = 0
  own : ∀ r, r < d → ∃ c, c < j ∧ piv.getD c (-1) = (r : Int)
  low : ∀ i, d ≤ i → i < n → ∀ c, c < j → (rowAt rows i).getD c 0 = 0
  inj : ∀ c c', c < n → c' < n → 0 ≤ piv.getD c (-1) → piv.getD c (-1) = piv.getD c' (-1) → c = c'

theorem firstRow_is (rows : List (List Nat)) (j : Nat) : ∀ (m i : Nat), i ≤ firstRow rows j i m ∧ firstRow rows j i m ≤ i + m ∧ (∀ k, i ≤ k → k < firstRow rows j i m → (rowAt rows k).getD j 0 = 0) ∧ (firstRow rows j i m < i + m → (rowAt rows (firstRow rows j i m)).getD j 0 ≠ 0)
  | 0, i => by simp only [firstRow]; exact ⟨by omega, by omega, fun k _ _ => by omega, fun _ => by omega⟩
  | m + 1, i => by
    rw [firstRow]
    by_cases h : (rows.getD i []).getD j 0 = 0
    · rw [if_pos h]
      obtain ⟨h1, h2, h3, h4⟩ := firstRow_is rows j m (i + 1)
      refine ⟨by omega, by omega, fun k hk hk2 => ?_, fun h5 => h4 (by omega)⟩
      by_cases e : k = i
      · subst e; exact h
      · exact h3 k (by omega) hk2
    · rw [if_neg h]
      exact ⟨by omega, by omega, fun k _ _ => by omega, fun _ => h⟩

theorem ker_of {n : Nat} {A B : List (List Nat)} {h : Nat → Int} (hAB : ∀ i, i < n → ∃ k, k < n ∧ ∃ c t : Int, ∃ l, l < n ∧ (p : Int) ∣ dot n (rowAt A i) h - (c * dot n (rowAt B k) h + t * dot n (rowAt B l) h)) (hB : ∀ i, i < n → (p : Int) ∣ dot n (rowAt B i) h) : ∀ i, i < n → (p : Int) ∣ dot n (rowAt A i) h := by
  intro i hi
  obtain ⟨k, hk, c, t, l, hl, hd⟩ := hAB i hi
  have h1 := Int.dvd_add hd (Int.dvd_add (dmr c (hB k hk)) (dmr t (hB l hl)))
  rwa [Int.sub_add_cancel] at h1

theorem swap_ker {n : Nat} {rows : List (List Nat)} {a d : Nat} (hl : rows.length = n) (ha : a < n) (hd : d < n) (h : Nat → Int) : (∀ i, i < n → (p : Int) ∣ dot n (rowAt (swapRows rows a d) i) h) ↔ (∀ i, i < n → (p : Int) ∣ dot n (rowAt rows i) h) := by
  constructor
  · intro H i hi
    by_cases h1 : i = d
    · subst h1
      have := H a ha
      rw [swap_rowAt _ _ _ _ (by omega) (by omega)] at this
      by_cases h2 : a = i
      · subst h2; simpa using this
      · rwa [if_neg h2, if_pos rfl] at this
    · by_cases h2 : i = a
      · subst h2
        have := H d hd
        rwa [swap_rowAt _ _ _ _ (by omega) (by omega), if_pos rfl] at this
      · have := H i hi
        rwa [swap_rowAt _ _ _ _ (by omega) (by omega), if_neg h1, if_neg h2] at this
  · intro H i hi
    rw [swap_rowAt _ _ _ _ (by omega) (by omega)]
    split
    · exact H a ha
    · split
      · exact H d hd
      · exact H i hi

theorem clear_ker (hP : M.Pr p) {n : Nat} {rows : List (List Nat)} {r j : Nat} (hl : rows.length = n) (hr : r < n) (hred : Red p (rowAt rows r)) (hpv : (rowAt rows r).getD j 0 ≠ 0) (h : Nat → Int) :
    (∀ i, i < n → (p : Int) ∣ dot n (rowAt (clearCol p rows r j) i) h) ↔ (∀ i, i < n → (p : Int) ∣ dot n (rowAt rows i) h) := by
  have hp2 := hP.1
  obtain ⟨a, hae⟩ : ∃ a, a = (rowAt rows r).getD j 0 := ⟨_, rfl⟩
  have ha : a < p := hae ▸ hred.getD (by omega) j
  obtain ⟨hi1, hi2, hi3⟩ := inv_spec hP ha (by omega)
  have hrow : ∀ i, i < n → i ≠ r → ∃ t : Nat, ∀ h : Nat → Int, (p : Int) ∣ dot n (rowAt (clearCol p rows r j) i) h - (dot n (rowAt rows i) h + t * dot n (rowAt (clearCol p rows r j) r) h) := by
    intro i hi hir
    have e1 := clear_rowAt (p := p) rows r j i (by omega) (by omega)
    have e2 := clear_rowAt (p := p) rows r j r (by omega) (by omega)
    rw [if_pos rfl] at e2
    rw [if_neg hir, ← e2] at e1
    by_cases ht : p - (rowAt rows i).getD j 0 < p
    · rw [if_pos ht] at e1
      exact ⟨p - (rowAt rows i).getD j 0, fun h => by rw [e1]; exact dot_comb n _ _ _ h⟩
    · rw [if_neg ht] at e1
      exact ⟨0, fun h => by rw [e1]; simp⟩
  have e2 : ∀ h : Nat → Int, (p : Int) ∣ dot n (rowAt (clearCol p rows r j) r) h - invM p a * dot n (rowAt rows r) h := fun h => by
    have e2 := clear_rowAt (p := p) rows r j r (by omega) (by omega)
    rw [if_pos rfl] at e2
    rw [e2, ← hae]; exact dot_scale n _ _ h
  constructor
  · intro H
    have hr1 : (p : Int) ∣ dot n (rowAt rows r) h := by
      have h1 := H r hr
      have h2 := Int.dvd_sub h1 (e2 h)
      rw [Int.sub_sub_self] at h2
      have h3 := dmr (a : Int) h2
      have h4 : (p : Int) ∣ (((a * invM p a : Nat) : Int) - 1) * dot n (rowAt rows r) h := by
        refine Int.dvd_mul_of_dvd_left ?_
        have := dvd_mod (p := p) (a * invM p a)
        rw [hi2] at this
        have := Int.dvd_neg.2 this
        rwa [Int.neg_sub] at this
      have h5 := Int.dvd_sub h3 h4
      rw [Int.natCast_mul, Int.sub_mul, Int.one_mul, Int.mul_assoc, Int.sub_sub_self] at h5
      exact h5
    intro i hi
    by_cases hir : i = r
    · rw [hir]; exact hr1
    · obtain ⟨t, ht⟩ := hrow i hi hir
      have h1 := Int.dvd_sub (Int.dvd_sub (H i hi) (ht h)) (dmr (t : Int) (H r hr))
      rw [Int.sub_sub_self, Int.add_sub_cancel] at h1
      exact h1
  · intro H
    have hr1 : (p : Int) ∣ dot n (rowAt (clearCol p rows r j) r) h := by
      have := Int.dvd_add (e2 h) (dmr (invM p a : Int) (H r hr))
      rwa [Int.sub_add_cancel] at this
    intro i hi
    by_cases hir : i = r
    · rw [hir]; exact hr1
    · obtain ⟨t, ht⟩ := hrow i hi hir
      have h1 := Int.dvd_add (ht h) (Int.dvd_add (H i hi) (dmr (t : Int) hr1))
      rwa [Int.sub_add_cancel] at h1

theorem scale_getD' (r : List Nat) (c i : Nat) : (prodP' p r [c]).getD i 0 = r.getD i 0 * c % p := by
  have h := scale_getD (p := p) r c i
  unfold cf at h
  exact_mod_cast h

theorem clear_red (hp : 0 < p) {rows : List (List Nat)} {r j : Nat} (hr : r < rows.length) (hred : ∀ i, i < rows.length → Red p (rowAt rows i)) (i : Nat) (hi : i < rows.length) : Red p (rowAt (clearCol p rows r j) i) := by
  rw [clear_rowAt _ _ _ _ hr hi]
  split
  · exact red_prod hp _ _
  · split
    · exact comb_red (fun _ _ => Nat.mod_lt _ hp) _ _
    · exact hred i hi

/-- Where a column has zeros only in the row r of the pivot, it stays as it is. -/
theorem clear_zero (hp : 0 < p) {rows : List (List Nat)} {r j c : Nat} (hr : r < rows.length) (hred : ∀ i, i < rows.length → Red p (rowAt rows i)) (hc : (rowAt rows r).getD c 0 = 0) (i : Nat) (hi : i < rows.length) : (rowAt (clearCol p rows r j) i).getD c 0 = (rowAt rows i).getD c 0 := by
  rw [clear_rowAt _ _ _ _ hr hi]
  split
  · next h => subst h; rw [scale_getD', hc]; simp
  · split
    · rw [comb_getD _ (by simp), scale_getD', hc]
      simp only [Nat.zero_mul, Nat.zero_mod, Nat.mul_zero, Nat.add_zero]
      exact Nat.mod_eq_of_lt ((hred i hi).getD hp c)
    · rfl

theorem clear_col (hP : M.Pr p) {rows : List (List Nat)} {r j : Nat} (hr : r < rows.length) (hred : ∀ i, i < rows.length → Red p (rowAt rows i)) (hpv : (rowAt rows r).getD j 0 ≠ 0) (i : Nat) (hi : i < rows.length) : (rowAt (clearCol p rows r j) i).getD j 0 = if i = r then 1 else 0 := by
  have hp2 := hP.1
  have ha := (hred r hr).getD (by omega) j
  obtain ⟨h1, h2, h3⟩ := inv_spec hP ha hpv
  rw [clear_rowAt _ _ _ _ hr hi]
  by_cases hir : i = r
  · rw [if_pos hir, if_pos hir, scale_getD', h2]
  · rw [if_neg hir, if_neg hir]
    have hb := (hred i hi).getD (by omega) j
    by_cases ht : p - (rowAt rows i).getD j 0 < p
    · rw [if_pos ht, comb_getD _ (by simp), scale_getD', h2, Nat.mul_one, show (rowAt rows i).getD j 0 + (p - (rowAt rows i).getD j 0) = p by omega, Nat.mod_self]
    · rw [if_neg ht]; omega

theorem set_getD (l : List Int) (j : Nat) (x : Int) (c : Nat) (hj : j < l.length) : (l.set j x).getD c (-1) = if c = j then x else l.getD c (-1) := by
  rw [List.getD_eq_getElem?_getD, List.getElem?_set]
  by_cases h : c = j
  · subst h; simp [hj]
  · rw [if_neg (fun e => h e.symm), if_neg h, List.getD_eq_getElem?_getD]

theorem redLoop_inv (hP : M.Pr p) {n : Nat} {m : List (List Nat)} : ∀ (k : Nat) {d : Nat} {rows : List (List Nat)} {piv : List Int}, k ≤ n → RedInv p n m (n - k) d rows piv → ∃ d', RedInv p n m n d' (redLoop p n k d rows piv).1 (redLoop p n k d rows piv).2
  | 0, d, rows, piv, _, I => ⟨d, by rw [redLoop]; exact I⟩
  | k + 1, d, rows, piv, hk, I => by
    have hp2 := hP.1
    obtain ⟨j, hj⟩ : ∃ j, j = n - (k + 1) := ⟨_, rfl⟩
    have hjn : j < n := by omega
    have hj1 : n - k = j + 1 := by omega
    rw [← hj] at I
    have hd := I.dle
    obtain ⟨f1, f2, f3, f4⟩ := firstRow_is rows j (n - d) d
    rw [redLoop]
    simp only [← hj]
    obtain ⟨i, hi⟩ : ∃ i, i = firstRow rows j d (n - d) := ⟨_, rfl⟩
    rw [← hi] at f1 f2 f3 f4 ⊢
    by_cases hin : i = n
    · rw [if_pos hin]
      refine redLoop_inv hP k (by omega) ?_
      rw [hj1]
      refine ⟨I.len, I.red, I.plen, I.ker, by omega, fun c hc => ?_, fun r hr => ?_, fun a ha han c hc => ?_, I.inj⟩
      · rcases I.pv c hc with h | ⟨r, h1, h2, h3⟩
        · exact .inl h
        · exact .inr ⟨r, h1, by omega, h3⟩
      · obtain ⟨c, h1, h2⟩ := I.own r hr; exact ⟨c, by omega, h2⟩
      · by_cases e : c = j
        · subst e; exact f3 a ha (by omega)
        · exact I.low a ha han c (by omega)
    · rw [if_neg hin]
      have hln := I.len
      have hpv := f4 (by omega)
      obtain ⟨S, hS⟩ : ∃ S, S = swapRows rows i d := ⟨_, rfl⟩
      have hSl : S.length = n := by rw [hS, swap_length]; exact hln
      have hSr : ∀ a, rowAt S a = if a = d then rowAt rows i else if a = i then rowAt rows d else rowAt rows a := fun a => by rw [hS]; exact swap_rowAt _ _ _ _ (by omega) (by omega)
      have hSred : ∀ a, a < S.length → Red p (rowAt S a) := fun a ha => by
        rw [hSr]; split
        · exact I.red _ (by omega)
        · split
          · exact I.red _ (by omega)
          · exact I.red _ (by omega)
      have hSd : rowAt S d = rowAt rows i := by rw [hSr, if_pos rfl]
      have hSlow : ∀ a, d ≤ a → a < n → ∀ c, c < j → (rowAt S a).getD c 0 = 0 := fun a ha han c hc => by
        rw [hSr]; split
        · exact I.low i (by omega) (by omega) c hc
        · split
          · exact I.low d (by omega) (by omega) c hc
          · exact I.low a ha han c hc
      have hSpv : (rowAt S d).getD j 0 ≠ 0 := by rw [hSd]; exact hpv
      rw [← hS]
      have hz : ∀ c, c < j → (rowAt S d).getD c 0 = 0 := fun c hc => hSlow d (by omega) (by omega) c hc
      have hkeep : ∀ c, c < j → ∀ a, a < n → (rowAt (clearCol p S d j) a).getD c 0 = (rowAt S a).getD c 0 := fun c hc a ha => clear_zero (by omega) (by omega) hSred (hz c hc) a (by omega)
      refine redLoop_inv hP k (by omega) ?_
      rw [hj1]
      refine ⟨by rw [clear_length]; exact hSl, fun a ha => clear_red (by omega) (by omega) hSred a (by omega), by simp [I.plen], fun h => ?_, by omega, fun c hc => ?_, fun r hr => ?_, fun a ha han c hc => ?_, fun c c' hc hc' h0 he => ?_⟩
      · rw [clear_ker hP hSl (by omega) (hSred d (by omega)) hSpv h, hS, swap_ker hln (by omega) (by omega) h]
        exact I.ker h
      · rw [set_getD _ _ _ _ (by rw [I.plen]; omega)]
        by_cases e : c = j
        · subst e
          rw [if_pos rfl]
          refine .inr ⟨d, by omega, by omega, rfl, ?_, fun a ha had => ?_⟩
          · rw [clear_col hP (by omega) hSred hSpv _ (by omega), if_pos rfl]
          · rw [clear_col hP (by omega) hSred hSpv _ (by omega), if_neg had]
        · rw [if_neg e]
          rcases I.pv c hc with h | ⟨r, h1, h2, h3, h4, h5⟩
          · exact .inl h
          · refine .inr ⟨r, by omega, by omega, h3, ?_, fun a ha har => ?_⟩
            · rw [hkeep c h2 r (by omega), hSr, if_neg (by omega), if_neg (by omega)]; exact h4
            · rw [hkeep c h2 a ha, hSr]
              split
              · exact h5 i (by omega) (by omega)
              · split
                · exact h5 d (by omega) (by omega)
                · exact h5 a ha har
      · by_cases e : r = d
        · subst e; exact ⟨j, by omega, by rw [set_getD _ _ _ _ (by rw [I.plen]; omega), if_pos rfl]⟩
        · obtain ⟨c, h1, h2⟩ := I.own r (by omega)
          exact ⟨c, by omega, by rw [set_getD _ _ _ _ (by rw [I.plen]; omega), if_neg (by omega)]; exact h2⟩
      · by_cases e : c = j
        · subst e; rw [clear_col hP (by omega) hSred hSpv _ (by omega), if_neg (by omega)]
        · rw [hkeep c (by omega) a han]; exact hSlow a (by omega) han c (by omega)
      · have hlt : ∀ c, c < n → piv.getD c (-1) < (d : Int) := fun c hc => by
          rcases I.pv c hc with h | ⟨r, h1, _, h3, _⟩ <;> omega
        have l1 := hlt c hc
        have l2 := hlt c' hc'
        rw [set_getD _ _ _ _ (by rw [I.plen]; omega)] at h0 he
        rw [set_getD _ _ _ _ (by rw [I.plen]; omega)] at he
        by_cases e1 : c = j
        · by_cases e2 : c' = j
          · omega
          · rw [if_pos e1, if_neg e2] at he; omega
        · by_cases e2 : c' = j
          · rw [if_neg e1, if_pos e2] at he; omega
          · rw [if_neg e1] at h0 he; rw [if_neg e2] at he
            exact I.inj c c' hc hc' h0 he

theorem reduced_inv (hP : M.Pr p) {n : Nat} {m : List (List Nat)} (hl : m.length = n) (hred : ∀ i, i < n → Red p (rowAt m i)) : ∃ d, RedInv p n m n d (reducedP p m).1 (reducedP p m).2 := by
  unfold reducedP
  rw [hl]
  refine redLoop_inv hP n (Nat.le_refl _) ⟨hl, hred, by simp, fun _ => Iff.rfl, by omega, fun c hc => .inl (by simp [List.getD, hc]), fun r hr => by omega, fun a _ _ c hc => by omega, fun c c' hc hc' h0 => by simp [List.getD, hc] at h0⟩

/-- The columns without a pivot, and the basis that they give. -/
def freeL (p : Nat) (m : List (List Nat)) : List Nat := (List.range m.length).filter fun j => decide ((reducedP p m).2.getD j (-1) < 0)
def colP (p : Nat) (m : List (List Nat)) (j : Nat) : List Nat := column p m.length j (reducedP p m).1 (reducedP p m).2
theorem kernelP_eq (m : List (List Nat)) : kernelP p m = (freeL p m).map fun j => trim (colP p m j) := rfl

theorem freeL_nodup (m : List (List Nat)) : (freeL p m).Nodup := List.Pairwise.filter _ List.nodup_range

structure KerIs (p n : Nat) (m : List (List Nat)) : Prop where
  /-- each column of the basis is in the kernel -/
  mem : ∀ j ∈ freeL p m, ∀ i, i < n → (p : Int) ∣ dot n (rowAt m i) (cf (colP p m j))
  /-- what is in the kernel is their sum, with its own numbers at the free columns -/
  span : ∀ h : Nat → Int, (∀ i, i < n → (p : Int) ∣ dot n (rowAt m i) h) → ∀ c, c < n → (p : Int) ∣ h c - sm n fun j => if j ∈ freeL p m then h j * cf (colP p m j) c else 0
  free : ∀ j ∈ freeL p m, j < n ∧ ∀ i ∈ freeL p m, (colP p m j).getD i 0 = if i = j then 1 else 0

theorem column_getD (n j i : Nat) (rows : List (List Nat)) (piv : List Int) (hi : i < n) : (column p n j rows piv).getD i 0 = if 0 ≤ piv.getD i (-1) then (p - (rowAt rows (piv.getD i (-1)).toNat).getD j 0) % p else if i = j then 1 else 0 := by
  unfold column
  simp [List.getD, hi, rowAt]; rfl

theorem kernel_is (hP : M.Pr p) {n : Nat} {m : List (List Nat)} (hl : m.length = n) (hred : ∀ i, i < n → Red p (rowAt m i)) : KerIs p n m := by
  have hp2 := hP.1
  obtain ⟨d, I⟩ := reduced_inv hP hl hred
  obtain ⟨R, hR⟩ : ∃ R, R = (reducedP p m).1 := ⟨_, rfl⟩
  obtain ⟨V, hV⟩ : ∃ V, V = (reducedP p m).2 := ⟨_, rfl⟩
  rw [← hR, ← hV] at I
  have hfree : ∀ j, j ∈ freeL p m ↔ j < n ∧ V.getD j (-1) = -1 := fun j => by
    unfold freeL
    rw [List.mem_filter, List.mem_range, hl, ← hV, decide_eq_true_eq]
    constructor
    · rintro ⟨h1, h2⟩
      rcases I.pv j h1 with h | ⟨r, _, _, h, _⟩
      · exact ⟨h1, h⟩
      · omega
    · rintro ⟨h1, h2⟩; exact ⟨h1, by omega⟩
  have hcol : ∀ j i, i < n → (colP p m j).getD i 0 = if 0 ≤ V.getD i (-1) then (p - (rowAt R (V.getD i (-1)).toNat).getD j 0) % p else if i = j then 1 else 0 := fun j i hi => by
    unfold colP
    rw [hl, ← hR, ← hV]
    exact column_getD n j i R V hi
  -- an entry of a pivot's column
  have hpiv : ∀ c, c < n → ¬ c ∈ freeL p m → ∃ r, r < n ∧ r < d ∧ V.getD c (-1) = (r : Int) ∧ ∀ i, i < n → (rowAt R i).getD c 0 = if i = r then 1 else 0 := fun c hc hn => by
    rcases I.pv c hc with h | ⟨r, h1, h2, h3, h4, h5⟩
    · exact absurd ((hfree c).2 ⟨hc, h⟩) hn
    · have hdn := I.dle
      refine ⟨r, by omega, h1, h3, fun i hi => ?_⟩
      by_cases e : i = r
      · subst e; rw [if_pos rfl]; exact h4
      · rw [if_neg e]; exact h5 i hi e
  have hdn := I.dle
  have hone : ∀ (r c : Nat), c < n → V.getD c (-1) = (r : Int) → r < d → ∀ c', c' < n → c' ∉ freeL p m → (rowAt R r).getD c' 0 = if c' = c then 1 else 0 := fun r c hc hcr hrd c' hc' hcf' => by
    obtain ⟨r', h1, h2, h3, h4⟩ := hpiv c' hc' hcf'
    rw [h4 r (by omega)]
    by_cases e : r = r'
    · subst e
      rw [if_pos rfl, if_pos (I.inj c' c hc' hc (by omega) (by omega))]
    · rw [if_neg e, if_neg]
      intro e2; subst e2; omega
  have hcolP : ∀ j c r, c < n → V.getD c (-1) = ((r : Nat) : Int) → r < n → (p : Int) ∣ cf (colP p m j) c + cf (rowAt R r) j := fun j c r hc hcr hrn => by
    unfold cf
    rw [hcol j c hc, if_pos (by omega), hcr, Int.toNat_natCast]
    have hb := (I.red r hrn).getD (by omega) j
    have h1 := dvd_mod (p := p) (p - (rowAt R r).getD j 0)
    have h2 : (p : Int) ∣ p := ⟨1, by omega⟩
    have h3 := Int.dvd_add h1 h2
    rwa [show (((p - (rowAt R r).getD j 0) % p : Nat) : Int) - ((p - (rowAt R r).getD j 0 : Nat) : Int) + p = (((p - (rowAt R r).getD j 0) % p : Nat) : Int) + ((rowAt R r).getD j 0 : Nat) by omega] at h3
  have hfreeC : ∀ j i, i ∈ freeL p m → (colP p m j).getD i 0 = if i = j then 1 else 0 := fun j i hi => by
    obtain ⟨h1, h2⟩ := (hfree i).1 hi
    rw [hcol j i h1, if_neg (by omega)]
  refine ⟨fun j hj => ?_, fun h hh c hc => ?_, fun j hj => ⟨((hfree j).1 hj).1, fun i hi => hfreeC j i hi⟩⟩
  · rw [← I.ker]
    intro i hi
    by_cases hid : i < d
    · obtain ⟨c, hc, hci⟩ := I.own i hid
      have hcn : c ∉ freeL p m := fun h => by have := ((hfree c).1 h).2; omega
      have hjc : j ≠ c := fun e => hcn (e ▸ hj)
      have e : dot n (rowAt R i) (cf (colP p m j)) = sm n fun k => (if k = j then cf (rowAt R i) j else 0) + (if k = c then cf (colP p m j) c else 0) := by
        unfold dot
        refine sm_congr fun k hk => ?_
        by_cases hkf : k ∈ freeL p m
        · have h1 := hfreeC j k hkf
          have hkc : k ≠ c := fun e => hcn (e ▸ hkf)
          rw [if_neg hkc, show cf (colP p m j) k = (((if k = j then 1 else 0 : Nat)) : Int) by unfold cf; rw [h1]]
          by_cases hkj : k = j
          · subst hkj; simp
          · simp [hkj]
        · have h1 := hone i c hc hci hid k hk hkf
          have hkj : k ≠ j := fun e => hkf (e ▸ hj)
          rw [if_neg hkj, show cf (rowAt R i) k = (((if k = c then 1 else 0 : Nat)) : Int) by unfold cf; rw [h1]]
          by_cases hkc : k = c
          · subst hkc; simp
          · simp [hkc]
      rw [e, sm_add, sm_delta ((hfree j).1 hj).1, sm_delta hc, Int.add_comm]
      exact hcolP j c i hc hci hi
    · refine sm_dvd fun k hk => ?_
      rw [show cf (rowAt R i) k = 0 by unfold cf; rw [I.low i (by omega) hi k hk]; rfl, Int.zero_mul]
      exact ⟨0, by simp⟩
  · have hR := (I.ker h).2 hh
    by_cases hcf : c ∈ freeL p m
    · have e : (sm n fun j => if j ∈ freeL p m then h j * cf (colP p m j) c else 0) = sm n fun j => if j = c then h c else 0 := by
        refine sm_congr fun k hk => ?_
        by_cases hkf : k ∈ freeL p m
        · rw [if_pos hkf]
          have h1 := hfreeC k c hcf
          unfold cf; rw [h1]
          by_cases hkc : k = c
          · subst hkc; simp
          · rw [if_neg hkc, if_neg (fun e => hkc e.symm)]; simp
        · rw [if_neg hkf, if_neg (fun e : k = c => hkf (by rw [e]; exact hcf))]
      rw [e, sm_delta hc, Int.sub_self]
      exact ⟨0, by simp⟩
    · obtain ⟨r, hr, hrd, hcr, _⟩ := hpiv c hc hcf
      have e : dot n (rowAt R r) h = (sm n fun j => if j ∈ freeL p m then cf (rowAt R r) j * h j else 0) + h c := by
        unfold dot
        rw [← sm_delta (n := n) hc (h c), ← sm_add]
        refine sm_congr fun k hk => ?_
        by_cases hkf : k ∈ freeL p m
        · have hkc : k ≠ c := fun e => hcf (e ▸ hkf)
          rw [if_pos hkf, if_neg hkc]; omega
        · have h1 := hone r c hc hcr hrd k hk hkf
          rw [if_neg hkf, show cf (rowAt R r) k = (((if k = c then 1 else 0 : Nat)) : Int) by unfold cf; rw [h1]]
          by_cases hkc : k = c
          · subst hkc; simp
          · simp [hkc]
      have h1 := hR r hr
      rw [e] at h1
      have h2 : (p : Int) ∣ (sm n fun j => if j ∈ freeL p m then cf (rowAt R r) j * h j else 0) + (sm n fun j => if j ∈ freeL p m then h j * cf (colP p m j) c else 0) := by
        rw [← sm_add]
        refine sm_dvd fun k hk => ?_
        by_cases hkf : k ∈ freeL p m
        · rw [if_pos hkf, if_pos hkf]
          have := dmr (h k) (hcolP k c r hc hcr hr)
          rwa [show h k * (cf (colP p m k) c + cf (rowAt R r) k) = cf (rowAt R r) k * h k + h k * cf (colP p m k) c by rw [Int.mul_add, Int.mul_comm (cf _ _)]; omega] at this
        · rw [if_neg hkf, if_neg hkf]; exact ⟨0, by simp⟩
      have h3 := Int.dvd_sub h1 h2
      rwa [show ∀ a b c : Int, a + b - (a + c) = b - c by omega] at h3

end Q
end Go.Proofs.YtbehihanhfmmhaaGreat

namespace Go.Proofs.YtbehihanhfmmhaaGreat
namespace Q
variable {p : Nat}

/-! ### Polynomials among the series -/
def IsP (p : Nat) (a : Px p) : Prop := ∃ q, Pol p q ∧ a = ev p q
theorem IsP.ev {q : List Nat} (h : Pol p q) : IsP p (ev p q) := ⟨q, h, rfl⟩
theorem IsP.add (hp : 0 < p) {a b : Px p} : IsP p a → IsP p b → IsP p (a + b) := by
  rintro ⟨q, _, rfl⟩ ⟨r, _, rfl⟩; exact ⟨sumP p q r, pol_sum hp _ _, (ev_sum _ _).symm⟩
theorem IsP.sub (hp : 0 < p) {a b : Px p} : IsP p a → IsP p b → IsP p (a - b) := by
  rintro ⟨q, _, rfl⟩ ⟨r, hr, rfl⟩; exact ⟨difP p q r, pol_dif hp _ _, (ev_dif hp _ hr.red).symm⟩
theorem IsP.mul (hP : M.Pr p) {a b : Px p} : IsP p a → IsP p b → IsP p (a * b) := by
  rintro ⟨q, hq, rfl⟩ ⟨r, hr, rfl⟩; exact ⟨prodP' p q r, pol_prod hP hq hr, (ev_prod _ _).symm⟩
theorem IsP.zero : IsP p 0 := ⟨[], Pol.nil p, ev_nil.symm⟩
theorem IsP.one (hP : M.Pr p) : IsP p 1 := ⟨[1], pol_one hP, ev_one.symm⟩
theorem IsP.pw (hP : M.Pr p) {a : Px p} (h : IsP p a) : ∀ n, IsP p (pw a n)
  | 0 => IsP.one hP
  | n + 1 => by rw [pw_succ]; exact (IsP.pw hP h n).mul hP h
theorem IsP.const (hp : 0 < p) (c : Nat) : IsP p (Q.ev p [c]) := by
  rw [ev_const_congr (c := c) (d := c % p) (by simp), ← ev_trim]
  exact ⟨_, pol_trim1 hp _ (Nat.mod_lt _ hp), rfl⟩
theorem IsP.neg (hp : 0 < p) {a : Px p} (h : IsP p a) : IsP p (-a) := by
  have := IsP.sub hp IsP.zero h
  rwa [Px.sub_def, Px.zero_add] at this

/-- f divides a. -/
def DX (p : Nat) (f : List Nat) (a : Px p) : Prop := ∃ b, IsP p b ∧ a = b * ev p f
theorem dx_iff {f g : List Nat} : DX p f (ev p g) ↔ Dv p f g := by
  constructor
  · rintro ⟨_, ⟨q, hq, rfl⟩, e⟩; exact ⟨q, hq, e⟩
  · rintro ⟨q, hq, e⟩; exact ⟨_, ⟨q, hq, rfl⟩, e⟩
theorem DX.zero {f : List Nat} : DX p f 0 := ⟨0, IsP.zero, by rw [Px.zero_mul]⟩
theorem DX.add (hp : 0 < p) {f : List Nat} {a b : Px p} : DX p f a → DX p f b → DX p f (a + b) := by
  rintro ⟨q, hq, rfl⟩ ⟨r, hr, rfl⟩; exact ⟨q + r, hq.add hp hr, by rw [Px.add_mul]⟩
theorem DX.neg (hp : 0 < p) {f : List Nat} {a : Px p} : DX p f a → DX p f (-a) := by
  rintro ⟨q, hq, rfl⟩; exact ⟨-q, hq.neg hp, by rw [Px.neg_mul]⟩
theorem DX.sub (hp : 0 < p) {f : List Nat} {a b : Px p} (h : DX p f a) (h' : DX p f b) : DX p f (a - b) := by rw [Px.sub_def]; exact h.add hp (h'.neg hp)
theorem DX.mul (hP : M.Pr p) {f : List Nat} {a b : Px p} (hb : IsP p b) : DX p f a → DX p f (b * a) := by
  rintro ⟨q, hq, rfl⟩; exact ⟨b * q, hb.mul hP hq, by rw [Px.mul_assoc]⟩
theorem DX.self (_hP : M.Pr p) {f : List Nat} {b : Px p} (hb : IsP p b) : DX p f (b * ev p f) := ⟨b, hb, rfl⟩
theorem DX.trans (hP : M.Pr p) {f g : List Nat} {a : Px p} (h : Dv p f g) : DX p g a → DX p f a := by
  rintro ⟨q, hq, rfl⟩; obtain ⟨r, hr, e⟩ := h; exact ⟨q * ev p r, hq.mul hP ⟨r, hr, rfl⟩, by rw [e, Px.mul_assoc]⟩

theorem neg_sub (a b : Px p) : -(a - b) = b - a := by rw [Px.sub_def, Px.sub_def, Px.neg_add_rev, Px.neg_neg, Px.add_comm]
theorem sub_add_sub (a b c : Px p) : (a - b) + (b - c) = a - c := by
  rw [Px.sub_def, Px.sub_def, Px.sub_def, show a + -b + (b + -c) = a + (-b + b) + -c by ac_rfl, Px.neg_add, Px.add_zero]
theorem add_sub_add (a b c d : Px p) : (a + b) - (c + d) = (a - c) + (b - d) := by
  rw [Px.sub_def, Px.sub_def, Px.sub_def, Px.neg_add_rev]; ac_rfl
theorem sub_add (a b : Px p) : a - b + b = a := by rw [Px.sub_def, Px.add_assoc, Px.neg_add, Px.add_zero]
theorem add_sub (a b : Px p) : a + b - b = a := by rw [Px.sub_def, Px.add_assoc, Px.add_neg, Px.add_zero]

/-- a and b are congruent modulo f. -/
def Cg (p : Nat) (f : List Nat) (a b : Px p) : Prop := DX p f (a - b)
theorem Cg.refl {f : List Nat} (a : Px p) : Cg p f a a := by unfold Cg; rw [Px.sub_self]; exact DX.zero
theorem Cg.of_eq {f : List Nat} {a b : Px p} (h : a = b) : Cg p f a b := h ▸ Cg.refl a
theorem Cg.symm (hp : 0 < p) {f : List Nat} {a b : Px p} (h : Cg p f a b) : Cg p f b a := by have := DX.neg hp h; rwa [neg_sub] at this
theorem Cg.trans (hp : 0 < p) {f : List Nat} {a b c : Px p} (h : Cg p f a b) (h' : Cg p f b c) : Cg p f a c := by have := DX.add hp h h'; rwa [sub_add_sub] at this
theorem Cg.add (hp : 0 < p) {f : List Nat} {a b c d : Px p} (h : Cg p f a b) (h' : Cg p f c d) : Cg p f (a + c) (b + d) := by
  unfold Cg; rw [add_sub_add]; exact DX.add hp h h'
theorem Cg.sub (hp : 0 < p) {f : List Nat} {a b c d : Px p} (h : Cg p f a b) (h' : Cg p f c d) : Cg p f (a - c) (b - d) := by
  unfold Cg
  have e : a - c - (b - d) = (a - b) - (c - d) := by
    simp only [Px.sub_def, Px.neg_add_rev, Px.neg_neg]; ac_rfl
  rw [e]; exact DX.sub hp h h'
theorem Cg.mul (hP : M.Pr p) {f : List Nat} {a b c d : Px p} (hc : IsP p c) (hb : IsP p b) (h : Cg p f a b) (h' : Cg p f c d) : Cg p f (a * c) (b * d) := by
  have hp : 0 < p := by have := hP.1; omega
  have h1 : DX p f (c * (a - b)) := DX.mul hP hc h
  have h2 : DX p f (b * (c - d)) := DX.mul hP hb h'
  have h3 := h1.add hp h2
  unfold Cg
  have e : c * (a - b) + b * (c - d) = a * c - b * d := by
    rw [Px.mul_sub, Px.mul_sub, Px.mul_comm c a, Px.mul_comm c b, sub_add_sub]
  rwa [e] at h3
theorem Cg.pw (hP : M.Pr p) {f : List Nat} {a b : Px p} (ha : IsP p a) (hb : IsP p b) (h : Cg p f a b) : ∀ n, Cg p f (pw a n) (pw b n)
  | 0 => Cg.refl _
  | n + 1 => by rw [pw_succ, pw_succ]; exact Cg.mul hP ha (hb.pw hP n) (Cg.pw hP ha hb h n) h
theorem Cg.zero {f : List Nat} {a : Px p} : Cg p f a 0 ↔ DX p f a := by unfold Cg; rw [Px.sub_zero]

theorem rem_cg (hP : M.Pr p) {g f : List Nat} (hg : Pol p g) (hf : Pol p f) (h0 : f.length ≠ 0) : Cg p f (ev p g) (ev p (remP p g f)) := by
  have D := div_is hP hg hf h0
  unfold Cg
  rw [D.val]
  unfold remP
  rw [add_sub]
  exact DX.self hP ⟨_, D.qpol, rfl⟩

theorem low_cg (hP : M.Pr p) {a b f : List Nat} (ha : Pol p a) (hb : Pol p b) (hf : Pol p f) (hla : a.length < f.length) (hlb : b.length < f.length) (h : Cg p f (ev p a) (ev p b)) : a = b := by
  have hp : 0 < p := by have := hP.1; omega
  unfold Cg at h
  rw [← ev_dif hp _ hb.red] at h
  have h1 := dx_iff.1 h
  have hl := dif_len (p := p) hp (f := a) (g := b)
  have h2 : (difP p a b).length = 0 := Classical.byContradiction fun h0 => by
    have := (h1.len hP hf (pol_dif hp _ _) h0).1; omega
  have h3 : ev p (difP p a b) = 0 := by rw [List.eq_nil_of_length_eq_zero h2, ev_nil]
  rw [ev_dif hp _ hb.red] at h3
  exact ev_inj hp ha hb (Px.sub_eq_zero.1 h3)

/-! ### Powers modulo f -/
theorem raise_cg (hP : M.Pr p) {g : List Nat} (hg : Pol p g) (h0 : g.length ≠ 0) : ∀ (n : Nat) (r s : List Nat) (e : Nat), e ≤ n → Pol p r → Pol p s → Pol p (raiseLoop p g n r s e) ∧ Cg p g (ev p (raiseLoop p g n r s e)) (ev p r * pw (ev p s) e)
  | 0, r, s, e, he, hr, hs => by
    obtain rfl : e = 0 := by omega
    exact ⟨hr, by rw [pw_zero, Px.mul_one]; exact Cg.refl _⟩
  | n + 1, r, s, e, he, hr, hs => by
    have hp : 0 < p := by have := hP.1; omega
    rw [raiseLoop]
    by_cases h : e = 0
    · rw [if_pos h, h]
      exact ⟨hr, by rw [pw_zero, Px.mul_one]; exact Cg.refl _⟩
    · rw [if_neg h]
      have hs2 := pol_prod hP hs hs
      have hrs := pol_prod hP hr hs
      have D2 := div_is hP hs2 hg h0
      have D1 := div_is hP hrs hg h0
      have c2 := rem_cg hP hs2 hg h0
      have c1 := rem_cg hP hrs hg h0
      rw [ev_prod] at c1 c2
      have e2 : pw (ev p s * ev p s) (e / 2) = pw (ev p s) (2 * (e / 2)) := by
        rw [← pw_pw, pw_mul, show (2 : Nat) = 1 + 1 from rfl, pw_add, pw_one, pw_mul]
      have key : ∀ r', Pol p r' → Cg p g (ev p r') (ev p r * pw (ev p s) (e % 2)) → Pol p (raiseLoop p g n r' (remP p (prodP' p s s) g) (e / 2)) ∧ Cg p g (ev p (raiseLoop p g n r' (remP p (prodP' p s s) g) (e / 2))) (ev p r * pw (ev p s) e) := fun r' hr' hc => by
        obtain ⟨i1, i2⟩ := raise_cg hP hg h0 n r' (remP p (prodP' p s s) g) (e / 2) (by omega) hr' D2.rpol
        refine ⟨i1, i2.trans hp ?_⟩
        have c3 := (c2.symm hp).pw hP (IsP.ev D2.rpol) ((IsP.ev hs).mul hP (IsP.ev hs)) (e / 2)
        rw [e2] at c3
        have c4 := Cg.mul hP ((IsP.ev D2.rpol).pw hP (e / 2)) ((IsP.ev hr).mul hP ((IsP.ev hs).pw hP (e % 2))) hc c3
        rw [Px.mul_assoc, ← pw_add, show e % 2 + 2 * (e / 2) = e by omega] at c4
        exact c4
      refine key _ ?_ ?_
      · split
        · exact D1.rpol
        · exact hr
      · split
        · next h1 => rw [h1, pw_one]; exact c1.symm hp
        · next h1 => rw [show e % 2 = 0 by omega, pw_zero, Px.mul_one]; exact Cg.refl _

theorem raise_len (hP : M.Pr p) {g : List Nat} (hg : Pol p g) (h0 : g.length ≠ 0) : ∀ (n : Nat) (r s : List Nat) (e : Nat), Pol p r → Pol p s → r.length < g.length → (raiseLoop p g n r s e).length < g.length
  | 0, r, s, e, hr, hs, hl => hl
  | n + 1, r, s, e, hr, hs, hl => by
    rw [raiseLoop]
    split
    · exact hl
    · have D1 := div_is hP (pol_prod hP hr hs) hg h0
      have D2 := div_is hP (pol_prod hP hs hs) hg h0
      refine raise_len hP hg h0 n _ _ _ ?_ D2.rpol ?_
      · split
        · exact D1.rpol
        · exact hr
      · split
        · exact D1.rlen
        · exact hl

theorem pol_xx (hP : M.Pr p) : Pol p [0, 1] := pol_of (by intro x hx; have := hP.1; simp at hx; omega) (by simp)
theorem ev_xx : ev p [0, 1] = xX p := by
  rw [ev_cons, ev_const_zero, ev_one, Px.zero_add, Px.mul_one]

/-- The step: x^p modulo f. -/
structure StepIs (p : Nat) (f s : List Nat) : Prop where
  pol : Pol p s
  len : s.length < f.length
  cg : Cg p f (ev p s) (pw (xX p) p)

theorem step_is (hP : M.Pr p) {f : List Nat} (hf : Pol p f) (h2 : 2 ≤ f.length) : StepIs p f (raiseP p [0, 1] p f) := by
  have h := raise_cg hP hf (by omega) p [1] [0, 1] p (Nat.le_refl _) (pol_one hP) (pol_xx hP)
  refine ⟨h.1, raise_len hP hf (by omega) p [1] [0, 1] p (pol_one hP) (pol_xx hP) (by simp; omega), ?_⟩
  have h1 := h.2
  rw [ev_one, Px.one_mul, ev_xx] at h1
  exact h1

theorem powSeq_is (hP : M.Pr p) {f s : List Nat} (hf : Pol p f) (h2 : 2 ≤ f.length) (S : StepIs p f s) : ∀ j, Pol p (powSeq p f s j) ∧ (powSeq p f s j).length < f.length ∧ Cg p f (ev p (powSeq p f s j)) (pw (pw (xX p) p) j)
  | 0 => ⟨pol_one hP, by show 1 < _; omega, by rw [pw_zero]; exact Cg.of_eq ev_one⟩
  | j + 1 => by
    have hp : 0 < p := by have := hP.1; omega
    obtain ⟨i1, i2, i3⟩ := powSeq_is hP hf h2 S j
    have D := div_is hP (pol_prod hP i1 S.pol) hf (by omega)
    refine ⟨D.rpol, D.rlen, ?_⟩
    have c := rem_cg hP (pol_prod hP i1 S.pol) hf (by omega)
    rw [ev_prod] at c
    rw [pw_succ]
    exact (c.symm hp).trans hp (Cg.mul hP (IsP.ev S.pol) (((ev_xx (p := p) ▸ IsP.ev (pol_xx hP)).pw hP p).pw hP j) i3 S.cg)

/-! ### The kernel of fixedMat -/
def fsum (p : Nat) (f s : List Nat) (n : Nat) (h : List Nat) : Px p := Px.of p fun i => sm n fun j => cf h j * cf (powSeq p f s j) i

theorem fsum_succ (f s : List Nat) (n : Nat) (h : List Nat) : fsum p f s (n + 1) h = fsum p f s n h + ev p [h.getD n 0] * ev p (powSeq p f s n) := by
  have e : ev p [h.getD n 0] * ev p (powSeq p f s n) = Px.of p fun i => cf h n * cf (powSeq p f s n) i := by
    unfold ev
    rw [Px.mul_of]
    congr 1; funext i
    have : cf [h.getD n 0] = fun k => if k = 0 then cf h n else 0 := by funext k; rcases k with _ | k <;> simp [cf]
    rw [this, cau_mono, if_pos (Nat.zero_le _), Nat.sub_zero]
  rw [e]
  unfold fsum
  rw [Px.add_of]
  rfl

/-- A polynomial at u, as a sum. -/
theorem hor_sx (u : Px p) : ∀ (h : List Nat) (n : Nat), h.length ≤ n → hor u h = sx n fun j => ev p [h.getD j 0] * pw u j
  | [], n, _ => by rw [hor, sx_zero]; intro i _; simp [ev_const_zero, Px.zero_mul]
  | c :: h, 0, hn => by simp at hn
  | c :: h, n + 1, hn => by
    rw [hor, sx_head, hor_sx u h n (by simp at hn; omega), ← sx_mul]
    congr 1
    · simp [pw_zero, Px.mul_one]
    · refine sx_congr fun j _ => ?_
      rw [List.getD_cons_succ, pw_succ]; ac_rfl

theorem fsum_cg (hP : M.Pr p) {f s : List Nat} (hf : Pol p f) (h2 : 2 ≤ f.length) (S : StepIs p f s) (h : List Nat) : ∀ n, Cg p f (fsum p f s n h) (sx n fun j => ev p [h.getD j 0] * pw (pw (xX p) p) j)
  | 0 => Cg.of_eq (by unfold fsum sx; exact Px.zero_of.symm)
  | n + 1 => by
    have hp : 0 < p := by have := hP.1; omega
    rw [fsum_succ, sx]
    have P := powSeq_is hP hf h2 S n
    exact (fsum_cg hP hf h2 S h n).add hp (Cg.mul hP (IsP.ev P.1) (IsP.const hp _) (Cg.refl _) P.2.2)

/-- h is its own p-th power modulo f. -/
def Fx (p : Nat) (f h : List Nat) : Prop := Cg p f (pw (ev p h) p) (ev p h)

theorem fsum_pw (hP : M.Pr p) {f s : List Nat} (hf : Pol p f) (h2 : 2 ≤ f.length) (S : StepIs p f s) {h : List Nat} {n : Nat} (hn : h.length ≤ n) : Cg p f (fsum p f s n h) (pw (ev p h) p) := by
  have h1 := fsum_cg hP hf h2 S h n
  rw [← hor_sx _ _ _ hn, ← frob_hor hP, hor_x] at h1
  exact h1

theorem fixedMat_row (f : List Nat) {i : Nat} (hi : i < f.length - 1) : rowAt (fixedMat p f) i = (List.range (f.length - 1)).map fun j => fixedCell p f (raiseP p [0, 1] p f) i j := by
  unfold rowAt fixedMat
  simp [List.getD, hi]

theorem fixedMat_cell (hp : 2 ≤ p) (f : List Nat) {i j : Nat} (hi : i < f.length - 1) (hj : j < f.length - 1) : (p : Int) ∣ cf (rowAt (fixedMat p f) i) j - (cf (powSeq p f (raiseP p [0, 1] p f) j) i - if j = i then 1 else 0) := by
  have e : (rowAt (fixedMat p f) i).getD j 0 = fixedCell p f (raiseP p [0, 1] p f) i j := by rw [fixedMat_row f hi]; simp [List.getD, hj]
  unfold cf
  rw [e]
  unfold fixedCell
  by_cases h : i = j
  · subst h
    rw [if_pos rfl, if_pos rfl]
    have h1 := dvd_mod (p := p) ((powSeq p f (raiseP p [0, 1] p f) i).getD i 0 + p - 1)
    have h2 : (p : Int) ∣ p := ⟨1, by omega⟩
    have h3 := Int.dvd_add h1 h2
    rwa [show ∀ (a b : Nat), (a : Int) - ((b + p - 1 : Nat) : Int) + p = (a : Int) - ((b : Int) - 1) by intro a b; omega] at h3
  · rw [if_neg h, if_neg (fun e => h e.symm), Int.sub_zero, Int.sub_self]; exact ⟨0, by simp⟩

theorem dot_fixed (hp : 2 ≤ p) (f : List Nat) {i : Nat} (hi : i < f.length - 1) (h : Nat → Int) : (p : Int) ∣ dot (f.length - 1) (rowAt (fixedMat p f) i) h - ((sm (f.length - 1) fun j => h j * cf (powSeq p f (raiseP p [0, 1] p f) j) i) - h i) := by
  have e : (sm (f.length - 1) fun j => h j * cf (powSeq p f (raiseP p [0, 1] p f) j) i) - h i = sm (f.length - 1) fun j => (cf (powSeq p f (raiseP p [0, 1] p f) j) i - if j = i then 1 else 0) * h j := by
    have e1 : (fun j => (cf (powSeq p f (raiseP p [0, 1] p f) j) i - if j = i then 1 else 0) * h j) = fun j => h j * cf (powSeq p f (raiseP p [0, 1] p f) j) i + (if j = i then -h i else 0) := by
      funext j
      by_cases hj : j = i
      · subst hj; rw [if_pos rfl, if_pos rfl, Int.sub_mul, Int.one_mul, Int.mul_comm]; omega
      · rw [if_neg hj, if_neg hj, Int.sub_zero, Int.add_zero, Int.mul_comm]
    rw [e1, sm_add, sm_delta hi]; omega
  rw [e]
  unfold dot
  exact sm_dvd_sub fun j hj => dvd_cf_mul (fixedMat_cell hp f hi hj)

theorem ker_iff (hP : M.Pr p) {f : List Nat} (hf : Pol p f) (h2 : 2 ≤ f.length) {h : List Nat} (hh : Pol p h) (hl : h.length < f.length) :
    (∀ i, i < f.length - 1 → (p : Int) ∣ dot (f.length - 1) (rowAt (fixedMat p f) i) (cf h)) ↔ Fx p f h := by
  have hp2 := hP.1
  have hp : 0 < p := by omega
  obtain ⟨n, hn⟩ : ∃ n, n = f.length - 1 := ⟨_, rfl⟩
  obtain ⟨s, hs⟩ : ∃ s, s = raiseP p [0, 1] p f := ⟨_, rfl⟩
  have S : StepIs p f s := hs ▸ step_is hP hf h2
  have P := powSeq_is hP hf h2 S
  have hA : (∀ i, i < n → (p : Int) ∣ dot n (rowAt (fixedMat p f) i) (cf h)) ↔ fsum p f s n h = ev p h := by
    have hd : ∀ i, i < n → ((p : Int) ∣ dot n (rowAt (fixedMat p f) i) (cf h) ↔ (p : Int) ∣ (sm n fun j => cf h j * cf (powSeq p f s j) i) - cf h i) := fun i hi => by
      have h1 := dot_fixed (by omega) f (i := i) (by omega) (cf h)
      rw [← hn, ← hs] at h1
      constructor
      · intro h3
        have := Int.dvd_sub h3 h1
        rwa [Int.sub_sub_self] at this
      · intro h3
        have := Int.dvd_add h1 h3
        rwa [Int.sub_add_cancel] at this
    constructor
    · intro H
      refine Px.eq fun i => ?_
      by_cases hi : i < n
      · obtain ⟨k, hk⟩ := (hd i hi).1 (H i hi)
        exact ⟨k, by omega⟩
      · refine ⟨0, ?_⟩
        rw [cf_out (by omega), sm_zero fun j _ => by rw [cf_out (f := powSeq p f s j) (by have := (P j).2.1; omega), Int.mul_zero]]; simp
    · intro H i hi
      obtain ⟨k, hk⟩ := Px.eqv H i
      simp only at hk
      exact (hd i hi).2 ⟨k, by omega⟩
  rw [hn] at hA
  rw [hA]
  rw [← hn]
  have c := fsum_pw hP hf h2 S (h := h) (n := n) (by omega)
  constructor
  · intro e
    rw [e] at c
    exact c.symm hp
  · intro H
    -- the sum, as a reduced list
    obtain ⟨T, hT⟩ : ∃ T : List Nat, T = trim ((List.range n).map fun i => ((sm n fun j => cf h j * cf (powSeq p f s j) i) % p).toNat) := ⟨_, rfl⟩
    have hTp : Pol p T := by
      rw [hT]
      refine Red.trim fun x hx => ?_
      simp only [List.mem_map, List.mem_range] at hx
      obtain ⟨i, _, rfl⟩ := hx
      have h0 := Int.emod_nonneg (sm n fun j => cf h j * cf (powSeq p f s j) i) (show (p : Int) ≠ 0 by omega)
      have h1 := Int.emod_lt_of_pos (sm n fun j => cf h j * cf (powSeq p f s j) i) (show (0 : Int) < p by omega)
      omega
    have hTl : T.length < f.length := by
      rw [hT, trim_length]
      refine Nat.lt_of_le_of_lt (trimLen_le _) ?_
      simp; omega
    have hTe : ev p T = fsum p f s n h := by
      rw [hT, ev_trim]
      refine Px.eq fun i => ?_
      by_cases hi : i < n
      · have h0 := Int.emod_nonneg (sm n fun j => cf h j * cf (powSeq p f s j) i) (show (p : Int) ≠ 0 by omega)
        refine ⟨-((sm n fun j => cf h j * cf (powSeq p f s j) i) / p), ?_⟩
        have h1 := Int.mul_ediv_add_emod (sm n fun j => cf h j * cf (powSeq p f s j) i) p
        simp only [cf, List.getD_eq_getElem?_getD, List.getElem?_map, List.getElem?_range hi, Option.map_some, Option.getD_some]
        simp only [cf, List.getD_eq_getElem?_getD] at h0 h1
        rw [Int.toNat_of_nonneg h0, Int.mul_neg]
        omega
      · refine ⟨0, ?_⟩
        rw [cf_out (by simp; omega), sm_zero fun j _ => by rw [cf_out (f := powSeq p f s j) (by have := (P j).2.1; omega), Int.mul_zero]]; simp
    rw [← hTe] at c ⊢
    rw [low_cg hP hTp hh hf hTl hl (c.trans hp H)]

end Q
end Go.Proofs.YtbehihanhfmmhaaGreat

namespace Go.Proofs.YtbehihanhfmmhaaGreat
namespace Q
variable {p : Nat}

/-! ### One irreducible polynomial -/
theorem Irr.primeX (hP : M.Pr p) {g : List Nat} (h : Irr p g) {a b : Px p} (ha : IsP p a) (hb : IsP p b) (hd : DX p g (a * b)) : DX p g a ∨ DX p g b := by
  obtain ⟨q, hq, rfl⟩ := ha
  obtain ⟨r, hr, rfl⟩ := hb
  rw [← ev_prod] at hd
  exact (h.prime hP hq hr (dx_iff.1 hd)).imp dx_iff.2 dx_iff.2

theorem Irr.notOne (hP : M.Pr p) {g : List Nat} (h : Irr p g) : ¬ DX p g 1 := fun hd => by
  rw [← ev_one] at hd
  have := dv_one hP h.pol (dx_iff.1 hd)
  have := h.two
  omega

theorem cg_const (hP : M.Pr p) {g : List Nat} (hg : Pol p g) (h2 : 2 ≤ g.length) {a b : Nat} (ha : a < p) (hb : b < p) (h : Cg p g (ev p [a]) (ev p [b])) : a = b := by
  have hp : 0 < p := by omega
  rw [← ev_trim [a], ← ev_trim [b]] at h
  have l1 := trim1_len a
  have l2 := trim1_len b
  exact trim1_inj (low_cg hP (pol_trim1 hp a ha) (pol_trim1 hp b hb) hg (by omega) (by omega) h)

theorem Irr.prodS (hP : M.Pr p) {g : List Nat} (h : Irr p g) {u : Px p} (hu : IsP p u) : ∀ xs : List Nat, DX p g (Q.prodS p u xs) → ∃ x ∈ xs, Cg p g u (ev p [x])
  | [], hd => absurd hd (h.notOne hP)
  | x :: xs, hd => by
    have hp : 0 < p := by have := hP.1; omega
    have hpr : ∀ xs, IsP p (Q.prodS p u xs) := fun xs => by
      induction xs with
      | nil => exact IsP.one hP
      | cons a xs ih => exact (hu.sub hp (IsP.const hp a)).mul hP ih
    rcases h.primeX hP (hu.sub hp (IsP.const hp x)) (hpr xs) hd with h1 | h1
    · exact ⟨x, by simp, h1⟩
    · obtain ⟨y, hy, h2⟩ := h.prodS hP hu xs h1
      exact ⟨y, by simp [hy], h2⟩

/-- A fixed polynomial is a number modulo each irreducible factor. -/
theorem fixed_const (hP : M.Pr p) {f g h : List Nat} (hg : Irr p g) (hd : Dv p g f) (hh : Pol p h) (hx : Fx p f h) : ∃ s, s < p ∧ Cg p g (ev p h) (ev p [s]) := by
  have h1 : DX p g (pw (ev p h) p - ev p h) := DX.trans hP hd hx
  rw [← prod_all hP] at h1
  obtain ⟨s, hs, hc⟩ := hg.prodS hP (IsP.ev hh) _ h1
  exact ⟨s, List.mem_range.1 hs, hc⟩

/-! ### Products of different irreducible polynomials -/
theorem dv_of_prodL (hP : M.Pr p) {g : List Nat} (hg : MIrr p g) {l : List (List Nat)} (hl : ∀ x ∈ l, MIrr p x) (h : Dv p g (prodL p l)) : g ∈ l := by
  obtain ⟨x, hx, hd⟩ := hg.irr.dv_prodL hP (fun y hy => (hl y hy).irr.pol) h
  rw [hg.eq hP (hl x hx) hd]; exact hx

theorem dx_prodL (hP : M.Pr p) {a : Px p} (ha : IsP p a) : ∀ {l : List (List Nat)}, l.Nodup → (∀ g ∈ l, MIrr p g) → (∀ g ∈ l, DX p g a) → DX p (prodL p l) a
  | [], _, _, _ => ⟨a, ha, by show a = a * ev p [1]; rw [ev_one, Px.mul_one]⟩
  | g :: l, hn, hl, hd => by
    obtain ⟨q, hq, e⟩ := hd g (by simp)
    have hg := hl g (by simp)
    have hn1 := List.nodup_cons.1 hn
    obtain ⟨r, hr, e2⟩ := dx_prodL hP hq hn1.2 (fun x hx => hl x (by simp [hx])) fun x hx => by
      have h1 := hd x (by simp [hx])
      rw [e] at h1
      rcases (hl x (by simp [hx])).irr.primeX hP hq (IsP.ev hg.irr.pol) h1 with h2 | h2
      · exact h2
      · have := (hl x (by simp [hx])).eq hP hg (dx_iff.1 h2)
        subst this
        exact absurd hx hn1.1
    exact ⟨r, hr, by rw [e, e2, ev_prodL_cons]; ac_rfl⟩

/-- f is a number times the product of different irreducible polynomials. -/
structure Sqf (p : Nat) (f : List Nat) (gs : List (List Nat)) : Prop where
  nodup : gs.Nodup
  irr : ∀ g ∈ gs, MIrr p g
  pol : Pol p f
  two : 2 ≤ f.length
  val : ∃ c, c < p ∧ c ≠ 0 ∧ ev p f = ev p [c] * ev p (prodL p gs)

theorem Sqf.dv (hP : M.Pr p) {f : List Nat} {gs : List (List Nat)} (S : Sqf p f gs) {g : List Nat} (hg : g ∈ gs) : Dv p g f := by
  obtain ⟨c, hc, h0, e⟩ := S.val
  rw [← dx_iff, e]
  exact DX.mul hP (IsP.const (by omega) c) (dx_iff.2 (dv_prodL_mem hP (fun x hx => (S.irr x hx).irr.pol) hg))

theorem Sqf.all (hP : M.Pr p) {f : List Nat} {gs : List (List Nat)} (S : Sqf p f gs) {a : Px p} (ha : IsP p a) (h : ∀ g ∈ gs, DX p g a) : DX p f a := by
  obtain ⟨c, hc, h0, e⟩ := S.val
  obtain ⟨q, hq, e2⟩ := dx_prodL hP ha S.nodup S.irr h
  have hi := inv_spec hP hc h0
  refine ⟨q * ev p [invM p c], hq.mul hP (IsP.const (by omega) _), ?_⟩
  rw [e, e2, show q * ev p [invM p c] * (ev p [c] * ev p (prodL p gs)) = ev p [c] * ev p [invM p c] * (q * ev p (prodL p gs)) by ac_rfl, ev_const_mul _ _ hi.2.1, Px.one_mul]

theorem Sqf.fx (hP : M.Pr p) {f : List Nat} {gs : List (List Nat)} (S : Sqf p f gs) {h : List Nat} (hh : Pol p h) (H : ∀ g ∈ gs, ∃ s, Cg p g (ev p h) (ev p [s])) : Fx p f h := by
  have hp : 0 < p := by have := hP.1; omega
  refine S.all hP ((IsP.ev hh).pw hP p |>.sub hp (IsP.ev hh)) fun g hg => ?_
  obtain ⟨s, hs⟩ := H g hg
  have h1 := hs.pw hP (IsP.ev hh) (IsP.const hp s) p
  rw [frob_const hP] at h1
  exact h1.trans hp (hs.symm hp)

/-- Remainders may be prescribed. -/
theorem crt (hP : M.Pr p) : ∀ (L : List (List Nat × Nat)), (L.map fun x => x.1).Nodup → (∀ x ∈ L, MIrr p x.1) → ∃ h, Pol p h ∧ ∀ x ∈ L, Cg p x.1 (ev p h) (ev p [x.2])
  | [], _, _ => ⟨[], Pol.nil p, by simp⟩
  | (g, a) :: L, hn, hL => by
    have hp : 0 < p := by have := hP.1; omega
    rw [List.map_cons] at hn
    have hn1 := List.nodup_cons.1 hn
    obtain ⟨h, hh, H⟩ := crt hP L hn1.2 fun x hx => hL x (by simp [hx])
    have hg : MIrr p g := hL (g, a) (by simp)
    have hK : ∀ x ∈ L.map (fun x => x.1), MIrr p x := fun x hx => by
      obtain ⟨y, hy, rfl⟩ := List.mem_map.1 hx; exact hL y (by simp [hy])
    have hKp : ∀ x ∈ L.map (fun x => x.1), Pol p x := fun x hx => (hK x hx).irr.pol
    obtain ⟨u, v, hu, hv, e⟩ := hg.irr.bez hP (prodL_pol hP hKp) fun hd => hn1.1 (dv_of_prodL hP hg hK hd)
    obtain ⟨P, hPe⟩ : ∃ P, P = prodL p (L.map fun x => x.1) := ⟨_, rfl⟩
    have hPp : Pol p P := hPe ▸ prodL_pol hP hKp
    rw [← hPe] at e
    -- h + (a - h) v P
    have hd : IsP p (ev p [a] - ev p h) := (IsP.const hp a).sub hp (IsP.ev hh)
    have hx : IsP p (ev p h + (ev p [a] - ev p h) * (ev p v * ev p P)) := (IsP.ev hh).add hp (hd.mul hP ((IsP.ev hv).mul hP (IsP.ev hPp)))
    obtain ⟨k, hk, ek⟩ := hx
    refine ⟨k, hk, fun x hx => ?_⟩
    rw [← ek]
    rcases List.mem_cons.1 hx with rfl | hx
    · -- v P is 1 - u g
      have h1 : Cg p g (ev p v * ev p P) 1 := by
        unfold Cg
        rw [e, show ev p v * ev p P - (ev p u * ev p g + ev p v * ev p P) = -(ev p u * ev p g) by
          rw [Px.sub_def, Px.neg_add_rev, Px.add_comm (-(ev p u * ev p g)), ← Px.add_assoc, Px.add_neg, Px.zero_add]]
        exact DX.neg hp (DX.self hP (IsP.ev hu))
      have h2 := Cg.mul hP ((IsP.ev hv).mul hP (IsP.ev hPp)) hd (Cg.refl (f := g) (ev p [a] - ev p h)) h1
      have h3 := (Cg.refl (f := g) (ev p h)).add hp h2
      rw [Px.mul_one, Px.add_comm (ev p h) (ev p [a] - ev p h), sub_add] at h3
      rw [Px.add_comm] at h3 ⊢
      exact h3
    · have h1 : DX p x.1 (ev p P) := dx_iff.2 (hPe ▸ dv_prodL_mem hP hKp (List.mem_map.2 ⟨x, hx, rfl⟩))
      have h2 : Cg p x.1 ((ev p [a] - ev p h) * (ev p v * ev p P)) 0 := Cg.zero.2 (DX.mul hP hd (DX.mul hP (IsP.ev hv) h1))
      have h3 := (H x hx).add hp h2
      rwa [Px.add_zero] at h3

theorem Sqf.crt (hP : M.Pr p) {f : List Nat} {gs : List (List Nat)} (S : Sqf p f gs) (a : List Nat → Nat) : ∃ h, Pol p h ∧ h.length < f.length ∧ Fx p f h ∧ ∀ g ∈ gs, Cg p g (ev p h) (ev p [a g]) := by
  have hp : 0 < p := by have := hP.1; omega
  have h2 := S.two
  obtain ⟨h, hh, H⟩ := Q.crt hP (gs.map fun g => (g, a g)) (by rw [List.map_map]; exact (List.map_id gs).symm ▸ S.nodup) fun x hx => by
    obtain ⟨g, hg, rfl⟩ := List.mem_map.1 hx; exact S.irr g hg
  have D := div_is hP hh S.pol (by omega)
  have hc : ∀ g ∈ gs, Cg p g (ev p (remP p h f)) (ev p [a g]) := fun g hg => by
    have h1 := rem_cg hP hh S.pol (by omega)
    exact (Cg.symm hp (DX.trans hP (S.dv hP hg) h1)).trans hp (H (g, a g) (List.mem_map.2 ⟨g, hg, rfl⟩))
  exact ⟨remP p h f, D.rpol, D.rlen, S.fx hP D.rpol fun g hg => ⟨_, hc g hg⟩, hc⟩

/-! ### The basis -/
theorem fixedMat_len (f : List Nat) : (fixedMat p f).length = f.length - 1 := by simp [fixedMat]
theorem fixedMat_red (hP : M.Pr p) {f : List Nat} (hf : Pol p f) (h2 : 2 ≤ f.length) : ∀ i, i < f.length - 1 → Red p (rowAt (fixedMat p f) i) := fun i hi x hx => by
  have hp := hP.1
  have P := powSeq_is hP hf h2 (step_is hP hf h2)
  rw [fixedMat_row f hi] at hx
  simp only [List.mem_map, List.mem_range] at hx
  obtain ⟨j, _, rfl⟩ := hx
  unfold fixedCell
  split
  · exact Nat.mod_lt _ (by omega)
  · exact (P j).1.red.getD (by omega) _

theorem fixed_kernel (hP : M.Pr p) {f : List Nat} (hf : Pol p f) (h2 : 2 ≤ f.length) : KerIs p (f.length - 1) (fixedMat p f) :=
  kernel_is hP (fixedMat_len f) (fixedMat_red hP hf h2)

theorem colP_red (hp : 0 < p) (h1 : 1 < p) (m : List (List Nat)) (j : Nat) : Red p (colP p m j) := by
  intro x hx
  simp only [colP, column, List.mem_map, List.mem_range] at hx
  obtain ⟨i, _, rfl⟩ := hx
  split
  · exact Nat.mod_lt _ hp
  · split <;> omega
theorem colP_len (m : List (List Nat)) (j : Nat) : (colP p m j).length = m.length := by simp [colP, column]

/-- The element of the basis for a free column. -/
def basP (p : Nat) (f : List Nat) (j : Nat) : List Nat := trim (colP p (fixedMat p f) j)
theorem fixedP_eq (f : List Nat) : fixedP p f = (freeL p (fixedMat p f)).map (basP p f) := kernelP_eq _
theorem bas_pol (hP : M.Pr p) {f : List Nat} (h2 : 2 ≤ f.length) (j : Nat) : Pol p (basP p f j) ∧ (basP p f j).length < f.length := by
  have := hP.1
  refine ⟨(colP_red (by omega) (by omega) _ _).trim, ?_⟩
  unfold basP
  rw [trim_length]
  have h1 := trimLen_le (colP p (fixedMat p f) j)
  rw [colP_len, fixedMat_len] at h1
  omega
theorem bas_fx (hP : M.Pr p) {f : List Nat} (hf : Pol p f) (h2 : 2 ≤ f.length) {j : Nat} (hj : j ∈ freeL p (fixedMat p f)) : Fx p f (basP p f j) := by
  have K := fixed_kernel hP hf h2
  have B := bas_pol hP h2 j
  rw [← ker_iff hP hf h2 B.1 B.2]
  intro i hi
  have h := K.mem j hj i hi
  unfold basP
  rwa [cf_trim]

/-- A fixed polynomial is the sum of the basis, with its own numbers at the free columns. -/
theorem fx_span (hP : M.Pr p) {f h : List Nat} (hf : Pol p f) (h2 : 2 ≤ f.length) (hh : Pol p h) (hl : h.length < f.length) (hx : Fx p f h) :
    ev p h = sx (f.length - 1) fun j => if j ∈ freeL p (fixedMat p f) then ev p [h.getD j 0] * ev p (basP p f j) else 0 := by
  have K := fixed_kernel hP hf h2
  have H := K.span (cf h) ((ker_iff hP hf h2 hh hl).2 hx)
  have e : ∀ n, (sx n fun j => if j ∈ freeL p (fixedMat p f) then ev p [h.getD j 0] * ev p (basP p f j) else 0) = Px.of p fun i => sm n fun j => if j ∈ freeL p (fixedMat p f) then cf h j * cf (colP p (fixedMat p f) j) i else 0 := by
    intro n
    induction n with
    | zero => exact Px.zero_of
    | succ n ih =>
      rw [sx, ih]
      by_cases hn : n ∈ freeL p (fixedMat p f)
      · rw [if_pos hn]
        have e : ev p [h.getD n 0] * ev p (basP p f n) = Px.of p fun i => cf h n * cf (colP p (fixedMat p f) n) i := by
          unfold basP
          rw [ev_trim]
          unfold ev
          rw [Px.mul_of]
          congr 1; funext i
          have : cf [h.getD n 0] = fun k => if k = 0 then cf h n else 0 := by funext k; rcases k with _ | k <;> simp [cf]
          rw [this, cau_mono, if_pos (Nat.zero_le _), Nat.sub_zero]
        rw [e, Px.add_of]
        congr 1; funext i
        rw [sm, if_pos hn]
      · rw [if_neg hn, Px.add_zero]
        congr 1; funext i
        rw [sm, if_neg hn, Int.add_zero]
  rw [e]
  refine Px.eq fun c => ?_
  by_cases hc : c < f.length - 1
  · obtain ⟨k, hk⟩ := H c hc
    exact ⟨k, by omega⟩
  · refine ⟨0, ?_⟩
    rw [cf_out (by omega), sm_zero fun j _ => by rw [cf_out (f := colP p (fixedMat p f) j) (by rw [colP_len, fixedMat_len]; omega), Int.mul_zero, ite_self]]; simp

/-- What holds of the basis, as numbers modulo two polynomials, holds of all. -/
theorem fx_same (hP : M.Pr p) {f h g g' : List Nat} (hf : Pol p f) (h2 : 2 ≤ f.length) (hh : Pol p h) (hl : h.length < f.length) (hx : Fx p f h)
    (H : ∀ j ∈ freeL p (fixedMat p f), ∃ s, Cg p g (ev p (basP p f j)) (ev p [s]) ∧ Cg p g' (ev p (basP p f j)) (ev p [s])) : ∃ s, Cg p g (ev p h) (ev p [s]) ∧ Cg p g' (ev p h) (ev p [s]) := by
  have hp : 0 < p := by have := hP.1; omega
  rw [fx_span hP hf h2 hh hl hx]
  have key : ∀ n, ∃ s, Cg p g (sx n fun j => if j ∈ freeL p (fixedMat p f) then ev p [h.getD j 0] * ev p (basP p f j) else 0) (ev p [s]) ∧ Cg p g' (sx n fun j => if j ∈ freeL p (fixedMat p f) then ev p [h.getD j 0] * ev p (basP p f j) else 0) (ev p [s]) := by
    intro n
    induction n with
    | zero => exact ⟨0, by rw [ev_const_zero]; exact ⟨Cg.refl _, Cg.refl _⟩⟩
    | succ n ih =>
      obtain ⟨s, i1, i2⟩ := ih
      rw [sx]
      by_cases hn : n ∈ freeL p (fixedMat p f)
      · rw [if_pos hn]
        obtain ⟨t, t1, t2⟩ := H n hn
        have B := bas_pol hP h2 n
        refine ⟨s + h.getD n 0 * t, ?_⟩
        rw [← ev_const_add, ← ev_const_mul']
        exact ⟨i1.add hp (Cg.mul hP (IsP.ev B.1) (IsP.const hp _) (Cg.refl _) t1), i2.add hp (Cg.mul hP (IsP.ev B.1) (IsP.const hp _) (Cg.refl _) t2)⟩
      · rw [if_neg hn, Px.add_zero]; exact ⟨s, i1, i2⟩
  exact key _

/-! ### How many -/
theorem inj_len {α β : Type} [DecidableEq β] (F : α → β) : ∀ (l : List α) (k : List β), l.Nodup → (∀ x ∈ l, ∀ y ∈ l, F x = F y → x = y) → (∀ x ∈ l, F x ∈ k) → l.length ≤ k.length
  | [], k, _, _, _ => by simp
  | a :: l, k, hn, hi, hk => by
    have hn1 := List.nodup_cons.1 hn
    have ha := hk a (by simp)
    have h1 := inj_len F l (k.erase (F a)) hn1.2 (fun x hx y hy => hi x (by simp [hx]) y (by simp [hy])) fun x hx => by
      have hne : F x ≠ F a := fun e => hn1.1 (hi x (by simp [hx]) a (by simp) e ▸ hx)
      exact (List.mem_erase_of_ne hne).2 (hk x (by simp [hx]))
    rw [List.length_erase_of_mem ha] at h1
    have h2 := List.length_pos_of_mem ha
    rw [List.length_cons]
    omega

def tuples (p : Nat) : Nat → List (List Nat)
  | 0 => [[]]
  | n + 1 => (List.range p).flatMap fun a => (tuples p n).map (a :: ·)

theorem mem_tuples : ∀ (n : Nat) (t : List Nat), t ∈ tuples p n ↔ t.length = n ∧ ∀ x ∈ t, x < p
  | 0, t => by simp only [tuples, List.mem_singleton]; exact ⟨fun h => by subst h; simp, fun h => List.eq_nil_of_length_eq_zero h.1⟩
  | n + 1, t => by
    simp only [tuples, List.mem_flatMap, List.mem_range, List.mem_map]
    constructor
    · rintro ⟨a, ha, u, hu, rfl⟩
      have := (mem_tuples n u).1 hu
      exact ⟨by simp [this.1], fun x hx => (List.mem_cons.1 hx).elim (fun e => e ▸ ha) (this.2 x)⟩
    · rintro ⟨h1, h2⟩
      match t, h1 with
      | a :: u, h1 => exact ⟨a, h2 a (by simp), u, (mem_tuples n u).2 ⟨by simpa using h1, fun x hx => h2 x (by simp [hx])⟩, rfl⟩

theorem tuples_len : ∀ n, (tuples p n).length = p ^ n
  | 0 => rfl
  | n + 1 => by
    rw [tuples, List.length_flatMap]
    have : (List.range p).map (fun a => ((tuples p n).map (a :: ·)).length) = (List.range p).map fun _ => p ^ n := by
      refine List.map_congr_left fun a _ => ?_
      rw [List.length_map, tuples_len n]
    rw [this, List.map_const', List.sum_replicate_nat, List.length_range, Nat.pow_succ, Nat.mul_comm]

theorem tuples_nodup : ∀ n, (tuples p n).Nodup
  | 0 => by simp [tuples]
  | n + 1 => by
    rw [tuples]
    unfold List.Nodup
    rw [List.pairwise_flatMap]
    refine ⟨fun a _ => ?_, ?_⟩
    · rw [List.pairwise_map]
      exact (tuples_nodup n).imp fun h e => h (by simpa using e)
    · refine List.Pairwise.imp ?_ (List.nodup_range (n := p))
      intro a b hab x hx y hy e
      obtain ⟨u, _, rfl⟩ := List.mem_map.1 hx
      obtain ⟨v, _, rfl⟩ := List.mem_map.1 hy
      simp at e
      exact hab e.1

theorem fx_free (hP : M.Pr p) {f h k : List Nat} (hf : Pol p f) (h2 : 2 ≤ f.length) (hh : Pol p h) (hl : h.length < f.length) (hx : Fx p f h) (hk : Pol p k) (hkl : k.length < f.length) (kx : Fx p f k)
    (e : ∀ j ∈ freeL p (fixedMat p f), h.getD j 0 = k.getD j 0) : h = k := by
  have hp : 0 < p := by have := hP.1; omega
  refine ev_inj hp hh hk ?_
  rw [fx_span hP hf h2 hh hl hx, fx_span hP hf h2 hk hkl kx]
  refine sx_congr fun j _ => ?_
  by_cases hj : j ∈ freeL p (fixedMat p f)
  · rw [if_pos hj, if_pos hj, e j hj]
  · rw [if_neg hj, if_neg hj]

open Classical in
theorem Sqf.count (hP : M.Pr p) {f : List Nat} {gs : List (List Nat)} (S : Sqf p f gs) : gs.length ≤ (fixedP p f).length := by
  have hp2 := hP.1
  have hp : 0 < p := by omega
  have hex : ∀ t : List Nat, ∃ h, Pol p h ∧ h.length < f.length ∧ Fx p f h ∧ ∀ g ∈ gs, Cg p g (ev p h) (ev p [t.getD (gs.idxOf g) 0]) := fun t => S.crt hP fun g => t.getD (gs.idxOf g) 0
  have hH : ∃ H : List Nat → List Nat, ∀ t, Pol p (H t) ∧ (H t).length < f.length ∧ Fx p f (H t) ∧ ∀ g ∈ gs, Cg p g (ev p (H t)) (ev p [t.getD (gs.idxOf g) 0]) :=
    ⟨fun t => Classical.choose (hex t), fun t => Classical.choose_spec (hex t)⟩
  obtain ⟨H, hH⟩ := hH
  have h := inj_len (fun t => (freeL p (fixedMat p f)).map fun j => (H t).getD j 0) (tuples p gs.length) (tuples p (fixedP p f).length) (tuples_nodup _) ?_ ?_
  · rw [tuples_len, tuples_len] at h
    exact (Nat.pow_le_pow_iff_right (by omega)).1 h
  · intro t ht u hu e
    have t1 := (mem_tuples _ _).1 ht
    have u1 := (mem_tuples _ _).1 hu
    have hHe : H t = H u := fx_free hP S.pol S.two (hH t).1 (hH t).2.1 (hH t).2.2.1 (hH u).1 (hH u).2.1 (hH u).2.2.1 fun j hj => List.map_inj_left.1 e j hj
    refine ext_getD (by omega) fun i hi => ?_
    have hig : i < gs.length := by omega
    have hidx : gs.idxOf gs[i] = i := by
      have := List.Nodup.idxOf_getElem S.nodup i hig
      exact this
    have c1 := (hH t).2.2.2 gs[i] (List.getElem_mem hig)
    have c2 := (hH u).2.2.2 gs[i] (List.getElem_mem hig)
    rw [hidx] at c1 c2
    rw [hHe] at c1
    have hm := S.irr gs[i] (List.getElem_mem hig)
    refine cg_const hP hm.irr.pol hm.irr.two ?_ ?_ ((c1.symm hp).trans hp c2)
    · rw [getD_get hi]; exact t1.2 _ (List.getElem_mem hi)
    · rw [getD_get (by omega)]; exact u1.2 _ (List.getElem_mem _)
  · intro t _
    rw [mem_tuples]
    refine ⟨by rw [fixedP_eq]; simp, fun x hx => ?_⟩
    obtain ⟨j, _, rfl⟩ := List.mem_map.1 hx
    exact (hH t).1.red.getD hp j

end Q
end Go.Proofs.YtbehihanhfmmhaaGreat

namespace Go.Proofs.YtbehihanhfmmhaaGreat
namespace Q
variable {p : Nat}

/-- The first of the basis is 1. -/
theorem free_zero (hP : M.Pr p) {f : List Nat} (hf : Pol p f) (h2 : 2 ≤ f.length) : 0 ∈ freeL p (fixedMat p f) ∧ basP p f 0 = [1] := by
  have hp2 := hP.1
  have hp : 0 < p := by omega
  have h1 : Fx p f [1] := by
    unfold Fx
    rw [frob_const hP]; exact Cg.refl _
  have hs := fx_span hP hf h2 (pol_one hP) (by show 1 < _; omega) h1
  obtain ⟨n, hn⟩ : ∃ n, f.length - 1 = n + 1 := ⟨f.length - 2, by omega⟩
  rw [hn, sx_head] at hs
  have hz : sx n (fun j => if j + 1 ∈ freeL p (fixedMat p f) then ev p [[1].getD (j + 1) 0] * ev p (basP p f (j + 1)) else 0) = 0 := sx_zero fun j _ => by
    split
    · rw [show [1].getD (j + 1) 0 = 0 by simp, ev_const_zero, Px.zero_mul]
    · rfl
  rw [hz, Px.add_zero] at hs
  by_cases h0 : 0 ∈ freeL p (fixedMat p f)
  · refine ⟨h0, ?_⟩
    rw [if_pos h0, show [1].getD 0 0 = 1 from rfl, ev_one, Px.one_mul, ← ev_one] at hs
    exact (ev_inj hp (pol_one hP) (bas_pol hP h2 0).1 hs).symm
  · exfalso
    rw [if_neg h0] at hs
    exact ev_ne hP (pol_one hP) (by simp) hs

theorem fixed_head (hP : M.Pr p) {f : List Nat} (hf : Pol p f) (h2 : 2 ≤ f.length) : fixedP p f = [1] :: (fixedP p f).drop 1 := by
  obtain ⟨h0, h1⟩ := free_zero hP hf h2
  obtain ⟨n, hn⟩ : ∃ n, f.length - 1 = n + 1 := ⟨f.length - 2, by omega⟩
  rw [fixedP_eq]
  have e : ∃ r, freeL p (fixedMat p f) = 0 :: r := by
    unfold freeL at h0 ⊢
    rw [fixedMat_len, hn, List.range_succ_eq_map] at h0 ⊢
    rw [List.filter_cons]
    have := (List.mem_filter.1 h0).2
    rw [if_pos this]
    exact ⟨_, rfl⟩
  obtain ⟨r, hr⟩ := e
  rw [hr]
  simp [h1]

/-- A divisor of a product of irreducible polynomials is the product of some of them. -/
theorem gcd_parts (hP : M.Pr p) {M v : List Nat} {K : List (List Nat)} (hM : Pol p M) (mM : Mon M) (hK : ∀ g ∈ K, MIrr p g) (hn : K.Nodup) (e : ev p M = ev p (prodL p K)) (hv : Pol p v) :
    ∃ l l', (l ++ l').Perm K ∧ Pol p (gcdP p M v) ∧ Mon (gcdP p M v) ∧ ev p (gcdP p M v) = ev p (prodL p l) ∧ Pol p (divP p M (gcdP p M v)).1 ∧ Mon (divP p M (gcdP p M v)).1 ∧ ev p (divP p M (gcdP p M v)).1 = ev p (prodL p l')
      ∧ (∀ g ∈ l, Dv p g v) ∧ (∀ g ∈ l', ¬ Dv p g v) ∧ (divP p M (gcdP p M v)).1.length = M.length - ((gcdP p M v).length - 1) := by
  have hp : 0 < p := by have := hP.1; omega
  have G := gcdP_is hP hM hv
  have h0 := mM.1
  have hne : gcdP p M v ≠ [] := fun h => by have := (G.zero.1 h).1; rw [this] at h0; simp at h0
  have mG := G.mon.resolve_left hne
  have D := div_is hP hM G.pol mG.1
  have hr := (rem_nil_iff hP hM G.pol mG.1).2 G.left
  have hval := D.val
  rw [hr, ev_nil, Px.add_zero] at hval
  have e1 := eq_prod hP hM D.qpol G.pol hval
  have mQ := mon_cofactor hP G.pol D.qpol mM mG e1
  obtain ⟨l, hl, el⟩ := exists_fac hP _ (Nat.le_refl _) G.pol mG
  obtain ⟨l', hl', el'⟩ := exists_fac hP _ (Nat.le_refl _) D.qpol mQ
  have hpm : (l ++ l').Perm K := by
    refine fac_perm hP (fun x hx => (List.mem_append.1 hx).elim (hl x) (hl' x)) hK ?_
    rw [ev_prodL_append, ← el, ← el', ← e, hval, Px.mul_comm]
  have hnd : (l ++ l').Nodup := hpm.nodup_iff.2 hn
  refine ⟨l, l', hpm, G.pol, mG, el, D.qpol, mQ, el', fun g hg => ?_, fun g hg hd => ?_, D.qlen⟩
  · have h1 : Dv p g (gcdP p M v) := by
      rw [← dx_iff, el, dx_iff]
      exact dv_prodL_mem hP (fun x hx => (hl x hx).irr.pol) hg
    exact h1.trans hP G.right
  · have hgK : g ∈ K := hpm.mem_iff.1 (List.mem_append.2 (.inr hg))
    have h1 : Dv p g M := by
      rw [← dx_iff, e, dx_iff]
      exact dv_prodL_mem hP (fun x hx => (hK x hx).irr.pol) hgK
    have h2 := G.greatest hP h1 hd
    rw [← dx_iff, el, dx_iff] at h2
    have h3 := dv_of_prodL hP (hl' g hg) hl h2
    exact (List.nodup_append.1 hnd).2.2 g h3 g hg rfl

/-- All of K divide v, or none. -/
def Hom (p : Nat) (v : List Nat) (K : List (List Nat)) : Prop := (∀ g ∈ K, Dv p g v) ∨ (∀ g ∈ K, ¬ Dv p g v)
theorem Hom.sub {v : List Nat} {K K' : List (List Nat)} (h : Hom p v K) (hs : ∀ g ∈ K', g ∈ K) : Hom p v K' := h.imp (fun h g hg => h g (hs g hg)) fun h g hg => h g (hs g hg)

/-- Parts, each with its irreducible factors. -/
structure Part (p : Nat) (z : List Nat × List (List Nat)) : Prop where
  pol : Pol p z.1
  mon : Mon z.1
  val : ev p z.1 = ev p (prodL p z.2)
  ne : z.2 ≠ []
  irr : ∀ g ∈ z.2, MIrr p g
  nodup : z.2.Nodup

theorem part_of (hP : M.Pr p) {M : List Nat} {l : List (List Nat)} (hM : Pol p M) (mM : Mon M) (e : ev p M = ev p (prodL p l)) (h2 : 2 ≤ M.length) (hl : ∀ g ∈ l, MIrr p g) (hn : l.Nodup) : Part p (M, l) := by
  refine ⟨hM, mM, e, fun h => ?_, hl, hn⟩
  simp only at h
  subst h
  have := ev_inj (by have := hP.1; omega) hM (pol_one hP) e
  rw [this] at h2; simp at h2

theorem splitOne_is (hP : M.Pr p) {v : List Nat} (hv : Pol p v) {z : List Nat × List (List Nat)} (Z : Part p z) :
    ∃ Y : List (List Nat × List (List Nat)), Y.map (fun x => x.1) = splitOne p v z.1 ∧ (∀ y ∈ Y, Part p y ∧ Hom p v y.2 ∧ ∀ g ∈ y.2, g ∈ z.2) ∧ (Y.flatMap fun x => x.2).Perm z.2 := by
  obtain ⟨M, K⟩ := z
  show ∃ Y : List (List Nat × List (List Nat)), Y.map (fun x => x.1) = splitOne p v M ∧ (∀ y ∈ Y, Part p y ∧ Hom p v y.2 ∧ ∀ g ∈ y.2, g ∈ K) ∧ (Y.flatMap fun x => x.2).Perm K
  have ZM : Pol p M := Z.pol
  have ZmM : Mon M := Z.mon
  obtain ⟨l, l', hpm, hc, mc, ec, hq, mq, eq, h1, h2, hlen⟩ := gcd_parts hP ZM ZmM Z.irr Z.nodup Z.val hv
  have hc0 := mc.1
  have hM0 := ZmM.1
  have hsub : ∀ g, g ∈ l ∨ g ∈ l' → g ∈ K := fun g hg => hpm.mem_iff.1 (List.mem_append.2 hg)
  have hnd : (l ++ l').Nodup := hpm.nodup_iff.2 Z.nodup
  have hnd2 := List.nodup_append.1 hnd
  unfold splitOne
  simp only
  by_cases hs : 1 < (gcdP p M v).length ∧ (gcdP p M v).length < M.length
  · rw [if_pos hs]
    refine ⟨[(gcdP p M v, l), ((divP p M (gcdP p M v)).1, l')], rfl, ?_, by simpa using hpm⟩
    intro y hy
    simp at hy
    rcases hy with rfl | rfl
    · exact ⟨part_of hP hc mc ec (by omega) (fun g hg => Z.irr g (hsub g (.inl hg))) hnd2.1, .inl h1, fun g hg => hsub g (.inl hg)⟩
    · exact ⟨part_of hP hq mq eq (by omega) (fun g hg => Z.irr g (hsub g (.inr hg))) hnd2.2.1, .inr h2, fun g hg => hsub g (.inr hg)⟩
  · rw [if_neg hs]
    refine ⟨[(M, K)], rfl, ?_, by simp⟩
    intro y hy
    simp at hy
    subst hy
    refine ⟨Z, ?_, fun g hg => hg⟩
    by_cases hc1 : 1 < (gcdP p M v).length
    · have hq1 : (divP p M (gcdP p M v)).1 = [1] := mon_len1 mq (by have := mq.1; omega)
      have hl' : l' = [] := by
        cases l' with
        | nil => rfl
        | cons g t =>
          exfalso
          rw [hq1] at eq
          have h3 : Dv p g [1] := by
            rw [← dx_iff, eq, dx_iff]
            exact dv_prodL_mem hP (fun x hx => (Z.irr x (hsub x (.inr hx))).irr.pol) (by simp)
          have := dv_one hP (Z.irr g (hsub g (.inr (by simp)))).irr.pol h3
          have := (Z.irr g (hsub g (.inr (by simp)))).irr.two
          omega
      refine .inl fun g hg => h1 g ?_
      have := hpm.mem_iff.2 hg
      rw [hl', List.append_nil] at this
      exact this
    · have hc1' : gcdP p M v = [1] := mon_len1 mc (by have := mc.1; omega)
      have hl : l = [] := by
        cases l with
        | nil => rfl
        | cons g t =>
          exfalso
          rw [hc1'] at ec
          have h3 : Dv p g [1] := by
            rw [← dx_iff, ec, dx_iff]
            exact dv_prodL_mem hP (fun x hx => (Z.irr x (hsub x (.inl hx))).irr.pol) (by simp)
          have := dv_one hP (Z.irr g (hsub g (.inl (by simp)))).irr.pol h3
          have := (Z.irr g (hsub g (.inl (by simp)))).irr.two
          omega
      refine .inr fun g hg => h2 g ?_
      have := hpm.mem_iff.2 hg
      rw [hl, List.nil_append] at this
      exact this

/-- The state of the search: the parts Ms, with their factors, which are gs. -/
structure SpState (p : Nat) (gs : List (List Nat)) (Ms : List (List Nat)) (Y : List (List Nat × List (List Nat))) : Prop where
  fst : Y.map (fun x => x.1) = Ms
  part : ∀ y ∈ Y, Part p y
  perm : (Y.flatMap fun x => x.2).Perm gs

theorem splitBy_is (hP : M.Pr p) {v : List Nat} (hv : Pol p v) : ∀ (Y : List (List Nat × List (List Nat))), (∀ y ∈ Y, Part p y) →
    ∃ Y' : List (List Nat × List (List Nat)), Y'.map (fun x => x.1) = splitBy p (Y.map fun x => x.1) v ∧ (∀ y' ∈ Y', Part p y' ∧ Hom p v y'.2 ∧ ∃ y ∈ Y, ∀ g ∈ y'.2, g ∈ y.2) ∧ (Y'.flatMap fun x => x.2).Perm (Y.flatMap fun x => x.2)
  | [], _ => ⟨[], rfl, by simp, by simp⟩
  | z :: Y, hY => by
    obtain ⟨A, a1, a2, a3⟩ := splitOne_is hP hv (hY z (by simp))
    obtain ⟨B, b1, b2, b3⟩ := splitBy_is hP hv Y fun y hy => hY y (by simp [hy])
    refine ⟨A ++ B, ?_, fun y hy => ?_, ?_⟩
    · rw [List.map_append, a1, b1]; simp [splitBy]
    · rcases List.mem_append.1 hy with h | h
      · obtain ⟨c1, c2, c3⟩ := a2 y h; exact ⟨c1, c2, z, by simp, c3⟩
      · obtain ⟨c1, c2, x, hx, c3⟩ := b2 y h; exact ⟨c1, c2, x, by simp [hx], c3⟩
    · rw [List.flatMap_append, List.flatMap_cons]; exact a3.append b3

/-- What is known of the parts after some rounds: they are pure for the polynomials in V. -/
def Pure (p : Nat) (V : List Nat → Prop) (Y : List (List Nat × List (List Nat))) : Prop := ∀ y ∈ Y, ∀ v, V v → Hom p v y.2

theorem splitS_is (hP : M.Pr p) {gs : List (List Nat)} {nb : Nat} {v : List Nat} (V : List Nat → Prop) : ∀ (n s : Nat) (Ms : List (List Nat)) (Y : List (List Nat × List (List Nat))), SpState p gs Ms Y → Pure p V Y →
    ∃ Y', SpState p gs (splitS p nb v n s Ms).2 Y' ∧ ((splitS p nb v n s Ms).1 = true → (splitS p nb v n s Ms).2.length = nb) ∧ ((splitS p nb v n s Ms).1 = false → Pure p (fun u => V u ∨ ∃ t, s ≤ t ∧ t < s + n ∧ u = difP p v (trim [t])) Y')
  | 0, s, Ms, Y, S, H => by
    refine ⟨Y, S, fun h => (by cases h), fun _ y hy u hu => ?_⟩
    rcases hu with hu | ⟨t, h1, h2, _⟩
    · exact H y hy u hu
    · omega
  | n + 1, s, Ms, Y, S, H => by
    have hp : 0 < p := by have := hP.1; omega
    rw [splitS]
    by_cases h : Ms.length = nb
    · rw [if_pos h]
      exact ⟨Y, S, fun _ => h, fun h => by cases h⟩
    · rw [if_neg h]
      obtain ⟨Y1, y1, y2, y3⟩ := splitBy_is hP (pol_dif hp v (trim [s])) Y S.part
      rw [S.fst] at y1
      have S1 : SpState p gs (splitBy p Ms (difP p v (trim [s]))) Y1 := ⟨y1, fun y hy => (y2 y hy).1, y3.trans S.perm⟩
      have H1 : Pure p (fun u => V u ∨ u = difP p v (trim [s])) Y1 := fun y hy u hu => by
        obtain ⟨c1, c2, x, hx, c3⟩ := y2 y hy
        rcases hu with hu | rfl
        · exact (H x hx u hu).sub c3
        · exact c2
      obtain ⟨Y', s1, s2, s3⟩ := splitS_is hP (nb := nb) (v := v) (fun u => V u ∨ u = difP p v (trim [s])) n (s + 1) _ Y1 S1 H1
      refine ⟨Y', s1, s2, fun hb y hy u hu => s3 hb y hy u ?_⟩
      rcases hu with hu | ⟨t, h1, h2, rfl⟩
      · exact .inl (.inl hu)
      · by_cases e : t = s
        · subst e; exact .inl (.inr rfl)
        · exact .inr ⟨t, by omega, by omega, rfl⟩

theorem splitV_is (hP : M.Pr p) {gs : List (List Nat)} {nb : Nat} : ∀ (vs : List (List Nat)) (V : List Nat → Prop) (Ms : List (List Nat)) (Y : List (List Nat × List (List Nat))), SpState p gs Ms Y → Pure p V Y →
    ∃ Y', SpState p gs (splitV p nb vs Ms) Y' ∧ ((splitV p nb vs Ms).length = nb ∨ Pure p (fun u => V u ∨ ∃ v ∈ vs, ∃ t, t < p ∧ u = difP p v (trim [t])) Y')
  | [], V, Ms, Y, S, H => by
    refine ⟨Y, S, .inr fun y hy u hu => ?_⟩
    rcases hu with hu | ⟨v, hv, _⟩
    · exact H y hy u hu
    · simp at hv
  | v :: vs, V, Ms, Y, S, H => by
    rw [splitV]
    obtain ⟨Y1, s1, s2, s3⟩ := splitS_is hP (nb := nb) (v := v) V p 0 Ms Y S H
    cases hb : (splitS p nb v p 0 Ms).1 with
    | true => exact ⟨Y1, s1, .inl (s2 hb)⟩
    | false =>
      obtain ⟨Y', t1, t2⟩ := splitV_is hP (nb := nb) vs _ _ Y1 s1 (s3 hb)
      refine ⟨Y', t1, t2.imp id fun t2 y hy u hu => t2 y hy u ?_⟩
      rcases hu with hu | ⟨w, hw, t, ht, rfl⟩
      · exact .inl (.inl hu)
      · rcases List.mem_cons.1 hw with rfl | hw
        · exact .inl (.inr ⟨t, Nat.zero_le _, by omega, rfl⟩)
        · exact .inr ⟨w, hw, t, ht, rfl⟩

theorem flat_len {Y : List (List Nat × List (List Nat))} (h : ∀ y ∈ Y, y.2 ≠ []) : Y.length ≤ (Y.flatMap fun x => x.2).length ∧ ((Y.flatMap fun x => x.2).length ≤ Y.length → ∀ y ∈ Y, y.2.length = 1) := by
  induction Y with
  | nil => simp
  | cons z Y ih =>
    have hz : 1 ≤ z.2.length := List.length_pos_iff.2 (h z (by simp))
    obtain ⟨i1, i2⟩ := ih fun y hy => h y (by simp [hy])
    rw [List.flatMap_cons, List.length_append, List.length_cons]
    refine ⟨by omega, fun hle y hy => ?_⟩
    rcases List.mem_cons.1 hy with rfl | hy
    · omega
    · exact i2 (by omega) y hy

theorem parts_ones (hP : M.Pr p) : ∀ {Y : List (List Nat × List (List Nat))}, (∀ y ∈ Y, Part p y) → (∀ y ∈ Y, y.2.length = 1) → Y.map (fun x => x.1) = Y.flatMap fun x => x.2
  | [], _, _ => rfl
  | z :: Y, h, h1 => by
    rw [List.map_cons, List.flatMap_cons, parts_ones hP (fun y hy => h y (by simp [hy])) fun y hy => h1 y (by simp [hy])]
    have hz := h z (by simp)
    have hl := h1 z (by simp)
    obtain ⟨M, K⟩ := z
    match K, hl with
    | [g], _ =>
      have e := hz.val
      simp only at e
      rw [ev_prodL_cons] at e
      have e2 : ev p (prodL p []) = 1 := ev_one
      rw [e2, Px.mul_one] at e
      have := ev_inj (by have := hP.1; omega) hz.pol (hz.irr g (by simp)).irr.pol e
      simp only at this
      rw [this]; rfl

/-- The parts of a monic polynomial that has no factor twice are its irreducible factors. -/
theorem splitP_perm (hP : M.Pr p) {f : List Nat} {gs : List (List Nat)} (S : Sqf p f gs) (mf : Mon f) (e : ev p f = ev p (prodL p gs)) : (splitP p f).Perm gs := by
  have hp2 := hP.1
  have hp : 0 < p := by omega
  have h2 := S.two
  have P0 : Part p (f, gs) := part_of hP S.pol mf e h2 S.irr S.nodup
  have S0 : SpState p gs [f] [(f, gs)] := ⟨rfl, fun y hy => by simp at hy; subst hy; exact P0, by simp⟩
  obtain ⟨Y, T, hT⟩ := splitV_is hP (nb := (fixedP p f).length) ((fixedP p f).drop 1) (fun _ => False) [f] _ S0 (fun y hy u hu => hu.elim)
  have hYlen : Y.length = (splitV p (fixedP p f).length ((fixedP p f).drop 1) [f]).length := by rw [← T.fst, List.length_map]
  have hone : ∀ y ∈ Y, y.2.length = 1 := by
    rcases hT with hT | hT
    · refine (flat_len fun y hy => (T.part y hy).ne).2 ?_
      rw [T.perm.length_eq, hYlen, hT]
      exact S.count hP
    · intro y hy
      have P := T.part y hy
      match hK : y.2 with
      | [] => exact absurd hK P.ne
      | [g] => rfl
      | g :: g' :: t =>
        exfalso
        have hg : g ∈ y.2 := by rw [hK]; simp
        have hg' : g' ∈ y.2 := by rw [hK]; simp
        have hne : g ≠ g' := fun e => by
          have := P.nodup; rw [hK] at this; simp [e] at this
        have hgs : ∀ x ∈ y.2, x ∈ gs := fun x hx => T.perm.mem_iff.1 (List.mem_flatMap.2 ⟨y, hy, hx⟩)
        obtain ⟨h, hh, hl, hx, hc⟩ := S.crt hP fun x => if x = g then 1 else 0
        obtain ⟨s, s1, s2⟩ := fx_same hP (g := g) (g' := g') S.pol h2 hh hl hx fun j hj => by
          have B := bas_pol hP h2 j
          have hb : basP p f j ∈ fixedP p f := by rw [fixedP_eq]; exact List.mem_map.2 ⟨j, hj, rfl⟩
          rw [fixed_head hP S.pol h2] at hb
          rcases List.mem_cons.1 hb with hb | hb
          · rw [hb]; exact ⟨1, Cg.refl _, Cg.refl _⟩
          · obtain ⟨s, hs, hsc⟩ := fixed_const hP (P.irr g hg).irr (S.dv hP (hgs g hg)) B.1 (bas_fx hP S.pol h2 hj)
            have hh := hT y hy (difP p (basP p f j) (trim [s])) (.inr ⟨_, hb, s, hs, rfl⟩)
            have hgd : ∀ x, Dv p x (difP p (basP p f j) (trim [s])) ↔ Cg p x (ev p (basP p f j)) (ev p [s]) := fun x => by
              rw [← dx_iff, ev_dif hp _ (pol_trim1 hp s hs).red, ev_trim]; rfl
            rcases hh with hh | hh
            · exact ⟨s, hsc, (hgd g').1 (hh g' hg')⟩
            · exact absurd ((hgd g).2 hsc) (hh g hg)
        have c1 := hc g (hgs g hg)
        have c2 := hc g' (hgs g' hg')
        simp only [if_true] at c1
        rw [if_neg (fun e => hne e.symm)] at c2
        have e1 : ∀ x, ev p [x] = ev p [x % p] := fun x => ev_const_congr (by simp)
        rw [e1 s] at s1 s2
        have a1 := cg_const hP (P.irr g hg).irr.pol (P.irr g hg).irr.two (Nat.mod_lt _ hp) (by omega) ((s1.symm hp).trans hp c1)
        have a2 := cg_const hP (P.irr g' hg').irr.pol (P.irr g' hg').irr.two (Nat.mod_lt _ hp) hp ((s2.symm hp).trans hp c2)
        omega
  have := parts_ones hP T.part hone
  rw [T.fst] at this
  unfold splitP
  rw [this]
  exact T.perm

end Q
end Go.Proofs.YtbehihanhfmmhaaGreat

namespace Go.Proofs.YtbehihanhfmmhaaGreat
namespace Q
variable {p : Nat}

def der (F : Nat → Int) : Nat → Int := fun i => ((i : Int) + 1) * F (i + 1)
theorem der_eqv {F G : Nat → Int} (h : Eqv p F G) : Eqv p (der F) (der G) := fun i => by
  obtain ⟨k, hk⟩ := h (i + 1)
  exact ⟨((i : Int) + 1) * k, by unfold der; rw [hk, Int.mul_add]; congr 1; ac_rfl⟩
def Dr (a : Px p) : Px p := Quotient.lift (s := stP p) (fun F => Px.of p (der F)) (fun _ _ h => Px.eq (der_eqv h)) a
theorem Dr_of (F : Nat → Int) : Dr (Px.of p F) = Px.of p (der F) := rfl

theorem der_cau (F G : Nat → Int) : der (cau F G) = fun m => cau (der F) G m + cau F (der G) m := by
  funext m
  unfold der cau
  rw [← sm_mul]
  have e : sm (m + 1 + 1) (fun i => ((m : Int) + 1) * (F i * G (m + 1 - i))) = sm (m + 1 + 1) (fun i => (i : Int) * F i * G (m + 1 - i)) + sm (m + 1 + 1) fun i => F i * ((((m + 1 - i : Nat)) : Int) * G (m + 1 - i)) := by
    rw [← sm_add]
    refine sm_congr fun i hi => ?_
    rw [show ((m : Int) + 1) = (i : Int) + (((m + 1 - i : Nat)) : Int) by omega, Int.add_mul]
    congr 1 <;> ac_rfl
  rw [e]
  congr 1
  · rw [sm_head]
    simp only [Int.natCast_zero, Int.zero_mul, Int.zero_add]
    refine sm_congr fun i hi => ?_
    rw [show m + 1 - (i + 1) = m - i by omega, Int.natCast_add, Int.natCast_one]
  · rw [sm]
    simp only [Nat.sub_self, Int.natCast_zero, Int.zero_mul, Int.mul_zero, Int.add_zero]
    refine sm_congr fun i hi => ?_
    rw [show m + 1 - i = m - i + 1 by omega]
    simp only [Int.natCast_add, Int.natCast_one]

theorem Dr_add (a b : Px p) : Dr (a + b) = Dr a + Dr b := by
  obtain ⟨F, rfl⟩ := Px.ind a
  obtain ⟨G, rfl⟩ := Px.ind b
  rw [Px.add_of, Dr_of, Dr_of, Dr_of, Px.add_of]
  congr 1; funext i; unfold der; rw [Int.mul_add]
theorem Dr_mul (a b : Px p) : Dr (a * b) = Dr a * b + a * Dr b := by
  obtain ⟨F, rfl⟩ := Px.ind a
  obtain ⟨G, rfl⟩ := Px.ind b
  rw [Px.mul_of, Dr_of, Dr_of, Dr_of, Px.mul_of, Px.mul_of, Px.add_of, der_cau]
theorem Dr_one : Dr (1 : Px p) = 0 := by
  rw [Px.one_of, Dr_of, Px.zero_of]
  refine Px.eq fun i => ⟨0, ?_⟩
  unfold der; simp
theorem Dr_pw (a : Px p) : ∀ n, Dr (pw a (n + 1)) = ev p [n + 1] * pw a n * Dr a
  | 0 => by rw [pw_one, pw_zero, Nat.zero_add, ev_one, Px.one_mul, Px.one_mul]
  | n + 1 => by
    have e : ev p [n + 1 + 1] = ev p [n + 1] + 1 := by rw [← ev_const_add (n + 1) 1, ev_one]
    rw [pw_succ, Dr_mul, Dr_pw a n, e, Px.add_mul, Px.add_mul, Px.one_mul, pw_succ]
    congr 1; ac_rfl

theorem ev_deriv (f : List Nat) : ev p (deriv p f) = Dr (ev p f) := by
  unfold deriv
  rw [ev_trim]
  show ev p _ = Px.of p (der (cf f))
  refine Px.eq fun i => ?_
  by_cases h : i < f.length - 1
  · obtain ⟨k, hk⟩ := natmod_eqv p ((i + 1) * f.getD (i + 1) 0)
    refine ⟨k, ?_⟩
    unfold cf der
    simp only [List.getD_eq_getElem?_getD, List.getElem?_map, List.getElem?_range h, Option.map_some, Option.getD_some]
    simp only [List.getD_eq_getElem?_getD] at hk
    rw [hk, Int.natCast_mul, Int.natCast_add, Int.natCast_one]
  · refine ⟨0, ?_⟩
    unfold der
    rw [cf_out (by simp; omega), cf_out (f := f) (by omega)]; simp
theorem drv_pol (hp : 0 < p) (f : List Nat) : Pol p (deriv p f) := by
  refine Red.trim fun x hx => ?_
  simp only [List.mem_map, List.mem_range] at hx
  obtain ⟨i, _, rfl⟩ := hx
  exact Nat.mod_lt _ hp
theorem deriv_len (f : List Nat) : (deriv p f).length ≤ f.length - 1 := by
  unfold deriv; rw [trim_length]
  refine Nat.le_trans (trimLen_le _) ?_
  simp

/-! ### p-th roots -/
theorem pw_x : ∀ n, pw (xX p) n = mono p 1 n
  | 0 => by rw [pw_zero, Px.one_of]; rfl
  | n + 1 => by
    rw [pw_succ, pw_x n]
    unfold xX mono
    rw [Px.mul_of]
    congr 1; funext k
    rw [cau_mono]
    by_cases h : n ≤ k
    · rw [if_pos h]
      by_cases h2 : k = n + 1
      · rw [if_pos (by omega), if_pos h2]; rfl
      · rw [if_neg (by omega), if_neg h2]; rfl
    · rw [if_neg h, if_neg (by omega)]

theorem deriv_zero (hP : M.Pr p) {f : List Nat} (hf : Pol p f) (hd : (deriv p f).length = 0) (i : Nat) (hi : ¬ p ∣ i) : f.getD i 0 = 0 := by
  have hp2 := hP.1
  have h0 : ev p (deriv p f) = 0 := by rw [List.eq_nil_of_length_eq_zero hd, ev_nil]
  rw [ev_deriv] at h0
  obtain ⟨j, rfl⟩ : ∃ j, i = j + 1 := ⟨i - 1, by rcases i with _ | i; exact absurd ⟨0, by simp⟩ hi; omega⟩
  obtain ⟨k, hk⟩ := Px.eqv (F := der (cf f)) (G := fun _ => 0) h0 j
  unfold der cf at hk
  simp only at hk
  have h1 : (p : Int) ∣ ((((j + 1) * f.getD (j + 1) 0 : Nat)) : Int) := ⟨k, by rw [Int.natCast_mul, Int.natCast_add, Int.natCast_one]; omega⟩
  have h2 : p ∣ (j + 1) * f.getD (j + 1) 0 := Int.natCast_dvd_natCast.1 h1
  have hfl := hf.red.getD (by omega) (j + 1)
  have h3 : (j + 1) % p * f.getD (j + 1) 0 % p = 0 := by rw [Nat.mul_mod, Nat.mod_mod, ← Nat.mul_mod]; exact Nat.mod_eq_zero_of_dvd h2
  rcases (fld_of hP).2 _ _ (Nat.mod_lt _ (by omega)) hfl h3 with h4 | h4
  · exact absurd (Nat.dvd_of_mod_eq_zero h4) hi
  · exact h4

theorem rt_len (f : List Nat) : (rootP p f).length = (f.length - 1) / p + 1 := by simp [rootP]
theorem root_getD (f : List Nat) (i : Nat) (hi : i < (f.length - 1) / p + 1) : (rootP p f).getD i 0 = f.getD (i * p) 0 := by
  unfold rootP
  simp only [List.getD_eq_getElem?_getD, List.getElem?_map, List.getElem?_range hi, Option.map_some, Option.getD_some]

theorem root_is (hP : M.Pr p) {f : List Nat} (hf : Pol p f) (h0 : f.length ≠ 0) (hd : (deriv p f).length = 0) : Pol p (rootP p f) ∧ ev p f = pw (ev p (rootP p f)) p ∧ (rootP p f).getD ((rootP p f).length - 1) 0 = f.getD (f.length - 1) 0 := by
  have hp2 := hP.1
  have hlast := hf.ne h0
  have hdv : p ∣ f.length - 1 := Classical.byContradiction fun h => hlast (deriv_zero hP hf hd _ h)
  obtain ⟨m, hm⟩ := hdv
  have hm2 : (f.length - 1) / p = m := by rw [hm]; exact Nat.mul_div_cancel_left _ (by omega)
  have hrl : (rootP p f).length = m + 1 := by rw [rt_len, hm2]
  have hlst : (rootP p f).getD ((rootP p f).length - 1) 0 = f.getD (f.length - 1) 0 := by
    rw [hrl, Nat.add_sub_cancel, root_getD _ _ (by rw [hm2]; omega), hm, Nat.mul_comm]
  refine ⟨pol_of (fun x hx => ?_) (.inr (by rw [hlst]; exact hlast)), ?_, hlst⟩
  · simp only [rootP, List.mem_map, List.mem_range] at hx
    obtain ⟨i, _, rfl⟩ := hx
    exact hf.red.getD (by omega) _
  · rw [← hor_x (rootP p f), frob_hor hP, hor_sx _ _ (m + 1) (by omega)]
    have e : ∀ n, (sx n fun j => ev p [(rootP p f).getD j 0] * pw (pw (xX p) p) j) = Px.of p fun i => sm n fun j => if i = p * j then cf (rootP p f) j else 0 := by
      intro n
      induction n with
      | zero => exact Px.zero_of
      | succ n ih =>
        rw [sx, ih, pw_pw, pw_x]
        have e1 : ev p [(rootP p f).getD n 0] * mono p 1 (p * n) = Px.of p fun i => if i = p * n then cf (rootP p f) n else 0 := by
          unfold ev mono
          rw [Px.mul_of]
          congr 1; funext i
          have : cf [(rootP p f).getD n 0] = fun k => if k = 0 then cf (rootP p f) n else 0 := by funext k; rcases k with _ | k <;> simp [cf]
          rw [this, cau_mono, if_pos (Nat.zero_le _), Nat.sub_zero]
          split <;> simp
        rw [e1, Px.add_of]
        rfl
    rw [e]
    unfold ev
    congr 1; funext i
    by_cases hi : p ∣ i
    · obtain ⟨j, rfl⟩ := hi
      by_cases hj : j < m + 1
      · have e2 : (fun k => if p * j = p * k then cf (rootP p f) k else 0) = fun k => if k = j then cf (rootP p f) j else 0 := by
          funext k
          by_cases hk : k = j
          · subst hk; simp
          · rw [if_neg hk, if_neg]
            intro h3
            exact hk (Nat.eq_of_mul_eq_mul_left (by omega) h3.symm)
        rw [e2, sm_delta hj]
        unfold cf
        rw [root_getD _ _ (by rw [hm2]; omega), Nat.mul_comm]
      · rw [cf_out (by have := Nat.mul_le_mul_left p (show m + 1 ≤ j by omega); rw [Nat.mul_add] at this; omega), sm_zero]
        intro k hk
        rw [if_neg]
        intro h3
        have := Nat.eq_of_mul_eq_mul_left (by omega) h3
        omega
    · rw [sm_zero fun k _ => by rw [if_neg (fun h3 => hi ⟨k, h3⟩)]]
      unfold cf
      rw [deriv_zero hP hf hd i hi]; rfl

/-- An irreducible polynomial has a derivative that is not 0. -/
theorem Irr.deriv (hP : M.Pr p) {g : List Nat} (h : Irr p g) : (Q.deriv p g).length ≠ 0 := fun hd => by
  have hp2 := hP.1
  obtain ⟨r1, r2, r3⟩ := root_is hP h.pol h.ne hd
  have key : ∀ n, DX p g (pw (ev p (rootP p g)) n) → DX p g (ev p (rootP p g)) := by
    intro n
    induction n with
    | zero => intro h1; exact absurd h1 (h.notOne hP)
    | succ n ih =>
      intro h1
      rw [pw_succ] at h1
      rcases h.primeX hP ((IsP.ev r1).pw hP n) (IsP.ev r1) h1 with h2 | h2
      · exact ih h2
      · exact h2
  have h1 := key p (by rw [← r2]; exact ⟨1, IsP.one hP, by rw [Px.one_mul]⟩)
  have h2 := (dx_iff.1 h1).len hP h.pol r1 (by rw [rt_len]; exact Nat.succ_ne_zero _)
  have h3 := h.two
  rw [rt_len] at h2
  have h4 : (g.length - 1) / p ≤ (g.length - 1) / 2 := Nat.div_le_div_left hp2 (by omega)
  omega

/-! ### How often -/
/-- u divides a. -/
def Dp (u a : Px p) : Prop := ∃ b, IsP p b ∧ a = b * u
theorem Dp.add (hp : 0 < p) {u a b : Px p} : Dp u a → Dp u b → Dp u (a + b) := by
  rintro ⟨q, hq, rfl⟩ ⟨r, hr, rfl⟩; exact ⟨q + r, hq.add hp hr, by rw [Px.add_mul]⟩
theorem Dp.mul (hP : M.Pr p) {u a b : Px p} (hb : IsP p b) : Dp u a → Dp u (b * a) := by
  rintro ⟨q, hq, rfl⟩; exact ⟨b * q, hb.mul hP hq, by rw [Px.mul_assoc]⟩

theorem cancelX (hP : M.Pr p) {a b c : Px p} (ha : IsP p a) (hb : IsP p b) (hc : IsP p c) (h0 : c ≠ 0) (e : a * c = b * c) : a = b := by
  obtain ⟨f, hf, rfl⟩ := ha
  obtain ⟨g, hg, rfl⟩ := hb
  obtain ⟨h, hh, rfl⟩ := hc
  rw [mul_cancel hP hf hg hh (fun e => h0 (by rw [e, ev_nil])) e]

theorem mul_ne0 (hP : M.Pr p) {a b : Px p} (ha : IsP p a) (hb : IsP p b) (h1 : a ≠ 0) (h2 : b ≠ 0) : a * b ≠ 0 := fun e => by
  obtain ⟨f, hf, rfl⟩ := ha
  obtain ⟨g, hg, rfl⟩ := hb
  rcases mul_eq_zero hP hf hg e with rfl | rfl
  · exact h1 ev_nil
  · exact h2 ev_nil
theorem one_ne0 (hP : M.Pr p) : (1 : Px p) ≠ 0 := by rw [← ev_one]; exact ev_ne hP (pol_one hP) (by simp)
theorem pw_ne0 (hP : M.Pr p) {a : Px p} (ha : IsP p a) (h : a ≠ 0) : ∀ n, pw a n ≠ 0
  | 0 => one_ne0 hP
  | n + 1 => by rw [pw_succ]; exact mul_ne0 hP (ha.pw hP n) ha (pw_ne0 hP ha h n) h

theorem pow_le (hP : M.Pr p) {g : List Nat} (hg : Irr p g) {x : Px p} (hx : IsP p x) (hn : ¬ DX p g x) {m n : Nat} (h : Dp (pw (ev p g) m) (pw (ev p g) n * x)) : m ≤ n := by
  refine Classical.byContradiction fun hmn => hn ?_
  obtain ⟨b, hb, e⟩ := h
  have hgp := IsP.ev hg.pol
  have hg0 := ev_ne hP hg.pol hg.ne
  obtain ⟨k, rfl⟩ : ∃ k, m = (k + 1) + n := ⟨m - n - 1, by omega⟩
  rw [pw_add, pw_succ, Px.mul_comm (pw (ev p g) n) x, ← Px.mul_assoc] at e
  have e2 := cancelX hP hx (hb.mul hP ((hgp.pw hP k).mul hP hgp)) (hgp.pw hP n) (pw_ne0 hP hgp hg0 n) e
  exact ⟨b * pw (ev p g) k, hb.mul hP (hgp.pw hP k), by rw [e2]; ac_rfl⟩

/-- The factor g taken out of a product. -/
theorem count_out (hP : M.Pr p) {g : List Nat} (hg : MIrr p g) : ∀ {l : List (List Nat)}, (∀ x ∈ l, MIrr p x) → ev p (prodL p l) = pw (ev p g) (l.count g) * ev p (prodL p (l.filter fun x => x != g))
  | [], _ => by rw [List.count_nil, pw_zero, Px.one_mul]; rfl
  | x :: l, h => by
    rw [ev_prodL_cons, count_out hP hg fun y hy => h y (by simp [hy])]
    by_cases e : x = g
    · subst e
      rw [List.count_cons_self, pw_succ, List.filter_cons_of_neg (by simp)]; ac_rfl
    · rw [List.count_cons_of_ne (by simpa using e), List.filter_cons_of_pos (by simpa using e), ev_prodL_cons]; ac_rfl

theorem filter_irr {g : List Nat} {l : List (List Nat)} (h : ∀ x ∈ l, MIrr p x) : ∀ x ∈ l.filter (fun x => x != g), MIrr p x := fun x hx => h x (List.mem_filter.1 hx).1
theorem filter_not (hP : M.Pr p) {g : List Nat} (hg : MIrr p g) {l : List (List Nat)} (h : ∀ x ∈ l, MIrr p x) : ¬ DX p g (ev p (prodL p (l.filter fun x => x != g))) := fun hd => by
  have := dv_of_prodL hP hg (filter_irr h) (dx_iff.1 hd)
  have := (List.mem_filter.1 this).2
  simp at this
theorem prodL_isP (hP : M.Pr p) {l : List (List Nat)} (h : ∀ x ∈ l, MIrr p x) : IsP p (ev p (prodL p l)) := IsP.ev (prodL_pol hP fun x hx => (h x hx).irr.pol)

theorem count_ge (hP : M.Pr p) {g : List Nat} (hg : MIrr p g) {l : List (List Nat)} (h : ∀ x ∈ l, MIrr p x) {m : Nat} : Dp (pw (ev p g) m) (ev p (prodL p l)) ↔ m ≤ l.count g := by
  constructor
  · intro hd
    rw [count_out hP hg h] at hd
    exact pow_le hP hg.irr (prodL_isP hP (filter_irr h)) (filter_not hP hg h) hd
  · intro hm
    obtain ⟨k, hk⟩ : ∃ k, l.count g = k + m := ⟨l.count g - m, by omega⟩
    rw [count_out hP hg h, hk, pw_add]
    have hgp := IsP.ev hg.irr.pol
    exact ⟨pw (ev p g) k * ev p (prodL p (l.filter fun x => x != g)), (hgp.pw hP k).mul hP (prodL_isP hP (filter_irr h)), by ac_rfl⟩

/-- How often g is in the greatest common divisor of f and its derivative. -/
theorem count_gcd (hP : M.Pr p) {f g : List Nat} (hf : Pol p f) (hg : MIrr p g) {l E : List (List Nat)} (hl : ∀ x ∈ l, MIrr p x) (hE : ∀ x ∈ E, MIrr p x) {c : Nat} (hc : c < p) (hc0 : c ≠ 0) (e : ev p f = ev p [c] * ev p (prodL p l)) (eE : ev p (gcdP p f (deriv p f)) = ev p (prodL p E)) :
    E.count g = if p ∣ l.count g then l.count g else l.count g - 1 := by
  have hp2 := hP.1
  have hp : 0 < p := by omega
  have hdp := drv_pol hp f
  have G := gcdP_is hP hf hdp
  have hgp := IsP.ev hg.irr.pol
  have hg0 := ev_ne hP hg.irr.pol hg.irr.ne
  obtain ⟨n, hn⟩ : ∃ n, n = l.count g := ⟨_, rfl⟩
  obtain ⟨x, hx⟩ : ∃ x, x = ev p [c] * ev p (prodL p (l.filter fun x => x != g)) := ⟨_, rfl⟩
  have hcp : IsP p (ev p [c]) := IsP.const hp c
  have hrp : IsP p (ev p (prodL p (l.filter fun x => x != g))) := prodL_isP hP (filter_irr hl)
  have hxp : IsP p x := by rw [hx]; exact hcp.mul hP hrp
  have hgc : ¬ DX p g (ev p [c]) := fun hd => by
    have h1 : Cg p g (ev p [c]) (ev p [0]) := by rw [ev_const_zero]; exact Cg.zero.2 hd
    exact hc0 (cg_const hP hg.irr.pol hg.irr.two hc (by omega) h1)
  have hxn : ¬ DX p g x := fun hd => by
    rw [hx] at hd
    rcases hg.irr.primeX hP hcp hrp hd with h1 | h1
    · exact hgc h1
    · exact filter_not hP hg hl h1
  have ef : ev p f = pw (ev p g) n * x := by rw [e, count_out hP hg hl, hx, hn]; ac_rfl
  have hdr : ∀ {a : Px p}, IsP p a → IsP p (Dr a) := fun {a} ha => by
    obtain ⟨q, hq, rfl⟩ := ha
    rw [← ev_deriv]; exact IsP.ev (drv_pol hp q)
  have ed : ev p (deriv p f) = Dr (pw (ev p g) n) * x + pw (ev p g) n * Dr x := by rw [ev_deriv, ef, Dr_mul]
  obtain ⟨a, b, ha, hb, ecomb⟩ := G.comb
  have hgcd : ∀ m, Dp (pw (ev p g) m) (ev p f) → Dp (pw (ev p g) m) (ev p (deriv p f)) → m ≤ E.count g := fun m h1 h2 => by
    refine (count_ge hP hg hE).1 ?_
    rw [← eE, ecomb]
    exact (h1.mul hP (IsP.ev ha)).add hp (h2.mul hP (IsP.ev hb))
  have hback : ∀ m, m ≤ E.count g → Dp (pw (ev p g) m) (ev p f) ∧ Dp (pw (ev p g) m) (ev p (deriv p f)) := fun m hm => by
    have h1 := (count_ge hP hg hE).2 hm
    rw [← eE] at h1
    obtain ⟨q1, hq1, e1⟩ := G.left
    obtain ⟨q2, hq2, e2⟩ := G.right
    rw [e1, e2]
    exact ⟨h1.mul hP (IsP.ev hq1), h1.mul hP (IsP.ev hq2)⟩
  have hle : ∀ m, m ≤ E.count g → m ≤ n := fun m hm => by
    have h1 := (hback m hm).1
    rw [ef] at h1
    exact pow_le hP hg.irr hxp hxn h1
  have hself : ∀ m, m ≤ n → Dp (pw (ev p g) m) (ev p f) := fun m hm => by
    obtain ⟨k, rfl⟩ : ∃ k, n = k + m := ⟨n - m, by omega⟩
    rw [ef, pw_add]
    exact ⟨pw (ev p g) k * x, (hgp.pw hP k).mul hP hxp, by ac_rfl⟩
  rw [← hn]
  by_cases hpn : p ∣ n
  · rw [if_pos hpn]
    have h0 : Dr (pw (ev p g) n) = 0 := by
      match n, hpn with
      | 0, _ => rw [pw_zero, Dr_one]
      | m + 1, hpn => rw [Dr_pw, ev_const_dvd hpn, Px.zero_mul, Px.zero_mul]
    have h1 : Dp (pw (ev p g) n) (ev p (deriv p f)) := by
      rw [ed, h0, Px.zero_mul, Px.zero_add]
      exact ⟨Dr x, hdr hxp, Px.mul_comm _ _⟩
    have h2 := hgcd n (hself n (Nat.le_refl _)) h1
    have h3 := hle _ (Nat.le_refl _)
    omega
  · rw [if_neg hpn]
    obtain ⟨m, rfl⟩ : ∃ m, n = m + 1 := ⟨n - 1, by rcases n with _ | n; exact absurd ⟨0, by simp⟩ hpn; omega⟩
    obtain ⟨y, hy⟩ : ∃ y, y = ev p [m + 1] * Dr (ev p g) * x + ev p g * Dr x := ⟨_, rfl⟩
    have hyp : IsP p y := by rw [hy]; exact (((IsP.const hp _).mul hP (hdr hgp)).mul hP hxp).add hp (hgp.mul hP (hdr hxp))
    have ed2 : ev p (deriv p f) = pw (ev p g) m * y := by
      rw [ed, Dr_pw, hy, pw_succ, Px.mul_add]
      congr 1 <;> ac_rfl
    have hyn : ¬ DX p g y := fun hd => by
      have h1 : DX p g (ev p g * Dr x) := ⟨Dr x, hdr hxp, Px.mul_comm _ _⟩
      have h2 := hd.sub hp h1
      rw [hy, add_sub] at h2
      rcases hg.irr.primeX hP ((IsP.const hp _).mul hP (hdr hgp)) hxp h2 with h3 | h3
      · rcases hg.irr.primeX hP (IsP.const hp _) (hdr hgp) h3 with h4 | h4
        · have e1 : ev p [m + 1] = ev p [(m + 1) % p] := ev_const_congr (by simp)
          rw [e1] at h4
          have h5 : Cg p g (ev p [(m + 1) % p]) (ev p [0]) := by rw [ev_const_zero]; exact Cg.zero.2 h4
          have h6 := cg_const hP hg.irr.pol hg.irr.two (Nat.mod_lt _ hp) hp h5
          exact hpn (Nat.dvd_of_mod_eq_zero h6)
        · rw [← ev_deriv] at h4
          have h5 := (dx_iff.1 h4).len hP hg.irr.pol (drv_pol hp g) (hg.irr.deriv hP)
          have h6 := deriv_len (p := p) g
          have h7 := hg.irr.two
          omega
      · exact hxn h3
    have h2 := hgcd m (hself m (by omega)) (by rw [ed2]; exact ⟨y, hyp, Px.mul_comm _ _⟩)
    have h3 : ∀ k, k ≤ E.count g → k ≤ m := fun k hk => by
      have := (hback k hk).2
      rw [ed2] at this
      exact pow_le hP hg.irr hyp hyn this
    have h4 := h3 _ (Nat.le_refl _)
    omega

end Q
end Go.Proofs.YtbehihanhfmmhaaGreat
