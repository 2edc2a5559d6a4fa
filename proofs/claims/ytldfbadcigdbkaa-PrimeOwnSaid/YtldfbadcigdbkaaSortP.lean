/- The entries of a proof, sorted in memory. -/
import Derived.Test.YtldfbadcigdbkaaShelf
import Derived.Test.YtldfbadcigdbkaaProveBy
import Derived.Sort.OwnSorted
import Derived.Shelf.SlSortCmp.NoneTotal
namespace Go.Proofs.Ytldfbadcigdbkaa
open Go.RowKit Go.Sort Go.Proofs Go.Shelf Go.Lib

theorem heap_sortedV {w : World} {g n : Nat} {os : Array Obj} {cur : Array Value} {e : TypeId} {fr : Nat × Nat} (d : Array Value) (hb : w.heap[g]? = some (.cells cur e fr)) :
    (grow (putRow id (Sort.ahead w n) g 0 d) os).heap[g]? = some (.cells (putCells id 0 d cur) e fr) := by
  have hg : g < w.heap.size := (Array.getElem?_eq_some_iff.1 hb).1
  rw [heap_grow_old _ _ (by simpa using hg)]
  simp [putRow, mapBlock, Sort.ahead, Array.getElem?_modify, hb, onCells]

theorem grownBy_sortedV {w : World} {g n : Nat} {os : Array Obj} (d : Array Value) : w.grownBy (grow (putRow id (Sort.ahead w n) g 0 d) os) (some g) := by
  refine ⟨rfl, rfl, rfl, by simp, fun k hk hne => ?_⟩
  rw [heap_grow_old _ _ (by simpa using hk)]
  have : g ≠ k := fun e => hne (by rw [e])
  simp [putRow, mapBlock, Sort.ahead, Array.getElem?_modify, this]

theorem take_putCellsV (cur : Array Value) (ts : List Value) (h : ts.length ≤ cur.size) : (putCells id 0 ts.toArray cur).toList.take ts.length = ts := by
  apply List.ext_getElem?
  intro j
  by_cases hj : j < ts.length
  · rw [List.getElem?_take_of_lt hj, Array.getElem?_toList]
    simp [putCells, hj, show j < cur.size by omega]
  · rw [List.getElem?_take_eq_none (by omega), List.getElem?_eq_none (by omega)]

theorem ownsRow_sortedV {w : World} {base g cap n m size : Nat} {e : TypeId} {os : Array Obj} {xs ts : List Value} (h : w.ownsRow base e size (.slice (some ⟨g, 0, none⟩) m cap) m xs) (hl : ts.length = m * size) :
    (grow (putRow id (Sort.ahead w n) g 0 ts.toArray) os).ownsRow base e size (.slice (some ⟨g, 0, none⟩) m cap) m ts := by
  rcases h.2 with ⟨h0, _⟩ | ⟨g', cap', cur, h1, h2, h3, h4, h5, h6, h7⟩
  · cases h0
  cases h1
  refine ⟨hl, .inr ⟨g, cap, _, rfl, h2, heap_sortedV _ h3, h4, h5, by simp [putCells, h6], ?_⟩⟩
  rw [← hl]
  exact take_putCellsV cur ts (by rw [hl, h6]; exact Nat.mul_le_mul_right _ h4)

/-- An entry as it lies in the list, and what it stands for. -/
structure EntE where
  P : Int
  W : Int
  a : Option Addr
  n : Nat
  c : Nat
  E : M.Ent

instance : Inhabited EntE := ⟨⟨0, 0, none, 0, 0, ⟨0, 0, []⟩⟩⟩

def EntE.enc (x : EntE) : List Value := [.int .i64 x.P, .int .i64 x.W, .slice x.a x.n x.c]
def EntE.ord (x y : EntE) : Int := compareInt x.P y.P
def EntE.toT (x : EntE) : Int × Int × Value := (x.P, x.W, .slice x.a x.n x.c)

theorem drewN_grow (w : World) (os : Array Obj) (n : Nat) : (grow w os).drewN n = grow (w.drewN n) os := by
  induction n generalizing w with
  | zero => rfl
  | succ n ih => first | rfl | (simp only [World.drewN]; rw [← ih]; rfl)

set_option maxRecDepth 100000 in
set_option maxHeartbeats 1000000 in
theorem entLess_is (x y : EntE) (W : World) :
    Calls Try.prog 33 #[.agg x.enc.toArray, .agg y.enc.toArray] W fun e w' => e = .returned (.int .i64 (x.ord y)) ∧ ∃ q os', w' = grow (W.drewN q) os' := by
  obtain ⟨P, V, a, n, c, E⟩ := x
  obtain ⟨P', V', a', n', c', E'⟩ := y
  simp only [EntE.enc, EntE.ord]
  go_enter Try.func33, Try.ntmps33
  go_wp2_with (go_at_call 34; refine (Try.cmp_Compare_int _ _ _).mono ?_; rintro e w' ⟨rfl, rfl⟩)
  go_ret
  exact ⟨rfl, 0, _, by rw [alloc_eq_grow, alloc_eq_grow, grow_grow]; rfl⟩

theorem cmpInt_cases (a b : Int) : (Lib.compareInt a b = -1 ∧ a < b) ∨ (Lib.compareInt a b = 0 ∧ a = b) ∨ (Lib.compareInt a b = 1 ∧ b < a) := by
  unfold Lib.compareInt
  by_cases h : a < b
  · exact .inl ⟨by rw [if_pos h], h⟩
  · by_cases h2 : b < a
    · exact .inr (.inr ⟨by rw [if_neg h, if_pos h2], h2⟩)
    · exact .inr (.inl ⟨by rw [if_neg h, if_neg h2], by omega⟩)

theorem entSWO : SWO (ltOf EntE.ord) where
  irrefl x := by
    refine decide_eq_false ?_
    show ¬ compareInt x.P x.P < 0
    rcases cmpInt_cases x.P x.P with h | h | h <;> omega
  trans x y z h1 h2 := by
    have g1 : compareInt x.P y.P < 0 := of_decide_eq_true h1
    have g2 : compareInt y.P z.P < 0 := of_decide_eq_true h2
    refine decide_eq_true (show compareInt x.P z.P < 0 from ?_)
    rcases cmpInt_cases x.P y.P with h | h | h <;> rcases cmpInt_cases y.P z.P with h' | h' | h' <;> rcases cmpInt_cases x.P z.P with h'' | h'' | h'' <;> omega
  ntrans x y z h1 h2 := by
    have g1 : ¬ compareInt x.P y.P < 0 := of_decide_eq_false h1
    have g2 : ¬ compareInt y.P z.P < 0 := of_decide_eq_false h2
    refine decide_eq_false (show ¬ compareInt x.P z.P < 0 from fun h3 => ?_)
    rcases cmpInt_cases x.P y.P with h | h | h <;> rcases cmpInt_cases y.P z.P with h' | h' | h' <;> rcases cmpInt_cases x.P z.P with h'' | h'' | h'' <;> omega

set_option maxHeartbeats 1000000 in
theorem sortEnts_is (blk cap : Nat) (w : World) (d : Array EntE) (hH : HoldsK EntE.enc 3 w blk 0 d) (hblk : blk < w.heap.size) (hsz : d.size < 1000000000) :
    Calls Try.prog 32 #[.slice (some ⟨blk, 0, none⟩) d.size cap, .func (.func 33) #[] #[]] w fun e w' => e = .returned (.tuple #[]) ∧ ∃ d' n os, PermIn 0 d.size d d' ∧ SortedIn (ltOf EntE.ord) 0 d.size d' ∧ w' = sortWorldK EntE.enc 3 w blk 0 n d' os := by
  have eg : ∀ args w, (callFunc 33 args).run Try.prog w = .ok (.enter 33 args) w := enters_of Try.func33 (by kernel_rfl) rfl
  refine AnyQ.slices_SortFunc Try.sortProofs 3 Try.isAgg39 Try.sizeOf39 EntE.enc (fun _ => rfl) (fun x v hv => ?_) EntE.ord entSWO 33 #[] blk 0 cap d w eg ?_ hH hblk (by omega)
  · simp [EntE.enc] at hv
    rcases hv with rfl | rfl | rfl <;> rfl
  · intro m os dk _ x y
    exact entLess_is x y _

theorem flatT_length (L : List (Int × Int × Value)) : (flatT L).length = L.length * 3 := by
  induction L with
  | nil => rfl
  | cons x L ih => simp [flatT, ih]; omega

theorem flatT_get : ∀ (L : List (Int × Int × Value)) (t : Nat) (h : t / 3 < L.length), (flatT L)[t]? = some ([Value.int .i64 L[t / 3].1, Value.int .i64 L[t / 3].2.1, L[t / 3].2.2][t % 3]!)
  | [], t, h => by simp at h
  | x :: L, 0, h => rfl
  | x :: L, 1, h => rfl
  | x :: L, 2, h => rfl
  | x :: L, t + 3, h => by
    have h1 : (t + 3) / 3 = t / 3 + 1 := by omega
    have h2 : (t + 3) % 3 = t % 3 := by omega
    have h3 : t / 3 < L.length := by rw [h1] at h; simpa using h
    have e : flatT (x :: L) = .int .i64 x.1 :: .int .i64 x.2.1 :: x.2.2 :: flatT L := rfl
    rw [e, List.getElem?_cons_succ, List.getElem?_cons_succ, List.getElem?_cons_succ, flatT_get L t h3]
    simp only [h1, h2, List.getElem_cons_succ]

theorem flatK_eq (d : Array EntE) : flatK EntE.enc 3 d = (flatT (d.toList.map EntE.toT)).toArray := by
  apply Array.ext
  · simp [flatT_length]
  · intro t h1 h2
    have h3 : t < d.size * 3 := by simpa using h1
    have h4 := get_flatK EntE.enc 3 d t h3
    rw [getElem!_pos _ t h1] at h4
    rw [h4]
    have h5 : t / 3 < (d.toList.map EntE.toT).length := by simp; omega
    have h6 := flatT_get (d.toList.map EntE.toT) t h5
    have h8 : t < (flatT (d.toList.map EntE.toT)).length := by simpa using h2
    have h7 : (flatT (d.toList.map EntE.toT)).toArray[t] = [Value.int .i64 (d.toList.map EntE.toT)[t / 3].1, Value.int .i64 (d.toList.map EntE.toT)[t / 3].2.1, (d.toList.map EntE.toT)[t / 3].2.2][t % 3]! := by
      rw [List.getElem?_eq_getElem h8] at h6
      have h6 := Option.some.inj h6
      simpa using h6
    rw [h7]
    have h9 : t / 3 < d.size := by omega
    rw [getElem!_pos d (t / 3) h9]
    simp [EntE.enc, EntE.toT]

theorem sortList_is {wr : World} {base cap g : Nat} {Zs : List EntE} (h : wr.ownsRow base 39 3 (.slice (some ⟨g, 0, none⟩) Zs.length cap) Zs.length (flatT (Zs.map EntE.toT))) (hl : Zs.length ≤ 100000000) :
    Calls Try.prog 32 #[.slice (some ⟨g, 0, none⟩) Zs.length cap, .func (.func 33) #[] #[]] wr fun e w' => e = .returned (.tuple #[]) ∧ ∃ Z' : List EntE, w'.ownsRow base 39 3 (.slice (some ⟨g, 0, none⟩) Zs.length cap) Zs.length (flatT (Z'.map EntE.toT)) ∧ wr.grownBy w' (some g) ∧ Z'.Perm Zs ∧ Z'.Pairwise fun a b => a.P ≤ b.P := by
  have hgl := (h.lt g rfl).2
  obtain ⟨d, hd⟩ : ∃ d : Array EntE, d.toList = Zs := ⟨Zs.toArray, by simp⟩
  have hds : d.size = Zs.length := by rw [← hd]; simp
  have hH : HoldsK EntE.enc 3 wr g 0 d := by
    unfold HoldsK
    rw [flatK_eq, hd]
    intro j hj
    have hj' : j < (flatT (Zs.map EntE.toT)).length := by simpa using hj
    refine ⟨?_, by rw [Nat.zero_add]; exact h.frozenAt j⟩
    rw [Nat.zero_add, h.cellAt j (by rw [flatT_length, List.length_map] at hj'; exact hj')]
    simp [hj']
  have hc := sortEnts_is g cap wr d hH hgl (by omega)
  rw [hds] at hc
  refine hc.mono ?_
  rintro e w' ⟨he, d', n, os, hp, hs, rfl⟩
  have hds' : d'.size = Zs.length := by rw [hp.1, hds]
  have hw : sortWorldK EntE.enc 3 wr g 0 n d' os = grow (putRow id (Sort.ahead wr n) g 0 (flatT (d'.toList.map EntE.toT)).toArray) os := by
    rw [← flatK_eq]; rfl
  have hgr : wr.grownBy (sortWorldK EntE.enc 3 wr g 0 n d' os) (some g) := by rw [hw]; exact grownBy_sortedV _
  have hperm : d'.toList.Perm Zs := by
    rw [← hd]
    have h1 := hp.2.2
    have e1 : d'.extract 0 Zs.length = d' := by rw [← hds']; simp
    have e2 : d.extract 0 Zs.length = d := by rw [← hds]; simp
    rw [e1, e2] at h1
    exact h1
  refine ⟨he, d'.toList, ?_, hgr, hperm, ?_⟩
  · rw [hw]
    exact ownsRow_sortedV h (by rw [flatT_length]; simp [hds'])
  · rw [List.pairwise_iff_getElem]
    intro i j hi hj hij
    have hj' : j < d'.size := by simpa using hj
    have h1 := hs i j (Nat.zero_le _) hij (by rw [← hds']; exact hj')
    have h2 := of_decide_eq_false h1
    rw [getElem!_pos d' j hj', getElem!_pos d' i (by omega)] at h2
    have h3 : ¬ compareInt d'[j].P d'[i].P < 0 := h2
    simp only [Array.getElem_toList]
    rcases cmpInt_cases d'[j].P d'[i].P with h | h | h <;> omega

end Go.Proofs.Ytldfbadcigdbkaa
