/- Texts of the proof, laid together. -/
import Derived.Test.YtgcjdojhfimceaaGreatG00
import Derived.Test.YtgcjdojhfimceaaGreatG07
import Derived.Test.YtgcjdojhfimceaaGreatG05
import Derived.Test.YtgcjdojhfimceaaGreatG06
import Derived.Sort.OwnSorted
import Derived.Shelf.SlSortCmp.NoneTotal
import Derived.BigQuiet
namespace Go.Proofs.YtgcjdojhfimceaaGreat
open Go.RowKit Go.Sort Go.Proofs Go.Shelf Go.Lib

theorem heap_sortedVP {w : World} {g n : Nat} {os : Array Obj} {cur : Array Value} {e : TypeId} {fr : Nat × Nat} (d : Array Value) (hb : w.heap[g]? = some (.cells cur e fr)) :
    (grow (putRow id (Sort.ahead w n) g 0 d) os).heap[g]? = some (.cells (putCells id 0 d cur) e fr) := by
  have hg : g < w.heap.size := (Array.getElem?_eq_some_iff.1 hb).1
  rw [heap_grow_old _ _ (by simpa using hg)]
  simp [putRow, mapBlock, Sort.ahead, Array.getElem?_modify, hb, onCells]

theorem grownBy_sortedVP {w : World} {g n : Nat} {os : Array Obj} (d : Array Value) : w.grownBy (grow (putRow id (Sort.ahead w n) g 0 d) os) (some g) := by
  refine ⟨rfl, rfl, rfl, by simp, fun k hk hne => ?_⟩
  rw [heap_grow_old _ _ (by simpa using hk)]
  have : g ≠ k := fun e => hne (by rw [e])
  simp [putRow, mapBlock, Sort.ahead, Array.getElem?_modify, this]

theorem take_putCellsVP (cur : Array Value) (ts : List Value) (h : ts.length ≤ cur.size) : (putCells id 0 ts.toArray cur).toList.take ts.length = ts := by
  apply List.ext_getElem?
  intro j
  by_cases hj : j < ts.length
  · rw [List.getElem?_take_of_lt hj, Array.getElem?_toList]
    simp [putCells, hj, show j < cur.size by omega]
  · rw [List.getElem?_take_eq_none (by omega), List.getElem?_eq_none (by omega)]

theorem ownsRow_sortedVP {w : World} {base g cap n m size : Nat} {e : TypeId} {os : Array Obj} {xs ts : List Value} (h : w.ownsRow base e size (.slice (some ⟨g, 0, none⟩) m cap) m xs) (hl : ts.length = m * size) :
    (grow (putRow id (Sort.ahead w n) g 0 ts.toArray) os).ownsRow base e size (.slice (some ⟨g, 0, none⟩) m cap) m ts := by
  rcases h.2 with ⟨h0, _⟩ | ⟨g', cap', cur, h1, h2, h3, h4, h5, h6, h7⟩
  · cases h0
  cases h1
  refine ⟨hl, .inr ⟨g, cap, _, rfl, h2, heap_sortedVP _ h3, h4, h5, by simp [putCells, h6], ?_⟩⟩
  rw [← hl]
  exact take_putCellsVP cur ts (by rw [hl, h6]; exact Nat.mul_le_mul_right _ h4)

/-- An entry as it lies in the list, and what it stands for. -/
structure EntE where
  P : Int
  W : Int
  a : Option Addr
  n : Nat
  c : Nat
  E : M.Ent

instance : Inhabited EntE := ⟨⟨0, 0, none, 0, 0, ⟨0, 0, []⟩⟩⟩

def EntE.enc (x : EntE) : List Value := [.int .i64 x.P, .int .i64 x.W, .slice x.a x.n x.c]
def EntE.ord (x y : EntE) : Int := compareInt x.P y.P
def EntE.toT (x : EntE) : Int × Int × Value := (x.P, x.W, .slice x.a x.n x.c)

theorem drewN_growP (w : World) (os : Array Obj) (n : Nat) : (grow w os).drewN n = grow (w.drewN n) os := by
  induction n generalizing w with
  | zero => rfl
  | succ n ih => first | rfl | (simp only [World.drewN]; rw [← ih]; rfl)

set_option maxRecDepth 100000 in
set_option maxHeartbeats 1000000 in
theorem entLess_is (x y : EntE) (W : World) :
    Calls Tryz.prog 46 #[.agg x.enc.toArray, .agg y.enc.toArray] W fun e w' => e = .returned (.int .i64 (x.ord y)) ∧ ∃ q os', w' = grow (W.drewN q) os' := by
  obtain ⟨P, V, a, n, c, E⟩ := x
  obtain ⟨P', V', a', n', c', E'⟩ := y
  simp only [EntE.enc, EntE.ord]
  go_enter Tryz.func46, Tryz.ntmps46
  go_wp2_with (go_at_call 47; refine (Tryz.cmp_Compare_int _ _ _).mono ?_; rintro e w' ⟨rfl, rfl⟩)
  go_ret
  exact ⟨rfl, 0, _, by rw [alloc_eq_grow, alloc_eq_grow, grow_grow]; rfl⟩

theorem cmpInt_casesP (a b : Int) : (Lib.compareInt a b = -1 ∧ a < b) ∨ (Lib.compareInt a b = 0 ∧ a = b) ∨ (Lib.compareInt a b = 1 ∧ b < a) := by
  unfold Lib.compareInt
  by_cases h : a < b
  · exact .inl ⟨by rw [if_pos h], h⟩
  · by_cases h2 : b < a
    · exact .inr (.inr ⟨by rw [if_neg h, if_pos h2], h2⟩)
    · exact .inr (.inl ⟨by rw [if_neg h, if_neg h2], by omega⟩)

theorem entSWO : SWO (ltOf EntE.ord) where
  irrefl x := by
    refine decide_eq_false ?_
    show ¬ compareInt x.P x.P < 0
    rcases cmpInt_casesP x.P x.P with h | h | h <;> omega
  trans x y z h1 h2 := by
    have g1 : compareInt x.P y.P < 0 := of_decide_eq_true h1
    have g2 : compareInt y.P z.P < 0 := of_decide_eq_true h2
    refine decide_eq_true (show compareInt x.P z.P < 0 from ?_)
    rcases cmpInt_casesP x.P y.P with h | h | h <;> rcases cmpInt_casesP y.P z.P with h' | h' | h' <;> rcases cmpInt_casesP x.P z.P with h'' | h'' | h'' <;> omega
  ntrans x y z h1 h2 := by
    have g1 : ¬ compareInt x.P y.P < 0 := of_decide_eq_false h1
    have g2 : ¬ compareInt y.P z.P < 0 := of_decide_eq_false h2
    refine decide_eq_false (show ¬ compareInt x.P z.P < 0 from fun h3 => ?_)
    rcases cmpInt_casesP x.P y.P with h | h | h <;> rcases cmpInt_casesP y.P z.P with h' | h' | h' <;> rcases cmpInt_casesP x.P z.P with h'' | h'' | h'' <;> omega

set_option maxHeartbeats 1000000 in
theorem sortEnts_is (blk cap : Nat) (w : World) (d : Array EntE) (hH : HoldsK EntE.enc 3 w blk 0 d) (hblk : blk < w.heap.size) (hsz : d.size < 1000000000) :
    Calls Tryz.prog 45 #[.slice (some ⟨blk, 0, none⟩) d.size cap, .func (.func 46) #[] #[]] w fun e w' => e = .returned (.tuple #[]) ∧ ∃ d' n os, PermIn 0 d.size d d' ∧ SortedIn (ltOf EntE.ord) 0 d.size d' ∧ w' = sortWorldK EntE.enc 3 w blk 0 n d' os := by
  have eg : ∀ args w, (callFunc 46 args).run Tryz.prog w = .ok (.enter 46 args) w := enters_of Tryz.func46 (by kernel_rfl) rfl
  refine AnyQ.slices_SortFunc Tryz.sortProofs 3 Tryz.isAgg71 Tryz.sizeOf71 EntE.enc (fun _ => rfl) (fun x v hv => ?_) EntE.ord entSWO 46 #[] blk 0 cap d w eg ?_ hH hblk (by omega)
  · simp [EntE.enc] at hv
    rcases hv with rfl | rfl | rfl <;> rfl
  · intro m os dk _ x y
    exact entLess_is x y _

theorem flatT_length (L : List (Int × Int × Value)) : (flatT L).length = L.length * 3 := by
  induction L with
  | nil => rfl
  | cons x L ih => simp [flatT, ih]; omega

theorem flatT_get : ∀ (L : List (Int × Int × Value)) (t : Nat) (h : t / 3 < L.length), (flatT L)[t]? = some ([Value.int .i64 L[t / 3].1, Value.int .i64 L[t / 3].2.1, L[t / 3].2.2][t % 3]!)
  | [], t, h => by simp at h
  | x :: L, 0, h => rfl
  | x :: L, 1, h => rfl
  | x :: L, 2, h => rfl
  | x :: L, t + 3, h => by
    have h1 : (t + 3) / 3 = t / 3 + 1 := by omega
    have h2 : (t + 3) % 3 = t % 3 := by omega
    have h3 : t / 3 < L.length := by rw [h1] at h; simpa using h
    have e : flatT (x :: L) = .int .i64 x.1 :: .int .i64 x.2.1 :: x.2.2 :: flatT L := rfl
    rw [e, List.getElem?_cons_succ, List.getElem?_cons_succ, List.getElem?_cons_succ, flatT_get L t h3]
    simp only [h1, h2, List.getElem_cons_succ]

theorem flatK_eqP (d : Array EntE) : flatK EntE.enc 3 d = (flatT (d.toList.map EntE.toT)).toArray := by
  apply Array.ext
  · simp [flatT_length]
  · intro t h1 h2
    have h3 : t < d.size * 3 := by simpa using h1
    have h4 := get_flatK EntE.enc 3 d t h3
    rw [getElem!_pos _ t h1] at h4
    rw [h4]
    have h5 : t / 3 < (d.toList.map EntE.toT).length := by simp; omega
    have h6 := flatT_get (d.toList.map EntE.toT) t h5
    have h8 : t < (flatT (d.toList.map EntE.toT)).length := by simpa using h2
    have h7 : (flatT (d.toList.map EntE.toT)).toArray[t] = [Value.int .i64 (d.toList.map EntE.toT)[t / 3].1, Value.int .i64 (d.toList.map EntE.toT)[t / 3].2.1, (d.toList.map EntE.toT)[t / 3].2.2][t % 3]! := by
      rw [List.getElem?_eq_getElem h8] at h6
      have h6 := Option.some.inj h6
      simpa using h6
    rw [h7]
    have h9 : t / 3 < d.size := by omega
    rw [getElem!_pos d (t / 3) h9]
    simp [EntE.enc, EntE.toT]

theorem sortList_isP {wr : World} {base cap g : Nat} {Zs : List EntE} (h : wr.ownsRow base 71 3 (.slice (some ⟨g, 0, none⟩) Zs.length cap) Zs.length (flatT (Zs.map EntE.toT))) (hl : Zs.length ≤ 100000000) :
    Calls Tryz.prog 45 #[.slice (some ⟨g, 0, none⟩) Zs.length cap, .func (.func 46) #[] #[]] wr fun e w' => e = .returned (.tuple #[]) ∧ ∃ Z' : List EntE, w'.ownsRow base 71 3 (.slice (some ⟨g, 0, none⟩) Zs.length cap) Zs.length (flatT (Z'.map EntE.toT)) ∧ wr.grownBy w' (some g) ∧ Z'.Perm Zs ∧ Z'.Pairwise fun a b => a.P ≤ b.P := by
  have hgl := (h.lt g rfl).2
  obtain ⟨d, hd⟩ : ∃ d : Array EntE, d.toList = Zs := ⟨Zs.toArray, by simp⟩
  have hds : d.size = Zs.length := by rw [← hd]; simp
  have hH : HoldsK EntE.enc 3 wr g 0 d := by
    unfold HoldsK
    rw [flatK_eqP, hd]
    intro j hj
    have hj' : j < (flatT (Zs.map EntE.toT)).length := by simpa using hj
    refine ⟨?_, by rw [Nat.zero_add]; exact h.frozenAt j⟩
    rw [Nat.zero_add, h.cellAt j (by rw [flatT_length, List.length_map] at hj'; exact hj')]
    simp [hj']
  have hc := sortEnts_is g cap wr d hH hgl (by omega)
  rw [hds] at hc
  refine hc.mono ?_
  rintro e w' ⟨he, d', n, os, hp, hs, rfl⟩
  have hds' : d'.size = Zs.length := by rw [hp.1, hds]
  have hw : sortWorldK EntE.enc 3 wr g 0 n d' os = grow (putRow id (Sort.ahead wr n) g 0 (flatT (d'.toList.map EntE.toT)).toArray) os := by
    rw [← flatK_eqP]; rfl
  have hgr : wr.grownBy (sortWorldK EntE.enc 3 wr g 0 n d' os) (some g) := by rw [hw]; exact grownBy_sortedVP _
  have hperm : d'.toList.Perm Zs := by
    rw [← hd]
    have h1 := hp.2.2
    have e1 : d'.extract 0 Zs.length = d' := by rw [← hds']; simp
    have e2 : d.extract 0 Zs.length = d := by rw [← hds]; simp
    rw [e1, e2] at h1
    exact h1
  refine ⟨he, d'.toList, ?_, hgr, hperm, ?_⟩
  · rw [hw]
    exact ownsRow_sortedVP h (by rw [flatT_length]; simp [hds'])
  · rw [List.pairwise_iff_getElem]
    intro i j hi hj hij
    have hj' : j < d'.size := by simpa using hj
    have h1 := hs i j (Nat.zero_le _) hij (by rw [← hds']; exact hj')
    have h2 := of_decide_eq_false h1
    rw [getElem!_pos d' j hj', getElem!_pos d' i (by omega)] at h2
    have h3 : ¬ compareInt d'[j].P d'[i].P < 0 := h2
    simp only [Array.getElem_toList]
    rcases cmpInt_casesP d'[j].P d'[i].P with h | h | h <;> omega

end Go.Proofs.YtgcjdojhfimceaaGreat

namespace Go.Proofs.YtgcjdojhfimceaaGreat
open Go.RowKit Go.Maps

theorem wpList_insert_own {H : Type} {P : Program} (w : World) {ops : Array Oper} {rest : List Oper} {o : Oper} {a : Act} {Q : Exit → Act → World → Prop}
    (hg : o.guard = none) (m x v : Operand) (t : TypeId) (hop : o.op = Op.insert t m x v)
    (k e : TypeId) (K : Keyed P k) (ht : P.underlying t = some (.map k e)) (R : Value → Option (DataW H × List MemPlace)) (b n : Nat) (D : DataW H)
    (hm : a.eval m = .map (some b)) (hown : w.ownsMap P k R b n D) (hn : n < maxLen) (key val : Value) (kl : Lit) (hx : a.eval x = key) (hv : a.eval v = val) (hkey : keyOf P k key = some kl)
    (d : DataW H) (ps : List MemPlace) (hval : R val = some (d, ps))
    (hK : ∀ w', w'.ownsMap P k R b (n + 1) (D.put kl d) → w.grownBy w' (some b) → wpList P ops Q rest (a.put o.dst undef) w') :
    wpList P ops Q (o :: rest) a w := by
  refine wpList_plain hg fun K' hK' => ?_
  obtain ⟨w', hrun, r1, r2⟩ := hown.update K ht hn hkey hval
  unfold Oper.wp
  simp [execOp, hop, hm, hx, hv, hrun, Result.andThen]
  exact hK' _ _ (hK w' r1 r2)

theorem PSt.start {w0 wA : World} {p : Nat} (hm : wA.ownsMap Tryz.prog 3 (plainElem Tryz.prog 4) w0.heap.size 1 ((.map [] : DataW Unit).put (.int .i64 (p : Int)) (.lit (.bool true)))) (hg : (w0.alloc (.map #[] 0)).grownBy wA (some w0.heap.size)) :
    PSt w0 (wA.alloc (.cells #[.int .i64 (p : Int)] 3)) 1 ((.map [] : DataW Unit).put (.int .i64 (p : Int)) (.lit (.bool true))) [(p : Int)] (.slice (some ⟨wA.heap.size, 0, none⟩) 1 1) (.slice none 0 0) [p] [] [] := by
  have hs := hg.size
  have hsa : (w0.alloc (.map #[] 0)).heap.size = w0.heap.size + 1 := World.size_alloc _ _
  have hB : Below w0.heap.size w0 wA := ((Below.refl _ w0).alloc (Nat.le_refl _) _).grown hg (by omega) (fun k e => by injection e with e; omega)
  refine ⟨hB.alloc (by omega) _, ?_, ?_, SetI.put SetI.empty _, ⟨by simp [ints], .inr ⟨wA.heap.size, 1, #[.int .i64 (p : Int)], rfl, by omega, heap_alloc_new _ _, Nat.le_refl _, by unfold maxLen; omega, by simp, by simp [ints]⟩⟩, ⟨by simp [flatT], .inl ⟨rfl, rfl⟩⟩, fun g _ h => by simp [Value.ownBlock] at h, rfl, fun j h => by simp at h⟩
  · rw [World.size_alloc]; omega
  · exact map_at hm (Below.heap_alloc _ _ _ (by omega))

/-- What the program's proof is, in memory. -/
structure OutE (w0 w' : World) (v : Value) (Zs : List EntE) : Prop where
  own : w'.ownsRow (w0.heap.size + 1) 71 3 v Zs.length (flatT (Zs.map EntE.toT))
  each : ∀ z ∈ Zs, z.P = z.E.P ∧ z.W = z.E.W ∧ w'.ownsRow (w0.heap.size + 1) 3 1 (.slice z.a z.n z.c) z.E.F.length (intsZ z.E.F) ∧ ∀ g, (Value.slice z.a z.n z.c).ownBlock = some g → v.ownBlock ≠ some g

def sliceOf : Value → Option Addr × Nat × Nat
  | .slice a n c => (a, n, c)
  | _ => (none, 0, 0)
def mkZ (x : Int × Int × Value) (E : M.Ent) : EntE := ⟨x.1, x.2.1, (sliceOf x.2.2).1, (sliceOf x.2.2).2.1, (sliceOf x.2.2).2.2, E⟩

theorem PSt.zip {w0 wr : World} {m : Nat} {D : DataW Unit} {S : List Int} {vT vP : Value} {T : List Nat} {Ts : List (Int × Int × Value)} {Es : List M.Ent} (h : PSt w0 wr m D S vT vP T Ts Es) :
    ∃ Zs : List EntE, Zs.map EntE.toT = Ts ∧ Zs.map EntE.E = Es ∧ OutE w0 wr vP Zs := by
  have hl := h.len
  have hform : ∀ j (h1 : j < Ts.length) (h2 : j < Es.length), EntE.toT (mkZ Ts[j] Es[j]) = Ts[j] := by
    intro j h1 h2
    obtain ⟨_, _, a3, _⟩ := h.each j h1 h2
    obtain ⟨_, a, c, e, _⟩ := Rd.of_own a3
    simp only [EntE.toT, mkZ]
    rw [e]
    simp only [sliceOf]
    rw [← e]
  have e1 : (List.zipWith mkZ Ts Es).map EntE.toT = Ts := by
    apply List.ext_getElem
    · simp; omega
    · intro j h1 h2
      simp only [List.getElem_map, List.getElem_zipWith]
      exact hform j h2 (by omega)
  have e2 : (List.zipWith mkZ Ts Es).map EntE.E = Es := by
    apply List.ext_getElem
    · simp; omega
    · intro j h1 h2
      simp [mkZ]
  have e3 : (List.zipWith mkZ Ts Es).length = Ts.length := by simp; omega
  refine ⟨List.zipWith mkZ Ts Es, e1, e2, by rw [e3, e1]; exact h.proof, ?_⟩
  intro z hz
  obtain ⟨j, hj, rfl⟩ := List.mem_iff_getElem.1 hz
  have hjT : j < Ts.length := by omega
  have hjE : j < Es.length := by omega
  obtain ⟨a1, a2, a3, a4⟩ := h.each j hjT hjE
  rw [List.getElem_zipWith]
  have h5 := hform j hjT hjE
  have h6 : Value.slice (mkZ Ts[j] Es[j]).a (mkZ Ts[j] Es[j]).n (mkZ Ts[j] Es[j]).c = Ts[j].2.2 := congrArg (fun x => x.2.2) h5
  rw [h6]
  exact ⟨a1, a2, a3, fun g hg => (a4 g hg).2.2.2⟩

theorem OutE.rde {w0 w' : World} {v : Value} {Zs : List EntE} (h : OutE w0 w' v Zs) : RdE w' v (Zs.map EntE.E) := by
  obtain ⟨_, a, cap, hv, hc, h2⟩ := Rd.of_own h.own
  refine ⟨a, cap, by rw [List.length_map]; exact hv, by rw [List.length_map]; exact hc, ?_⟩
  rcases h2 with h2 | ⟨b, h3, h4, h5⟩
  · exact .inl (by rw [List.length_map]; exact h2)
  · refine .inr ⟨b, h3, h4, fun k hk => ?_⟩
    have hkl : k < Zs.length := by simpa using hk
    obtain ⟨a1, a2, a3, _⟩ := h.each Zs[k] (List.getElem_mem hkl)
    have hlen : k < (Zs.map EntE.toT).length := by simpa using hkl
    have g0 := flatT_get (Zs.map EntE.toT) (k * 3) (by rw [Nat.mul_div_cancel _ (by omega)]; exact hlen)
    have g1 := flatT_get (Zs.map EntE.toT) (k * 3 + 1) (by rw [show (k * 3 + 1) / 3 = k by omega]; exact hlen)
    have g2 := flatT_get (Zs.map EntE.toT) (k * 3 + 2) (by rw [show (k * 3 + 2) / 3 = k by omega]; exact hlen)
    simp only [show k * 3 / 3 = k by omega, show k * 3 % 3 = 0 by omega, show (k * 3 + 1) / 3 = k by omega, show (k * 3 + 1) % 3 = 1 by omega, show (k * 3 + 2) / 3 = k by omega, show (k * 3 + 2) % 3 = 2 by omega, List.getElem_map] at g0 g1 g2
    refine ⟨.slice Zs[k].a Zs[k].n Zs[k].c, ?_, ?_, ?_, ?_⟩
    · rw [h5 _ _ g0, List.getElem_map, ← a1]; rfl
    · rw [h5 _ _ g1, List.getElem_map, ← a2]; rfl
    · rw [h5 _ _ g2]; rfl
    · rw [List.getElem_map]; exact Rd.of_own a3

theorem ent_entok {E : M.Ent} (h : IsEnt E) : EntOk E := by
  have hb := ent_lt h
  obtain ⟨p, G, L, h⟩ := h
  have h1 := h.gp
  have h2 := h.small
  refine ⟨WalkArith.wf_i64 (by omega), by rw [h.eW]; exact WalkArith.wf_i64 (by omega), fun q hq => ?_, ?_⟩
  · have := hb.2.2 q hq
    exact WalkArith.wf_i64 (by omega)
  · rw [h.eF, List.length_map]
    have : L.length ≤ 30 := h.fac.1.length_le (by rw [h.fac.2]; omega)
    omega

theorem own_form2 {w : World} {base size n : Nat} {e : TypeId} {v : Value} {xs : List Value} (h : w.ownsRow base e size v n xs) : ∃ a cap, v = .slice a n cap ∧ n ≤ cap ∧ True ∧ (0 < n → ∃ g, a = some ⟨g, 0, none⟩) := by
  rcases h.2 with ⟨h1, h2⟩ | ⟨g, cap, cur, hv, h4, h5, h6, h7⟩
  · exact ⟨none, 0, by rw [h2]; exact h1, by omega, trivial, fun h => by omega⟩
  · exact ⟨_, cap, hv, h6, trivial, fun _ => ⟨g, rfl⟩⟩

/-- What prove answers. -/
structure ProofOf (p : Nat) (w0 w' : World) (v : Value) (Zs : List EntE) : Prop where
  out : OutE w0 w' v Zs
  len : Zs.length ≤ 62
  pos : 0 < Zs.length
  ok : ∀ E ∈ Zs.map EntE.E, EntOk E
  right : M.proofP (p : Int) 1 [] (Zs.map EntE.E) = true

set_option maxRecDepth 100000 in
set_option maxHeartbeats 4000000 in
theorem prove_is (p : Nat) (w : World) (hp : Hid (M.Pr p)) (hp2 : p ≤ 2147483647) :
    Calls Tryz.prog 23 #[.int .i64 p] w fun x w' => (∃ v Zs, x = .returned v ∧ ProofOf p w w' v Zs) ∧ Below w.heap.size w w' := by
  have h2 := hp.out.1
  have hmm : ∀ w, (Instr.makeMap 69 none).run Tryz.prog w = .ok (.map (some w.heap.size)) (w.alloc (.map #[] 0)) := fun w => run_makeMap _ w
  have hpw : (Lit.int .i64 (p : Int)).wf = true := WalkArith.wf_i64 (by omega)
  obtain ⟨i1, hi1, hy0, hy1, hy2⟩ := info_parts Tryz.infoE
  obtain ⟨i0, hi, hz0, hz1, hz2⟩ := info_parts Tryz.infoI
  go_enter Tryz.func23, Tryz.ntmps23
  go_wp2_with (refine wpList_insert_own _ rfl _ _ _ 69 rfl 3 4 law3' Tryz.underlying69 _ w.heap.size 0 (.map []) rfl (World.ownsMap_made _ _ _ _) (by unfold maxLen; omega) _ _ _ rfl rfl (keyOf_int_mk Tryz.underlying3 hpw) _ [] wfb4 ?_; intro wA hmA hgA; have HSt := Lib.hid (PSt.start (p := p) hmA hgA); have HgA := Lib.hid hgA; clear hmA hgA)
  go_loopw [3, 5, 6] (fun xP xT i wr => ∃ (vP vT : Value) (k m : Nat) (D : DataW Unit) (S : List Int) (T : List Nat) (Ts : List (Int × Int × Value)) (Es : List M.Ent), vP = xP ∧ vT = xT ∧ i = .int .i64 k ∧ k ≤ 62 ∧ Hid (TSt p T k Es) ∧ Hid (m = T.length) ∧ Hid (∀ x : Int, x ∈ S ↔ ∃ t ∈ T, (t : Int) = x) ∧ Hid (PSt w wr m D S vT vP T Ts Es)) (fun _ _ i _ => 63 - (intOf i).toNat)
  case atStart => exact ⟨_, _, 0, 1, _, _, [p], [], [], rfl, rfl, rfl, by omega, TSt.start hp.out, (by show _ = _; rfl), (fun x => by simp [eq_comm]), HSt.out⟩
  case round =>
    obtain ⟨vP, vT, k, m, D, S, T, Ts, Es, rfl, rfl, rfl, hk, HT, Hm, HS, HP⟩ := hrel
    have htl := HT.out.bound hp2
    obtain ⟨tl, htl2⟩ : ∃ tl, tl = T.length := ⟨_, rfl⟩
    obtain ⟨aT, cT, hvT⟩ : ∃ a c, vT = .slice a T.length c := by obtain ⟨_, a, c, h, _⟩ := Rd.of_own HP.out.todo; exact ⟨a, c, h⟩
    subst hvT
    rw [← htl2] at htl HP ⊢
    have HTL := Lib.hid htl2
    clear htl2
    by_cases hlt : k < tl
    · have hkT : k < T.length := by have := HTL.out; omega
      obtain ⟨t, ht⟩ : ∃ t, t = T[k] := ⟨_, rfl⟩
      obtain ⟨hpr', htp⟩ := HT.out.pr t (by rw [ht]; exact List.getElem_mem hkT)
      have hpr := Lib.hid hpr'
      have ht2 := hpr'.1
      obtain ⟨L, hL'⟩ := M.exists_fac (t - 1) (by omega)
      have hL := Lib.hid hL'
      obtain ⟨G, hG1, hG2, hG3, hG4⟩ := least_gen hpr' hL'
      have hG := Lib.hid (And.intro hG3 hG4)
      have hlen : L.length ≤ 30 := hL'.1.length_le (by rw [hL'.2]; omega)
      obtain ⟨gT, hgT, hd0⟩ : ∃ g, aT = some ⟨g, 0, none⟩ ∧ wr.cell? ⟨g, k, none⟩ = some (.int .i64 (t : Int)) := by
        obtain ⟨_, a, c, h1, _, h3⟩ := Rd.of_own HP.out.todo
        rcases h3 with h3 | ⟨b, h4, h5, h6⟩
        · omega
        · injection h1 with h1
          exact ⟨b, h1.trans h4, h6 k _ (by rw [ints_get T k hkT, ht])⟩
      subst hgT
      have HTT : Hid (∃ h : k < T.length, t = T[k]) := ⟨hkT, ht⟩
      obtain ⟨aP, cP, hvP⟩ : ∃ a c, vP = .slice a Ts.length c := by obtain ⟨_, a, c, h, _⟩ := Rd.of_own HP.out.proof; exact ⟨a, c, h⟩
      subst hvP
      obtain ⟨sl, hsl⟩ : ∃ sl, sl = Ts.length := ⟨_, rfl⟩
      have hslk : sl = k := by rw [hsl, HP.out.len, HT.out.len]
      have HSL := Lib.hid hsl
      rw [← hsl] at HP ⊢
      subst hslk
      clear ht hG3 hG4 hL' hpr' hsl hkT
      go_wp2_with (fail)
      refine (proveBy_is t G L _ hpr (by omega) hL hG1 hG2 hG).mono ?_
      rintro e w1 ⟨⟨fa, fc, rfl, hrd, hfg⟩, hB1⟩
      have HP1 := Lib.hid (HP.out.below_of hB1)
      have HP2 := Lib.hid (HP1.out.below_of ((Below.refl w1.heap.size w1).alloc (Nat.le_refl _) (.cells #[.int .i64 (t : Int), .int .i64 (G : Int), .slice fa L.length fc] 71)))
      have HPr := Lib.hid HP2.out.proof
      have HR := Lib.hid (And.intro hrd (And.intro hfg hB1))
      obtain ⟨ln, hln⟩ : ∃ ln, ln = L.length := ⟨_, rfl⟩
      rw [← hln] at HP2 HPr HR
      rw [← hln]
      have HLN := Lib.hid hln
      have hln30 : ln ≤ 30 := by omega
      clear hrd hfg hB1 hln
      have hpr2 := HPr.out
      rw [← HSL.out] at hpr2
      have HPs := Lib.hid hpr2
      clear hpr2
      have hw1 : wr.heap.size ≤ w1.heap.size := HR.out.2.2.size
      have hlt1 : w.heap.size < w1.heap.size := HP1.out.lt
      have hNB := Lib.hid (World.news_of_block (heap_alloc_new (w1.alloc (.cells #[.int .i64 (t : Int), .int .i64 (G : Int), .slice fa ln fc] 71)) (.cells #[.int .i64 (t : Int), .int .i64 (G : Int), .slice fa ln fc] 71)))
      have hs2 : (w1.alloc (.cells #[.int .i64 (t : Int), .int .i64 (G : Int), .slice fa ln fc] 71)).heap.size = w1.heap.size + 1 := World.size_alloc _ _
      have HS2 := Lib.hid hs2
      have hfE := Lib.hid (heap_alloc_new w1 (.cells #[.int .i64 (t : Int), .int .i64 (G : Int), .slice fa ln fc] 71))
      clear hs2
      go_wp2_with (at_builtin; go_loud (refine wpList_append_own_at _ rfl _ _ 37 rfl (w.heap.size + 1) 71 i1 (.agg #[.int .i64 0, .int .i64 0, .slice none 0 0]) 3 40 Tryz.underlying37 hi1 hy0 hy1 hy2 rfl (by decide) _ _ _ rfl (HPs.out.alloc _) ⟨w1.heap.size + 1, 0, none⟩ 1 1 [.int .i64 (t : Int), .int .i64 (G : Int), .slice fa ln fc] rfl rfl (by simpa using hNB.out) (by intro u hu; simp at hu; rcases hu with rfl | rfl | rfl <;> rfl) (by unfold maxLen; omega) (by omega) (by rw [World.size_alloc, HS2.out]; omega) ?_; intro v' w3 hown3 hgrow3 _ hb3; obtain ⟨av, cv, hv7⟩ : ∃ av cv, v' = .slice av (sl + 1) cv := (by obtain ⟨_, av, cv, h, _, _⟩ := Rd.of_own hown3; exact ⟨av, cv, h⟩); subst hv7; have hR3 : Hid (w3.heap[w1.heap.size]? = some (.cells #[.int .i64 (t : Int), .int .i64 (G : Int), .slice fa ln fc] 71 (0, 0))) := (by show _ = _; rw [hgrow3.block _ (by rw [World.size_alloc, HS2.out]; omega) (fun e => by have := (HP1.out.proof.lt _ e.symm).2; omega), Below.heap_alloc _ _ _ (by rw [HS2.out]; omega)]; exact hfE.out); have z2 := cell_blk (o := 2) hR3.out rfl; have H3 := Lib.hid (And.intro hown3 (And.intro hgrow3 hb3)); clear hown3 hgrow3 hb3))
      obtain ⟨E, hE⟩ : ∃ E : M.Ent, E = ⟨(t : Int), (G : Int), L.map fun x => (x.1 : Int)⟩ := ⟨_, rfl⟩
      have hPE : Hid (PrEnt E t G L) := ⟨hpr.out, by omega, by rw [hE], by rw [hE], by rw [hE], hL.out, hG1, hG2, hG.out.1⟩
      obtain ⟨Q, hQ⟩ : ∃ Q, Q = L.map (·.1) := ⟨_, rfl⟩
      have hF1 : intsZ E.F = ints Q := by rw [hE, hQ, ints_cast]
      have hF2 : E.F.length = ln := by rw [hE, HLN.out]; simp
      have hQl : Q.length = ln := by rw [hQ, HLN.out]; simp
      have hQb : ∀ x ∈ Q, x ≤ 2147483647 := by rw [hQ]; exact fun x hx => (fac_small hL.out (by omega) x hx).2
      have hP3 : PSt w w3 m D S (.slice (some ⟨gT, 0, none⟩) tl cT) (.slice av (sl + 1) cv) T (Ts ++ [(E.P, E.W, .slice fa ln fc)]) (Es ++ [E]) := by
        refine HP2.out.pushP (n := ln) H3.out.2.1 ?_ H3.out.2.2 hF2.symm ?_ ?_
        · rw [← HSL.out]; rw [hE]; exact H3.out.1
        · rw [hF1, hQ]; exact ((HR.out.1.base_le (by have := HP.out.lt; omega)).alloc _)
        · intro g hg
          have h1 := HR.out.2.1 g hg
          have h9 := HP.out.lt
          refine ⟨by omega, by rw [HS2.out]; omega, fun e => ?_, fun e => ?_⟩
          · have := (HP.out.todo.lt g e).2; omega
          · have := (HP.out.proof.lt g e).2; omega
      have HP3 := Lib.hid hP3
      have HQ := Lib.hid (And.intro hQ (And.intro hF1 (And.intro hF2 (And.intro hQl hQb))))
      have hlast : ∀ (wx : World) (mm : Nat) (DD : DataW Unit) (SS : List Int) (vv : Value) (TT : List Nat), PSt w wx mm DD SS vv (.slice av (sl + 1) cv) TT (Ts ++ [(E.P, E.W, .slice fa ln fc)]) (Es ++ [E]) → Rd wx (.slice fa ln fc) 1 ln (ints Q) := by
        intro wx mm DD SS vv TT h
        have h1 := (h.each Ts.length (by simp) (by simp; have := HP.out.len; omega)).2.2.1
        have e1 : (Ts ++ [(E.P, E.W, Value.slice fa ln fc)])[Ts.length]'(by simp) = (E.P, E.W, .slice fa ln fc) := by simp
        have e2 : (Es ++ [E])[Ts.length]'(by simp; have := HP.out.len; omega) = E := by
          rw [List.getElem_append_right (by have := HP.out.len; omega)]; simp [HP.out.len]
        rw [e1, e2, hF1, hF2] at h1
        exact Rd.of_own h1
      have HLast := Lib.hid hlast
      have h0 : T ++ [] = T := List.append_nil T
      clear hP3 hQ hF1 hF2 hQl hQb hlast hE z2
      go_loopw [5, 33] (fun xT j wx => ∃ (vT : Value) (q m : Nat) (D : DataW Unit) (S : List Int) (N : List Nat), vT = xT ∧ j = .int .i64 q ∧ q ≤ ln ∧ Hid (m = (T ++ N).length) ∧ Hid (N.Sublist (Q.take q)) ∧ Hid ((T ++ N).Nodup) ∧ Hid (∀ x ∈ Q.take q, x ∈ T ++ N) ∧ Hid (∀ x : Int, x ∈ S ↔ ∃ t ∈ T ++ N, (t : Int) = x) ∧ Hid (PSt w wx m D S vT (.slice av (sl + 1) cv) (T ++ N) (Ts ++ [(E.P, E.W, .slice fa ln fc)]) (Es ++ [E]))) (fun _ j _ => ln - (intOf j).toNat)
      case atStart =>
        refine ⟨_, 0, m, D, S, [], rfl, rfl, by omega, ?_, ?_, ?_, ?_, ?_, ?_⟩
        · show _ = _; rw [h0]; exact Hm.out
        · show List.Sublist _ _; simp
        · show List.Nodup _; rw [h0]; exact HT.out.nd
        · show ∀ x ∈ _, _; simp
        · show ∀ x : Int, _; rw [h0]; exact HS.out
        · show PSt _ _ _ _ _ _ _ _ _ _; rw [h0]; exact HP3.out
      case round =>
        obtain ⟨vT, q, m', D', S', N, rfl, rfl, hq, Hm', HN, HND, HAll, HS', HP'⟩ := hrel
        have hrdx := HLast.out _ _ _ _ _ _ HP'.out
        obtain ⟨aT', cT', hvT⟩ : ∃ a c, vT = .slice a (T ++ N).length c := by obtain ⟨_, a, c, h, _⟩ := Rd.of_own HP'.out.todo; exact ⟨a, c, h⟩
        subst hvT
        obtain ⟨tl', htl'⟩ : ∃ tl', tl' = (T ++ N).length := ⟨_, rfl⟩
        rw [← htl'] at HP' ⊢
        have hNl : tl' ≤ 92 := by
          have h1 := HN.out.length_le
          rw [List.length_take] at h1
          rw [htl', List.length_append, ← HTL.out]; omega
        have HTL' := Lib.hid htl'
        clear htl'
        by_cases hqlt : q < ln
        · have hqQ : q < Q.length := by rw [HQ.out.2.2.2.1]; exact hqlt
          obtain ⟨x, hx⟩ : ∃ x, x = Q[q] := ⟨_, rfl⟩
          have hxb : x ≤ 2147483647 := HQ.out.2.2.2.2 x (by rw [hx]; exact List.getElem_mem hqQ)
          have hxw : (Lit.int .i64 (x : Int)).wf = true := WalkArith.wf_i64 (by omega)
          obtain ⟨bf, hbf, hcx⟩ : ∃ b, fa = some ⟨b, 0, none⟩ ∧ wr.cell? ⟨b, q, none⟩ = some (.int .i64 (x : Int)) := by
            obtain ⟨_, a, c, h1, _, h3⟩ := hrdx
            rcases h3 with h3 | ⟨b, h4, h5, h6⟩
            · omega
            · injection h1 with h1
              exact ⟨b, h1.trans h4, h6 q _ (by rw [ints_get Q q hqQ, hx])⟩
          subst hbf
          have hm1 := HP'.out.map
          have hlook := look_set hm1 HP'.out.set (x : Int) hxw
          have hHX : Hid (∃ h : q < Q.length, x = Q[q]) := ⟨hqQ, hx⟩
          have hmT : m' = tl' := by rw [Hm'.out, HTL'.out]
          clear hrdx hx hqQ
          have htk : Hid (Q.take (q + 1) = Q.take q ++ [x]) := by
            obtain ⟨h1, h2⟩ := hHX.out
            show _ = _
            rw [h2]; exact List.take_succ_eq_append_getElem h1
          by_cases hin : (x : Int) ∈ S'
          · have hdin : decide ((x : Int) ∈ S') = true := by simpa using hin
            have HIN := Lib.hid hin
            rw [hdin] at hlook
            clear hin hdin hm1
            go_wp2_with (fail)
            go_roundw
            case rel =>
              refine ⟨_, q + 1, m', D', S', N, rfl, by go_num, by omega, ?_, ?_, HND.out, ?_, HS'.out, ?_⟩
              · show _ = _; rw [hmT, HTL'.out]
              · show List.Sublist _ _; rw [htk.out]; exact HN.out.trans (List.sublist_append_left _ _)
              · show ∀ y ∈ _, _
                rw [htk.out]
                intro y hy
                rcases List.mem_append.1 hy with hy | hy
                · exact HAll.out y hy
                · simp at hy; subst hy
                  obtain ⟨t', h1, h2⟩ := (HS'.out _).1 HIN.out
                  rw [show y = t' by exact_mod_cast h2.symm]; exact h1
              · exact HP'.out
            case measure => simp [intOf]; omega
          · have hdin : decide ((x : Int) ∈ S') = false := by simpa using hin
            have HIN := Lib.hid hin
            rw [hdin] at hlook
            have HM1 := Lib.hid hm1
            clear hin hdin hm1
            have hTodo : Hid (∀ (w4 : World) (m4 : Nat) (D4 : DataW Unit) (S4 : List Int), PSt w w4 m4 D4 S4 (.slice aT' tl' cT') (.slice av (sl + 1) cv) (T ++ N) (Ts ++ [(E.P, E.W, .slice (some ⟨bf, 0, none⟩) ln fc)]) (Es ++ [E]) → w4.ownsRow (w.heap.size + 1) 3 1 (.slice aT' tl' cT') tl' (ints (T ++ N))) := fun w4 m4 D4 S4 h => by have h1 := h.todo; rwa [← HTL'.out] at h1
            go_wp2_with (first
              | (at_mapUpdate; go_loud (refine wpList_mapUpdate_own _ rfl _ _ _ 69 rfl 3 4 law3' Tryz.underlying69 _ w.heap.size m' _ rfl HM1.out (by unfold maxLen; omega) _ _ _ rfl rfl (keyOf_int_mk Tryz.underlying3 hxw) _ [] wfb4 ?_; intro w4 hm4 hg4; have HP4 := Lib.hid (HP'.out.putMap hm4 hg4 (HP'.out.set.put _)); have HO4 := Lib.hid (hTodo.out _ _ _ _ HP4.out); have hNB4 := Lib.hid (World.news_of_block (heap_alloc_new w4 (.cells #[.int .i64 (x : Int)] 3))); have hlt4 := HP4.out.lt; clear hm4 hg4))
              | (at_builtin; go_loud (refine wpList_append_own_at _ rfl _ _ 25 rfl (w.heap.size + 1) 3 i0 (.int .i64 0) 1 8 Tryz.underlying25 hi hz0 hz1 hz2 rfl (by decide) _ _ _ rfl (HO4.out.alloc _) ⟨w4.heap.size, 0, none⟩ 1 1 [.int .i64 (x : Int)] rfl rfl (by simpa using hNB4.out) (by intro u hu; simp at hu; subst hu; rfl) (by unfold maxLen; omega) (by omega) (by rw [World.size_alloc]; omega) ?_; intro v' w5 hown5 hgrow5 _ hb5; obtain ⟨av5, cv5, hv5⟩ : ∃ av cv, v' = .slice av (tl' + 1) cv := (by obtain ⟨_, av, cv, h, _, _⟩ := Rd.of_own hown5; exact ⟨av, cv, h⟩); subst hv5; have H5 := Lib.hid (And.intro hown5 (And.intro hgrow5 hb5)); clear hown5 hgrow5 hb5)))
            go_roundw
            case rel =>
              refine ⟨_, q + 1, m' + 1, D'.put (.int .i64 (x : Int)) (.lit (.bool true)), (x : Int) :: S', N ++ [x], rfl, by go_num, by omega, ?_, ?_, ?_, ?_, ?_, ?_⟩
              · show _ = _; rw [hmT, HTL'.out]; simp; omega
              · show List.Sublist _ _; rw [htk.out]; exact HN.out.append (List.Sublist.refl _)
              · show List.Nodup _
                rw [← List.append_assoc, List.nodup_append]
                refine ⟨HND.out, by simp, fun a ha b hb => ?_⟩
                simp at hb; subst hb
                intro e
                subst e
                exact HIN.out ((HS'.out _).2 ⟨a, ha, rfl⟩)
              · show ∀ y ∈ _, _
                rw [htk.out, ← List.append_assoc]
                intro y hy
                rcases List.mem_append.1 hy with hy | hy
                · exact List.mem_append_left _ (HAll.out y hy)
                · exact List.mem_append_right _ hy
              · show ∀ y : Int, _
                intro y
                rw [← List.append_assoc, List.mem_cons, HS'.out y]
                constructor
                · rintro (h | ⟨t', h1, h2⟩)
                  · exact ⟨x, List.mem_append_right _ (by simp), h.symm⟩
                  · exact ⟨t', List.mem_append_left _ h1, h2⟩
                · rintro ⟨t', h1, h2⟩
                  rcases List.mem_append.1 h1 with h1 | h1
                  · exact .inr ⟨t', h1, h2⟩
                  · simp at h1; subst h1; exact .inl h2.symm
              · show PSt _ _ _ _ _ _ _ _ _ _
                rw [← List.append_assoc]
                exact HP4.out.pushT H5.out.2.1 (by rw [← HTL'.out]; exact H5.out.1) H5.out.2.2
            case measure => simp [intOf]; omega
        · obtain rfl : q = ln := by omega
          go_wp2_with (fail)
          go_roundw
          case rel =>
            have hall : ∀ x ∈ Q, x ∈ T ++ N := by
              intro x hx
              refine HAll.out x ?_
              rw [List.take_of_length_le (by rw [HQ.out.2.2.2.1]; exact Nat.le_refl _)]; exact hx
            have hNs : N.Sublist Q := HN.out.trans (List.take_sublist _ _)
            obtain ⟨h1, h2⟩ := HTT.out
            have hstep := HT.out.step h1 h2 hPE.out (by rw [← HQ.out.1]; exact hNs) HND.out (by rw [← HQ.out.1]; exact hall)
            refine ⟨_, _, sl + 1, m', D', S', T ++ N, _, _, rfl, rfl, by go_num, by omega, hstep, ?_, HS'.out, HP'.out⟩
            show _ = _
            rw [Hm'.out]
          case measure => simp [intOf]; omega
    · have hsk : k = T.length := by have := HT.out.le; have := HTL.out; omega
      have hw := (show TSt p T T.length Es by rw [← hsk]; exact HT.out).done
      obtain ⟨Zs, hz1, hz2, hz3⟩ := HP.out.zip
      have hzl : Zs.length = Es.length := by rw [← hz2]; simp
      have hpos : 0 < Zs.length := by
        obtain ⟨E0, h1, _⟩ := hw.last
        rw [hzl]; exact List.length_pos_of_mem h1
      have hz62 : Zs.length ≤ 62 := by rw [hzl, HT.out.len]; exact hk
      obtain ⟨a, cap, hv, _, _, hg⟩ := own_form2 hz3.own
      obtain ⟨g, rfl⟩ := hg hpos
      subst hv
      have hsort := sortList_isP hz3.own (by omega)
      obtain ⟨zl, hzl'⟩ : ∃ zl, zl = Zs.length := ⟨_, rfl⟩
      rw [← hzl'] at hsort hz62 hpos ⊢
      have HSort := Lib.hid hsort
      have HZ := Lib.hid (And.intro hz1 (And.intro hz2 (And.intro hz3 (And.intro hw hzl'))))
      have hd1 : decide (k < tl) = false := by simpa using hlt
      clear hsk hw hz1 hz2 hz3 hzl hzl' hsort
      go_wp2_with (fail)
      refine HSort.out.mono ?_
      rintro e w4 ⟨rfl, Z', hown4, hg4, hperm, hsrt⟩
      have H4 := Lib.hid (And.intro hown4 (And.intro hg4 (And.intro hperm hsrt)))
      clear hown4 hg4 hperm hsrt
      go_wp2_with (fail)
      go_ret
      obtain ⟨hown4, hg4, hperm, hsrt⟩ := H4.out
      obtain ⟨_, hz2, hz3, hw, hzl'⟩ := HZ.out
      have hpl := hperm.length_eq
      have hpE : (Z'.map EntE.E).Perm Es := by rw [← hz2]; exact hperm.map _
      have hsE : (Z'.map EntE.E).Pairwise fun a b => a.P ≤ b.P := by
        rw [List.pairwise_map]
        refine hsrt.imp_of_mem ?_
        intro a b ha hb hab
        have h1 := (hz3.each a (hperm.mem_iff.1 ha)).1
        have h2 := (hz3.each b (hperm.mem_iff.1 hb)).1
        rw [← h1, ← h2]; exact hab
      have hlt4 := hz3.own.lt g rfl
      refine ⟨⟨_, Z', rfl, ⟨?_, ?_⟩, by omega, by omega, fun E hE => ent_entok (hw.ents E (hpE.mem_iff.1 hE)), hw.proof hpE hsE⟩, ?_⟩
      · rw [hpl, ← hzl']; exact hown4
      · intro z hz
        obtain ⟨a1, a2, a3, a4⟩ := hz3.each z (hperm.mem_iff.1 hz)
        refine ⟨a1, a2, own_at a3 (fun g' hg' hlt' => hg4.block g' hlt' (fun e => ?_)), a4⟩
        injection e with e
        exact a4 g' hg' (by rw [← e]; rfl)
      · exact HP.out.below.grown hg4 HP.out.below.size (fun k e => by injection e with e; omega)
end Go.Proofs.YtgcjdojhfimceaaGreat

namespace Go.Proofs.YtgcjdojhfimceaaGreat
open Go.RowKit Go.Maps

theorem OutE.lower {w0 w1 w2 w3 : World} {v : Value} {Zs : List EntE} (h : OutE w1 w2 v Zs) (hs : w0.heap.size ≤ w1.heap.size) (hk : ∀ g, w1.heap.size < g → w3.heap[g]? = w2.heap[g]?) : OutE w0 w3 v Zs := by
  refine ⟨own_at (h.own.base_le (by omega)) (fun g hg _ => hk g (by have := (h.own.lt g hg).1; omega)), fun z hz => ?_⟩
  obtain ⟨a1, a2, a3, a4⟩ := h.each z hz
  exact ⟨a1, a2, own_at (a3.base_le (by omega)) (fun g hg _ => hk g (by have := (a3.lt g hg).1; omega)), a4⟩

set_option maxRecDepth 100000 in
set_option maxHeartbeats 1000000 in
theorem Decide_prime (n : Nat) (w : World) (hp : Hid (M.Pr n)) (hn2 : n ≤ 2147483647) :
    Calls Tryz.prog 11 #[.int .i64 n] w fun x w' => (∃ v Zs, x = .returned (verdict 0 v 0) ∧ ProofOf n w w' v Zs) ∧ Below w.heap.size w w' := by
  have hn := hp.out.1
  have HL : Hid (M.IsFac (n : Int).toNat [(n, 1)]) := by rw [Int.toNat_natCast]; exact fac_prime hp.out
  have hz : ((n : Int) == 1) = false := by simp; omega
  go_enter Tryz.func11, Tryz.ntmps11
  go_wp2_with (go_at_call 21; refine (isNumber_yes _ _ (by omega) (by omega)).mono ?_; rintro e w' ⟨rfl, rfl⟩)
  refine (factors_any n _ _ (by omega) (by omega) HL).mono ?_
  rintro x w1 ⟨⟨vf, rfl, hown⟩, hB1⟩
  have hrd := Rd.of_own hown
  clear hown
  obtain ⟨hfl, a, cap, rfl, hcap, hcell⟩ := hrd
  rcases hcell with h0 | ⟨b, rfl, hb, hcell⟩
  · simp at h0
  have c0 := hcell 0 (.int .i64 (n : Int)) (by simp [flat])
  have hz1 : w.heap.size < w1.heap.size := by have := hB1.size; simp at this; omega
  have hbk : w1.heap[w.heap.size]? = some (.cells #[.int .i64 0, .slice none 0 0] 39 (0, 0)) := (hB1.block _ (by simp)).trans (heap_alloc_new _ _)
  have HBK := Lib.hid hbk
  have HB := Lib.hid hB1
  clear hcell hfl hB1 hcap hbk
  simp only [List.length_cons]
  go_wp2_with (fail)
  refine (prove_is n _ hp hn2).mono ?_
  rintro x w2 ⟨⟨v, Zs, rfl, hpf⟩, hB2⟩
  obtain ⟨a2, c2, hv⟩ : ∃ a c, v = .slice a Zs.length c := by obtain ⟨_, a, c, h, _⟩ := Rd.of_own hpf.out.own; exact ⟨a, c, h⟩
  subst hv
  obtain ⟨zl, hzl⟩ : ∃ zl, zl = Zs.length := ⟨_, rfl⟩
  have hbk2 : w2.heap[w.heap.size]? = some (.cells #[.int .i64 0, .slice none 0 0] 39 (0, 0)) := (hB2.block _ hz1).trans HBK.out
  have g0 := cell_blk (o := 0) hbk2 rfl
  have g1 := cell_blk (o := 1) hbk2 rfl
  have z0 : w2.frozen? ⟨w.heap.size, 0, none⟩ = false := frozen_blk hbk2
  have z1 : w2.frozen? ⟨w.heap.size, 1, none⟩ = false := frozen_blk hbk2
  have HK2 := Lib.hid hbk2
  have HPF := Lib.hid hpf
  have HB2 := Lib.hid hB2
  have HZL := Lib.hid hzl
  rw [← hzl] at HPF ⊢
  clear hpf hB2 hbk2 hzl
  go_wp2_with (fail)
  have hlast : ((w2.setCell ⟨w.heap.size, 0, none⟩ (.int .i64 0)).setCell ⟨w.heap.size, 1, none⟩ (.slice a2 zl c2)).heap[w.heap.size]? = some (.cells #[.int .i64 0, .slice a2 zl c2] 39 (0, 0)) := by
    have h3 := heap_setCell_same w2 _ 0 _ _ (.int .i64 0) HK2.out
    have h4 := heap_setCell_same _ _ 1 _ _ (.slice a2 zl c2) h3
    rw [h4]; rfl
  have k0 := cell_blk (o := 0) hlast rfl
  have k1 := cell_blk (o := 1) hlast rfl
  refine bodyPost_ret (v := verdict 0 (.slice a2 zl c2) 0) (by simp [verdict, results, Tryz.results11, go_sem, k0, k1]) rfl ⟨⟨_, Zs, rfl, ?_⟩, ?_⟩
  · have h := HPF.out
    exact ⟨h.out.lower (by omega) (fun g hg => by rw [heap_setCell_other _ _ _ _ (by show g ≠ w.heap.size; omega), heap_setCell_other _ _ _ _ (by show g ≠ w.heap.size; omega)]), h.len, h.pos, h.ok, h.right⟩
  · have h1 := (((Below.refl w.heap.size w).alloc (Nat.le_refl _) _).trans (HB.out.mono (by simp))).trans (HB2.out.mono (by omega))
    exact (h1.setCell (Nat.le_refl _) _).setCell (Nat.le_refl _) _

/-- What Decide answers for a number. -/
structure DecR (n d : Nat) (w w' : World) (v : Value) (Zs : List EntE) : Prop where
  out : OutE w w' v Zs
  len : Zs.length ≤ 62
  ok : ∀ E ∈ Zs.map EntE.E, EntOk E
  right : rightP (n : Int) (d : Int) (Zs.map EntE.E) = true
  iff : d = 0 ↔ M.Pr n
  le : d ≤ n

theorem out_nil (w w' : World) : OutE w w' (.slice none 0 0) [] := ⟨⟨by simp [flatT], .inl ⟨rfl, rfl⟩⟩, fun z hz => by cases hz⟩

theorem Decide_any (n : Nat) (w : World) (hn : 1 ≤ n) (hn2 : n ≤ 2147483647) :
    Calls Tryz.prog 11 #[.int .i64 n] w fun x w' => (∃ d v Zs, x = .returned (verdict (d : Nat) v 0) ∧ DecR n d w w' v Zs) ∧ Below w.heap.size w w' := by
  by_cases h1 : n = 1
  · subst h1
    refine (Decide_one w).mono ?_
    rintro x w' ⟨rfl, hB⟩
    exact ⟨⟨1, _, [], rfl, out_nil _ _, by simp, by simp, by simp [rightP], by simp [M.Pr], Nat.le_refl _⟩, hB⟩
  · by_cases hp : M.Pr n
    · refine (Decide_prime n w hp hn2).mono ?_
      rintro x w' ⟨⟨v, Zs, rfl, h⟩, hB⟩
      refine ⟨⟨0, v, Zs, rfl, h.out, h.len, h.ok, ?_, by simp [hp], Nat.zero_le _⟩, hB⟩
      have := h.pos
      simp [rightP, h.right, this]
    · obtain ⟨L, hL⟩ := M.exists_fac n (by omega)
      cases L with
      | nil => have := hL.2; simp [M.prodP] at this; omega
      | cons x t =>
        obtain ⟨q, e⟩ := x
        have hq := hL.1.2.1
        have he : 1 ≤ e := hL.1.2.2.1
        have hd : q ∣ n := by
          have := M.dvd_prodP (List.mem_cons_self (a := (q, e)) (l := t)) he
          rwa [hL.2] at this
        have hle := Nat.le_of_dvd (by omega) hd
        have hlt : q < n := by
          rcases Nat.lt_or_ge q n with h | h
          · exact h
          · exact absurd (show M.Pr n by rw [show n = q by omega]; exact hq) hp
        refine (Decide_div n q w (by omega) hn2 hlt ⟨e, t, hL⟩).mono ?_
        rintro x w' ⟨rfl, hB⟩
        have hq2 := hq.1
        refine ⟨⟨q, _, [], rfl, out_nil _ _, by simp, by simp, ?_, by simp [hp]; omega, by omega⟩, hB⟩
        have hmod : (n : Int) % (q : Int) = 0 := by exact_mod_cast Nat.mod_eq_zero_of_dvd hd
        unfold rightP
        rw [if_neg (by omega), if_neg (by simp), if_neg (by omega)]
        exact decide_eq_true ⟨by omega, by omega, hmod⟩

end Go.Proofs.YtgcjdojhfimceaaGreat

namespace Go.Proofs.YtgcjdojhfimceaaGreat
open Go.RowKit

set_option maxRecDepth 100000 in
theorem modT_is (x n : Int) (w : World) (hn : 1 ≤ n) (hn2 : n ≤ 4611686018427387904) :
    Calls Tryz.prog 5 #[.int .i64 x, .int .i64 n] w fun e w' => e = .returned (.int .i64 (modv x n)) ∧ w = w' := by
  go_enter Tryz.func5, Tryz.ntmps5
  go_wp2
  go_ret
  refine ⟨ret_i ?_, rfl⟩
  have h0 : 0 ≤ x % two64 := Int.emod_nonneg _ (by unfold two64; omega)
  have hb := modv_bd x n hn
  rw [wrap_u64, Int.tmod_eq_emod_of_nonneg h0]
  exact IntWalk.wrap64_in _ ⟨by unfold modv at hb; omega, by unfold modv at hb; omega⟩

theorem prime_of_small {P d : Nat} (hP : 2 ≤ P) (hd : P < d * d) (h : ∀ e, 2 ≤ e → e < d → P % e ≠ 0) : M.Pr P := by
  refine ⟨hP, fun x hx => ?_⟩
  obtain ⟨y, rfl⟩ := hx
  by_cases h1 : x = 1
  · exact .inl h1
  · right
    have hx0 : x ≠ 0 := by intro e; subst e; simp at hP
    have hy0 : y ≠ 0 := by intro e; subst e; simp at hP
    by_cases hy1 : y = 1
    · subst hy1; simp
    · exfalso
      rcases Nat.lt_or_ge x d with h2 | h2
      · exact h x (by omega) h2 (Nat.mul_mod_right _ _)
      · rcases Nat.lt_or_ge y d with h3 | h3
        · exact h y (by omega) h3 (Nat.mul_mod_left _ _)
        · have := Nat.mul_le_mul h2 h3; omega

theorem no_div_1009 : ∀ d, d < 32 → 2 ≤ d → 1009 % d ≠ 0 := by decide

set_option maxRecDepth 100000 in
set_option maxHeartbeats 1000000 in
theorem odd_is (n : Int) (w : World) : Calls Tryz.prog 4 #[.int .i64 n] w fun x w' => (∃ p : Nat, x = .returned (.tuple #[.int .i64 p, .bool true]) ∧ M.Pr p ∧ 3 ≤ p ∧ p ≤ 1021) ∧ Below w.heap.size w w' := by
  have hb := modv_bd n 1000 (by omega)
  go_enter Tryz.func4, Tryz.ntmps4
  go_wp2_with (go_at_call 5; refine (modT_is n 1000 _ (by omega) (by omega)).mono ?_; rintro e w' ⟨rfl, rfl⟩)
  obtain ⟨N, hN⟩ := Int.eq_ofNat_of_zero_le (show 0 ≤ 3 + modv n 1000 by omega)
  have hNb : 3 ≤ N ∧ N ≤ 1002 := by omega
  try rw [hN]
  clear hb hN
  go_loop [4, 5] (fun u v => ∃ P d : Nat, u = .int .i64 P ∧ v = .int .i64 d ∧ 3 ≤ P ∧ P ≤ 1009 ∧ 2 ≤ d ∧ d ≤ 32 ∧ Hid (∀ e, 2 ≤ e → e < d → P % e ≠ 0)) (fun u v => (1009 - (intOf u).toNat) * 100 + (50 - (intOf v).toNat))
  case atStart => exact ⟨N, 2, rfl, rfl, by omega, by omega, by omega, by omega, (by show ∀ e : Nat, _; omega)⟩
  case round =>
    obtain ⟨P, d, rfl, rfl, hP1, hP2, hd1, hd2, HD⟩ := hrel
    have hdd : d * d ≤ 1024 := Nat.mul_le_mul hd2 hd2
    obtain ⟨s, hs⟩ : ∃ s, s = d * d := ⟨_, rfl⟩
    have hsI : (d : Int) * (d : Int) = (s : Int) := by rw [hs]; exact_mod_cast rfl
    rw [← hs] at hdd
    have HS := Lib.hid hs
    clear hs
    by_cases hle : s ≤ P
    · have hl1 : decide ((s : Int) ≤ (P : Int)) = true := by simpa using hle
      have hl2 : decide (s ≤ P) = true := by simpa using hle
      have hd31 : d ≤ 31 := by
        rcases Nat.lt_or_ge d 32 with h | h
        · omega
        · have h1 : 32 * 32 ≤ d * d := Nat.mul_le_mul h h
          have := HS.out; omega
      obtain ⟨r, hr⟩ : ∃ r, r = P % d := ⟨_, rfl⟩
      have hrI : (P : Int).tmod (d : Int) = (r : Int) := by rw [Int.tmod_eq_emod_of_nonneg (by omega), hr]; rfl
      have hrI2 : (P : Int) % (d : Int) = (r : Int) := by rw [hr]; rfl
      have HR := Lib.hid hr
      have hdz : ¬ d = 0 := by omega
      clear hr hle
      by_cases h0 : r = 0
      · have hz : ((r : Int) == 0) = true := by simp [h0]
        have H0 := Lib.hid h0
        clear h0
        go_wp2_with (fail)
        go_round
        case rel =>
          have hne : P ≠ 1009 := by
            intro e
            have h1 := HR.out
            rw [H0.out, e] at h1
            exact no_div_1009 d (by omega) hd1 h1.symm
          exact ⟨P + 1, 2, by go_num, rfl, by omega, by omega, by omega, by omega, (by show ∀ e : Nat, _; omega)⟩
        case measure =>
          have hne : P ≠ 1009 := by
            intro e
            have h1 := HR.out
            rw [H0.out, e] at h1
            exact no_div_1009 d (by omega) hd1 h1.symm
          simp [intOf]; omega
      · have hz : ((r : Int) == 0) = false := by simp [h0]
        have H0 := Lib.hid h0
        clear h0
        go_wp2_with (fail)
        go_round
        case rel =>
          refine ⟨P, d + 1, rfl, by go_num, by omega, by omega, by omega, by omega, ?_⟩
          show ∀ e : Nat, _
          intro e h1 h2
          by_cases he : e = d
          · subst he; rw [← HR.out]; exact H0.out
          · exact HD.out e h1 (by omega)
        case measure => simp [intOf]; omega
    · have hl1 : decide ((s : Int) ≤ (P : Int)) = false := by simpa using hle
      have hl2 : decide (s ≤ P) = false := by simpa using hle
      have hpr' : M.Pr P := prime_of_small (by omega) (by rw [← HS.out]; omega) HD.out
      have hodd := M.odd_prime hpr' hP1
      have hpr := Lib.hid hpr'
      have hm : (P : Int).tmod 2 = 1 := by rw [Int.tmod_eq_emod_of_nonneg (by omega)]; omega
      have hm2 : (P : Int) % 2 = 1 := by omega
      have hg : decide ((1021 : Int) < (P : Int)) = false := by simp; omega
      clear hpr' hle
      go_wp2_with (fail)
      refine (Decide_prime P _ hpr (by omega)).mono ?_
      rintro e w1 ⟨⟨v, Zs, rfl, hpf⟩, hB1⟩
      obtain ⟨a, c, hv⟩ : ∃ a c, v = .slice a Zs.length c := by obtain ⟨_, a, c, h, _⟩ := Rd.of_own hpf.out.own; exact ⟨a, c, h⟩
      subst hv
      have HB1 := Lib.hid hB1
      have hV : verdict 0 (.slice a Zs.length c) 0 = .tuple #[.agg #[.int .i64 0, .slice a Zs.length c], .int .i64 0] := rfl
      rw [hV]
      have k0 := cell_blk (o := 0) (heap_alloc_new w1 (.cells #[.int .i64 0, .slice a Zs.length c] 39)) rfl
      clear hB1 hV hpf
      go_wp2_with (fail)
      go_quiet (fail)
      go_wp2_with (fail)
      go_ret2
      exact ⟨⟨P, rfl, hpr.out, hP1, by omega⟩, below_drewN (HB1.out.alloc HB1.out.size _) _⟩
end Go.Proofs.YtgcjdojhfimceaaGreat
