/- A run of a call that is handed no memory: loads, stores, objects. -/
import Derived.Test.YtapidabhdbjnmaaRnb
namespace Go.Proofs.Ytapidabhdbjnmaa
namespace Rn

variable {c : Ctx} {w : World} {p : Pl} {s s' : St}

theorem lt_of_heap {w : World} {r : Nat} {o : Obj} (h : w.heap[r]? = some o) : r < w.heap.size := by
  rcases Nat.lt_or_ge r w.heap.size with h' | h'
  · exact h'
  · rw [Array.getElem?_eq_none h'] at h; cases h

theorem M.lt (h : M c p s w) {b : Nat} {x : Blk} (hb : s.heap.get b = some x) : b < s.next := by
  obtain ⟨_, r, sz', o', hp, _⟩ := h.pres b x hb
  rcases Nat.lt_or_ge b s.next with h' | h'
  · exact h'
  · rw [h.fresh b h'] at hp; cases hp

theorem St.get_put (s : St) (b : Nat) (x : Option Blk) (c : Nat) : (s.put b x).heap.get c = if b = c ∧ b < most then x else s.heap.get c := T.get_set x s.heap b c

theorem St.next_drop : ∀ (l : List Nat) (s : St), (s.drop l).next = s.next
  | [], _ => rfl
  | b :: l, s => by rw [St.drop, St.next_drop l]; rfl

theorem St.get_drop : ∀ (l : List Nat) (s : St) (c : Nat) (x : Blk), (s.drop l).heap.get c = some x → s.heap.get c = some x ∧ (c ∈ l → ¬ c < most)
  | [], _, c, x, h => ⟨h, fun hm => by cases hm⟩
  | b :: l, s, c, x, h => by
    rw [St.drop] at h
    obtain ⟨h1, h2⟩ := St.get_drop l _ c x h
    rw [St.get_put] at h1
    by_cases hc : b = c ∧ b < most
    · rw [if_pos hc] at h1; cases h1
    · rw [if_neg hc] at h1
      refine ⟨h1, fun hm => ?_⟩
      rcases List.mem_cons.1 hm with e | hm
      · exact fun hlt => hc ⟨e.symm, e ▸ hlt⟩
      · exact h2 hm

theorem cell_of_block {w : World} {r off : Nat} {c : Array Value} {e : TypeId} (h : w.heap[r]? = some (.cells c e (0, 0))) : w.cell? ⟨r, off, none⟩ = c[off]? := by
  unfold World.cell?
  simp [h]

theorem frozen_of_block {w : World} {r off : Nat} {c : Array Value} {e : TypeId} (h : w.heap[r]? = some (.cells c e (0, 0))) : w.frozen? ⟨r, off, none⟩ = false := by
  unfold World.frozen?
  simp [h]

theorem M.load (h : M c p s w) {a a' : Addr} (ha : AR p a a') {v : Value} (hc : s.cell a = some v) : ∃ v', w.cell? a' = some v' ∧ VR p v v' := by
  cases ha with
  | @mk b r sz es off hp =>
    unfold St.cell at hc
    simp only at hc
    split at hc
    · rename_i cl e es' olds live hg
      obtain ⟨_, r', sz', o, hp', _, hr, hb⟩ := h.pres b _ hg
      rw [hp] at hp'
      injection hp' with e1
      have : r = r' := congrArg Prod.fst e1
      subst this
      cases hb with
      | cells hs hcs =>
        rw [nth_eq] at hc
        obtain ⟨v', h1, h2⟩ := hcs _ _ hc
        exact ⟨v', by rw [cell_of_block hr]; exact h1, h2⟩
    · cases hc

theorem setCell_block {w : World} {r off : Nat} {c : Array Value} {e : TypeId} (h : w.heap[r]? = some (.cells c e (0, 0))) (v : Value) :
    (w.setCell ⟨r, off, none⟩ v).heap[r]? = some (.cells (c.setIfInBounds off v) e (0, 0)) := by
  unfold World.setCell
  show (w.heap.modify r _)[r]? = _
  rw [Array.getElem?_modify, if_pos rfl, h]
  rfl

theorem setCell_ne {w : World} {r r' off : Nat} (h : r' ≠ r) (v : Value) : (w.setCell ⟨r, off, none⟩ v).heap[r']? = w.heap[r']? := by
  unfold World.setCell
  simp only [Array.getElem?_modify]
  rw [if_neg (Ne.symm h)]

theorem M.store (h : M c p s w) {a a' : Addr} (ha : AR p a a') {v v' : Value} (hv : VR p v v') (hs : s.setCell a v = some s') :
    ∃ u, w.cell? a' = some u ∧ w.frozen? a' = false ∧ M c p s' (w.setCell a' v') ∧ s'.next = s.next := by
  cases ha with
  | @mk b r sz es off hp =>
    unfold St.setCell at hs
    simp only at hs
    split at hs
    · rename_i cl e es' olds hg
      cases hlt : Nat.blt off cl.length with
      | false => rw [hlt] at hs; cases hs
      | true =>
      rw [hlt, cond_true] at hs
      injection hs with hs
      have hoff : off < cl.length := by simpa [Nat.blt_eq] using hlt
      obtain ⟨hb40, r', sz', o, hp', hbase, hr, hb⟩ := h.pres b _ hg
      have hpp := hp'
      rw [hp] at hp'
      injection hp' with e1
      have : r = r' := congrArg Prod.fst e1
      subst this
      cases hb with
      | @cells _ _ _ _ _ c' _ hsz hcs =>
      obtain ⟨u, hu, _⟩ := hcs off cl[off] (List.getElem?_eq_getElem hoff)
      have hoff' : off < c'.size := by
        rcases Nat.lt_or_ge off c'.size with h' | h'
        · exact h'
        · rw [Array.getElem?_eq_none h'] at hu; cases hu
      have hget : ∀ d y, s'.heap.get d = some y → (d = b ∧ y = .cells (setAt v cl off) e es' [] true) ∨ (d ≠ b ∧ d ∉ olds ∧ s.heap.get d = some y) := fun d y hd => by
        rw [← hs, St.get_put] at hd
        by_cases hc : b = d ∧ b < most
        · rw [if_pos hc] at hd; injection hd with hd; exact .inl ⟨hc.1.symm, hd.symm⟩
        · rw [if_neg hc] at hd
          obtain ⟨h1, h2⟩ := St.get_drop _ _ _ _ hd
          exact .inr ⟨fun e => hc ⟨e.symm, hb40⟩, fun hm => h2 hm (h.pres d y h1).1, h1⟩
      have hnext : s'.next = s.next := by rw [← hs]; exact St.next_drop _ _
      have hother : ∀ d y, d ≠ b → d ∉ olds → s.heap.get d = some y → ∀ r2 s2, p d = some (r2, s2) → r2 ≠ r := fun d y h1 h2 h3 r2 s2 h4 he => by
        subst he
        rcases h.sep b d _ _ _ _ _ hg h3 rfl hp h4 with h5 | h5
        · exact h1 h5.symm
        · exact h2 h5
      refine ⟨u, by rw [cell_of_block hr]; exact hu, frozen_of_block hr, ⟨?_, ?_, by rw [hnext]; exact h.ng, h.glob, ?_, ?_, ?_, ?_, ⟨fun d hd => h.okk.1 d (by rw [hnext] at hd; exact hd), fun d y hd => ?_⟩, by rw [PkH, hnext]; exact h.pk⟩, hnext⟩
      · exact h.keep.setCell (a := ⟨r, off, none⟩) (hbase rfl) v'
      · intro d hd; exact h.fresh d (by rw [hnext] at hd; exact hd)
      · intro d y hd
        rcases hget d y hd with ⟨e1, e2⟩ | ⟨h1, h2, h3⟩
        · subst e1; subst e2
          refine ⟨hb40, r, sz', _, hpp, hbase, setCell_block hr v', .cells (by simpa using hsz) fun i x hx => ?_⟩
          rw [setAt_eq, List.getElem?_set] at hx
          by_cases hi : off = i
          · subst hi
            rw [if_pos rfl, if_pos hoff] at hx
            injection hx with hx
            exact ⟨v', by simp [hoff'], hx ▸ hv⟩
          · rw [if_neg hi] at hx
            obtain ⟨x', hx', hx2⟩ := hcs i x hx
            exact ⟨x', by rw [Array.getElem?_setIfInBounds, if_neg hi]; exact hx', hx2⟩
        · obtain ⟨k1, r2, sz2, o2, k2, k3, k4, k5⟩ := h.pres d y h3
          exact ⟨k1, r2, sz2, o2, k2, k3, by rw [setCell_ne (hother d y h1 h2 h3 _ _ k2)]; exact k4, k5⟩
      · intro b1 b2 x1 x2 r1 s1 s2 g1 g2 hl p1 p2
        rcases hget b1 x1 g1 with ⟨e1, e2⟩ | ⟨h1, h2, h3⟩ <;> rcases hget b2 x2 g2 with ⟨f1, f2⟩ | ⟨k1, k2, k3⟩
        · exact .inl (e1.trans f1.symm)
        · subst e1
          rcases h.sep b1 b2 _ _ _ _ _ hg k3 rfl p1 p2 with h5 | h5
          · exact .inl h5
          · exact (k2 h5).elim
        · subst f1
          exact h.sep b1 b2 _ _ _ _ _ h3 hg hl p1 p2
        · exact h.sep b1 b2 _ _ _ _ _ h3 k3 hl p1 p2
      · intro b1 b2 x1 x2 g1 g2 hl hm
        rcases hget b1 x1 g1 with ⟨e1, e2⟩ | ⟨h1, h2, h3⟩
        · subst e2; cases hm
        · rcases hget b2 x2 g2 with ⟨f1, f2⟩ | ⟨k1, k2, k3⟩
          · subst f1
            have := (h.dead b1 b2 _ _ h3 hg hl hm).1
            cases this
          · exact h.dead b1 b2 _ _ h3 k3 hl hm
      · intro b1 b2 x1 g1 hm
        rw [hnext]
        rcases hget b1 x1 g1 with ⟨e1, e2⟩ | ⟨h1, h2, h3⟩
        · subst e2; cases hm
        · exact h.olds b1 b2 x1 h3 hm
      · rcases hget d y hd with ⟨e1, e2⟩ | ⟨_, _, h3⟩
        · subst e1; subst e2; exact ⟨(h.okk.2 _ _ hg).1, fun b2 h2 => (by cases h2), (h.okk.2 _ _ hg).2.2⟩
        · exact h.okk.2 d y h3
    · cases hs

/-- Blocks that are let go of. -/
theorem M.less (h : M c p s w) (hn : s'.next = s.next) (hg : ∀ d y, s'.heap.get d = some y → s.heap.get d = some y) : M c p s' w :=
  ⟨h.keep, fun b hb => h.fresh b (by rw [hn] at hb; exact hb), by rw [hn]; exact h.ng, h.glob, fun b x hb => h.pres b x (hg b x hb),
    fun b1 b2 x1 x2 r s1 s2 g1 g2 => h.sep b1 b2 x1 x2 r s1 s2 (hg _ _ g1) (hg _ _ g2),
    fun b1 b2 x1 x2 g1 g2 => h.dead b1 b2 x1 x2 (hg _ _ g1) (hg _ _ g2),
    fun b1 b2 x1 g1 => by rw [hn]; exact h.olds b1 b2 x1 (hg _ _ g1),
    ⟨fun b hb => h.okk.1 b (by rw [hn] at hb; exact hb), fun b x hb => h.okk.2 b x (hg b x hb)⟩, by rw [PkH, hn]; exact h.pk⟩

/-- An object that is no row of cells is put in the place of another one. -/
theorem M.setObj (h : M c p s w) {b r z : Nat} {x y : Blk} {o : Obj} (hg : s.heap.get b = some x) (hx : x.live = true) (hxo : x.olds = []) (hxe : x.es = y.es) (hy : y.olds = [])
    (hyl : y.live = true) (hp : ∃ es, p b = some (r, z, es)) (hb : ∀ sz, BR p y sz o) :
    M c p (s.put b (some y)) { w with heap := w.heap.setIfInBounds r o } := by
  obtain ⟨es, hp⟩ := hp
  obtain ⟨hb40, r', sz', o', hp', hbase, hr, _⟩ := h.pres b _ hg
  have hpp := hp'
  rw [hp] at hp'
  injection hp' with e1
  have : r = r' := congrArg Prod.fst e1
  subst this
  have hget : ∀ d u, (s.put b (some y)).heap.get d = some u → (d = b ∧ u = y) ∨ (d ≠ b ∧ s.heap.get d = some u) := fun d u hd => by
    rw [St.get_put] at hd
    by_cases hc : b = d ∧ b < most
    · rw [if_pos hc] at hd; injection hd with hd; exact .inl ⟨hc.1.symm, hd.symm⟩
    · rw [if_neg hc] at hd; exact .inr ⟨fun e => hc ⟨e.symm, hb40⟩, hd⟩
  have hrs := lt_of_heap hr
  refine ⟨h.keep.setObj (hbase hx) o, h.fresh, h.ng, h.glob, ?_, ?_, ?_, ?_, ⟨h.okk.1, fun d u hd => ?_⟩, h.pk⟩
  · intro d u hd
    rcases hget d u hd with ⟨e1, e2⟩ | ⟨h1, h2⟩
    · subst e1; subst e2
      exact ⟨hb40, r, sz', o, by rw [hpp, hxe], fun _ => hbase hx, by show (w.heap.setIfInBounds r o)[r]? = _; simp [hrs], hb _⟩
    · obtain ⟨k1, r2, sz2, o2, k2, k3, k4, k5⟩ := h.pres d u h2
      refine ⟨k1, r2, sz2, o2, k2, k3, ?_, k5⟩
      have hne : r ≠ r2 := fun e => by
        subst e
        rcases h.sep b d _ _ _ _ _ hg h2 hx hp k2 with h5 | h5
        · exact h1 h5.symm
        · rw [hxo] at h5; cases h5
      show (w.heap.setIfInBounds r o)[r2]? = _
      rw [Array.getElem?_setIfInBounds, if_neg hne]
      exact k4
  · intro b1 b2 x1 x2 r1 s1 s2 g1 g2 hl p1 p2
    rcases hget b1 x1 g1 with ⟨e1, e2⟩ | ⟨h1, h3⟩ <;> rcases hget b2 x2 g2 with ⟨f1, f2⟩ | ⟨k1, k3⟩
    · exact .inl (e1.trans f1.symm)
    · subst e1
      rcases h.sep b1 b2 _ _ _ _ _ hg k3 hx p1 p2 with h5 | h5
      · exact .inl h5
      · rw [hxo] at h5; cases h5
    · subst f1
      exact h.sep b1 b2 _ _ _ _ _ h3 hg hl p1 p2
    · exact h.sep b1 b2 _ _ _ _ _ h3 k3 hl p1 p2
  · intro b1 b2 x1 x2 g1 g2 hl hm
    rcases hget b1 x1 g1 with ⟨e1, e2⟩ | ⟨h1, h3⟩
    · subst e2; rw [hy] at hm; cases hm
    · rcases hget b2 x2 g2 with ⟨f1, f2⟩ | ⟨k1, k3⟩
      · subst f1
        have := (h.dead b1 b2 _ _ h3 hg hl hm).1
        rw [hx] at this; cases this
      · exact h.dead b1 b2 _ _ h3 k3 hl hm
  · intro b1 b2 x1 g1 hm
    rcases hget b1 x1 g1 with ⟨e1, e2⟩ | ⟨h1, h3⟩
    · subst e2; rw [hy] at hm; cases hm
    · exact h.olds b1 b2 x1 h3 hm
  · rcases hget d u hd with ⟨e1, e2⟩ | ⟨_, h3⟩
    · subst e1; subst e2; exact ⟨(h.okk.2 _ _ hg).1, fun b2 h2 => (by rw [hy] at h2; cases h2), (h.okk.2 _ _ hg).2.2⟩
    · exact h.okk.2 d u h3

/-- The block of the deferred calls of a loop is shut. -/
theorem M.shut (h : M c p s w) {b r z : Nat} {x : Blk} (o : Obj) (hg : s.heap.get b = some x) (hx : x.live = true) (hxo : x.olds = []) (hp : ∃ es, p b = some (r, z, es)) :
    M c p (s.put b none) { w with heap := w.heap.setIfInBounds r o } := by
  obtain ⟨es, hp⟩ := hp
  obtain ⟨hb40, r', sz', o', hp', hbase, hr, _⟩ := h.pres b _ hg
  rw [hp] at hp'
  injection hp' with e1
  have : r = r' := congrArg Prod.fst e1
  subst this
  have hget : ∀ d u, (s.put b none).heap.get d = some u → d ≠ b ∧ s.heap.get d = some u := fun d u hd => by
    rw [St.get_put] at hd
    by_cases hc : b = d ∧ b < most
    · rw [if_pos hc] at hd; cases hd
    · rw [if_neg hc] at hd; exact ⟨fun e => hc ⟨e.symm, hb40⟩, hd⟩
  have h' : M c p (s.put b none) w := h.less rfl fun d y hd => (hget d y hd).2
  refine ⟨h.keep.setObj (hbase hx) o, h'.fresh, h'.ng, h'.glob, ?_, h'.sep, h'.dead, h'.olds, h'.okk, h'.pk⟩
  intro d u hd
  obtain ⟨h1, h2⟩ := hget d u hd
  obtain ⟨k1, r2, sz2, o2, k2, k3, k4, k5⟩ := h.pres d u h2
  refine ⟨k1, r2, sz2, o2, k2, k3, ?_, k5⟩
  have hne : r ≠ r2 := fun e => by
    subst e
    rcases h.sep b d _ _ _ _ _ hg h2 hx hp k2 with h5 | h5
    · exact h1 h5.symm
    · rw [hxo] at h5; cases h5
  show (w.heap.setIfInBounds r o)[r2]? = _
  rw [Array.getElem?_setIfInBounds, if_neg hne]
  exact k4

/-! ### Trees -/

inductive OR (p : Pl) : Obj → Obj → Prop
  | map {es es' : Array MapEntry} {clock : Nat} (h : ER p es.toList es'.toList) : OR p (.map es clock) (.map es' clock)
  | str {b : ByteArray} {pos : Nat} : OR p (.stringIter b pos) (.stringIter b pos)

theorem OR.le {p q : Pl} (hpq : p.le q) {o o' : Obj} (h : OR p o o') : OR q o o' := by
  cases h with
  | map h => exact .map (h.le hpq)
  | str => exact .str

def NR (p : Pl) (r r' : Nat) : Prop := ∃ sz es, p r = some (r', sz, es)
theorem NR.le {p q : Pl} (hpq : p.le q) {r r' : Nat} (h : NR p r r') : NR q r r' := let ⟨a, b, c⟩ := h; ⟨a, b, hpq _ _ c⟩

inductive Rel (P : Program) {α β : Type} (R : Pl → α → β → Prop) : Pl → Sem α → Sem β → Prop
  | pure {p : Pl} {a : α} {b : β} (h : R p a b) : Rel P R p (.pure a) (.pure b)
  | load {p : Pl} {m m' : Mode} {a a' : Addr} {k : Value → Sem α} {k' : Value → Sem β} (h : AR p a a') (hk : ∀ v v', VR p v v' → Rel P R p (k v) (k' v')) : Rel P R p (.load m a k) (.load m' a' k')
  | store {p : Pl} {m m' : Mode} {a a' : Addr} {v v' : Value} {k : Sem α} {k' : Sem β} (h : AR p a a') (hv : VR p v v') (hk : Rel P R p k k') : Rel P R p (.store m a v k) (.store m' a' v' k')
  | cells {p : Pl} {c c' : Array Value} {e : TypeId} {k : Nat → Sem α} {k' : Nat → Sem β} (h : LR p c.toList c'.toList) (hk : ∀ q r r', p.le q → NR q r r' → Rel P R q (k r) (k' r')) :
      Rel P R p (.new (.cells c e (0, 0)) k) (.new (.cells c' e (0, 0)) k')
  | map {p : Pl} {clock : Nat} {k : Nat → Sem α} {k' : Nat → Sem β} (hk : ∀ q r r', p.le q → NR q r r' → Rel P R q (k r) (k' r')) :
      Rel P R p (.new (.map #[] clock) k) (.new (.map #[] clock) k')
  | str {p : Pl} {b : ByteArray} {pos : Nat} {k : Nat → Sem α} {k' : Nat → Sem β} (hk : ∀ q r r', p.le q → NR q r r' → Rel P R q (k r) (k' r')) :
      Rel P R p (.new (.stringIter b pos) k) (.new (.stringIter b pos) k')
  | getObj {p : Pl} {r r' : Nat} {k : Obj → Sem α} {k' : Obj → Sem β} (h : NR p r r') (hk : ∀ o o', OR p o o' → Rel P R p (k o) (k' o')) : Rel P R p (.getObj r k) (.getObj r' k')
  | setObj {p : Pl} {r r' : Nat} {o o' : Obj} {k : Sem α} {k' : Sem β} (h : NR p r r') (ho : OR p o o') (hk : Rel P R p k k') : Rel P R p (.setObj r o k) (.setObj r' o' k')
  | choose {p : Pl} {q q' : Question} {k : Nat → Sem α} {k' : Nat → Sem β} (h : q.forced = true → q'.forced = true) (hk : q.forced = true → Rel P R p (k 0) (k' 0)) : Rel P R p (.choose q k) (.choose q' k')
  | program {p : Pl} {k : Program → Sem α} {k' : Program → Sem β} (hk : Rel P R p (k P) (k' P)) : Rel P R p (.program k) (.program k')
  | mark {p : Pl} {m m' : Mark} {k : Sem α} {k' : Sem β} (hk : Rel P R p k k') : Rel P R p (.mark m k) (.mark m' k')
  | bad {p : Pl} {e : Sem α} {e' : Sem β} (h : ∀ s, arun P e s = none) : Rel P R p e e'

theorem LR.cellsBR {p : Pl} {c : List Value} {c' : Array Value} (h : LR p c c'.toList) (e : TypeId) (es : Nat) (olds : List Nat) (live : Bool) : BR p (.cells c e es olds live) c'.size (.cells c' e (0, 0)) :=
  .cells rfl fun i v hv => by
    obtain ⟨v', h1, h2⟩ := h.get hv
    exact ⟨v', by simpa using h1, h2⟩

theorem Rel.sound {P : Program} {α β : Type} {R : Pl → α → β → Prop} {p : Pl} {e : Sem α} {e' : Sem β} (h : Rel P R p e e') :
    ∀ (s : St) (w : World) (a : α) (s' : St), M c p s w → arun P e s = some (a, s') → ∃ q b w', p.le q ∧ R q a b ∧ e'.run P w = .ok b w' ∧ M c q s' w' := by
  induction h with
  | @pure p a b h =>
    intro s w x s' hm hr
    simp only [arun] at hr
    injection hr with hr
    injection hr with h1 h2
    subst h1; subst h2
    exact ⟨p, b, w, p.le_refl, h, rfl, hm⟩
  | @load p m m' a a' k k' h hk ih =>
    intro s w x s' hm hr
    simp only [arun] at hr
    split at hr
    · rename_i v hv
      obtain ⟨v', h1, h2⟩ := hm.load h hv
      obtain ⟨q, b, w', g1, g2, g3, g4⟩ := ih v v' h2 s w x s' hm hr
      exact ⟨q, b, w', g1, g2, by simp only [Sem.run, h1]; exact g3, g4⟩
    · cases hr
  | @store p m m' a a' v v' k k' h hv hk ih =>
    intro s w x s' hm hr
    simp only [arun] at hr
    cases hc : oneCellB v with
    | false => rw [hc] at hr; cases hr
    | true =>
      rw [hc, cond_true] at hr
      split at hr
      · rename_i s1 hs
        obtain ⟨u, h1, h2, h3, _⟩ := hm.store h hv hs
        obtain ⟨q, b, w', g1, g2, g3, g4⟩ := ih s1 _ x s' h3 hr
        refine ⟨q, b, w', g1, g2, ?_, g4⟩
        have hc' : oneCellB v' = true := by rw [vr_oneCell hv]; exact hc
        cases v' <;> first | (simp [oneCellB] at hc'; done) | (simp only [Sem.run, h1, h2]; exact g3)
      · cases hr
  | @cells p c c' e k k' h hk ih =>
    intro s w x s' hm hr
    simp only [arun] at hr
    have hr : arun P (k s.next) (s.new (.cells c.toList e 0 [] true)) = some (x, s') := hr
    obtain ⟨h1, h2⟩ := hm.new (h.cellsBR e 0 [] true) (fun b hb => by cases hb)
    obtain ⟨q, b, w', g1, g2, g3, g4⟩ := ih _ s.next w.heap.size h1 ⟨c'.size, 0, by simp [Pl.add, Blk.es]⟩ _ _ x s' h2 hr
    exact ⟨q, b, w', Pl.le_trans h1 g1, g2, by simp only [Sem.run]; exact g3, g4⟩
  | @map p clock k k' hk ih =>
    intro s w x s' hm hr
    simp only [arun] at hr
    have hx : BR p (.map [] clock) 0 (.map #[] clock) := .map ⟨rfl, fun i e e' h => by simp at h⟩
    obtain ⟨h1, h2⟩ := hm.new hx (fun b hb => by cases hb)
    obtain ⟨q, b, w', g1, g2, g3, g4⟩ := ih _ s.next w.heap.size h1 ⟨0, 0, by simp [Pl.add, Blk.es]⟩ _ _ x s' h2 hr
    exact ⟨q, b, w', Pl.le_trans h1 g1, g2, by simp only [Sem.run]; exact g3, g4⟩
  | @str p c pos k k' hk ih =>
    intro s w x s' hm hr
    simp only [arun] at hr
    have hx : BR p (.str c pos) 0 (.stringIter c pos) := .str
    obtain ⟨h1, h2⟩ := hm.new hx (fun b hb => by cases hb)
    obtain ⟨q, b, w', g1, g2, g3, g4⟩ := ih _ s.next w.heap.size h1 ⟨0, 0, by simp [Pl.add, Blk.es]⟩ _ _ x s' h2 hr
    exact ⟨q, b, w', Pl.le_trans h1 g1, g2, by simp only [Sem.run]; exact g3, g4⟩
  | @getObj p r r' k k' h hk ih =>
    intro s w x s' hm hr
    simp only [arun] at hr
    obtain ⟨sz, es, hp⟩ := h
    split at hr
    · rename_i es clock hg
      obtain ⟨_, r2, sz', o, hp', _, hr', hb⟩ := hm.pres r _ hg
      rw [hp] at hp'
      injection hp' with e1
      have : r' = r2 := congrArg Prod.fst e1
      subst this
      cases hb with
      | @map _ es' _ _ he =>
        obtain ⟨q, b, w', g1, g2, g3, g4⟩ := ih (.map es.toArray clock) (.map es' clock) (.map (by simpa using he)) s w x s' hm hr
        exact ⟨q, b, w', g1, g2, by simp only [Sem.run, hr']; exact g3, g4⟩
    · rename_i c pos hg
      obtain ⟨_, r2, sz', o, hp', _, hr', hb⟩ := hm.pres r _ hg
      rw [hp] at hp'
      injection hp' with e1
      have : r' = r2 := congrArg Prod.fst e1
      subst this
      cases hb with
      | str =>
        obtain ⟨q, b, w', g1, g2, g3, g4⟩ := ih (.stringIter c pos) (.stringIter c pos) .str s w x s' hm hr
        exact ⟨q, b, w', g1, g2, by simp only [Sem.run, hr']; exact g3, g4⟩
    · cases hr
  | @setObj p r r' o o' k k' h ho hk ih =>
    intro s w x s' hm hr
    obtain ⟨sz, es, hp⟩ := h
    cases ho with
    | @map es es' clock he =>
      simp only [arun] at hr
      split at hr
      · rename_i es0 clock0 hg
        obtain ⟨_, r2, sz', o, hp', _, hr', hb⟩ := hm.pres r _ hg
        rw [hp] at hp'
        injection hp' with e1
        have : r' = r2 := congrArg Prod.fst e1
        subst this
        have hm' := hm.setObj (y := .map es.toList clock) (o := .map es' clock) hg rfl rfl rfl rfl rfl ⟨_, hp⟩ (fun sz => .map he)
        obtain ⟨q, b, w', g1, g2, g3, g4⟩ := ih _ _ x s' hm' hr
        refine ⟨q, b, w', g1, g2, ?_, g4⟩
        cases hb with
        | map _ => simp only [Sem.run, hr']; exact g3
      · cases hr
    | @str c pos =>
      simp only [arun] at hr
      split at hr
      · rename_i c0 pos0 hg
        obtain ⟨_, r2, sz', o, hp', _, hr', hb⟩ := hm.pres r _ hg
        rw [hp] at hp'
        injection hp' with e1
        have : r' = r2 := congrArg Prod.fst e1
        subst this
        have hm' := hm.setObj (y := .str c pos) (o := .stringIter c pos) hg rfl rfl rfl rfl rfl ⟨_, hp⟩ (fun sz => .str)
        obtain ⟨q, b, w', g1, g2, g3, g4⟩ := ih _ _ x s' hm' hr
        refine ⟨q, b, w', g1, g2, ?_, g4⟩
        cases hb with
        | str => simp only [Sem.run, hr']; exact g3
      · cases hr
  | @choose p q q' k k' h hk ih =>
    intro s w x s' hm hr
    simp only [arun] at hr
    cases hf : q.forced with
    | false => rw [hf] at hr; cases hr
    | true =>
      rw [hf, cond_true] at hr
      obtain ⟨q2, b, w', g1, g2, g3, g4⟩ := ih hf s w x s' hm hr
      exact ⟨q2, b, w', g1, g2, by simp only [Sem.run, h hf, if_true]; exact g3, g4⟩
  | @program p k k' hk ih =>
    intro s w x s' hm hr
    simp only [arun] at hr
    obtain ⟨q2, b, w', g1, g2, g3, g4⟩ := ih s w x s' hm hr
    exact ⟨q2, b, w', g1, g2, by simp only [Sem.run]; exact g3, g4⟩
  | @mark p m m' k k' hk ih =>
    intro s w x s' hm hr
    simp only [arun] at hr
    obtain ⟨q2, b, w', g1, g2, g3, g4⟩ := ih s w x s' hm hr
    exact ⟨q2, b, w', g1, g2, by simp only [Sem.run]; exact g3, g4⟩
  | @bad p e e' h =>
    intro s w x s' hm hr
    rw [h s] at hr; cases hr

theorem arun_bind_none {P : Program} {α β : Type} (f : α → Sem β) : ∀ (e : Sem α), (∀ s, arun P e s = none) → ∀ s, arun P (e.bind f) s = none := by
  intro e h s
  have key : ∀ (e : Sem α) (s : St), arun P (e.bind f) s = (match arun P e s with | some (a, s') => arun P (f a) s' | none => none) := by
    intro e
    induction e with
    | pure a => intro s; simp only [Sem.bind, arun]
    | load m a k ih => intro s; simp only [Sem.bind, arun]; split <;> simp_all
    | store m a v k ih => intro s; simp only [Sem.bind, arun]; cases oneCellB v <;> simp only [cond_true, cond_false]; split <;> simp_all
    | new o k ih =>
      intro s
      cases o <;> simp only [Sem.bind, arun]
      · rename_i c e fz
        cases hz : (Nat.beq fz.1 0 && Nat.beq fz.2 0) <;> simp only [cond_true, cond_false, ih]
      · split <;> simp_all
      · rw [ih]
    | shape r k ih => intro s; simp only [Sem.bind, arun]
    | freeze a n k ih => intro s; simp only [Sem.bind, arun]
    | frozen a k ih => intro s; simp only [Sem.bind, arun]; split <;> simp_all
    | getObj r k ih => intro s; simp only [Sem.bind, arun]; split <;> simp_all
    | setObj r o k ih => intro s; cases o <;> simp only [Sem.bind, arun] <;> split <;> simp_all
    | choose q k ih => intro s; simp only [Sem.bind, arun]; cases q.forced <;> simp only [cond_true, cond_false, ih]
    | sys c k ih => intro s; simp only [Sem.bind, arun]
    | program k ih => intro s; simp only [Sem.bind, arun, ih]
    | mark m k ih => intro s; simp only [Sem.bind, arun, ih]
    | halt h => intro s; simp only [Sem.bind, arun]
  rw [key, h s]

theorem Rel.bind {P : Program} {α β γ δ : Type} {R : Pl → α → β → Prop} {S : Pl → γ → δ → Prop} {p : Pl} {e : Sem α} {e' : Sem β} {f : α → Sem γ} {f' : β → Sem δ} (h : Rel P R p e e')
    (hf : ∀ q a b, p.le q → R q a b → Rel P S q (f a) (f' b)) : Rel P S p (e.bind f) (e'.bind f') := by
  induction h with
  | @pure p a b h => exact hf p a b p.le_refl h
  | load h hk ih => exact .load h fun v v' hv => ih v v' hv hf
  | store h hv hk ih => exact .store h hv (ih hf)
  | cells h hk ih => exact .cells h fun q r r' hq hr => ih q r r' hq hr fun q' a b h' => hf q' a b (Pl.le_trans hq h')
  | map hk ih => exact .map fun q r r' hq hr => ih q r r' hq hr fun q' a b h' => hf q' a b (Pl.le_trans hq h')
  | str hk ih => exact .str fun q r r' hq hr => ih q r r' hq hr fun q' a b h' => hf q' a b (Pl.le_trans hq h')
  | getObj h hk ih => exact .getObj h fun o o' ho => ih o o' ho hf
  | setObj h ho hk ih => exact .setObj h ho (ih hf)
  | choose h hk ih => exact .choose h fun hq => ih hq hf
  | program hk ih => exact .program (ih hf)
  | mark hk ih => exact .mark (ih hf)
  | @bad p e e' h => exact .bad (arun_bind_none f e h)

theorem Rel.mono {P : Program} {α β : Type} {R S : Pl → α → β → Prop} {p : Pl} {e : Sem α} {e' : Sem β} (h : Rel P R p e e') (hRS : ∀ q a b, p.le q → R q a b → S q a b) : Rel P S p e e' := by
  induction h with
  | @pure p a b h => exact .pure (hRS p a b p.le_refl h)
  | load h hk ih => exact .load h fun v v' hv => ih v v' hv hRS
  | store h hv hk ih => exact .store h hv (ih hRS)
  | cells h hk ih => exact .cells h fun q r r' hq hr => ih q r r' hq hr fun q' a b h' => hRS q' a b (Pl.le_trans hq h')
  | map hk ih => exact .map fun q r r' hq hr => ih q r r' hq hr fun q' a b h' => hRS q' a b (Pl.le_trans hq h')
  | str hk ih => exact .str fun q r r' hq hr => ih q r r' hq hr fun q' a b h' => hRS q' a b (Pl.le_trans hq h')
  | getObj h hk ih => exact .getObj h fun o o' ho => ih o o' ho hRS
  | setObj h ho hk ih => exact .setObj h ho (ih hRS)
  | choose h hk ih => exact .choose h fun hq => ih hq hRS
  | program hk ih => exact .program (ih hRS)
  | mark hk ih => exact .mark (ih hRS)
  | bad h => exact .bad h

end Rn
end Go.Proofs.Ytapidabhdbjnmaa
