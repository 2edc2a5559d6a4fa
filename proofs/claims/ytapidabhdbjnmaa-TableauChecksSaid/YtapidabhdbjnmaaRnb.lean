/- A run of a call that is handed no memory: what its blocks say of the world's. -/
import Derived.Test.YtapidabhdbjnmaaRna
namespace Go.Proofs.Ytapidabhdbjnmaa
namespace Rn

/-! ### Maps from numbers -/

theorem nbt {i j : Nat} (h : i = j) : Nat.beq i j = true := by subst h; exact Nat.beq_refl i
theorem nbf {i j : Nat} (h : i ≠ j) : Nat.beq i j = false := by
  cases h' : Nat.beq i j with
  | false => rfl
  | true => exact absurd (Nat.eq_of_beq_eq_true h') h
theorem blt {i j : Nat} (h : Nat.blt i j = true) : i < j := by rw [Nat.blt_eq] at h; exact h
theorem bltt {i j : Nat} (h : i < j) : Nat.blt i j = true := by rw [Nat.blt_eq]; exact h
theorem bltf {i j : Nat} (h : ¬ i < j) : Nat.blt i j = false := by
  cases h' : Nat.blt i j with
  | false => rfl
  | true => exact absurd (blt h') h
theorem blef {i j : Nat} (h : Nat.ble i j = false) : ¬ i ≤ j := fun hh => by
  rw [Nat.ble_eq_true_of_le hh] at h; cases h
theorem ble {i j : Nat} (h : Nat.ble i j = true) : i ≤ j := Nat.le_of_ble_eq_true h
theorem nb {i j : Nat} (h : Nat.beq i j = true) : i = j := Nat.eq_of_beq_eq_true h

theorem getP_nil {α : Type} : ∀ (q : List Bool), getP q (T.nil : T α) = none
  | [] => rfl
  | _ :: _ => rfl

theorem getP_setP {α : Type} (x : Option α) : ∀ (p q : List Bool) (t : T α), getP q (setP x p t) = if p = q then x else getP q t
  | [], [], t => by rw [if_pos rfl]; cases t <;> rfl
  | [], b :: q, t => by
    rw [if_neg (by simp)]
    cases t with
    | nil => show bi b (getP q (T.nil : T α)) (getP q T.nil) = none; rw [getP_nil]; cases b <;> rfl
    | node l v r => rfl
  | b :: p, [], t => by rw [if_neg (by simp)]; cases t <;> cases b <;> rfl
  | b :: p, c :: q, t => by
    cases t with
    | nil =>
      cases b <;> cases c
      · show getP q (setP x p T.nil) = _
        rw [getP_setP x p q]
        by_cases h : p = q
        · subst h; simp
        · rw [if_neg h, if_neg (by simp [h]), getP_nil]; rfl
      · show getP q T.nil = _
        rw [if_neg (by simp), getP_nil]; rfl
      · show getP q T.nil = _
        rw [if_neg (by simp), getP_nil]; rfl
      · show getP q (setP x p T.nil) = _
        rw [getP_setP x p q]
        by_cases h : p = q
        · subst h; simp
        · rw [if_neg h, if_neg (by simp [h]), getP_nil]; rfl
    | node l v r =>
      cases b <;> cases c
      · show getP q (setP x p r) = _
        rw [getP_setP x p q]
        by_cases h : p = q
        · subst h; simp
        · rw [if_neg h, if_neg (by simp [h])]; rfl
      · rw [if_neg (by simp)]; rfl
      · rw [if_neg (by simp)]; rfl
      · show getP q (setP x p l) = _
        rw [getP_setP x p q]
        by_cases h : p = q
        · subst h; simp
        · rw [if_neg h, if_neg (by simp [h])]; rfl

theorem path_zero (f : Nat) : path (f + 1) 0 = [] := rfl
theorem path_succ (f i : Nat) (h : i ≠ 0) : path (f + 1) i = Nat.beq (i % 2) 1 :: path f ((i - 1) / 2) := by
  show bi (Nat.beq i 0) [] (Nat.beq (i % 2) 1 :: path f ((i - 1) / 2)) = _
  rw [nbf h]; rfl

theorem path_inj : ∀ (f i j : Nat), i + 1 ≤ 2 ^ f → j + 1 ≤ 2 ^ f → path f i = path f j → i = j
  | 0, i, j, hi, hj, _ => by simp at hi hj; omega
  | f + 1, i, j, hi, hj, h => by
    have hp : 2 ^ (f + 1) = 2 * 2 ^ f := by rw [Nat.pow_succ]; omega
    by_cases h1 : i = 0
    · by_cases h2 : j = 0
      · omega
      · subst h1; rw [path_zero, path_succ _ _ h2] at h; cases h
    · by_cases h2 : j = 0
      · subst h2; rw [path_zero, path_succ _ _ h1] at h; cases h
      · rw [path_succ _ _ h1, path_succ _ _ h2] at h
        injection h with ha hb
        have := path_inj f ((i - 1) / 2) ((j - 1) / 2) (by omega) (by omega) hb
        have hpar : i % 2 = 1 ↔ j % 2 = 1 := by
          constructor
          · intro e; rw [nbt e] at ha; exact nb ha.symm
          · intro e; rw [nbt e] at ha; exact nb ha
        omega

theorem most_eq : most = 2 ^ 40 := rfl

theorem T.get_nil {α : Type} (j : Nat) : (T.nil : T α).get j = none := by
  unfold T.get
  rw [getP_nil]
  cases Nat.blt j most <;> rfl

theorem T.get_set {α : Type} (x : Option α) (t : T α) (i j : Nat) : (T.set x t i).get j = if i = j ∧ i < most then x else t.get j := by
  unfold T.get T.set
  cases hi : Nat.blt i most with
  | false =>
    rw [if_neg (fun h => by rw [bltt h.2] at hi; cases hi)]; rfl
  | true =>
    have hi' : i < most := blt hi
    cases hj : Nat.blt j most with
    | false => rw [if_neg (fun h => by rw [h.1] at hi; rw [hi] at hj; cases hj)]; rfl
    | true =>
      have hj' : j < most := blt hj
      show getP (path 40 j) (setP x (path 40 i) t) = _
      rw [getP_setP]
      by_cases h : i = j
      · subst h; rw [if_pos rfl, if_pos ⟨rfl, hi'⟩]
      · rw [if_neg (fun e => h (path_inj 40 i j (by rw [← most_eq]; omega) (by rw [← most_eq]; omega) e)), if_neg (fun e => h e.1)]; rfl

theorem nth_eq {α : Type} : ∀ (l : List α) (i : Nat), nth l i = l[i]?
  | [], i => rfl
  | x :: l, 0 => rfl
  | x :: l, i + 1 => by
    show bi (Nat.beq (i + 1) 0) (some x) (nth l i) = _
    rw [nbf (by omega), bi_false, nth_eq l]; simp

theorem setAt_eq {α : Type} (x : α) : ∀ (l : List α) (i : Nat), setAt x l i = l.set i x
  | [], i => by simp [setAt]
  | y :: l, 0 => by rw [setAt]; rfl
  | y :: l, i + 1 => by rw [setAt, nbf (by omega), cond_false, setAt_eq x l]; simp

/-! ### Values -/

/-- What a block of the run is in the world: which block, how many cells, of which size its elements are (where it may grow). -/
abbrev Pl := Nat → Option (Nat × Nat × Nat)
def Pl.le (p q : Pl) : Prop := ∀ b x, p b = some x → q b = some x
theorem Pl.le_refl (p : Pl) : p.le p := fun _ _ h => h
theorem Pl.le_trans {p q r : Pl} (h : p.le q) (h' : q.le r) : p.le r := fun b x hb => h' b x (h b x hb)

inductive AR (p : Pl) : Addr → Addr → Prop
  | mk {b r sz es off : Nat} (h : p b = some (r, sz, es)) : AR p ⟨b, off, none⟩ ⟨r, off, none⟩

inductive FR (p : Pl) : Fn → Fn → Prop
  | same {f : Fn} (h : ∀ l, f ≠ .yield l) : FR p f f
  | yield {b r sz es : Nat} (h : p b = some (r, sz, es)) : FR p (.yield b) (.yield r)

inductive VR (p : Pl) : Value → Value → Prop
  | flat {v : Value} (h : flat v = true) : VR p v v
  | ptr {a a' : Addr} (h : AR p a a') : VR p (.pointer (some a)) (.pointer (some a'))
  | slc {a a' : Addr} {n c : Nat} (h : AR p a a') (hc : c < K) : VR p (.slice (some a) n c) (.slice (some a') n c)
  | slcK {b r sz es off off' n m c : Nat} (h : p b = some (r, sz, es)) (ho : c ≠ 0 → off' = off ∧ off + c * es = sz) (hm : m ≤ c) (hn : n ≤ m) :
      VR p (.slice (some ⟨b, off, none⟩) n (K + m)) (.slice (some ⟨r, off', none⟩) n c)
  | map {b r sz es : Nat} (h : p b = some (r, sz, es)) : VR p (.map (some b)) (.map (some r))
  | func {f f' : Fn} {a a' c c' : Array Value} (hf : FR p f f') (ha : a.size = a'.size) (hc : c.size = c'.size)
      (h1 : ∀ (i : Nat) (v v' : Value), a[i]? = some v → a'[i]? = some v' → VR p v v') (h2 : ∀ (i : Nat) (v v' : Value), c[i]? = some v → c'[i]? = some v' → VR p v v') : VR p (.func f a c) (.func f' a' c')
  | iface {t : TypeId} {v v' : Value} (h : VR p v v') : VR p (.iface t v) (.iface t v')
  | agg {c c' : Array Value} (hc : c.size = c'.size) (h : ∀ (i : Nat) (v v' : Value), c[i]? = some v → c'[i]? = some v' → VR p v v') : VR p (.agg c) (.agg c')
  | tuple {c c' : Array Value} (hc : c.size = c'.size) (h : ∀ (i : Nat) (v v' : Value), c[i]? = some v → c'[i]? = some v' → VR p v v') : VR p (.tuple c) (.tuple c')
  | any {x : Option Addr} : VR p poison (.pointer x)

/-- Lists of values. -/
def LR (p : Pl) (l l' : List Value) : Prop := l.length = l'.length ∧ ∀ (i : Nat) (v v' : Value), l[i]? = some v → l'[i]? = some v' → VR p v v'

theorem AR.le {p q : Pl} (hpq : p.le q) {a a' : Addr} (h : AR p a a') : AR q a a' := by
  cases h with | mk h => exact .mk (hpq _ _ h)
theorem FR.le {p q : Pl} (hpq : p.le q) {a a' : Fn} (h : FR p a a') : FR q a a' := by
  cases h with
  | same h => exact .same h
  | yield h => exact .yield (hpq _ _ h)
theorem VR.le {p q : Pl} (hpq : p.le q) {v v' : Value} (h : VR p v v') : VR q v v' := by
  induction h with
  | flat h => exact .flat h
  | ptr h => exact .ptr (h.le hpq)
  | slc h hc => exact .slc (h.le hpq) hc
  | slcK h ho hm hn => exact .slcK (hpq _ _ h) ho hm hn
  | map h => exact .map (hpq _ _ h)
  | func hf ha hc _ _ i1 i2 => exact .func (hf.le hpq) ha hc i1 i2
  | iface _ ih => exact .iface ih
  | agg hc _ ih => exact .agg hc ih
  | tuple hc _ ih => exact .tuple hc ih
  | any => exact .any
theorem LR.le {p q : Pl} (hpq : p.le q) {l l' : List Value} (h : LR p l l') : LR q l l' := ⟨h.1, fun i v v' a b => (h.2 i v v' a b).le hpq⟩

theorem LR.nil (p : Pl) : LR p [] [] := ⟨rfl, fun i v v' h => by simp at h⟩
theorem LR.cons {p : Pl} {v v' : Value} {l l' : List Value} (h : VR p v v') (hl : LR p l l') : LR p (v :: l) (v' :: l') :=
  ⟨by simp [hl.1], fun i u u' => by
    cases i with
    | zero => intro h1 h2; simp at h1 h2; subst h1; subst h2; exact h
    | succ i => intro h1 h2; simp at h1 h2; exact hl.2 i u u' h1 h2⟩
theorem LR.cons_inv {p : Pl} {v : Value} {l m : List Value} (h : LR p (v :: l) m) : ∃ v' l', m = v' :: l' ∧ VR p v v' ∧ LR p l l' := by
  obtain ⟨h1, h2⟩ := h
  cases m with
  | nil => simp at h1
  | cons v' l' =>
    refine ⟨v', l', rfl, h2 0 v v' rfl rfl, by simpa using h1, fun i u u' a b => h2 (i + 1) u u' (by simpa using a) (by simpa using b)⟩
theorem LR.nil_inv {p : Pl} {m : List Value} (h : LR p [] m) : m = [] := by cases m with | nil => rfl | cons a b => have := h.1; simp at this
theorem LR.append {p : Pl} {a a' b b' : List Value} (h : LR p a a') (k : LR p b b') : LR p (a ++ b) (a' ++ b') := by
  induction a generalizing a' with
  | nil => rw [h.nil_inv]; exact k
  | cons v l ih =>
    obtain ⟨v', l', rfl, hv, hl⟩ := h.cons_inv
    exact .cons hv (ih hl)
theorem LR.get {p : Pl} {l l' : List Value} (h : LR p l l') {i : Nat} {v : Value} (hv : l[i]? = some v) : ∃ v', l'[i]? = some v' ∧ VR p v v' := by
  have hi : i < l.length := by
    rcases Nat.lt_or_ge i l.length with h | h
    · exact h
    · rw [List.getElem?_eq_none h] at hv; cases hv
  have hi' : i < l'.length := h.1 ▸ hi
  exact ⟨l'[i], by rw [List.getElem?_eq_getElem hi'], h.2 i v _ hv (by rw [List.getElem?_eq_getElem hi'])⟩
theorem LR.set {p : Pl} {l l' : List Value} (h : LR p l l') (i : Nat) {v v' : Value} (hv : VR p v v') : LR p (l.set i v) (l'.set i v') := by
  refine ⟨by simp [h.1], fun j u u' a b => ?_⟩
  rw [List.getElem?_set] at a b
  by_cases hij : i = j
  · subst hij
    rw [if_pos rfl] at a b
    split at a <;> split at b <;> simp_all
  · rw [if_neg hij] at a b
    exact h.2 j u u' a b

theorem vr_oneCell {p : Pl} {v v' : Value} (h : VR p v v') : oneCellB v' = oneCellB v := by
  cases h <;> rfl

/-! ### Blocks -/

def Blk.es : Blk → Nat
  | .cells _ _ es _ _ => es
  | _ => 0
def Blk.olds : Blk → List Nat
  | .cells _ _ _ olds _ => olds
  | _ => []
def Blk.live : Blk → Bool
  | .cells _ _ _ _ live => live
  | _ => true
def Blk.len : Blk → Nat
  | .cells c _ _ _ _ => c.length
  | _ => 0

/-- The temporaries. -/
structure TR (p : Pl) (tm : Tm) (a : Array Value) : Prop where
  size : a.size = tm.n
  small : tm.n ≤ 1000000
  get : ∀ i, i < tm.n → VR p (tm.get i) (a.getD i undef)
  out : ∀ i, tm.n ≤ i → tm.t.get i = none
  glob : ∀ g, g < tm.g → ∃ z, p g = some (g, z)

theorem TR.le {p q : Pl} (hpq : p.le q) {tm : Tm} {a : Array Value} (h : TR p tm a) : TR q tm a :=
  ⟨h.size, h.small, fun i hi => (h.get i hi).le hpq, h.out, fun g hg => let ⟨z, hz⟩ := h.glob g hg; ⟨z, hpq _ _ hz⟩⟩

structure LpR (p : Pl) (l : LoopA) (m : Loop) : Prop where
  state : m.state = l.state
  pending : m.pending = l.pending
  tm : TR p l.tm m.tmps
  params : m.params.toList = l.params
  assign : m.assign = l.assign
  body : m.body = l.body
  defers : ∃ sz es, p l.defers = some (m.defers, sz, es)

theorem LpR.le {p q : Pl} (hpq : p.le q) {l : LoopA} {m : Loop} (h : LpR p l m) : LpR q l m :=
  ⟨h.state, h.pending, h.tm.le hpq, h.params, h.assign, h.body, let ⟨a, b, c⟩ := h.defers; ⟨a, b, hpq _ _ c⟩⟩

/-- Entries of maps. -/
def ER (p : Pl) (es es' : List MapEntry) : Prop := es.length = es'.length ∧ ∀ (i : Nat) (e e' : MapEntry), es[i]? = some e → es'[i]? = some e' → VR p e.key e'.key ∧ VR p e.val e'.val ∧ e.born = e'.born

theorem ER.le {p q : Pl} (hpq : p.le q) {l l' : List MapEntry} (h : ER p l l') : ER q l l' := ⟨h.1, fun i e e' a b => let ⟨x, y, z⟩ := h.2 i e e' a b; ⟨x.le hpq, y.le hpq, z⟩⟩

inductive BR (p : Pl) : Blk → Nat → Obj → Prop
  | cells {c : List Value} {e : TypeId} {es : Nat} {olds : List Nat} {live : Bool} {c' : Array Value} {sz : Nat} (hs : c'.size = sz)
      (h : ∀ (i : Nat) (v : Value), c[i]? = some v → ∃ v', c'[i]? = some v' ∧ VR p v v') : BR p (.cells c e es olds live) sz (.cells c' e (0, 0))
  | map {es : List MapEntry} {es' : Array MapEntry} {clock : Nat} {sz : Nat} (h : ER p es es'.toList) : BR p (.map es clock) sz (.map es' clock)
  | str {s : ByteArray} {pos sz : Nat} : BR p (.str s pos) sz (.stringIter s pos)
  | loop {l : LoopA} {m : Loop} {sz : Nat} (h : LpR p l m) : BR p (.loop l) sz (.loop m)
  | deferred {sz : Nat} : BR p .deferred sz (.deferred (some []))

theorem BR.le {p q : Pl} (hpq : p.le q) {x : Blk} {sz : Nat} {o : Obj} (h : BR p x sz o) : BR q x sz o := by
  cases h with
  | cells hs h => exact .cells hs fun i v hv => let ⟨v', a, b⟩ := h i v hv; ⟨v', a, b.le hpq⟩
  | map h => exact .map (h.le hpq)
  | str => exact .str
  | loop h => exact .loop (h.le hpq)
  | deferred => exact .deferred

/-- What was there, which of its blocks may be written, and how many blocks are the program's variables. -/
structure Ctx where
  w0 : World
  D : Nat → Prop
  nG : Nat
  ok : Nat → Prop
  R : Nat → Prop
  N : Nat
  P0 : Pl

structure Keep (c : Ctx) (w : World) : Prop where
  os : w.os = c.w0.os
  tape : w.tape = c.w0.tape
  output : w.output = c.w0.output
  size : c.w0.heap.size ≤ w.heap.size
  block : ∀ k, k < c.w0.heap.size → ¬ c.D k → w.heap[k]? = c.w0.heap[k]?

theorem Keep.push {c : Ctx} {w : World} (h : Keep c w) (o : Obj) : Keep c { w with heap := w.heap.push o } :=
  ⟨h.os, h.tape, h.output, Nat.le_trans h.size (by simp), fun k hk hD => by
    show (w.heap.push o)[k]? = _
    rw [Array.getElem?_push, if_neg (by have := h.size; omega)]; exact h.block k hk hD⟩

theorem Keep.setCell {c : Ctx} {w : World} (h : Keep c w) {a : Addr} (ha : c.w0.heap.size ≤ a.block ∨ c.D a.block) (v : Value) : Keep c (w.setCell a v) :=
  ⟨h.os, h.tape, h.output, Nat.le_trans h.size (by simp [World.setCell]), fun k hk hD => by
    have hne : k ≠ a.block := fun e => by
      subst e
      rcases ha with ha | ha
      · omega
      · exact hD ha
    simp only [World.setCell, Array.getElem?_modify]
    rw [if_neg (Ne.symm hne)]
    exact h.block k hk hD⟩

theorem Keep.setObj {c : Ctx} {w : World} (h : Keep c w) {r : Nat} (ha : c.w0.heap.size ≤ r ∨ c.D r) (o : Obj) : Keep c { w with heap := w.heap.setIfInBounds r o } :=
  ⟨h.os, h.tape, h.output, Nat.le_trans h.size (by simp), fun k hk hD => by
    have hne : r ≠ k := fun e => by
      subst e
      rcases ha with ha | ha
      · omega
      · exact hD ha
    show (w.heap.setIfInBounds r o)[k]? = _
    rw [Array.getElem?_setIfInBounds, if_neg hne]
    exact h.block k hk hD⟩

/-- The names and the places of blocks are such that may be used. -/
def OkH (c : Ctx) (p : Pl) (s : St) : Prop := (∀ b, s.next ≤ b → c.ok b) ∧ ∀ b x, s.heap.get b = some x → c.ok b ∧ (∀ b2 ∈ x.olds, c.ok b2) ∧ ∀ r z, p b = some (r, z) → c.w0.heap.size ≤ r ∨ c.R r

/-- Where the first blocks lie does not change. -/
def PkH (c : Ctx) (p : Pl) (s : St) : Prop := c.N ≤ s.next ∧ ∀ b, b < c.N → p b = c.P0 b

structure M (c : Ctx) (p : Pl) (s : St) (w : World) : Prop where
  keep : Keep c w
  fresh : ∀ b, s.next ≤ b → p b = none
  ng : c.nG ≤ s.next
  glob : ∀ g r z, g < c.nG → p g = some (r, z) → r = g
  pres : ∀ b x, s.heap.get b = some x → b < most ∧ ∃ r sz o, p b = some (r, sz, x.es) ∧ (x.live = true → c.w0.heap.size ≤ r ∨ c.D r) ∧ w.heap[r]? = some o ∧ BR p x sz o
  sep : ∀ b1 b2 x1 x2 r s1 s2, s.heap.get b1 = some x1 → s.heap.get b2 = some x2 → x1.live = true → p b1 = some (r, s1) → p b2 = some (r, s2) → b1 = b2 ∨ b2 ∈ x1.olds
  dead : ∀ b1 b2 x1 x2, s.heap.get b1 = some x1 → s.heap.get b2 = some x2 → x1.live = true → b2 ∈ x1.olds → x2.live = false ∧ x2.len ≤ x1.len
  olds : ∀ b1 b2 x1, s.heap.get b1 = some x1 → b2 ∈ x1.olds → b2 < s.next
  okk : OkH c p s
  pk : PkH c p s

theorem M.drew {c : Ctx} {p : Pl} {s : St} {w : World} (h : M c p s w) : M c p s { w with drawn := w.drawn + 1 } :=
  ⟨⟨h.keep.os, h.keep.tape, h.keep.output, h.keep.size, h.keep.block⟩, h.fresh, h.ng, h.glob, h.pres, h.sep, h.dead, h.olds, h.okk, h.pk⟩

/-- A new block. -/
def Pl.add (p : Pl) (b r sz es : Nat) : Pl := fun c => if c = b then some (r, sz, es) else p c

theorem Pl.le_add {p : Pl} {b r sz es : Nat} (h : p b = none) : p.le (p.add b r sz es) := fun c x hc => by
  unfold Pl.add
  split
  · rename_i e; subst e; rw [h] at hc; cases hc
  · exact hc

theorem M.new {c : Ctx} {p : Pl} {s : St} {w : World} (h : M c p s w) {x : Blk} {sz : Nat} {o : Obj} (hx : BR p x sz o) (hl : ∀ b, b ∈ x.olds → b < s.next ∧ c.ok b ∧ ∀ y, s.heap.get b = some y → y.live = false ∧ y.len ≤ x.len) :
    p.le (p.add s.next w.heap.size sz x.es) ∧ M c (p.add s.next w.heap.size sz x.es) (s.new x) { w with heap := w.heap.push o } := by
  have hle : p.le (p.add s.next w.heap.size sz x.es) := Pl.le_add (h.fresh _ (Nat.le_refl _))
  have hlt : ∀ b y, s.heap.get b = some y → b < s.next := fun b y hb => by
    obtain ⟨_, r, sz', o', hp, _⟩ := h.pres b y hb
    rcases Nat.lt_or_ge b s.next with h' | h'
    · exact h'
    · rw [h.fresh b h'] at hp; cases hp
  have hget : ∀ b y, (s.new x).heap.get b = some y → (b = s.next ∧ y = x ∧ b < most) ∨ (b ≠ s.next ∧ s.heap.get b = some y) := fun b y hb => by
    unfold St.new at hb
    simp only [T.get_set] at hb
    by_cases hc : s.next = b ∧ s.next < most
    · rw [if_pos hc] at hb
      injection hb with hb
      exact .inl ⟨hc.1.symm, hb.symm, hc.1 ▸ hc.2⟩
    · rw [if_neg hc] at hb
      exact .inr ⟨fun e => by have := hlt b y hb; omega, hb⟩
  have hold : ∀ r (o' : Obj), w.heap[r]? = some o' → (w.heap.push o)[r]? = some o' := fun r o' hr => by
    have : r < w.heap.size := by
      rcases Nat.lt_or_ge r w.heap.size with h' | h'
      · exact h'
      · rw [Array.getElem?_eq_none h'] at hr; cases hr
    rw [Array.getElem?_push, if_neg (by omega)]; exact hr
  have hin : ∀ b y, s.heap.get b = some y → ∀ r z, p b = some (r, z) → r < w.heap.size := fun b y hb r z hp => by
    obtain ⟨_, r', sz', o', hp', _, hr', _⟩ := h.pres b y hb
    rw [hp] at hp'
    have : r = r' := by injection hp' with e; exact congrArg Prod.fst e
    subst this
    rcases Nat.lt_or_ge r w.heap.size with h' | h'
    · exact h'
    · rw [Array.getElem?_eq_none h'] at hr'; cases hr'
  refine ⟨hle, ⟨h.keep.push o, ?_, Nat.le_succ_of_le h.ng, ?_, ?_, ?_, ?_, ?_, ?_, Nat.le_succ_of_le h.pk.1, fun b hb => by have := h.pk.1; unfold Pl.add; rw [if_neg (by omega)]; exact h.pk.2 b hb⟩⟩
  · intro b hb
    have hb' : s.next + 1 ≤ b := hb
    unfold Pl.add
    rw [if_neg (by omega)]
    exact h.fresh b (by omega)
  · intro g r z hg hp
    unfold Pl.add at hp
    rw [if_neg (by have := h.ng; omega)] at hp
    exact h.glob g r z hg hp
  · intro b y hb
    rcases hget b y hb with ⟨e, e', hr⟩ | ⟨hne, hb⟩
    · subst e; subst e'
      exact ⟨hr, w.heap.size, sz, o, by simp [Pl.add], fun _ => .inl h.keep.size, by simp, hx.le hle⟩
    · obtain ⟨h1, r, sz', o', h2, h3, h4, h5⟩ := h.pres b y hb
      exact ⟨h1, r, sz', o', hle _ _ h2, h3, hold _ _ h4, h5.le hle⟩
  · intro b1 b2 x1 x2 r s1 s2 h1 h2 hlive p1 p2
    rcases hget b1 x1 h1 with ⟨e, e', _⟩ | ⟨hne, h1⟩ <;> rcases hget b2 x2 h2 with ⟨f, f', _⟩ | ⟨hne2, h2⟩
    · exact .inl (by omega)
    · exfalso
      unfold Pl.add at p1 p2
      rw [if_pos e] at p1; rw [if_neg hne2] at p2
      have := hin b2 x2 h2 r s2 p2
      injection p1 with e1
      have e2 : w.heap.size = r := congrArg Prod.fst e1
      omega
    · exfalso
      unfold Pl.add at p1 p2
      rw [if_neg hne] at p1; rw [if_pos f] at p2
      have := hin b1 x1 h1 r s1 p1
      injection p2 with e1
      have e2 : w.heap.size = r := congrArg Prod.fst e1
      omega
    · unfold Pl.add at p1 p2
      rw [if_neg hne] at p1; rw [if_neg hne2] at p2
      exact h.sep b1 b2 x1 x2 r s1 s2 h1 h2 hlive p1 p2
  · intro b1 b2 x1 x2 h1 h2 hlive hm
    rcases hget b1 x1 h1 with ⟨e, e', _⟩ | ⟨hne, h1⟩
    · subst e'
      obtain ⟨g1, _, g2⟩ := hl _ hm
      rcases hget b2 x2 h2 with ⟨f, f', _⟩ | ⟨hne2, h2⟩
      · omega
      · exact g2 _ h2
    · rcases hget b2 x2 h2 with ⟨f, f', _⟩ | ⟨hne2, h2⟩
      · have := h.olds b1 b2 x1 h1 hm
        omega
      · exact h.dead b1 b2 x1 x2 h1 h2 hlive hm
  · intro b1 b2 x1 h1 hm
    rcases hget b1 x1 h1 with ⟨e, e', _⟩ | ⟨hne, h1⟩
    · subst e'
      have := (hl _ hm).1
      show b2 < s.next + 1
      omega
    · have := h.olds b1 b2 x1 h1 hm
      show b2 < s.next + 1
      omega
  · refine ⟨fun b hb => h.okk.1 b (Nat.le_of_succ_le hb), fun b y hb => ?_⟩
    rcases hget b y hb with ⟨e, e', _⟩ | ⟨hne, hb⟩
    · subst e; subst e'
      refine ⟨h.okk.1 _ (Nat.le_refl _), fun b2 h2 => (hl _ h2).2.1, fun r z hp => .inl ?_⟩
      simp only [Pl.add, if_true] at hp
      injection hp with hp
      have : w.heap.size = r := congrArg Prod.fst hp
      rw [← this]; exact h.keep.size
    · obtain ⟨k1, k2, k3⟩ := h.okk.2 b y hb
      exact ⟨k1, k2, fun r z hp => by unfold Pl.add at hp; rw [if_neg hne] at hp; exact k3 r z hp⟩
end Rn
end Go.Proofs.Ytapidabhdbjnmaa
