/- A run of a call that is handed no memory: the trees of the operations. -/
import Derived.Test.YtapidabhdbjnmaaRnc
namespace Go.Proofs.Ytapidabhdbjnmaa
namespace Rn

/-! ### Trees that ask for nothing -/

theorem pureRun_run {P : Program} {α : Type} : ∀ (e : Sem α) (a : α), pureRun P e = some a → ∀ w, e.run P w = .ok a w := by
  intro e
  induction e with
  | pure b => intro a h w; simp only [pureRun] at h; injection h with h; subst h; rfl
  | program k ih => intro a h w; simp only [pureRun] at h; simp only [Sem.run]; exact ih P a h w
  | mark m k ih => intro a h w; simp only [pureRun] at h; simp only [Sem.run]; exact ih a h w
  | choose q k ih =>
    intro a h w
    simp only [pureRun] at h
    cases hq : q.forced with
    | false => rw [hq] at h; cases h
    | true => rw [hq, cond_true] at h; simp only [Sem.run, hq, if_true]; exact ih 0 a h w
  | _ => intro a h; simp [pureRun] at h

theorem pureRun_arun {P : Program} {α : Type} : ∀ (e : Sem α) (a : α), pureRun P e = some a → ∀ s, arun P e s = some (a, s) := by
  intro e
  induction e with
  | pure b => intro a h s; simp only [pureRun] at h; injection h with h; subst h; rfl
  | program k ih => intro a h s; simp only [pureRun] at h; simp only [arun]; exact ih P a h s
  | mark m k ih => intro a h s; simp only [pureRun] at h; simp only [arun]; exact ih a h s
  | choose q k ih =>
    intro a h s
    simp only [pureRun] at h
    cases hq : q.forced with
    | false => rw [hq] at h; cases h
    | true => rw [hq, cond_true] at h; simp only [arun, hq, cond_true]; exact ih 0 a h s
  | _ => intro a h; simp [pureRun] at h

theorem rrun_arun {P : Program} {α : Type} : ∀ (e : Sem α) (s : St) (a : α), rrun P e s = some a → arun P e s = some (a, s) := by
  intro e
  induction e with
  | pure b => intro s a h; simp only [rrun] at h; injection h with h; subst h; rfl
  | load m a k ih =>
    intro s x h
    simp only [rrun] at h
    split at h
    · rename_i v hv; simp only [arun, hv]; exact ih v s x h
    · cases h
  | getObj r k ih =>
    intro s x h
    simp only [rrun] at h
    split at h
    · rename_i es clock hv; simp only [arun, hv]; exact ih _ s x h
    · cases h
  | program k ih => intro s a h; simp only [rrun] at h; simp only [arun]; exact ih P s a h
  | mark m k ih => intro s a h; simp only [rrun] at h; simp only [arun]; exact ih s a h
  | choose q k ih =>
    intro s a h
    simp only [rrun] at h
    cases hq : q.forced with
    | false => rw [hq] at h; cases h
    | true => rw [hq, cond_true] at h; simp only [arun, hq, cond_true]; exact ih 0 s a h
  | _ => intro s a h; simp [rrun] at h

theorem frun_arun {P : Program} {α : Type} (id : Nat) : ∀ (e : Sem α) (x : Blk) (a : α), frun P e id = some (x, a) → ∃ s', arun P e ⟨.nil, id⟩ = some (a, s') := by
  intro e
  induction e with
  | new o k ih =>
    intro x a h
    cases o with
    | cells c e fz =>
      simp only [frun] at h
      cases hz : (Nat.beq fz.1 0 && Nat.beq fz.2 0) with
      | false => rw [hz] at h; cases h
      | true =>
        rw [hz, cond_true] at h
        split at h
        · rename_i y hy
          injection h with h
          injection h with h1 h2
          subst h2
          simp only [arun, hz, cond_true]
          exact ⟨_, pureRun_arun _ _ hy _⟩
        · cases h
    | map es clock =>
      simp only [frun] at h
      split at h
      · rename_i y hes hy
        injection h with h
        injection h with h1 h2
        subst h2
        simp only [arun, hes]
        exact ⟨_, pureRun_arun _ _ hy _⟩
      · cases h
    | _ => simp [frun] at h
  | program k ih => intro x a h; simp only [frun] at h; simp only [arun]; exact ih P x a h
  | mark m k ih => intro x a h; simp only [frun] at h; simp only [arun]; exact ih x a h
  | choose q k ih =>
    intro x a h
    simp only [frun] at h
    cases hq : q.forced with
    | false => rw [hq] at h; cases h
    | true => rw [hq, cond_true] at h; simp only [arun, hq, cond_true]; exact ih 0 x a h
  | _ => intro x a h; simp [frun] at h

/-- What only reads. -/
theorem Rel.peek {P : Program} {α β : Type} {R : Pl → α → β → Prop} {p : Pl} {e : Sem α} {e' : Sem β} (h : Rel P R p e e') :
    ∀ {c : Ctx} {s : St} {w : World} {a : α}, M c p s w → rrun P e s = some a → ∃ b, R p a b ∧ e'.run P w = .ok b w := by
  induction h with
  | @pure p a b h =>
    intro c s w x hm hr
    simp only [rrun] at hr
    injection hr with hr
    subst hr
    exact ⟨b, h, rfl⟩
  | @load p m m' a a' k k' h hk ih =>
    intro c s w x hm hr
    simp only [rrun] at hr
    split at hr
    · rename_i v hv
      obtain ⟨v', h1, h2⟩ := hm.load h hv
      obtain ⟨b, g1, g2⟩ := ih v v' h2 hm hr
      exact ⟨b, g1, by simp only [Sem.run, h1]; exact g2⟩
    · cases hr
  | @getObj p r r' k k' h hk ih =>
    intro c s w x hm hr
    simp only [rrun] at hr
    obtain ⟨sz, es, hp⟩ := h
    split at hr
    · rename_i es clock hg
      obtain ⟨_, r2, sz', o, hp', _, hr', hb⟩ := hm.pres r _ hg
      rw [hp] at hp'
      injection hp' with e1
      have : r' = r2 := congrArg Prod.fst e1
      subst this
      cases hb with
      | @map _ es' _ _ he =>
        obtain ⟨b, g1, g2⟩ := ih (.map es.toArray clock) (.map es' clock) (.map (by simpa using he)) hm hr
        exact ⟨b, g1, by simp only [Sem.run, hr']; exact g2⟩
    · cases hr
  | @choose p q q' k k' h hk ih =>
    intro c s w x hm hr
    simp only [rrun] at hr
    cases hf : q.forced with
    | false => rw [hf] at hr; cases hr
    | true =>
      rw [hf, cond_true] at hr
      obtain ⟨b, g1, g2⟩ := ih hf hm hr
      exact ⟨b, g1, by simp only [Sem.run, h hf, if_true]; exact g2⟩
  | @program p k k' hk ih =>
    intro c s w x hm hr
    simp only [rrun] at hr
    obtain ⟨b, g1, g2⟩ := ih hm hr
    exact ⟨b, g1, by simp only [Sem.run]; exact g2⟩
  | @mark p m m' k k' hk ih =>
    intro c s w x hm hr
    simp only [rrun] at hr
    obtain ⟨b, g1, g2⟩ := ih hm hr
    exact ⟨b, g1, by simp only [Sem.run]; exact g2⟩
  | @bad p e e' h =>
    intro c s w x hm hr
    have := rrun_arun e s x hr
    rw [h s] at this; cases this
  | store | cells | map | str | setObj => intro c s w x hm hr; simp [rrun] at hr

/-- What asks for nothing. -/
theorem Rel.still {P : Program} {α β : Type} {R : Pl → α → β → Prop} {p : Pl} {e : Sem α} {e' : Sem β} (h : Rel P R p e e') :
    ∀ {a : α}, pureRun P e = some a → ∃ b, R p a b ∧ ∀ w, e'.run P w = .ok b w := by
  induction h with
  | @pure p a b h =>
    intro x hr
    simp only [pureRun] at hr
    injection hr with hr
    subst hr
    exact ⟨b, h, fun _ => rfl⟩
  | @choose p q q' k k' h hk ih =>
    intro x hr
    simp only [pureRun] at hr
    cases hf : q.forced with
    | false => rw [hf] at hr; cases hr
    | true =>
      rw [hf, cond_true] at hr
      obtain ⟨b, g1, g2⟩ := ih hf hr
      exact ⟨b, g1, fun w => by simp only [Sem.run, h hf, if_true]; exact g2 w⟩
  | @program p k k' hk ih =>
    intro x hr
    simp only [pureRun] at hr
    obtain ⟨b, g1, g2⟩ := ih hr
    exact ⟨b, g1, fun w => by simp only [Sem.run]; exact g2 w⟩
  | @mark p m m' k k' hk ih =>
    intro x hr
    simp only [pureRun] at hr
    obtain ⟨b, g1, g2⟩ := ih hr
    exact ⟨b, g1, fun w => by simp only [Sem.run]; exact g2 w⟩
  | @bad p e e' h =>
    intro x hr
    have := pureRun_arun e x hr ⟨.nil, 0⟩
    rw [h] at this; cases this
  | load | getObj | store | cells | map | str | setObj => intro x hr; simp [pureRun] at hr

/-- What makes one block. -/
theorem Rel.fresh {P : Program} {α β : Type} {R : Pl → α → β → Prop} {p : Pl} {e : Sem α} {e' : Sem β} (h : Rel P R p e e') :
    ∀ {id : Nat} {x : Blk} {a : α}, frun P e id = some (x, a) → p id = none →
      x.es = 0 ∧ x.olds = [] ∧ x.live = true ∧ ∃ sz o, BR p x sz o ∧ ∀ w : World, ∃ b, R (p.add id w.heap.size sz 0) a b ∧ e'.run P w = .ok b { w with heap := w.heap.push o } := by
  induction h with
  | @cells p c c' e k k' h hk ih =>
    intro id x a hr hp
    simp only [frun] at hr
    have hr : (match pureRun P (k id) with | some a => some (Blk.cells c.toList e 0 [] true, a) | none => none) = some (x, a) := hr
    split at hr
    · rename_i y hy
      injection hr with hr
      injection hr with h1 h2
      subst h1; subst h2
      refine ⟨rfl, rfl, rfl, c'.size, _, h.cellsBR e 0 [] true, fun w => ?_⟩
      obtain ⟨b, g1, g2⟩ := (hk (p.add id w.heap.size c'.size 0) id w.heap.size (Pl.le_add hp) ⟨c'.size, 0, by simp [Pl.add]⟩).still hy
      exact ⟨b, g1, by simp only [Sem.run]; exact g2 _⟩
    · cases hr
  | @map p clock k k' hk ih =>
    intro id x a hr hp
    simp only [frun] at hr
    split at hr
    · rename_i y _ hy
      injection hr with hr
      injection hr with h1 h2
      subst h1; subst h2
      refine ⟨rfl, rfl, rfl, 0, .map #[] clock, .map ⟨rfl, fun i e e' h => by simp at h⟩, fun w => ?_⟩
      obtain ⟨b, g1, g2⟩ := (hk (p.add id w.heap.size 0 0) id w.heap.size (Pl.le_add hp) ⟨0, 0, by simp [Pl.add]⟩).still hy
      exact ⟨b, g1, by simp only [Sem.run]; exact g2 _⟩
    · cases hr
  | @choose p q q' k k' h hk ih =>
    intro id x a hr hp
    simp only [frun] at hr
    cases hf : q.forced with
    | false => rw [hf] at hr; cases hr
    | true =>
      rw [hf, cond_true] at hr
      obtain ⟨g1, g2, g3, sz, o, g4, g5⟩ := ih hf hr hp
      exact ⟨g1, g2, g3, sz, o, g4, fun w => let ⟨b, k1, k2⟩ := g5 w; ⟨b, k1, by simp only [Sem.run, h hf, if_true]; exact k2⟩⟩
  | @program p k k' hk ih =>
    intro id x a hr hp
    simp only [frun] at hr
    obtain ⟨g1, g2, g3, sz, o, g4, g5⟩ := ih hr hp
    exact ⟨g1, g2, g3, sz, o, g4, fun w => let ⟨b, k1, k2⟩ := g5 w; ⟨b, k1, by simp only [Sem.run]; exact k2⟩⟩
  | @mark p m m' k k' hk ih =>
    intro id x a hr hp
    simp only [frun] at hr
    obtain ⟨g1, g2, g3, sz, o, g4, g5⟩ := ih hr hp
    exact ⟨g1, g2, g3, sz, o, g4, fun w => let ⟨b, k1, k2⟩ := g5 w; ⟨b, k1, by simp only [Sem.run]; exact k2⟩⟩
  | @bad p e e' h =>
    intro id x a hr hp
    obtain ⟨s', hs⟩ := frun_arun id e x a hr
    rw [h] at hs; cases hs
  | pure | load | getObj | store | str | setObj => intro id x a hr; simp [frun] at hr

theorem pureRun_bind {P : Program} {α β : Type} (f : α → Sem β) : ∀ (e : Sem α), pureRun P (e.bind f) = (pureRun P e).bind fun a => pureRun P (f a) := by
  intro e
  induction e with
  | pure b => simp [Sem.bind, pureRun]
  | program k ih => simp only [Sem.bind, pureRun, ih]
  | mark m k ih => simp only [Sem.bind, pureRun, ih]
  | choose q k ih => simp only [Sem.bind, pureRun]; cases q.forced <;> simp [ih]
  | _ => simp [Sem.bind, pureRun]

/-! ### Values without addresses -/

theorem flatStep_mono {r r' : Value → Bool} (hr : ∀ v, r v = true → r' v = true) {v : Value} (h : flatStep r v = true) : flatStep r' v = true := by
  have hl : ∀ l : List Value, l.all r = true → l.all r' = true := fun l hl => by
    rw [List.all_eq_true] at hl ⊢
    exact fun x hx => hr x (hl x hx)
  cases v <;> simp only [flatStep] at h ⊢ <;> try exact h
  case func f a c =>
    simp only [Bool.and_eq_true] at h ⊢
    exact ⟨⟨h.1.1, hl _ h.1.2⟩, hl _ h.2⟩
  case iface t v => exact hr _ h
  case agg cs => exact hl _ h
  case tuple cs => exact hl _ h

theorem flatN_mono : ∀ (n : Nat) (v : Value), flatN n v = true → flatN (n + 1) v = true
  | 0, v, h => by simp [flatN] at h
  | n + 1, v, h => flatStep_mono (flatN_mono n) h

theorem flat_cells {v : Value} (h : flat v = true) : ∀ c ∈ v.cells.toList, flat c = true := by
  intro c hc
  cases v <;> first
    | (simp only [Value.cells, List.mem_singleton] at hc; subst hc; exact h)
    | (have h : List.all _ (flatN 4) = true := h
       rw [List.all_eq_true] at h
       exact flatN_mono 4 c (h c hc))

theorem LR.flat {p : Pl} {l : List Value} (h : ∀ v ∈ l, flat v = true) : LR p l l :=
  ⟨rfl, fun i v v' a b => by rw [a] at b; injection b with b; subst b; exact .flat (h v (List.mem_of_getElem? a))⟩

theorem vr_cells {p : Pl} {v v' : Value} (h : VR p v v') : LR p v.cells.toList v'.cells.toList := by
  cases h with
  | flat h => exact .flat (flat_cells h)
  | agg hc h => exact ⟨by simpa [Value.cells] using hc, fun i v v' a b => h i v v' (by simpa [Value.cells] using a) (by simpa [Value.cells] using b)⟩
  | ptr h => exact .cons (.ptr h) (.nil p)
  | slc h hc => exact .cons (.slc h hc) (.nil p)
  | slcK h ho hm hn => exact .cons (.slcK h ho hm hn) (.nil p)
  | map h => exact .cons (.map h) (.nil p)
  | func hf ha hc h1 h2 => exact .cons (.func hf ha hc h1 h2) (.nil p)
  | iface h => exact .cons (.iface h) (.nil p)
  | tuple hc h => exact .cons (.tuple hc h) (.nil p)
  | any => exact .cons .any (.nil p)

theorem vr_size {p : Pl} {v v' : Value} (h : VR p v v') : v'.cells.size = v.cells.size := by
  have := (vr_cells h).1
  simpa using this.symm

theorem VR.aggL {p : Pl} {c c' : Array Value} (h : LR p c.toList c'.toList) : VR p (.agg c) (.agg c') :=
  .agg (by simpa using h.1) fun i v v' a b => h.2 i v v' (by simpa using a) (by simpa using b)

theorem VR.agg_inv {p : Pl} {c : Array Value} {v : Value} (h : VR p (.agg c) v) : ∃ c', v = .agg c' ∧ LR p c.toList c'.toList := by
  have hc := vr_cells h
  cases h with
  | flat _ => exact ⟨c, rfl, hc⟩
  | agg _ _ => exact ⟨_, rfl, hc⟩

theorem AR.add {p : Pl} {a a' : Addr} (h : AR p a a') (n : Nat) : AR p (a.add n) (a'.add n) := by
  cases h with
  | @mk b r sz es off h =>
    unfold Addr.add
    split
    · exact .mk h
    · exact .mk h

theorem AR.addr {p : Pl} {a a' : Addr} (h : AR p a a') : ∃ sz es, p a.block = some (a'.block, sz, es) := by cases h with | mk h => exact ⟨_, _, h⟩

/-- No value that a variable begins with bears an address. -/
def Zeros (P : Program) : Prop := ∀ t i z, P.info? t = some i → i.zero = some z → flat z = true

def EqR {α : Type} (_ : Pl) (a b : α) : Prop := a = b

variable {P : Program} {p : Pl}

theorem rel_typeInfo (t : TypeId) : Rel P (fun _ a b => a = b ∧ P.info? t = some a) p (typeInfo t) (typeInfo t) := by
  refine .program ?_
  show Rel P _ p (match P.info? t with | some i => Sem.pure i | none => stuck "no such type") (match P.info? t with | some i => Sem.pure i | none => stuck "no such type")
  cases h : P.info? t with
  | none => exact .bad fun s => rfl
  | some i => exact .pure ⟨rfl, rfl⟩

theorem rel_underlying (t : TypeId) : Rel P (fun _ a b => a = b ∧ P.underlying t = some a) p (underlying t) (underlying t) := by
  refine .program ?_
  show Rel P _ p (match P.underlying t with | some i => Sem.pure i | none => stuck "no such type") (match P.underlying t with | some i => Sem.pure i | none => stuck "no such type")
  cases h : P.underlying t with
  | none => exact .bad fun s => rfl
  | some i => exact .pure ⟨rfl, rfl⟩

theorem rel_sizeOf (t : TypeId) : Rel P (fun _ a b => a = b ∧ ∃ i, P.info? t = some i ∧ a = i.size) p (sizeOf t) (sizeOf t) :=
  .bind (rel_typeInfo t) fun _ a _ _ h => .pure ⟨by rw [h.1], a, h.2, rfl⟩

theorem rel_zeroValue (hz : Zeros P) (t : TypeId) : Rel P (fun _ a b => a = b ∧ flat a = true) p (zeroValue t) (zeroValue t) := by
  refine .bind (rel_typeInfo t) fun q a b hq h => ?_
  obtain ⟨rfl, h2⟩ := h
  show Rel P _ q (match a.zero with | some v => Sem.pure v | none => unsupported _) (match a.zero with | some v => Sem.pure v | none => unsupported _)
  cases hv : a.zero with
  | none => exact .bad fun s => rfl
  | some v => exact .pure ⟨rfl, hz t a v h2 hv⟩

theorem rel_isAgg (t : TypeId) : Rel P EqR p (isAgg t) (isAgg t) := by
  refine .bind (rel_underlying t) fun q a b hq h => ?_
  obtain ⟨rfl, h2⟩ := h
  cases a <;> exact .pure rfl

theorem rel_load {a a' : Addr} (h : AR p a a') : Rel P VR p (load a) (load a') := .load h fun v v' hv => .pure hv

theorem rel_loadCellsFrom {a a' : Addr} (h : AR p a a') : ∀ (n i : Nat) (acc acc' : Array Value), LR p acc.toList acc'.toList →
    Rel P (fun q x y => LR q x.toList y.toList) p (loadCellsFrom a i n acc) (loadCellsFrom a' i n acc')
  | 0, i, acc, acc', hl => .pure hl
  | n + 1, i, acc, acc', hl => .load (h.add i) fun v v' hv => rel_loadCellsFrom h n (i + 1) _ _ (by
      simp only [Array.toList_push]
      exact hl.append (.cons hv (.nil p)))

theorem rel_loadCells {a a' : Addr} (h : AR p a a') (n : Nat) : Rel P (fun q x y => LR q x.toList y.toList) p (loadCells a n) (loadCells a' n) :=
  rel_loadCellsFrom h n 0 _ _ (.nil p)

theorem rel_storeCells : ∀ (vs vs' : List Value) (p : Pl) (a a' : Addr) (i : Nat), AR p a a' → LR p vs vs' → Rel P (fun _ _ _ => True) p (storeCells a vs i) (storeCells a' vs' i)
  | [], vs', p, a, a', i, h, hl => by rw [hl.nil_inv]; exact .pure trivial
  | v :: vs, vs', p, a, a', i, h, hl => by
    obtain ⟨v', l', rfl, hv, hl'⟩ := hl.cons_inv
    exact .store (h.add i) hv (rel_storeCells vs l' p a a' (i + 1) h hl')

theorem rel_loadVar (t : TypeId) {a a' : Addr} (h : AR p a a') : Rel P VR p (loadVar t a) (loadVar t a') := by
  refine .bind (rel_isAgg t) fun q x y hq hx => ?_
  cases hx
  cases x
  · exact rel_load (h.le hq)
  · refine .bind (rel_sizeOf t) fun q2 n n' hq2 hn => ?_
    obtain ⟨rfl, _⟩ := hn
    exact .bind (rel_loadCells ((h.le hq).le hq2) n) fun q3 c c' hq3 hc => .pure (.aggL hc)

theorem rel_storeVar (t : TypeId) {a a' : Addr} {v v' : Value} (h : AR p a a') (hv : VR p v v') : Rel P (fun _ _ _ => True) p (storeVar t a v) (storeVar t a' v') := by
  refine .bind (rel_sizeOf t) fun q n n' hq hn => ?_
  obtain ⟨rfl, _⟩ := hn
  rw [vr_size hv]
  by_cases hne : v.cells.size ≠ n
  · rw [if_pos hne, if_pos hne]
    exact .bad fun s => rfl
  · rw [if_neg hne, if_neg hne]
    exact rel_storeCells _ _ q _ _ 0 (h.le hq) ((vr_cells hv).le hq)

theorem rel_newRow (e : TypeId) {c c' : Array Value} (h : LR p c.toList c'.toList) : Rel P AR p (newRow e c) (newRow e c') :=
  .cells h fun q r r' hq hr => .pure (by obtain ⟨sz, es, hr⟩ := hr; exact .mk hr)

theorem rel_part (t : TypeId) {c c' : Array Value} (off : Nat) (h : LR p c.toList c'.toList) : Rel P VR p (part t c off) (part t c' off) := by
  refine .bind (rel_isAgg t) fun q x y hq hx => ?_
  cases hx
  cases x
  · show Rel P VR q (match c[off]? with | some v => Sem.pure v | none => stuck _) (match c'[off]? with | some v => Sem.pure v | none => stuck _)
    cases hv : c[off]? with
    | none => exact .bad fun s => rfl
    | some v =>
      obtain ⟨v', h1, h2⟩ := h.get (i := off) (v := v) (by simpa using hv)
      rw [show c'[off]? = some v' by simpa using h1]
      exact .pure (h2.le hq)
  · refine .bind (rel_sizeOf t) fun q2 n n' hq2 hn => ?_
    obtain ⟨rfl, _⟩ := hn
    refine .pure (.aggL ?_)
    have h' := (h.le hq).le hq2
    refine ⟨by simp; rw [show c.size = c'.size by simpa using h'.1], fun i v v' a b => ?_⟩
    rw [Array.toList_extract] at a b
    simp only [List.extract_eq_take_drop] at a b
    rw [List.getElem?_take] at a b
    split at a
    · rename_i hi
      rw [if_pos hi] at b
      rw [List.getElem?_drop] at a b
      exact h'.2 _ _ _ a b
    · cases a

/-! ### The operations -/

def NxR (p : Pl) : Next → Next → Prop
  | .value v, b => ∃ v', b = .value v' ∧ VR p v v'
  | .skip, b => b = .skip
  | .enter f args, b => ∃ args', b = .enter f args' ∧ LR p args.toList args'.toList
  | _, _ => True

theorem rel_v {e e' : Sem Value} (h : Rel P VR p e e') : Rel P NxR p (do pure (.value (← e))) (do pure (.value (← e'))) :=
  .bind h fun q a b hq hv => .pure ⟨b, rfl, hv⟩
theorem rel_u {e e' : Sem Unit} (h : Rel P (fun _ _ _ => True) p e e') : Rel P NxR p (do e; pure .skip) (do e'; pure .skip) :=
  .bind h fun q a b hq hv => .pure rfl

theorem rel_alloc (hz : Zeros P) (t : TypeId) : Rel P VR p (Instr.alloc t true (.tuple #[])) (Instr.alloc t true (.tuple #[])) := by
  refine .bind (rel_zeroValue hz t) fun q a b hq h => ?_
  obtain ⟨rfl, h2⟩ := h
  exact .bind (rel_newRow t (LR.flat (flat_cells h2))) fun q2 x y hq2 hx => .pure (.ptr hx)

theorem rel_box (t : TypeId) {v v' : Value} (h : VR p v v') : Rel P VR p (Instr.box t v) (Instr.box t v') :=
  .bind (rel_newRow t (vr_cells h)) fun q2 x y hq2 hx => .pure (.ptr hx)

theorem rel_sureAddr {v v' : Value} (h : VR p v v') : Rel P AR p (Instr.sureAddr v) (Instr.sureAddr v') := by
  cases h with
  | ptr h => exact .pure h
  | flat h =>
    cases v with
    | pointer a => cases a with
      | none => exact .bad fun s => rfl
      | some a => cases h
    | _ => exact .bad fun s => rfl
  | _ => exact .bad fun s => rfl

theorem rel_loadAt (t : TypeId) {v v' : Value} (h : VR p v v') : Rel P VR p (Instr.loadAt t v) (Instr.loadAt t v') :=
  .bind (rel_sureAddr h) fun q a b hq ha => rel_loadVar t ha

theorem rel_storeAt (t : TypeId) {v v' x x' : Value} (h : VR p v v') (hx : VR p x x') : Rel P (fun _ _ _ => True) p (Instr.storeAt t v x) (Instr.storeAt t v' x') :=
  .bind (rel_sureAddr h) fun q a b hq ha => rel_storeVar t ha (hx.le hq)

end Rn
end Go.Proofs.Ytapidabhdbjnmaa
