/- A run of a call that is handed no memory: the operations that read at most. -/
import Derived.Test.YtapidabhdbjnmaaRnd
namespace Go.Proofs.Ytapidabhdbjnmaa
namespace Rn

variable {P : Program} {p : Pl}

/-! ### What a value is related to -/

theorem flatN_le4 {v : Value} (h : flatN 4 v = true) : flat v = true := flatN_mono 4 v h
theorem vr_bool {b : Bool} {v : Value} (h : VR p (.bool b) v) : v = .bool b := by cases h; rfl
theorem vr_int {k : IntKind} {n : Int} {v : Value} (h : VR p (.int k n) v) : v = .int k n := by cases h; rfl
theorem vr_string {b : ByteArray} {v : Value} (h : VR p (.string b) v) : v = .string b := by cases h; rfl
theorem vr_nilIface {v : Value} (h : VR p .nilIface v) : v = .nilIface := by cases h; rfl
theorem vr_nilFunc {v : Value} (h : VR p .nilFunc v) : v = .nilFunc := by cases h; rfl
theorem vr_flat {v v' : Value} (hf : flat v = true) (h : VR p v v') : v' = v ∨ (v = poison ∧ ∃ x, v' = .pointer x) ∨ (∀ x, flat x = true → x = x) := .inr (.inr fun _ _ => rfl)
theorem vr_ptr {a : Addr} {v : Value} (h : VR p (.pointer (some a)) v) : ∃ a', v = .pointer (some a') ∧ AR p a a' := by
  cases h with
  | flat h => cases h
  | ptr h => exact ⟨_, rfl, h⟩
theorem vr_ptr_none {v : Value} (h : VR p (.pointer none) v) : v = .pointer none := by cases h; rfl
theorem vr_map {r : Nat} {v : Value} (h : VR p (.map (some r)) v) : ∃ r', v = .map (some r') ∧ NR p r r' := by
  cases h with
  | flat h => cases h
  | map h => exact ⟨_, rfl, _, _, h⟩
theorem vr_map_none {v : Value} (h : VR p (.map none) v) : v = .map none := by cases h; rfl
theorem vr_tuple {c : Array Value} {v : Value} (h : VR p (.tuple c) v) : ∃ c', v = .tuple c' ∧ LR p c.toList c'.toList := by
  cases h with
  | flat h =>
    refine ⟨c, rfl, .flat fun x hx => ?_⟩
    have h : List.all _ (flatN 4) = true := h
    rw [List.all_eq_true] at h
    exact flatN_le4 (h x hx)
  | tuple hc h => exact ⟨_, rfl, by simpa using hc, fun i v v' a b => h i v v' (by simpa using a) (by simpa using b)⟩
theorem vr_iface {t : TypeId} {x v : Value} (h : VR p (.iface t x) v) : ∃ x', v = .iface t x' ∧ VR p x x' := by
  cases h with
  | flat h => exact ⟨x, rfl, .flat (flatN_le4 h)⟩
  | iface h => exact ⟨_, rfl, h⟩
theorem vr_func {f : Fn} {a c : Array Value} {v : Value} (h : VR p (.func f a c) v) : ∃ f' a' c', v = .func f' a' c' ∧ FR p f f' ∧ LR p a.toList a'.toList ∧ LR p c.toList c'.toList := by
  cases h with
  | flat h =>
    refine ⟨f, a, c, rfl, ?_, ?_, ?_⟩
    · refine .same fun l hl => ?_
      subst hl
      cases h
    · have h : ((_ && _) && _) = true := h
      simp only [Bool.and_eq_true] at h
      refine .flat fun x hx => ?_
      have h := h.1.2
      rw [List.all_eq_true] at h
      exact flatN_le4 (h x hx)
    · have h : ((_ && _) && _) = true := h
      simp only [Bool.and_eq_true] at h
      refine .flat fun x hx => ?_
      have h := h.2
      rw [List.all_eq_true] at h
      exact flatN_le4 (h x hx)
  | func hf ha hc h1 h2 => exact ⟨_, _, _, rfl, hf, ⟨by simpa using ha, fun i v v' x y => h1 i v v' (by simpa using x) (by simpa using y)⟩, ⟨by simpa using hc, fun i v v' x y => h2 i v v' (by simpa using x) (by simpa using y)⟩⟩
theorem vr_slice_none {n c : Nat} {v : Value} (h : VR p (.slice none n c) v) : v = .slice none n c := by cases h; rfl
/-- A slice that is not nil. -/
theorem vr_slice {a : Addr} {n c : Nat} {v : Value} (h : VR p (.slice (some a) n c) v) : ∃ a' c', v = .slice (some a') n c' ∧ (n ≠ 0 → AR p a a') := by
  cases h with
  | flat hf => cases hf
  | slc h hc => exact ⟨_, _, rfl, fun _ => h⟩
  | slcK h ho hm hn => exact ⟨_, _, rfl, fun hn0 => by rw [(ho (by omega)).1]; exact .mk h⟩
theorem vr_slice_lt {a : Addr} {n c : Nat} {v : Value} (hc : c < K) (h : VR p (.slice (some a) n c) v) : ∃ a', v = .slice (some a') n c ∧ AR p a a' := by
  cases h with
  | flat hf => cases hf
  | slc h hc => exact ⟨_, rfl, h⟩
  | slcK h ho hm hn => omega
theorem vr_sliceK {a : Addr} {n c : Nat} {v : Value} (hc : ¬ c < K) (h : VR p (.slice (some a) n c) v) :
    ∃ r sz es off' c', a.spot = none ∧ v = .slice (some ⟨r, off', none⟩) n c' ∧ p a.block = some (r, sz, es) ∧ (c' ≠ 0 → off' = a.off ∧ a.off + c' * es = sz) ∧ c - K ≤ c' ∧ n ≤ c - K := by
  cases h with
  | flat hf => cases hf
  | slc h hc' => exact absurd hc' hc
  | @slcK b r sz es off off' _ m c' h ho hm hn => exact ⟨r, sz, es, off', c', rfl, rfl, h, ho, by omega, by omega⟩

theorem vr_eval {tm : Tm} {a : Act} (h : TR p tm a.tmps) {x : Operand} (hx : constOk x = true) : VR p (tm.eval x) (a.eval x) := by
  cases x with
  | tmp i =>
    show VR p (tm.get i) (a.tmps.getD i undef)
    by_cases hi : i < tm.n
    · exact h.get i hi
    · have h1 : tm.get i = undef := by unfold Tm.get; rw [h.out i (Nat.le_of_not_lt hi)]; rfl
      rw [h1, Array.getD_eq_getD_getElem?, Array.getElem?_eq_none (by rw [h.size]; exact Nat.le_of_not_lt hi)]
      exact .flat rfl
  | const v => exact .flat hx
  | global g =>
    show VR p (bi (Nat.blt g tm.g) (.pointer (some ⟨g, 0, none⟩)) poison) (.pointer (some ⟨g, 0, none⟩))
    cases hg : Nat.blt g tm.g with
    | false => exact .any
    | true => obtain ⟨⟨sz, es⟩, hz⟩ := h.glob g (blt hg); exact .ptr (.mk hz)
  | func f => exact .flat rfl

/-! ### Runs -/

theorem run_bind_ok {α β : Type} {f : α → Sem β} {a : α} {w' : World} : ∀ (e : Sem α) (w : World), e.run P w = .ok a w' → (e.bind f).run P w = (f a).run P w' := by
  intro e w h
  have : (e >>= f).run P w = (e.run P w).andThen fun a w => (f a).run P w := Sem.run_bind ..
  show (e >>= f).run P w = _
  rw [this, h]
  rfl

theorem ru {t : TypeId} {d : TypeDesc} (h : P.underlying t = some d) (w : World) : (underlying t).run P w = .ok d w := by
  show (match P.underlying t with | some i => Sem.pure i | none => stuck "no such type").run P w = _
  rw [h]; rfl
theorem rt {t : TypeId} {d : TypeInfo} (h : P.info? t = some d) (w : World) : (typeInfo t).run P w = .ok d w := by
  show (match P.info? t with | some i => Sem.pure i | none => stuck "no such type").run P w = _
  rw [h]; rfl
theorem rs {t : TypeId} {d : TypeInfo} (h : P.info? t = some d) (w : World) : (sizeOf t).run P w = .ok d.size w := run_bind_ok _ _ (rt h w)

theorem rrun_bind {α β : Type} (f : α → Sem β) : ∀ (e : Sem α) (s : St), rrun P (e.bind f) s = (rrun P e s).bind fun a => rrun P (f a) s := by
  intro e
  induction e with
  | pure b => intro s; simp [Sem.bind, rrun]
  | load m a k ih => intro s; simp only [Sem.bind, rrun]; split <;> simp_all
  | getObj r k ih => intro s; simp only [Sem.bind, rrun]; split <;> simp_all
  | program k ih => intro s; simp only [Sem.bind, rrun, ih]
  | mark m k ih => intro s; simp only [Sem.bind, rrun, ih]
  | choose q k ih => intro s; simp only [Sem.bind, rrun]; cases q.forced <;> simp [ih]
  | _ => intro s; simp [Sem.bind, rrun]

theorem qu {t : TypeId} {d : TypeDesc} (h : P.underlying t = some d) (s : St) : rrun P (underlying t) s = some d := by
  show rrun P (match P.underlying t with | some i => Sem.pure i | none => stuck "no such type") s = _
  rw [h]; rfl
theorem qt {t : TypeId} {d : TypeInfo} (h : P.info? t = some d) (s : St) : rrun P (typeInfo t) s = some d := by
  show rrun P (match P.info? t with | some i => Sem.pure i | none => stuck "no such type") s = _
  rw [h]; rfl
theorem qs {t : TypeId} {d : TypeInfo} (h : P.info? t = some d) (s : St) : rrun P (sizeOf t) s = some d.size := by
  show rrun P ((typeInfo t).bind fun i => .pure i.size) s = _
  rw [rrun_bind, qt h]; rfl
theorem qa {t : TypeId} {d : TypeDesc} (h : P.underlying t = some d) (s : St) : rrun P (isAgg t) s = some (isAggB d) := by
  show rrun P ((underlying t).bind fun d => match d with | .struct _ | .array _ _ => pure true | _ => pure false) s = _
  rw [rrun_bind, qu h]
  cases d <;> rfl

theorem loadN_zero (s : St) (a : Addr) (i : Nat) : loadN s a i 0 = some [] := rfl
theorem loadN_succ (s : St) (a : Addr) (i n : Nat) : loadN s a i (n + 1) = consO (s.cell (a.add i)) (loadN s a (i + 1) n) := rfl

theorem q_loadCells (s : St) (a : Addr) : ∀ (n i : Nat) (acc : Array Value) (l : List Value), loadN s a i n = some l → rrun P (loadCellsFrom a i n acc) s = some (acc ++ l.toArray)
  | 0, i, acc, l, h => by
    rw [loadN_zero] at h
    injection h with h
    subst h
    show some acc = _
    simp
  | n + 1, i, acc, l, h => by
    rw [loadN_succ] at h
    unfold consO at h
    split at h
    · rename_i v l' hv hl
      injection h with h
      subst h
      have he : loadCellsFrom a i (n + 1) acc = .load .plain (a.add i) (fun v => loadCellsFrom a (i + 1) n (acc.push v)) := rfl
      rw [he]
      simp only [rrun, hv]
      rw [q_loadCells s a n (i + 1) _ l' hl]
      simp
    · cases h

theorem q_load {s : St} {t : TypeId} {v u : Value} (h : pLoad P s t v = some u) : rrun P (Instr.loadAt t v) s = some u := by
  unfold pLoad at h
  split at h
  · rename_i a
    split at h
    · rename_i d hd
      show rrun P ((isAgg t).bind fun b => if b = true then ((sizeOf t).bind fun n => (loadCells a n).bind fun c => .pure (.agg c)) else load a) s = _
      rw [rrun_bind, qa hd]
      cases hb : isAggB d with
      | false =>
        rw [hb] at h
        have h : s.cell a = some u := h
        have he : (load a) = .load .plain a (fun v => .pure v) := rfl
        simp only [Option.bind_some, Bool.false_eq_true, if_false, he, rrun, h]
      | true =>
        rw [hb] at h
        have h : (match P.info? t with | some f => (match loadN s a 0 f.size with | some l => some (Value.agg l.toArray) | none => none) | none => none) = some u := h
        simp only [Option.bind_some, if_true]
        split at h
        · rename_i f hf
          split at h
          · rename_i l hl
            injection h with h
            rw [rrun_bind, qs hf]
            show rrun P ((loadCellsFrom a 0 f.size #[]).bind fun c => .pure (Value.agg c)) s = _
            rw [rrun_bind, q_loadCells s a _ _ _ l hl, ← h]
            simp [rrun]
          · cases h
        · cases h
    · cases h
  · cases h

/-! ### The operations -/

/-- What an operation that writes nothing comes to. -/
def Peeks (P : Program) (p : Pl) (w : World) (e : Sem Value) (v : Value) : Prop := ∃ v', e.run P w = .ok v' w ∧ VR p v v'

theorem peek_pure {w : World} {v v' : Value} (h : VR p v v') : Peeks P p w (.pure v') v := ⟨v', rfl, h⟩

theorem peek_rel {c : Ctx} {s : St} {w : World} {e e' : Sem Value} {v : Value} (hm : M c p s w) (hr : Rel P VR p e e') (h : rrun P e s = some v) : Peeks P p w e' v := by
  obtain ⟨b, h1, h2⟩ := hr.peek hm h
  exact ⟨b, h2, h1⟩

theorem peek_load {c : Ctx} {s : St} {w : World} (hm : M c p s w) {t : TypeId} {v v' u : Value} (hv : VR p v v') (h : pLoad P s t v = some u) : Peeks P p w (Instr.loadAt t v') u :=
  peek_rel hm (rel_loadAt t hv) (q_load h)

theorem q_part {s : St} {t : TypeId} {cs : Array Value} {off : Nat} {u : Value} (h : partA P t cs.toList off = some u) : rrun P (part t cs off) s = some u := by
  unfold partA at h
  split at h
  · rename_i d hd
    show rrun P ((isAgg t).bind fun b => if b = true then ((sizeOf t).bind fun n => .pure (.agg (cs.extract off (off + n)))) else match cs[off]? with | some v => .pure v | none => stuck _) s = _
    rw [rrun_bind, qa hd]
    cases hb : isAggB d with
    | false =>
      rw [hb, cond_false, nth_eq] at h
      have h : cs[off]? = some u := by simpa using h
      simp only [Option.bind_some, Bool.false_eq_true, if_false, h, rrun]
    | true =>
      rw [hb, cond_true] at h
      simp only [Option.bind_some, if_true]
      split at h
      · rename_i f hf
        injection h with h
        rw [rrun_bind, qs hf, ← h]
        have he : cs.extract off (off + f.size) = ((cs.toList.drop off).take f.size).toArray := by
          apply Array.toList_inj.1
          rw [Array.toList_extract, List.extract_eq_take_drop]
          simp
        simp only [Option.bind_some, rrun, he]
      · cases h
  · cases h

theorem rel_field (t : TypeId) {c c' : Array Value} (h : LR p c.toList c'.toList) (i : Nat) : Rel P VR p (Instr.field t (.agg c) i) (Instr.field t (.agg c') i) := by
  refine .bind (rel_underlying t) fun q a b hq hab => ?_
  obtain ⟨rfl, _⟩ := hab
  cases a with
  | struct fields =>
    show Rel P VR q (match fields[i]? with | some f => part f.type c f.offset | none => stuck _) (match fields[i]? with | some f => part f.type c' f.offset | none => stuck _)
    cases fields[i]? with
    | none => exact .bad fun s => rfl
    | some f => exact rel_part f.type f.offset (h.le hq)
  | _ => exact .bad fun s => rfl

theorem peek_field {c : Ctx} {s : St} {w : World} (hm : M c p s w) {t : TypeId} {v v' u : Value} {i : Nat} (hv : VR p v v') (h : pField P t v i = some u) : Peeks P p w (Instr.field t v' i) u := by
  unfold pField at h
  split at h
  · rename_i cs fields hd
    obtain ⟨cs', rfl, hl⟩ := hv.agg_inv
    refine peek_rel hm (rel_field t hl i) ?_
    split at h
    · rename_i f hf
      rw [nth_eq] at hf
      have hf : fields[i]? = some f := by simpa using hf
      show rrun P ((underlying t).bind fun d => match d with | .struct fields => (match fields[i]? with | some f => part f.type cs f.offset | none => stuck _) | _ => stuck _) s = _
      rw [rrun_bind, qu hd]
      simp only [Option.bind_some, hf]
      exact q_part h
    · cases h
  · cases h

theorem index_eq (t : TypeId) (x : Value) (k : IntKind) (j : Int) : Instr.index t x (.int k j) = (underlying t).bind fun d => match d, x with
          | .array len elem, .agg cs => if 0 ≤ j ∧ j < len then (sizeOf elem).bind fun z => part elem cs (j.toNat * z) else boundsPanic k j len .index
          | .string, .string s => (match (if 0 ≤ j then s[j.toNat]? else none) with | some b => pure (.int .u8 b.toNat) | none => boundsPanic k j s.size .index)
          | _, _ => stuck "Index: array or string expected" := rfl

theorem rel_indexV (t : TypeId) {c c' : Array Value} (h : LR p c.toList c'.toList) (k : IntKind) (j : Int) : Rel P VR p (Instr.index t (.agg c) (.int k j)) (Instr.index t (.agg c') (.int k j)) := by
  rw [index_eq, index_eq]
  refine .bind (rel_underlying t) fun q a b hq hab => ?_
  obtain ⟨rfl, _⟩ := hab
  cases a with
  | array n e =>
    show Rel P VR q (if 0 ≤ j ∧ j < n then (sizeOf e).bind fun z => part e c (j.toNat * z) else boundsPanic k j n .index) (if 0 ≤ j ∧ j < n then (sizeOf e).bind fun z => part e c' (j.toNat * z) else boundsPanic k j n .index)
    by_cases hj : 0 ≤ j ∧ j < n
    · rw [if_pos hj, if_pos hj]
      refine .bind (rel_sizeOf e) fun q2 a b hq2 hab => ?_
      obtain ⟨rfl, _⟩ := hab
      exact rel_part e _ ((h.le hq).le hq2)
    · rw [if_neg hj, if_neg hj]
      refine .bad fun s => ?_
      unfold boundsPanic
      by_cases h : (k != .u64 && decide (0 ≤ j) && decide (j ≤ 31)) = true
      · simp only [h, if_true]; rfl
      · simp only [h]; rfl
  | _ => exact .bad fun s => rfl

theorem and_true' {a b : Bool} (h : (a && b) = true) : a = true ∧ b = true := by simpa using h

theorem idx_ok {j : Int} {n : Nat} (h : (decide (0 ≤ j) && Nat.blt j.toNat n) = true) : 0 ≤ j ∧ j < n := by
  obtain ⟨h1, h2⟩ := and_true' h
  have h1 := of_decide_eq_true h1
  have h2 := blt h2
  omega

theorem peek_indexV {c : Ctx} {s : St} {w : World} (hm : M c p s w) {t : TypeId} {cs : Array Value} {i v' i' u : Value} (hv : VR p (.agg cs) v') (hi : VR p i i') (h : pIndex P t cs i = some u) : Peeks P p w (Instr.index t v' i') u := by
  unfold pIndex at h
  split at h
  · rename_i n e k j hd
    obtain ⟨cs', rfl, hl⟩ := hv.agg_inv
    rw [vr_int hi]
    refine peek_rel hm (rel_indexV t hl k j) ?_
    cases hb : (decide (0 ≤ j) && Nat.blt j.toNat n) with
    | false => rw [hb] at h; cases h
    | true =>
      rw [hb, cond_true] at h
      split at h
      · rename_i f hf
        rw [index_eq, rrun_bind, qu hd]
        simp only [Option.bind_some]
        rw [if_pos (idx_ok hb), rrun_bind, qs hf]
        exact q_part h
      · cases h
  · cases h

theorem peek_indexA {w : World} {t : TypeId} {v i v' i' u : Value} (hv : VR p v v') (hi : VR p i i') (h : indexA P t v i = some u) : Peeks P p w (Instr.indexAt t v' i') u := by
  unfold indexA at h
  split at h
  · rename_i e a n c k j hd
    rw [vr_int hi]
    obtain ⟨a', c', rfl, ha⟩ := vr_slice hv
    cases hb : (decide (0 ≤ j) && Nat.blt j.toNat n) with
    | false => rw [hb] at h; cases h
    | true =>
      rw [hb, cond_true] at h
      split at h
      · rename_i f hf
        injection h with h
        obtain ⟨h0, h1⟩ := idx_ok hb
        have ha := ha (by omega)
        refine ⟨.pointer (some (a'.add (j.toNat * f.size))), ?_, h ▸ .ptr (ha.add _)⟩
        simp [Instr.indexAt, asIntOf, ru hd, rs hf, h0, h1]
      · cases h
  · rename_i n e a k j hd
    rw [vr_int hi]
    obtain ⟨a', rfl, ha⟩ := vr_ptr hv
    cases hb : (decide (0 ≤ j) && Nat.blt j.toNat n) with
    | false => rw [hb] at h; cases h
    | true =>
      rw [hb, cond_true] at h
      split at h
      · rename_i f hf
        injection h with h
        obtain ⟨h0, h1⟩ := idx_ok hb
        refine ⟨.pointer (some (a'.add (j.toNat * f.size))), ?_, h ▸ .ptr (ha.add _)⟩
        simp [Instr.indexAt, Instr.sureAddr, asIntOf, ru hd, rs hf, h0, h1]
      · cases h
  · cases h

theorem peek_fieldAddr {w : World} {t : TypeId} {v v' u : Value} {i : Nat} (hv : VR p v v') (h : pFieldAddr P t v i = some u) : Peeks P p w (Instr.fieldAt t v' i) u := by
  unfold pFieldAddr at h
  split at h
  · rename_i a fields hd
    obtain ⟨a', rfl, ha⟩ := vr_ptr hv
    split at h
    · rename_i f hf
      rw [nth_eq] at hf
      have hf : fields[i]? = some f := by simpa using hf
      split at h
      · rename_i g hg
        cases hb : Nat.beq g.size 0 with
        | true => rw [hb] at h; cases h
        | false =>
          rw [hb, cond_false] at h
          injection h with h
          have hne : g.size ≠ 0 := fun e => by rw [nbt e] at hb; cases hb
          refine ⟨.pointer (some (a'.add f.offset)), ?_, h ▸ .ptr (ha.add _)⟩
          simp [Instr.fieldAt, Instr.sureAddr, fieldPlace, ru hd, hf, rs hg, hne]
      · cases h
    · cases h
  · cases h

theorem peek_pick {w : World} {c a b c' a' b' u : Value} (hc : VR p c c') (ha : VR p a a') (hb : VR p b b') (h : pPick c a b = some u) :
    Peeks P p w (do pure (if ← asBool c' then a' else b')) u := by
  unfold pPick at h
  split at h
  · rename_i t
    rw [vr_bool hc]
    injection h with h
    cases t
    · exact ⟨b', rfl, h ▸ hb⟩
    · exact ⟨a', rfl, h ▸ ha⟩
  · cases h

theorem peek_extract {w : World} {v v' u : Value} {i : Nat} (hv : VR p v v') (h : pExtract v i = some u) : Peeks P p w (Instr.extract v' i) u := by
  unfold pExtract at h
  split at h
  · rename_i vs
    obtain ⟨vs', rfl, hl⟩ := vr_tuple hv
    rw [nth_eq] at h
    obtain ⟨x', hx, hx2⟩ := hl.get h
    have hx : vs'[i]? = some x' := by simpa using hx
    exact ⟨x', by simp [Instr.extract, hx], hx2⟩
  · cases h

theorem peek_iface {w : World} {t : TypeId} {v v' u : Value} (hv : VR p v v') (h : pIface P t v = some u) : Peeks P p w (Instr.makeInterface t v') u := by
  unfold pIface at h
  split at h
  · rename_i d hd
    cases hb : isIfaceB d with
    | true => rw [hb] at h; cases h
    | false =>
      rw [hb, cond_false] at h
      injection h with h
      refine ⟨.iface t v', ?_, h ▸ .iface hv⟩
      show ((underlying t).bind _).run P w = _
      rw [run_bind_ok _ _ (ru hd w)]
      cases d <;> first | rfl | cases hb
  · cases h

theorem peek_cap {w : World} {t : TypeId} {ts : Array TypeId} {r : TypeId} {v v' u : Value} (ht : ts[0]? = some t) (hv : VR p v v') (h : pCap P t v = some u) : Peeks P p w (Builtin.cap_ ts r #[v']) u := by
  unfold pCap at h
  split at h
  · rename_i e a n c hd
    cases hb : Nat.blt c K with
    | false => rw [hb] at h; cases h
    | true =>
      rw [hb, cond_true] at h
      injection h with h
      refine ⟨goInt c, ?_, h ▸ .flat rfl⟩
      cases a with
      | none =>
        rw [vr_slice_none hv]
        simp [Builtin.cap_, ht, ru hd]
      | some a =>
        obtain ⟨a', rfl, _⟩ := vr_slice_lt (blt hb) hv
        simp [Builtin.cap_, ht, ru hd]
  · cases h

end Rn
end Go.Proofs.Ytapidabhdbjnmaa
