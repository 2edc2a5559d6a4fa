/- A run of a call that is handed no memory: stores, copies, appends. -/
import Derived.Test.YtapidabhdbjnmaaRnj
namespace Go.Proofs.Ytapidabhdbjnmaa
namespace Rn

variable {P : Program} {p : Pl} {c : Ctx} {s s' : St} {w : World}

theorem run_store {α : Type} {m : Mode} {a : Addr} {v u : Value} {k : Sem α} (h1 : w.cell? a = some u) (h2 : w.frozen? a = false) (h3 : oneCellB v = true) : (Sem.store m a v k).run P w = k.run P (w.setCell a v) := by
  cases v <;> first | (cases h3; done) | simp only [Sem.run, h1, h2, Bool.false_eq_true, if_false]

theorem storeN_nil (s : St) (a : Addr) (i : Nat) : storeN s a [] i = some s := rfl
theorem storeN_cons (s : St) (a : Addr) (v : Value) (l : List Value) (i : Nat) : storeN s a (v :: l) i = bi (oneCellB v) (storeK (s.setCell (a.add i) v) fun s' => storeN s' a l (i + 1)) none := rfl

theorem storeN_ok : ∀ (l l' : List Value) (s s' : St) (w : World) (a a' : Addr) (i : Nat), M c p s w → AR p a a' → LR p l l' → storeN s a l i = some s' →
    ∃ w', (storeCells a' l' i).run P w = .ok () w' ∧ M c p s' w' ∧ s'.next = s.next
  | [], l', s, s', w, a, a', i, hm, ha, hl, h => by
    rw [hl.nil_inv]
    rw [storeN_nil] at h
    injection h with h
    subst h
    exact ⟨w, rfl, hm, rfl⟩
  | v :: l, l', s, s', w, a, a', i, hm, ha, hl, h => by
    obtain ⟨v', m, rfl, hv, hl⟩ := hl.cons_inv
    rw [storeN_cons] at h
    cases h1 : oneCellB v with
    | false => rw [h1] at h; cases h
    | true =>
      rw [h1, bi_true] at h
      unfold storeK at h
      split at h
      · rename_i s1 hs
        obtain ⟨u, g1, g2, g3, g4⟩ := hm.store (ha.add i) hv hs
        obtain ⟨w', k1, k2, k3⟩ := storeN_ok l m s1 s' _ a a' (i + 1) g3 ha hl h
        refine ⟨w', ?_, k2, k3.trans g4⟩
        show (Sem.store .plain (a'.add i) v' (storeCells a' m (i + 1))).run P w = _
        rw [run_store g1 g2 (by rw [vr_oneCell hv]; exact h1)]
        exact k1
      · cases h

/-- What an operation that may write comes to. -/
def Acts (P : Program) (c : Ctx) (p : Pl) (w : World) (e : Sem Next) : Nx → St → Prop
  | .value v, s' => ∃ q w' nx, p.le q ∧ e.run P w = .ok nx w' ∧ M c q s' w' ∧ ((∃ v', nx = .value v' ∧ VR q v v') ∨ (nx = .skip ∧ v = undef))
  | .enter f args, s' => ∃ args', e.run P w = .ok (.enter f args') w ∧ LR p args args'.toList ∧ M c p s' w
  | .yield l args, s' => ∃ l' args', e = Instr.yield l' args' ∧ NR p l l' ∧ LR p args args'.toList ∧ M c p s' w

theorem acts_unit {e : Sem Unit} {q : Pl} {w' : World} {s' : St} (hq : p.le q) (h : e.run P w = .ok () w') (hm : M c q s' w') : Acts P c p w (do e; pure .skip) (.value undef) s' := by
  refine ⟨q, w', .skip, hq, ?_, hm, .inr ⟨rfl, rfl⟩⟩
  show (e.bind fun _ => Sem.pure Next.skip).run P w = _
  rw [run_bind_ok _ _ h]; rfl

theorem acts_value {e : Sem Value} {q : Pl} {w' : World} {s' : St} {v v' : Value} (hq : p.le q) (h : e.run P w = .ok v' w') (hm : M c q s' w') (hv : VR q v v') : Acts P c p w (do pure (.value (← e))) (.value v) s' := by
  refine ⟨q, w', .value v', hq, ?_, hm, .inl ⟨v', rfl, hv⟩⟩
  show (e.bind fun v => Sem.pure (Next.value v)).run P w = _
  rw [run_bind_ok _ _ h]; rfl

theorem act_store (hm : M c p s w) {t : TypeId} {a a' x x' : Value} {nx : Nx} (ha : VR p a a') (hx : VR p x x') (h : storeA P t a x s = some (nx, s')) :
    Acts P c p w (do Instr.storeAt t a' x'; pure .skip) nx s' := by
  unfold storeA at h
  split at h
  · rename_i b f hf
    obtain ⟨b', rfl, hb⟩ := vr_ptr ha
    simp only at h
    cases hl : Nat.beq x.cells.toList.length f.size with
    | false => rw [hl] at h; cases h
    | true =>
      rw [hl, cond_true] at h
      split at h
      · rename_i s1 hs
        injection h with h
        injection h with h1 h2
        subst h1; subst h2
        obtain ⟨w', g1, g2, _⟩ := storeN_ok (P := P) _ _ s s1 w b b' 0 hm hb (vr_cells hx) hs
        refine acts_unit p.le_refl (w' := w') ?_ g2
        have hsz : x'.cells.size = f.size := by rw [vr_size hx]; simpa using nb hl
        show ((Instr.sureAddr (.pointer (some b'))).bind fun a => storeVar t a x').run P w = _
        show (storeVar t b' x').run P w = _
        simp [storeVar, rs hf, hsz, g1]
      · cases h
  · cases h

theorem keepR_set {p : Pl} {l l' : List MapEntry} (h : ER p l l') {i : Nat} {e e' : MapEntry} (h1 : VR p e.key e'.key) (h2 : VR p e.val e'.val) (h3 : e.born = e'.born) : ER p (l.set i e) (l'.set i e') := by
  refine ⟨by simp [h.1], fun j x x' a b => ?_⟩
  rw [List.getElem?_set] at a b
  by_cases hij : i = j
  · subst hij
    rw [if_pos rfl] at a b
    split at a <;> split at b <;> simp_all
  · rw [if_neg hij] at a b
    exact h.2 j x x' a b

theorem ER.append {p : Pl} {a a' b b' : List MapEntry} (h : ER p a a') (k : ER p b b') : ER p (a ++ b) (a' ++ b') := by
  induction a generalizing a' with
  | nil => rw [h.nil_inv]; exact k
  | cons v l ih =>
    obtain ⟨v', l', rfl, h1, h2, h3, hl⟩ := h.cons_inv
    have := ih hl
    refine ⟨by simp [this.1], fun i e e' x y => ?_⟩
    cases i with
    | zero => simp at x y; subst x; subst y; exact ⟨h1, h2, h3⟩
    | succ i => exact this.2 i e e' (by simpa using x) (by simpa using y)

theorem act_update (hm : M c p s w) {t : TypeId} {m k x m' k' x' : Value} {nx : Nx} (hv : VR p m m') (hk : VR p k k') (hx : VR p x x') (h : updateOp P t m k x s = some (nx, s')) :
    Acts P c p w (do Instr.mapUpdate t m' k' x'; pure .skip) nx s' := by
  unfold updateOp at h
  split at h
  · rename_i s1 hu
    injection h with h
    injection h with e1 e2
    subst e1; subst e2
    unfold updateA at hu
    split at hu
    · rename_i kt et r hd
      obtain ⟨r', rfl, hr⟩ := vr_map hv
      split at hu
      · rename_i es clock hg
        cases hkf : (keysFlat es && flat k) with
        | false => rw [hkf] at hu; cases hu
        | true =>
          rw [hkf, cond_true] at hu
          obtain ⟨h1, h2⟩ := and_true' hkf
          have hke : k' = k := vr_eq hk h2
          subst hke
          obtain ⟨es', hw, he⟩ := get_map hm hr hg
          obtain ⟨sz, k0, hp⟩ := hr
          have hset : ∀ es2 : Array MapEntry, ∀ l2 clock2, ER p l2 es2.toList → M c p (s.put r (some (.map l2 clock2))) { w with heap := w.heap.setIfInBounds r' (.map es2 clock2) } := fun es2 l2 clock2 h2 =>
            hm.setObj (y := .map l2 clock2) hg rfl rfl rfl rfl rfl ⟨_, hp⟩ fun _ => .map h2
          have hrun : ∀ o, (Go.setObj r' o).run P w = .ok () { w with heap := w.heap.setIfInBounds r' o } := fun o => by simp only [Go.setObj, Sem.run, hw]
          split at hu
          · rename_i a i hc hf
            obtain ⟨_, f2⟩ := find_ok (P := P) he h1 hf
            obtain ⟨e, e', q1, q2, q3, q4, q5, q6⟩ := f2 i rfl
            rw [nth_eq, q1] at hu
            simp only at hu
            split at hu
            · rename_i k2 hk2
              injection hu with hu
              subst hu
              have hkey : e'.key = e.key := vr_eq q3 (by unfold keysFlat at h1; rw [List.all_eq_true] at h1; exact h1 e (List.mem_of_getElem? q1))
              refine acts_unit p.le_refl (w' := { w with heap := w.heap.setIfInBounds r' (.map (es'.modify i fun e => { e with key := k2, val := x' }) clock) }) ?_ ?_
              · have q2' : es'[i]? = some e' := by simpa using q2
                simp [Instr.mapUpdate, ru hd, run_getMap hw, pureRun_run _ _ hc w, q6 w, q2', hkey, pureRun_run _ _ hk2 w, hrun]
              · refine hset _ _ _ ?_
                rw [setAt_eq]
                have hmod : (es'.modify i fun e => { e with key := k2, val := x' }).toList = es'.toList.set i { e' with key := k2, val := x' } := by
                  rw [Array.toList_modify]
                  apply List.ext_getElem?
                  intro j
                  rw [List.getElem?_modify, List.getElem?_set]
                  by_cases hij : i = j
                  · subst hij
                    have hlt : i < es'.toList.length := by
                      rcases Nat.lt_or_ge i es'.toList.length with h | h
                      · exact h
                      · rw [List.getElem?_eq_none h] at q2; cases q2
                    rw [if_pos rfl, if_pos hlt, q2]
                    simp
                  · rw [if_neg hij]
                    simp [hij]
                rw [hmod]
                refine keepR_set he ?_ hx q5
                have : k2 = e.key ∨ k2 = k' := by
                  have : pureRun P (Instr.keyThatStays e.key k') = some k2 := hk2
                  unfold Instr.keyThatStays at this
                  split at this
                  · injection this with this; exact .inr this.symm
                  · cases this
                rcases this with e0 | e0
                · rw [e0]; exact .flat (by unfold keysFlat at h1; rw [List.all_eq_true] at h1; exact h1 e (List.mem_of_getElem? q1))
                · rw [e0]; exact .flat h2
            · cases hu
          · rename_i a hc hf
            obtain ⟨f1, _⟩ := find_ok (P := P) he h1 hf
            injection hu with hu
            subst hu
            refine acts_unit p.le_refl (w' := { w with heap := w.heap.setIfInBounds r' (.map (es'.push { key := k', val := x', born := clock }) (clock + 1)) }) ?_ ?_
            · simp [Instr.mapUpdate, ru hd, run_getMap hw, pureRun_run _ _ hc w, f1 rfl w, hrun]
            · refine hset _ _ _ ?_
              rw [Array.toList_push]
              exact he.append ⟨rfl, fun i e e' x y => by
                cases i with
                | zero => simp at x y; subst x; subst y; exact ⟨.flat h2, hx, rfl⟩
                | succ i => simp at x⟩
          · cases hu
      · cases hu
    · cases hu
  · cases h

end Rn
end Go.Proofs.Ytapidabhdbjnmaa
