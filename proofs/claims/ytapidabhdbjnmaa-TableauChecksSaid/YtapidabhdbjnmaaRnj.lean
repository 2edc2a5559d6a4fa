/- A run of a call that is handed no memory: the operations that make one block. -/
import Derived.Test.YtapidabhdbjnmaaRni
namespace Go.Proofs.Ytapidabhdbjnmaa
namespace Rn

variable {P : Program} {p : Pl}

/-- What an operation that makes one block comes to. -/
def Makes (P : Program) (p : Pl) (id : Nat) (x : Blk) (v : Value) (e : Sem Value) : Prop :=
  x.es = 0 ∧ x.olds = [] ∧ x.live = true ∧ ∃ sz o, BR p x sz o ∧ ∀ w : World, ∃ v', VR (p.add id w.heap.size sz 0) v v' ∧ e.run P w = .ok v' { w with heap := w.heap.push o }

theorem rel_asInt {v v' : Value} (h : VR p v v') : Rel P EqR p (asInt v) (asInt v') := by
  cases v with
  | int k n => rw [vr_int h]; exact .pure rfl
  | pointer a => cases a <;> exact .bad fun s => rfl
  | _ => exact .bad fun s => rfl

theorem rel_makeMap (t : TypeId) {r r' : Option Value} (h : OptR p r r') : Rel P VR p (Instr.makeMap t r) (Instr.makeMap t r') := by
  have hnew : ∀ q, Rel P VR q ((newObj (.map #[] 0)).bind fun r => Sem.pure (Value.map (some r))) ((newObj (.map #[] 0)).bind fun r => Sem.pure (Value.map (some r))) := fun q =>
    .map fun q r r' hq hr => .pure (let ⟨_, _, h⟩ := hr; .map h)
  cases r with
  | none =>
    cases r' with
    | some _ => exact h.elim
    | none => exact hnew p
  | some v =>
    cases r' with
    | none => exact h.elim
    | some v' =>
      refine .bind (rel_underlying t) fun q a b hq hab => ?_
      obtain ⟨rfl, _⟩ := hab
      cases a with
      | map k e => exact .bind (rel_asInt (VR.le hq h)) fun q2 a b hq2 _ => hnew q2
      | _ => exact .bad fun s => rfl

theorem makes_rel {id : Nat} {x : Blk} {v : Value} {e e' : Sem Value} (hr : Rel P VR p e e') (h : frun P e id = some (x, v)) (hp : p id = none) : Makes P p id x v e' := by
  obtain ⟨h1, h2, h3, sz, o, h4, h5⟩ := hr.fresh h hp
  exact ⟨h1, h2, h3, sz, o, h4, h5⟩

theorem rowZ_flat {z : Array Value} (hz : ∀ c ∈ z.toList, flat c = true) (n : Nat) : ∀ c ∈ (rowZ z n).toList, flat c = true := by
  intro c hc
  unfold rowZ at hc
  simp only [Array.toList_map, List.mem_map] at hc
  obtain ⟨i, _, rfl⟩ := hc
  rw [getElem!_def]
  split
  · rename_i x hx
    exact hz x (List.mem_of_getElem? (by simpa using hx))
  · rfl

theorem run_newRow (e : TypeId) (c : Array Value) (w : World) : (newRow e c).run P w = .ok ⟨w.heap.size, 0, none⟩ { w with heap := w.heap.push (.cells c e) } := rfl
theorem range_zero : Array.range 0 = #[] := rfl

theorem makes_buildSlice (hz : Zeros P) {t : TypeId} {n id : Nat} {l l' : Array (Nat × Value)} {x : Blk} {v : Value} (hp : p id = none) (hl : PR p l.toList l'.toList) (h : buildSliceA P t n l id = some (x, v)) :
    Makes P p id x v (Instr.buildSlice t n l') := by
  unfold buildSliceA at h
  split at h
  · rename_i e hd
    split at h
    · rename_i f z hf hz0
      cases hb : (Nat.blt maxSmall (n * f.size) || Nat.blt maxSmall n) with
      | true => rw [hb] at h; cases h
      | false =>
        rw [hb, cond_false] at h
        have hb1 : Nat.blt maxSmall (n * f.size) = false ∧ Nat.blt maxSmall n = false := by simpa using hb
        have hsm : ¬ maxSmall < n * f.size := fun hlt => by rw [bltt hlt] at hb1; cases hb1.1
        have hsn : ¬ maxSmall < n := fun hlt => by rw [bltt hlt] at hb1; cases hb1.2
        have hzf := flat_cells (zero_flat hz hz0)
        have h24 : ¬ (n * f.size > 2 ^ 24) := by unfold maxSmall at hsm; omega
        split at h
        · rename_i cells hc
          injection h with h
          injection h with e1 e2
          subst e1; subst e2
          have key : ∀ Z : Array Value, (∀ c ∈ Z.toList, flat c = true) → Instr.fill (fun i => some (i * f.size, f.size)) (rowZ Z (n * f.size)) l.toList = some cells →
              ∃ r', Instr.fill (fun i => some (i * f.size, f.size)) (rowZ Z (n * f.size)) l'.toList = some r' ∧ LR p cells.toList r'.toList := fun Z hZ hcc =>
            fill_rel (p := p) _ _ _ _ _ _ hl (.flat (rowZ_flat hZ _)) hcc
          have hcase : ∃ r' : Array Value, LR p cells.toList r'.toList ∧ ∀ w : World, (Instr.buildSlice t n l').run P w = .ok (.slice (some ⟨w.heap.size, 0, none⟩) n n) { w with heap := w.heap.push (.cells r' e) } := by
            by_cases h0 : n * f.size = 0
            · rw [nbt h0, cond_true] at hc
              obtain ⟨r', g1, g2⟩ := key #[] (fun c hc => by simp at hc) hc
              refine ⟨r', g2, fun w => ?_⟩
              have g1' : Instr.fill (fun i => some (i * f.size, f.size)) #[] l'.toList = some r' := by
                have := g1
                unfold rowZ at this
                rw [h0, range_zero] at this
                simpa using this
              simp only [Instr.buildSlice, Sem.run_bind, ru hd, rs hf, Result.andThen_ok, h0]
              simp [g1', Result.andThen_ok, range_zero, run_newRow]
            · rw [nbf h0, cond_false] at hc
              obtain ⟨r', g1, g2⟩ := key z.cells hzf hc
              refine ⟨r', g2, fun w => ?_⟩
              have g1' : Instr.fill (fun i => some (i * f.size, f.size)) ((Array.range (n * f.size)).map fun x => z.cells[x % z.cells.size]!) l'.toList = some r' := g1
              simp only [Instr.buildSlice, Sem.run_bind, ru hd, rs hf, Result.andThen_ok, h24, if_false, h0]
              simp [pureRun_run _ _ hz0, g1', Result.andThen_ok, h24, run_newRow]
          obtain ⟨r', g2, g3⟩ := hcase
          exact ⟨rfl, rfl, rfl, r'.size, _, g2.cellsBR e 0 [] true, fun w => ⟨.slice (some ⟨w.heap.size, 0, none⟩) n n,
            .slc (AR.mk (sz := r'.size) (es := 0) (by simp [Pl.add])) (by unfold maxSmall at hsn; unfold K; omega), g3 w⟩⟩
        · cases h
    · cases h
  · cases h

theorem wrap_small {n : Int} (h0 : 0 ≤ n) (h1 : n ≤ 65536) : IntKind.i64.wrap n = n := by
  unfold IntKind.wrap
  have hm : n % (2 ^ IntKind.i64.bits : Int) = n := Int.emod_eq_of_lt h0 (by show n < 2 ^ 64; omega)
  simp only [hm]
  rw [if_neg]
  intro h
  have h := (and_true' h).2
  have h : n ≥ (2 ^ 63 : Int) := of_decide_eq_true h
  omega

theorem makes_makeSlice (hz : Zeros P) {t : TypeId} {l c l' c' v : Value} {id : Nat} {x : Blk} (hl : VR p l l') (hc : VR p c c') (h : makeSliceA P t l c id = some (x, v)) :
    Makes P p id x v (Instr.makeSlice t l' c') := by
  unfold makeSliceA at h
  split at h
  · rename_i e k n k' m hd
    rw [vr_int hl, vr_int hc]
    split at h
    · rename_i f z hf hz0
      cases hb : (decide (0 ≤ n) && decide (n ≤ m) && Nat.ble m.toNat maxSmall && Nat.ble f.bytes maxSmall && Nat.ble f.size maxSmall) with
      | false => rw [hb] at h; cases h
      | true =>
        rw [hb, cond_true] at h
        injection h with h
        injection h with e1 e2
        subst e1; subst e2
        simp only [Bool.and_eq_true, decide_eq_true_eq] at hb
        obtain ⟨⟨⟨⟨b1, b2⟩, b3⟩, b4⟩, b5⟩ := hb
        have b3 := ble b3
        have b4 := ble b4
        have b5 := ble b5
        unfold maxSmall at b3 b4 b5
        have hwn : IntKind.i64.wrap n = n := wrap_small b1 (by omega)
        have hwm : IntKind.i64.wrap m = m := wrap_small (by omega) (by omega)
        have hzf := flat_cells (zero_flat hz hz0)
        have hbytes : ¬ ((281474976710656 : Int) < (f.bytes : Int) * m) := by
          have h1 : (f.bytes : Int) * m ≤ 65536 * 65536 := Int.mul_le_mul (by omega) (by omega) (by omega) (by omega)
          omega
        have hroom : ∀ w : World, (askRoom (m.toNat * f.bytes)).run P w = .ok () w := fun w => by
          unfold askRoom
          split <;> rfl
        have hcase : ∀ w : World, (Instr.makeSlice t (.int k n) (.int k' m)).run P w = .ok (.slice (some ⟨w.heap.size, 0, none⟩) n.toNat m.toNat)
            { w with heap := w.heap.push (.cells (rowZ (bif Nat.beq (m.toNat * f.size) 0 then #[] else z.cells) (m.toNat * f.size)) e) } := fun w => by
          have hm0 : ¬ m < 0 := by omega
          have hn0 : ¬ n < 0 := by omega
          have hnm : ¬ n > m := by omega
          by_cases h0 : m.toNat * f.size = 0
          · rw [nbt h0, cond_true]
            simp [Instr.makeSlice, ru hd, rt hf, rs hf, asInt, asIntOf, hwn, hwm, hm0, hn0, hnm, hbytes, hroom, h0, run_newRow, rowZ]
          · rw [nbf h0, cond_false]
            simp [Instr.makeSlice, ru hd, rt hf, rs hf, asInt, asIntOf, hwn, hwm, hm0, hn0, hnm, hbytes, hroom, h0, run_newRow, rowZ, pureRun_run _ _ hz0]
        have hfl : ∀ c ∈ (rowZ (bif Nat.beq (m.toNat * f.size) 0 then #[] else z.cells) (m.toNat * f.size)).toList, flat c = true := by
          refine rowZ_flat ?_ _
          cases Nat.beq (m.toNat * f.size) 0 with
          | true => intro c hc; simp at hc
          | false => exact hzf
        exact ⟨rfl, rfl, rfl, _, _, (LR.flat (p := p) hfl).cellsBR e 0 [] true, fun w => ⟨.slice (some ⟨w.heap.size, 0, none⟩) n.toNat m.toNat,
          .slc (AR.mk (es := 0) (by simp [Pl.add]; rfl)) (by unfold K; omega), hcase w⟩⟩
    · cases h
  · cases h

/-- Any operation that makes one block. -/
theorem fresh_sound (hz : Zeros P) {tm : Tm} {a : Act} {o : Oper} {id : Nat} {x : Blk} {v : Value} (ho : OpR p tm a o.op) (hp : p id = none) (h : freshOp P o tm id = some (x, v)) :
    x.es = 0 ∧ x.olds = [] ∧ x.live = true ∧ ∃ sz ob, BR p x sz ob ∧ ∀ w : World, ∃ v', VR (p.add id w.heap.size sz 0) v v' ∧ (execOp a.eval o).run P w = .ok (.value v') { w with heap := w.heap.push ob } := by
  have hv := ho.vr
  have key : ∀ e : Sem Value, execOp a.eval o = (do pure (.value (← e))) → Makes P p id x v e →
      x.es = 0 ∧ x.olds = [] ∧ x.live = true ∧ ∃ sz ob, BR p x sz ob ∧ ∀ w : World, ∃ v', VR (p.add id w.heap.size sz 0) v v' ∧ (execOp a.eval o).run P w = .ok (.value v') { w with heap := w.heap.push ob } := by
    rintro e he ⟨h1, h2, h3, sz, ob, h4, h5⟩
    refine ⟨h1, h2, h3, sz, ob, h4, fun w => ?_⟩
    obtain ⟨v', g1, g2⟩ := h5 w
    refine ⟨v', g1, ?_⟩
    rw [he]
    show (e.bind fun v => Sem.pure (Next.value v)).run P w = _
    rw [run_bind_ok _ _ g2]; rfl
  unfold freshOp at h
  split at h
  · rename_i t hop
    exact key _ (by simp only [execOp, hop]) (makes_rel (rel_alloc hz t) h hp)
  · rename_i t y hop
    rw [hop] at hv
    exact key _ (by simp only [execOp, hop]) (makes_rel (rel_box t (hv y (by simp [Op.operands]))) h hp)
  · rename_i t n ps hop
    rw [hop] at hv
    refine key (Instr.buildSlice t n (ps.map fun (i, x) => (i, a.eval x))) (by simp only [execOp, hop]) (makes_buildSlice hz hp ?_ h)
    simp only [Array.toList_map]
    exact pr_map ps.toList fun x hx => hv x.2 (by
      show x.2 ∈ (ps.toList.map (·.2)).toArray
      rw [List.mem_toArray]
      exact List.mem_map.2 ⟨x, hx, rfl⟩)
  · rename_i t r hop
    rw [hop] at hv
    exact key _ (by simp only [execOp, hop]) (makes_rel (rel_makeMap t (optR_map r fun y hy => hv y (by simpa [Op.operands] using hy))) h hp)
  · rename_i t l c hop
    rw [hop] at hv
    exact key _ (by simp only [execOp, hop]) (makes_makeSlice hz (hv l (by simp [Op.operands])) (hv c (by simp [Op.operands])) h)
  · cases h

end Rn
end Go.Proofs.Ytapidabhdbjnmaa
