/- A run of a call that is handed no memory: the operations that read at most, second part. -/
import Derived.Test.YtapidabhdbjnmaaRne
namespace Go.Proofs.Ytapidabhdbjnmaa
namespace Rn

variable {P : Program} {p : Pl}

/-! ### Flat values are themselves -/

theorem vr_flatN_eq {v v' : Value} (h : VR p v v') : ∀ n, flatN n v = true → v' = v := by
  induction h with
  | flat _ => intro n _; rfl
  | ptr h => intro n hf; cases n <;> cases hf
  | slc h hc => intro n hf; cases n <;> cases hf
  | slcK h ho hm hn => intro n hf; cases n <;> cases hf
  | map h => intro n hf; cases n <;> cases hf
  | @func f f' a a' c c' hf ha hc h1 h2 i1 i2 =>
    intro n hn
    cases n with
    | zero => cases hn
    | succ n =>
      have hn : ((_ && _) && _) = true := hn
      simp only [Bool.and_eq_true] at hn
      obtain ⟨⟨g1, g2⟩, g3⟩ := hn
      rw [List.all_eq_true] at g2 g3
      have e1 : f' = f := by
        cases hf with
        | same _ => rfl
        | yield _ => cases g1
      have e2 : a' = a := by
        apply Array.ext_getElem?
        intro i
        by_cases hi : i < a.size
        · have := i1 i a[i] (a'[i]'(ha ▸ hi)) (Array.getElem?_eq_getElem hi) (Array.getElem?_eq_getElem (ha ▸ hi)) n (g2 _ (by simp))
          rw [Array.getElem?_eq_getElem hi, Array.getElem?_eq_getElem (ha ▸ hi), this]
        · rw [Array.getElem?_eq_none (by omega), Array.getElem?_eq_none (by omega)]
      have e3 : c' = c := by
        apply Array.ext_getElem?
        intro i
        by_cases hi : i < c.size
        · have := i2 i c[i] (c'[i]'(hc ▸ hi)) (Array.getElem?_eq_getElem hi) (Array.getElem?_eq_getElem (hc ▸ hi)) n (g3 _ (by simp))
          rw [Array.getElem?_eq_getElem hi, Array.getElem?_eq_getElem (hc ▸ hi), this]
        · rw [Array.getElem?_eq_none (by omega), Array.getElem?_eq_none (by omega)]
      rw [e1, e2, e3]
  | iface h ih =>
    intro n hn
    cases n with
    | zero => cases hn
    | succ n => rw [ih n hn]
  | @agg c c' hc h ih =>
    intro n hn
    cases n with
    | zero => cases hn
    | succ n =>
      have hn : List.all _ _ = true := hn
      rw [List.all_eq_true] at hn
      have e3 : c' = c := by
        apply Array.ext_getElem?
        intro i
        by_cases hi : i < c.size
        · have := ih i c[i] (c'[i]'(hc ▸ hi)) (Array.getElem?_eq_getElem hi) (Array.getElem?_eq_getElem (hc ▸ hi)) n (hn _ (by simp))
          rw [Array.getElem?_eq_getElem hi, Array.getElem?_eq_getElem (hc ▸ hi), this]
        · rw [Array.getElem?_eq_none (by omega), Array.getElem?_eq_none (by omega)]
      rw [e3]
  | @tuple c c' hc h ih =>
    intro n hn
    cases n with
    | zero => cases hn
    | succ n =>
      have hn : List.all _ _ = true := hn
      rw [List.all_eq_true] at hn
      have e3 : c' = c := by
        apply Array.ext_getElem?
        intro i
        by_cases hi : i < c.size
        · have := ih i c[i] (c'[i]'(hc ▸ hi)) (Array.getElem?_eq_getElem hi) (Array.getElem?_eq_getElem (hc ▸ hi)) n (hn _ (by simp))
          rw [Array.getElem?_eq_getElem hi, Array.getElem?_eq_getElem (hc ▸ hi), this]
        · rw [Array.getElem?_eq_none (by omega), Array.getElem?_eq_none (by omega)]
      rw [e3]
  | any => intro n hn; cases n <;> cases hn

theorem vr_eq {v v' : Value} (h : VR p v v') (hf : flat v = true) : v' = v := vr_flatN_eq h 5 hf

/-- An operation and what its operands are. -/
structure OpR (p : Pl) (tm : Tm) (a : Act) (o : Op) : Prop where
  vr : ∀ x ∈ o.operands, VR p (tm.eval x) (a.eval x)

theorem opR {tm : Tm} {a : Act} (h : TR p tm a.tmps) {o : Op} (ho : constsOk o = true) : OpR p tm a o :=
  ⟨fun x hx => vr_eval h (by
    unfold constsOk at ho
    rw [List.all_eq_true] at ho
    exact ho x (by simpa using hx))⟩

theorem flat_op {tm : Tm} {a : Act} {o : Oper} (h : OpR p tm a o.op) (hs : ∀ cs b, o.op ≠ .select cs b) {v : Value} (hv : flatOp P o tm = some v) (w : World) :
    (execOp a.eval o).run P w = .ok (.value v) w ∧ flat v = true := by
  unfold flatOp at hv
  cases hf : allFlat tm o.op with
  | false => rw [hf] at hv; cases hv
  | true =>
    rw [hf, cond_true] at hv
    have he : execOp tm.eval o = execOp a.eval o := execOp_congr o hs fun x hx => by
      unfold allFlat at hf
      rw [List.all_eq_true] at hf
      exact (vr_eq (h.vr x hx) (hf x (by simpa using hx))).symm
    split at hv
    · rename_i u hu
      cases hfu : flat u with
      | false => rw [hfu] at hv; cases hv
      | true =>
        rw [hfu, cond_true] at hv
        injection hv with hv
        subst hv
        rw [← he]
        exact ⟨pureRun_run _ _ hu w, hfu⟩
    · cases hv

/-! ### Structs and arrays from their parts -/

def PR (p : Pl) : List (Nat × Value) → List (Nat × Value) → Prop
  | [], [] => True
  | (i, v) :: l, (j, v') :: l' => i = j ∧ VR p v v' ∧ PR p l l'
  | _, _ => False

theorem fold_rel (off : Nat) : ∀ (l l' : List Value) (k : Nat) (cs cs' : Array Value), LR p l l' → LR p cs.toList cs'.toList →
    LR p ((l.zipIdx k).foldl (fun (cs : Array Value) (x : Value × Nat) => cs.setIfInBounds (off + x.2) x.1) cs).toList ((l'.zipIdx k).foldl (fun (cs : Array Value) (x : Value × Nat) => cs.setIfInBounds (off + x.2) x.1) cs').toList
  | [], l', k, cs, cs', h, hc => by rw [h.nil_inv]; exact hc
  | v :: l, l', k, cs, cs', h, hc => by
    obtain ⟨v', m, rfl, hv, hl⟩ := h.cons_inv
    simp only [List.zipIdx_cons, List.foldl_cons]
    refine fold_rel off l m (k + 1) _ _ hl ?_
    simp only [Array.toList_setIfInBounds]
    exact hc.set _ hv

theorem fill_rel (place : Nat → Option (Nat × Nat)) : ∀ (l l' : List (Nat × Value)) (cs cs' r : Array Value), PR p l l' → LR p cs.toList cs'.toList → Instr.fill place cs l = some r →
    ∃ r', Instr.fill place cs' l' = some r' ∧ LR p r.toList r'.toList
  | [], [], cs, cs', r, _, hc, h => by
    simp only [Instr.fill] at h
    injection h with h
    subst h
    exact ⟨cs', rfl, hc⟩
  | (i, v) :: l, (j, v') :: l', cs, cs', r, hp, hc, h => by
    obtain ⟨rfl, hv, hl⟩ := hp
    simp only [Instr.fill] at h ⊢
    cases hpl : place i with
    | none => rw [hpl] at h; cases h
    | some x =>
      obtain ⟨off, size⟩ := x
      rw [hpl] at h
      simp only at h ⊢
      have h1 : v'.cells.size = v.cells.size := vr_size hv
      have h2 : cs'.size = cs.size := by simpa using hc.1.symm
      rw [h1, h2]
      split at h
      · cases h
      · rename_i hg
        rw [if_neg hg]
        refine fill_rel place l l' _ _ r hl ?_ h
        have := fold_rel (p := p) off v.cells.toList v'.cells.toList 0 cs cs' (vr_cells hv) hc
        have e : ∀ (c cs : Array Value), c.zipIdx.foldl (fun (cs : Array Value) (x : Value × Nat) => cs.setIfInBounds (off + x.2) x.1) cs = (c.toList.zipIdx 0).foldl (fun (cs : Array Value) (x : Value × Nat) => cs.setIfInBounds (off + x.2) x.1) cs := fun c cs => by
          rw [← Array.foldl_toList, Array.toList_zipIdx]
        rw [← e, ← e] at this
        exact this
  | [], _ :: _, _, _, _, hp, _, _ => hp.elim
  | _ :: _, [], _, _, _, hp, _, _ => by cases hp

theorem zero_flat (hz : Zeros P) {t : TypeId} {z : Value} (h : pureRun P (zeroValue t) = some z) : flat z = true := by
  have : pureRun P ((typeInfo t).bind fun i => match i.zero with | some v => .pure v | none => unsupported _) = some z := h
  rw [pureRun_bind] at this
  have ht : pureRun P (typeInfo t) = P.info? t := by
    show pureRun P (match P.info? t with | some i => Sem.pure i | none => stuck "no such type") = _
    cases P.info? t <;> rfl
  rw [ht] at this
  cases hi : P.info? t with
  | none => rw [hi] at this; cases this
  | some i =>
    rw [hi] at this
    simp only [Option.bind_some] at this
    cases h0 : i.zero with
    | none => rw [h0] at this; cases this
    | some v =>
      rw [h0] at this
      injection this with this
      subst this
      exact hz t i v hi h0

theorem peek_build (hz : Zeros P) {w : World} {t : TypeId} {l l' : Array (Nat × Value)} {u : Value} (hp : PR p l.toList l'.toList) (h : buildA P t l = some u) : Peeks P p w (Instr.build t l') u := by
  unfold buildA at h
  split at h
  · rename_i z fields hz0 hd
    split at h
    · rename_i places hpl
      split at h
      · rename_i cells hc
        injection h with h
        obtain ⟨r', h1, h2⟩ := fill_rel (p := p) _ _ _ _ z.cells _ hp (.flat (flat_cells (zero_flat hz hz0))) hc
        refine ⟨.agg r', ?_, h ▸ .aggL h2⟩
        have := pureRun_run _ _ hpl w
        simp only [Instr.build, Sem.run_bind, pureRun_run _ _ hz0 w, Result.andThen_ok, ru hd]
        simp only [bind] at this ⊢
        simp [this, h1, Result.andThen_ok]
      · cases h
    · cases h
  · rename_i z n e hz0 hd
    split at h
    · rename_i f hf
      split at h
      · rename_i cells hc
        injection h with h
        obtain ⟨r', h1, h2⟩ := fill_rel (p := p) _ _ _ _ z.cells _ hp (.flat (flat_cells (zero_flat hz hz0))) hc
        refine ⟨.agg r', ?_, h ▸ .aggL h2⟩
        simp [Instr.build, Sem.run_bind, pureRun_run _ _ hz0 w, Result.andThen_ok, ru hd, rs hf, h1]
      · cases h
    · cases h
  · cases h

/-! ### Slices of slices -/

def OptR (p : Pl) : Option Value → Option Value → Prop
  | none, none => True
  | some v, some v' => VR p v v'
  | _, _ => False

theorem run_bound {v v' : Value} {y y' n : Nat} {code : BoundsCode} (hv : VR p v v') (h : boundA v y = some n) (hy : y ≤ y') (w : World) : (Instr.sliceBound v' y' code).run P w = .ok n w ∧ n ≤ y := by
  unfold boundA at h
  split at h
  · rename_i k i
    rw [vr_int hv]
    cases hb : (decide (0 ≤ i) && Nat.ble i.toNat y) with
    | false => rw [hb] at h; cases h
    | true =>
      rw [hb, cond_true] at h
      injection h with h
      obtain ⟨h1, h2⟩ := and_true' hb
      have h1 := of_decide_eq_true h1
      have h2 := ble h2
      refine ⟨?_, by omega⟩
      have hi : 0 ≤ i ∧ i ≤ (y' : Int) := ⟨h1, by omega⟩
      simp [Instr.sliceBound, asIntOf, hi, h]
  · cases h

theorem run_bounds {sl : Bool} {len room cap : Nat} {lo hi mx lo' hi' mx' : Option Value} {l h m : Nat} (h1 : OptR p lo lo') (h2 : OptR p hi hi') (h3 : OptR p mx mx') (hr : room ≤ cap)
    (hb : boundsA len room lo hi mx = some (l, h, m)) (w : World) :
    (Instr.sliceBounds sl len cap lo' hi' mx').run P w = .ok (l, h, if mx.isSome then m else cap) w ∧ m ≤ room ∧ l ≤ h ∧ (mx = none → m = room) ∧ (hi = none → h = len) ∧ (hi ≠ none → h ≤ m) := by
  unfold boundsA at hb
  cases mx with
  | none =>
    cases mx' with
    | some _ => exact h3.elim
    | none =>
      simp only at hb
      cases hi with
      | none =>
        cases hi' with
        | some _ => exact h2.elim
        | none =>
          simp only at hb
          cases lo with
          | none =>
            cases lo' with
            | some _ => exact h1.elim
            | none =>
              simp only at hb
              injection hb with hb
              injection hb with e1 e2
              injection e2 with e2 e3
              subst e1; subst e2; subst e3
              refine ⟨?_, Nat.le_refl _, Nat.zero_le _, fun _ => rfl, fun _ => rfl, fun hne => absurd rfl hne⟩
              simp [Instr.sliceBounds]
          | some v =>
            cases lo' with
            | none => exact h1.elim
            | some v' =>
              simp only at hb
              split at hb
              · cases hb
              · rename_i n hn
                injection hb with hb
                injection hb with e1 e2
                injection e2 with e2 e3
                subst e1; subst e2; subst e3
                obtain ⟨g1, g2⟩ := run_bound (P := P) (code := .sliceB) h1 hn (Nat.le_refl _) w
                refine ⟨?_, Nat.le_refl _, g2, fun _ => rfl, fun _ => rfl, fun hne => absurd rfl hne⟩
                simp [Instr.sliceBounds, g1]
      | some vh =>
        cases hi' with
        | none => exact h2.elim
        | some vh' =>
          simp only at hb
          split at hb
          · cases hb
          · rename_i nh hnh
            obtain ⟨k1, k2⟩ := run_bound (P := P) (code := if sl then .sliceAcap else .sliceAlen) h2 hnh hr w
            cases lo with
            | none =>
              cases lo' with
              | some _ => exact h1.elim
              | none =>
                simp only at hb
                injection hb with hb
                injection hb with e1 e2
                injection e2 with e2 e3
                subst e1; subst e2; subst e3
                refine ⟨?_, Nat.le_refl _, Nat.zero_le _, fun _ => rfl, fun hne => by (cases hne), fun _ => k2⟩
                simp [Instr.sliceBounds, k1]
            | some v =>
              cases lo' with
              | none => exact h1.elim
              | some v' =>
                simp only at hb
                split at hb
                · cases hb
                · rename_i n hn
                  injection hb with hb
                  injection hb with e1 e2
                  injection e2 with e2 e3
                  subst e1; subst e2; subst e3
                  obtain ⟨g1, g2⟩ := run_bound (P := P) (code := .sliceB) h1 hn (Nat.le_refl _) w
                  refine ⟨?_, Nat.le_refl _, g2, fun _ => rfl, fun hne => by (cases hne), fun _ => k2⟩
                  simp [Instr.sliceBounds, k1, g1]
  | some vm =>
    cases mx' with
    | none => exact h3.elim
    | some vm' =>
      simp only at hb
      split at hb
      · cases hb
      · rename_i nm hnm
        obtain ⟨j1, j2⟩ := run_bound (P := P) (code := if sl then .slice3Acap else .slice3Alen) h3 hnm hr w
        cases hi with
        | none => cases hb
        | some vh =>
          cases hi' with
          | none => exact h2.elim
          | some vh' =>
            simp only at hb
            split at hb
            · cases hb
            · rename_i nh hnh
              obtain ⟨k1, k2⟩ := run_bound (P := P) (code := .slice3B) h2 hnh (Nat.le_refl _) w
              cases lo with
              | none =>
                cases lo' with
                | some _ => exact h1.elim
                | none =>
                  simp only at hb
                  injection hb with hb
                  injection hb with e1 e2
                  injection e2 with e2 e3
                  subst e1; subst e2; subst e3
                  refine ⟨?_, j2, Nat.zero_le _, fun hne => by (cases hne), fun hne => by (cases hne), fun _ => k2⟩
                  simp [Instr.sliceBounds, j1, k1]
              | some v =>
                cases lo' with
                | none => exact h1.elim
                | some v' =>
                  simp only at hb
                  split at hb
                  · cases hb
                  · rename_i n hn
                    injection hb with hb
                    injection hb with e1 e2
                    injection e2 with e2 e3
                    subst e1; subst e2; subst e3
                    obtain ⟨g1, g2⟩ := run_bound (P := P) (code := .slice3C) h1 hn (Nat.le_refl _) w
                    refine ⟨?_, j2, g2, fun hne => by (cases hne), fun hne => by (cases hne), fun _ => k2⟩
                    simp [Instr.sliceBounds, j1, k1, g1]

theorem peek_sliceX {w : World} {t : TypeId} {x x' u : Value} {lo hi mx lo' hi' mx' : Option Value} (hx : VR p x x') (hxc : ∀ a n c, x = .slice a n c → c < K) (h1 : OptR p lo lo') (h2 : OptR p hi hi') (h3 : OptR p mx mx')
    (h : sliceX P t x lo hi mx = some u) : Peeks P p w (Instr.sliceAt t x' lo' hi' mx') u := by
  unfold sliceX at h
  split at h
  · rename_i e a len cap hd
    split at h
    · rename_i f l hh m hf hb
      cases hlt : Nat.blt m K with
      | false => rw [hlt] at h; cases h
      | true =>
      rw [hlt, cond_true] at h
      injection h with h
      have hmK := blt hlt
      cases a with
      | none =>
        rw [vr_slice_none hx]
        obtain ⟨g1, g2, g3, g4, g5, g6⟩ := run_bounds (P := P) (sl := true) h1 h2 h3 (Nat.le_refl cap) hb w
        have hm : (if mx.isSome then m else cap) = m := by
          cases mx with
          | none => simp [g4 rfl]
          | some _ => rfl
        rw [hm] at g1
        refine ⟨.slice none (hh - l) (m - l), ?_, ?_⟩
        · simp [Instr.sliceAt, Instr.slice, ru hd, rs hf, g1]
        · have hu : u = .slice none (hh - l) (m - l) := by rw [← h]; cases Nat.beq m l <;> rfl
          rw [hu]
          have hnil : flat (.slice none len cap) = true := by
            cases hx with
            | flat hh => exact hh
          have hz : len = 0 ∧ cap = 0 := by
            have hnil : ((_ && Nat.beq len 0) && Nat.beq cap 0) = true := hnil
            simp only [Bool.and_eq_true] at hnil
            exact ⟨nb hnil.1.2, nb hnil.2⟩
          have hmz : m = 0 := by omega
          have hhz : hh - l = 0 := by
            cases hi with
            | none => have := g5 rfl; omega
            | some v => have := g6 (by simp); omega
          rw [hhz, hmz]
          exact .flat (by simp [flat, flatN, flatStep])
      | some a =>
        obtain ⟨a', rfl, ha⟩ := vr_slice_lt (hxc _ _ _ rfl) hx
        obtain ⟨g1, g2, g3, g4, _⟩ := run_bounds (P := P) (sl := true) h1 h2 h3 (Nat.le_refl cap) hb w
        have hm : (if mx.isSome then m else cap) = m := by
          cases mx with
          | none => simp [g4 rfl]
          | some _ => rfl
        rw [hm] at g1
        refine ⟨.slice (some (if m = l then a' else a'.add (l * f.size))) (hh - l) (m - l), ?_, ?_⟩
        · by_cases hml : m = l
          · simp [Instr.sliceAt, Instr.slice, ru hd, rs hf, g1, hml]
          · simp [Instr.sliceAt, Instr.slice, ru hd, rs hf, g1, hml]
        · rw [← h]
          by_cases hml : m = l
          · rw [nbt hml, cond_true, if_pos hml]
            exact .slc ha (by omega)
          · rw [nbf hml, cond_false, if_neg hml]
            exact .slc (ha.add _) (by omega)
    · cases h
  · rename_i n e a hd
    split at h
    · rename_i f l hh m hf hb
      cases hlt : Nat.blt m K with
      | false => rw [hlt] at h; cases h
      | true =>
      rw [hlt, cond_true] at h
      injection h with h
      have hmK := blt hlt
      obtain ⟨a', rfl, ha⟩ := vr_ptr hx
      obtain ⟨g1, g2, g3, g4, _⟩ := run_bounds (P := P) (sl := false) h1 h2 h3 (Nat.le_refl n) hb w
      have hm : (if mx.isSome then m else n) = m := by
        cases mx with
        | none => simp [g4 rfl]
        | some _ => rfl
      rw [hm] at g1
      refine ⟨.slice (some (if m = l then a' else a'.add (l * f.size))) (hh - l) (m - l), ?_, ?_⟩
      · by_cases hml : m = l
        · simp [Instr.sliceAt, Instr.sureAddr, ru hd, rs hf, g1, hml]
        · simp [Instr.sliceAt, Instr.sureAddr, ru hd, rs hf, g1, hml]
      · rw [← h]
        by_cases hml : m = l
        · rw [nbt hml, cond_true, if_pos hml]
          exact .slc ha (by omega)
        · rw [nbf hml, cond_false, if_neg hml]
          exact .slc (ha.add _) (by omega)
    · cases h
  · cases h

theorem add_eq (b o n : Nat) : (⟨b, o, none⟩ : Addr).add n = ⟨b, o + n, none⟩ := by
  unfold Addr.add
  split
  · rename_i h; subst h; rfl
  · rfl

theorem growsBy_eq {c : Ctx} {s : St} {w : World} (hm : M c p s w) {b r sz es : Nat} (hp : p b = some (r, sz, es)) (h : 0 < growsBy s b) : growsBy s b = es := by
  unfold growsBy at h ⊢
  split at h
  · rename_i cl e es' olds live hg
    obtain ⟨_, r', sz', o, hp', _⟩ := hm.pres b _ hg
    rw [hp] at hp'
    injection hp' with e1
    exact (congrArg (fun x => x.2.2) e1).symm
  · omega

theorem peek_sliceA {c : Ctx} {s : St} {w : World} (hm : M c p s w) {t : TypeId} {a : Addr} {len cap : Nat} {x' u : Value} {lo hi mx lo' hi' mx' : Option Value} (hx : VR p (.slice (some a) len cap) x') (hK : ¬ cap < K) (h1 : OptR p lo lo') (h2 : OptR p hi hi') (h3 : OptR p mx mx')
    (h : sliceA P s t a len (cap - K) lo hi mx = some u) : Peeks P p w (Instr.sliceAt t x' lo' hi' mx') u := by
  unfold sliceA at h
  split at h
  · rename_i e hd
    split at h
    · rename_i f l hh m hf hb
      obtain ⟨r, sz, es, off', c', hsp, rfl, hp, ho, hroom, hlen⟩ := vr_sliceK hK hx
      obtain ⟨g1, g2, g3, g4, g5, g6⟩ := run_bounds (P := P) (sl := true) h1 h2 h3 hroom hb w
      obtain ⟨ab, ao, as⟩ := a
      simp only at hsp hp ho
      subst hsp
      split at h
      · rename_i vm
        cases hlt : (Nat.blt m K && Nat.blt 0 (cap - K)) with
        | false => rw [hlt] at h; cases h
        | true =>
          rw [hlt, cond_true] at h
          injection h with h
          obtain ⟨q1, q2⟩ := and_true' hlt
          have q1 := blt q1
          have q2 := blt q2
          have hoff := (ho (by omega)).1
          subst hoff
          simp only [Option.isSome_some, if_true] at g1
          refine ⟨.slice (some (if m = l then ⟨r, off', none⟩ else (⟨r, off', none⟩ : Addr).add (l * f.size))) (hh - l) (m - l), ?_, ?_⟩
          · by_cases hml : m = l
            · simp [Instr.sliceAt, Instr.slice, ru hd, rs hf, g1, hml]
            · simp [Instr.sliceAt, Instr.slice, ru hd, rs hf, g1, hml]
          · rw [← h]
            by_cases hml : m = l
            · rw [nbt hml, cond_true, if_pos hml]
              exact .slc (.mk hp) (by omega)
            · rw [nbf hml, cond_false, if_neg hml]
              exact .slc (AR.add (.mk hp) _) (by omega)
      · cases hlt : (Nat.beq (growsBy s ab) f.size && Nat.blt 0 f.size) with
        | false => rw [hlt] at h; cases h
        | true =>
          rw [hlt, cond_true] at h
          injection h with h
          obtain ⟨q1, q2⟩ := and_true' hlt
          have q1 := nb q1
          have q2 := blt q2
          have hes := growsBy_eq hm hp (by omega)
          simp only [Option.isSome_none, Bool.false_eq_true, if_false] at g1
          refine ⟨.slice (some (if c' = l then ⟨r, off', none⟩ else (⟨r, off', none⟩ : Addr).add (l * f.size))) (hh - l) (c' - l), ?_, ?_⟩
          · by_cases hml : c' = l
            · subst hml; simp [Instr.sliceAt, Instr.slice, ru hd, rs hf, g1]
            · simp [Instr.sliceAt, Instr.slice, ru hd, rs hf, g1, hml]
          · have hhr : hh ≤ cap - K := by
              cases hi with
              | none => have := g5 rfl; omega
              | some v => have := g6 (by simp); omega
            have hmr := g4 rfl
            rw [← h, add_eq]
            by_cases hml : c' = l
            · rw [if_pos hml]
              exact .slcK hp (fun hne => absurd (by omega) hne) (by omega) (by omega)
            · rw [if_neg hml, add_eq]
              have hc0 : c' ≠ 0 := by omega
              obtain ⟨k1, k2⟩ := ho hc0
              subst k1
              refine .slcK hp (fun _ => ⟨rfl, ?_⟩) (by omega) (by omega)
              rw [← k2, ← q1, hes, Nat.add_assoc, ← Nat.add_mul]
              congr 2
              omega
    · cases h
  · cases h

end Rn
end Go.Proofs.Ytapidabhdbjnmaa
