/- A run of a call that is handed no memory: code, calls, rounds. -/
import Derived.Test.YtapidabhdbjnmaaRnr
namespace Go.Proofs.Ytapidabhdbjnmaa
namespace Rn

variable {P : Program} {p : Pl} {c : Ctx} {s s' : St} {w : World}

def exitOf : Ex → Exit
  | .normal => .normal
  | .exit id => .exit id
  | .ret => .ret

def DsR (q : Pl) : List Nat → List Deferred → Prop
  | [], [] => True
  | d :: l, x :: m => (∃ r sz es, q d = some (r, sz, es) ∧ x = { target := .collected r, args := #[] }) ∧ DsR q l m
  | _, _ => False

theorem DsR.le {p q : Pl} (h : p.le q) : ∀ {l m}, DsR p l m → DsR q l m
  | [], [], _ => trivial
  | _ :: _, _ :: _, ⟨⟨r, sz, es, a, b⟩, k⟩ => ⟨⟨r, sz, es, h _ _ a, b⟩, DsR.le h k⟩
  | [], _ :: _, h => h.elim
  | _ :: _, [], h => h.elim

theorem DsR.append {p : Pl} : ∀ {a a' b b'}, DsR p a a' → DsR p b b' → DsR p (a ++ b) (a' ++ b')
  | [], [], _, _, _, h => h
  | _ :: _, _ :: _, _, _, ⟨x, k⟩, h => ⟨x, DsR.append k h⟩
  | [], _ :: _, _, _, h, _ => h.elim
  | _ :: _, [], _, _, h, _ => h.elim

def RoR (p : Pl) : Option Nat → Option Nat → Prop
  | none, none => True
  | some l, some l' => NR p l l'
  | _, _ => False

theorem RoR.le {p q : Pl} (h : p.le q) : ∀ {a b}, RoR p a b → RoR q a b
  | none, none, _ => trivial
  | some _, some _, k => NR.le h k
  | none, some _, k => k.elim
  | some _, none, k => k.elim

/-- What is asked of what code comes to. -/
def Goes (c : Ctx) (p : Pl) (a : Act) (tm : Tm) (out : Out) (Q : Exit → Act → World → Prop) : Prop :=
  ∀ q w' a' ds', p.le q → M c q out.st w' → TR q out.tm a'.tmps → out.tm.g = tm.g → DsR q out.ds ds' → a'.defers = ds' ++ a.defers → Q (exitOf out.e) a' w'

def ExOk (P : Program) (ex : ExF) : Prop := ∀ (c : Ctx) (p : Pl) (s : St) (w : World) (ro ro' : Option Nat) (code : Code) (tm : Tm) (a : Act) (out : Out) (n : Nat) (Q : Exit → Act → World → Prop),
  M c p s w → TR p tm a.tmps → RoR p ro ro' → ex ro code tm s = some out → Goes c p a tm out Q → code.wpIn (Fw ro') n P Q a w

def OrcOk (P : Program) (orc : Orc) : Prop := ∀ f args v, orc f args = some v → (∀ x ∈ args, flat x = true) → ∀ w ro n, CallsIn (Fw ro) n P f args.toArray w fun e w' => e = .returned v ∧ w' = w

/-! ### Calls -/

theorem fill_ok : ∀ (vs vs' : List Value) (tm tm' : Tm) (pre : List Value), LR p vs vs' → TR p tm (pre ++ List.replicate (tm.n - pre.length) undef).toArray → pre.length ≤ tm.n → Tm.fill vs tm pre.length = some tm' →
    TR p tm' ((pre ++ vs') ++ List.replicate (tm.n - (pre ++ vs').length) undef).toArray ∧ (pre ++ vs').length ≤ tm.n ∧ tm'.n = tm.n ∧ tm'.g = tm.g
  | [], vs', tm, tm', pre, hl, hT, hle, h => by
    rw [hl.nil_inv]
    injection h with h
    subst h
    rw [List.append_nil]
    exact ⟨hT, hle, rfl, rfl⟩
  | v :: vs, vs', tm, tm', pre, hl, hT, hle, h => by
    obtain ⟨v', m, rfl, hv, hl⟩ := hl.cons_inv
    have h : (match tm.put (some pre.length) v with | some tm' => Tm.fill vs tm' (pre.length + 1) | none => none) = some tm' := h
    split at h
    · rename_i tm1 ht
      obtain ⟨s1, s2⟩ := put_same ht
      have hlt : pre.length < tm.n := by
        have h' : tm.putAt pre.length v = some tm1 := ht
        obtain ⟨n, g, t⟩ := tm
        unfold Tm.putAt at h'
        simp only at h'
        cases hb : Nat.blt pre.length n with
        | false => rw [hb] at h'; cases h'
        | true => exact blt hb
      have hT1 : TR p tm1 ((pre ++ [v']) ++ List.replicate (tm1.n - (pre ++ [v']).length) undef).toArray := by
        have := hT.putAt (i := pre.length) ht hv
        have he : (pre ++ List.replicate (tm.n - pre.length) undef).toArray.setIfInBounds pre.length v' = ((pre ++ [v']) ++ List.replicate (tm1.n - (pre ++ [v']).length) undef).toArray := by
          apply Array.toList_inj.1
          rw [Array.toList_setIfInBounds, s1]
          obtain ⟨k, hk⟩ : ∃ k, tm.n - pre.length = k + 1 := ⟨tm.n - pre.length - 1, by omega⟩
          have hk2 : tm.n - (pre ++ [v']).length = k := by simp; omega
          rw [hk, hk2]
          simp [List.replicate_succ]
        rw [he] at this
        exact this
      have hlen : (pre ++ [v']).length = pre.length + 1 := by simp
      rw [← hlen] at h
      obtain ⟨g1, g2, g3, g4⟩ := fill_ok vs m tm1 tm' (pre ++ [v']) hl hT1 (by rw [hlen, s1]; omega) h
      rw [s1] at g1 g2 g3
      have ea : pre ++ [v'] ++ m = pre ++ v' :: m := by simp
      rw [ea] at g1 g2
      exact ⟨g1, g2, g3, g4.trans s2⟩
    · cases h

theorem begin_ok {n g : Nat} {args : List Value} {args' : Array Value} {tm : Tm} (hl : LR p args args'.toList) (hg : ∀ i, i < g → ∃ z, p i = some (i, z)) (h : Tm.begin n g args = some tm) :
    TR p tm (args' ++ Array.replicate (n - args'.size) undef) ∧ tm.g = g := by
  unfold Tm.begin at h
  cases hb : Nat.blt n 1000000 with
  | false => rw [hb] at h; cases h
  | true =>
    rw [hb, bi_true] at h
    have h0 : TR p ⟨n, g, .nil⟩ (([] : List Value) ++ List.replicate (n - ([] : List Value).length) undef).toArray := by
      refine ⟨by simp, by have := blt hb; show n ≤ 1000000; omega, fun i hi => ?_, fun i _ => T.get_nil i, hg⟩
      have hi : i < n := hi
      have e1 : (⟨n, g, .nil⟩ : Tm).get i = undef := by
        show orUndef (T.get .nil i) = undef
        rw [T.get_nil]; rfl
      rw [e1, Array.getD_eq_getD_getElem?]
      have : (([] : List Value) ++ List.replicate (n - ([] : List Value).length) undef).toArray[i]? = some undef := by
        simp [hi]
      rw [this]
      exact .flat rfl
    obtain ⟨g1, g2, g3, g4⟩ := fill_ok (p := p) args args'.toList ⟨n, g, .nil⟩ tm [] hl h0 (Nat.zero_le _) h
    refine ⟨?_, g4⟩
    have he : (([] ++ args'.toList) ++ List.replicate (n - ([] ++ args'.toList).length) undef).toArray = args' ++ Array.replicate (n - args'.size) undef := by
      apply Array.toList_inj.1
      simp
    rw [← he]
    exact g1

def resSem (tmps : Array Value) : ResultVar → Sem Value
  | .tmp t => pure (tmps.getD t undef)
  | .cell a t => do loadVar t (← asAddr (tmps.getD a undef))

theorem run_mapM_cons {α β : Type} {f : α → Sem β} {x : α} {l : List α} {v : β} {vs : List β} (h1 : (f x).run P w = .ok v w) (h2 : (l.mapM f).run P w = .ok vs w) : ((x :: l).mapM f).run P w = .ok (v :: vs) w := by
  rw [List.mapM_cons]
  show ((f x).bind fun a => (l.mapM f).bind fun b => Sem.pure (a :: b)).run P w = _
  rw [run_bind_ok _ _ h1, run_bind_ok _ _ h2]; rfl

theorem res_ok (hm : M c p s w) {tm : Tm} {tmps : Array Value} (hT : TR p tm tmps) : ∀ (l : List ResultVar) (vs : List Value), resVals P tm s l = some vs →
    ∃ vs', (l.mapM (resSem tmps)).run P w = .ok vs' w ∧ LR p vs vs'
  | [], vs, h => by
    injection h with h
    subst h
    exact ⟨[], rfl, .nil p⟩
  | .tmp t :: l, vs, h => by
    unfold resVals at h
    split at h
    · rename_i vs1 h1
      injection h with h
      subst h
      obtain ⟨vs', g1, g2⟩ := res_ok hm hT l vs1 h1
      have hv : VR p (tm.get t) (tmps.getD t undef) := vr_eval (a := { tmps := tmps, defers := [] }) hT (x := .tmp t) rfl
      exact ⟨tmps.getD t undef :: vs', run_mapM_cons (f := resSem tmps) rfl g1, .cons hv g2⟩
    · cases h
  | .cell t ty :: l, vs, h => by
    unfold resVals at h
    split at h
    · rename_i v vs1 h0 h1
      injection h with h
      subst h
      obtain ⟨vs', g1, g2⟩ := res_ok hm hT l vs1 h1
      have hv : VR p (tm.get t) (tmps.getD t undef) := vr_eval (a := { tmps := tmps, defers := [] }) hT (x := .tmp t) rfl
      obtain ⟨v', k1, k2⟩ := peek_load (P := P) hm hv h0
      have hld : (resSem tmps (.cell t ty)).run P w = .ok v' w := by
        unfold pLoad at h0
        split at h0
        · rename_i b hb
          rw [hb] at hv
          obtain ⟨b', e, _⟩ := vr_ptr hv
          show ((asAddr (tmps.getD t undef)).bind fun a => loadVar ty a).run P w = _
          rw [e] at k1 ⊢
          exact k1
        · cases h0
      exact ⟨v' :: vs', run_mapM_cons hld g1, .cons k2 g2⟩
    · cases h

theorem packed_ok {vs vs' : List Value} (h : LR p vs vs') : VR p (packed vs) (if h : vs'.toArray.size = 1 then vs'.toArray[0] else .tuple vs'.toArray) := by
  cases vs with
  | nil =>
    rw [h.nil_inv]
    exact .flat rfl
  | cons v l =>
    obtain ⟨v', m, rfl, hv, hl⟩ := h.cons_inv
    cases l with
    | nil =>
      rw [hl.nil_inv]
      exact hv
    | cons u l =>
      obtain ⟨u', m', rfl, hu, hl'⟩ := hl.cons_inv
      rw [dif_neg (by simp)]
      show VR p (.tuple (v :: u :: l).toArray) _
      have hh := LR.cons hv (LR.cons hu hl')
      exact .tuple (by simpa using hh.1) fun i x x' a b => hh.2 i x x' (by simpa using a) (by simpa using b)

theorem run_results (hm : M c p s w) {tm : Tm} {tmps : Array Value} (hT : TR p tm tmps) {fn : Func} {vs : List Value} (h : resVals P tm s fn.results.toList = some vs) :
    ∃ v', (results fn tmps).run P w = .ok v' w ∧ VR p (packed vs) v' := by
  obtain ⟨vs', g1, g2⟩ := res_ok (P := P) hm hT _ _ h
  refine ⟨_, ?_, packed_ok g2⟩
  have hmm : (fn.results.mapM (resSem tmps)).run P w = .ok vs'.toArray w := by
    rw [Array.mapM_eq_mapM_toList, map_eq_pure_bind]
    show ((fn.results.toList.mapM (resSem tmps)).bind fun a => Sem.pure a.toArray).run P w = _
    rw [run_bind_ok _ _ g1]; rfl
  show ((fn.results.mapM (resSem tmps)).bind fun vs => Sem.pure (if h : vs.size = 1 then vs[0] else .tuple vs)).run P w = _
  rw [run_bind_ok _ _ hmm]; rfl

/-! ### The way out of a function -/

theorem take_ok (F : Fence) (n : Nat) (fn : Func) (tmps : Array Value) (R : Ending → World → Prop) : ∀ (ds : List Nat) (ds' : List Deferred) (s s' : St) (w : World), M c p s w → DsR p ds ds' → takeAll s ds = some s' →
    (∀ w', M c p s' w' → LeavesIn F n P fn tmps R [] .returning w') → LeavesInM F n P fn tmps R ds' .returning w
  | [], [], s, s', w, hm, _, h, hR => by
    injection h with h
    subst h
    exact hR w hm
  | d :: ds, x :: ds', s, s', w, hm, ⟨⟨r, sz, es, hp, hx⟩, hd⟩, h, hR => by
    unfold takeAll at h
    split at h
    · rename_i hg
      obtain ⟨_, r0, sz0, o, hp0, _, hr, hb⟩ := hm.pres d _ hg
      rw [hp] at hp0
      injection hp0 with e1
      have er : r = r0 := congrArg Prod.fst e1
      subst er
      cases hb with
      | deferred =>
        have hm' := hm.shut (.deferred none) hg rfl rfl ⟨_, hp⟩
        subst hx
        refine ⟨by simp, .inl ⟨r, _, rfl, ?_, take_ok F n fn tmps R ds ds' _ s' _ hm' hd h hR⟩⟩
        simp [Instr.takeDeferred, getObj, Go.setObj, Sem.run, hr]
    · cases h
  | [], _ :: _, _, _, _, _, h, _, _ => h.elim
  | _ :: _, [], _, _, _, _, h, _, _ => h.elim

theorem call_ok (hz : Zeros P) {orc : Orc} (ho : OrcOk P orc) {ex : ExF} (hex : ExOk P ex) (g : Nat) : CallOk P g (callF P orc g ex) := by
  intro c p s w f args args' v s' ro n hm hl hg h
  unfold callF at h
  split at h
  · rename_i v0 hv0
    injection h with h
    injection h with e1 e2
    subst e1; subst e2
    unfold askOrc at hv0
    split at hv0
    · rename_i v1 hv1
      cases hb : (args.all flat && flat v1) with
      | false => rw [hb] at hv0; cases hv0
      | true =>
        rw [hb, cond_true] at hv0
        injection hv0 with hv0
        subst hv0
        obtain ⟨b1, b2⟩ := and_true' hb
        rw [List.all_eq_true] at b1
        have hargs : args' = args.toArray := by
          apply Array.toList_inj.1
          rw [hl.flat_eq b1]
        rw [hargs]
        refine (ho f args v1 hv1 b1 w ro n).mono fun e w' he => ?_
        obtain ⟨rfl, rfl⟩ := he
        exact ⟨p, v1, rfl, p.le_refl, hm, .flat b2⟩
    · cases hv0
  · split at h
    · cases h
    · rename_i fn hfn
      unfold callBody at h
      split at h
      · rename_i code tm0 hbody hbeg
        obtain ⟨hT, htg⟩ := begin_ok hl hg hbeg
        have key : CallsIn (Fw none) n P f args' w (Ret c p v s') := by
          refine callsIn_of_wp_marks hfn hbody trivial ?_
          unfold finish at h
          cases hx : ex none code tm0 s with
          | none => rw [hx] at h; cases h
          | some out =>
            rw [hx] at h
            refine hex c p s w none none code tm0 _ out n _ hm hT trivial hx fun q w' a' ds' hq hm' hT' _ hd hdef => ?_
            have hdef : a'.defers = ds' := by rw [hdef]; simp
            obtain ⟨e, tm, ds, s1⟩ := out
            have fin : (match takeAll s1 ds with
                | none => none
                | some s2 => match resVals P tm s2 fn.results.toList with
                  | some vs => some (packed vs, s2)
                  | none => none) = some (v, s') → LeavesInM (Fw none) n P fn a'.tmps (Ret c p v s') a'.defers .returning w' := fun h => by
              split at h
              · cases h
              · rename_i s2 hs2
                split at h
                · rename_i vs hvs
                  injection h with h
                  injection h with e1 e2
                  subst e1; subst e2
                  rw [hdef]
                  refine take_ok _ _ _ _ _ ds ds' s1 s2 w' hm' hd hs2 fun w2 hm2 => ?_
                  obtain ⟨v', k1, k2⟩ := run_results (P := P) hm2 hT' hvs
                  exact ⟨v', k1, q, v', rfl, hq, hm2, k2⟩
                · cases h
            cases e with
            | exit id => cases h
            | normal => exact fin h
            | ret => exact fin h
        cases ro with
        | none => exact key
        | some l => exact key
      · cases h

/-! ### Rounds -/

theorem get_loop (hm : M c p s w) {l l' : Nat} {r : LoopA} (hl : NR p l l') (hg : s.heap.get l = some (.loop r)) : ∃ m : Loop, w.heap[l']? = some (.loop m) ∧ LpR p r m := by
  obtain ⟨sz, k, hp⟩ := hl
  obtain ⟨_, r2, sz', o, hp', _, hr', hb⟩ := hm.pres l _ hg
  rw [hp] at hp'
  injection hp' with e1
  have : l' = r2 := congrArg Prod.fst e1
  subst this
  cases hb with
  | loop h => exact ⟨_, hr', h⟩

theorem run_getLoop {l : Nat} {m : Loop} (h : w.heap[l]? = some (.loop m)) : (Instr.getLoop l).run P w = .ok m w := by
  simp [Instr.getLoop, getObj, Sem.run, h]

theorem run_setObj {l : Nat} {m : Loop} (h : w.heap[l]? = some (.loop m)) (o : Obj) : (Go.setObj l o).run P w = .ok () { w with heap := w.heap.setIfInBounds l o } := by
  simp only [Go.setObj, Sem.run, h]

theorem putAll_ok : ∀ (ps : List Tmp) (args args' : List Value) (tm tm' : Tm) (tmps : Array Value), LR p args args' → TR p tm tmps → putAll tm (ps.zip args) = some tm' →
    TR p tm' ((ps.zip args').foldl (fun (t : Array Value) (x : Tmp × Value) => t.setIfInBounds x.1 x.2) tmps) ∧ tm'.g = tm.g
  | [], args, args', tm, tm', tmps, hl, hT, h => by
    simp only [List.zip_nil_left] at h ⊢
    injection h with h
    subst h
    exact ⟨hT, rfl⟩
  | t :: ps, [], args', tm, tm', tmps, hl, hT, h => by
    rw [hl.nil_inv]
    injection h with h
    subst h
    exact ⟨hT, rfl⟩
  | t :: ps, v :: args, args', tm, tm', tmps, hl, hT, h => by
    obtain ⟨v', m, rfl, hv, hl⟩ := hl.cons_inv
    have h : (match tm.put (some t) v with | some tm' => putAll tm' (ps.zip args) | none => none) = some tm' := h
    split at h
    · rename_i tm1 ht
      have hT1 : TR p tm1 (tmps.setIfInBounds t v') := hT.putAt ht hv
      obtain ⟨g1, g2⟩ := putAll_ok ps args m tm1 tm' _ hl hT1 h
      exact ⟨g1, g2.trans (put_same ht).2⟩
    · cases h

theorem to_fields (r : LoopA) (st : LoopState) (pe : Option Code) : (r.to st pe).state = st ∧ (r.to st pe).pending = pe ∧ (r.to st pe).tm = r.tm ∧ (r.to st pe).params = r.params ∧ (r.to st pe).assign = r.assign ∧ (r.to st pe).body = r.body ∧ (r.to st pe).defers = r.defers := by
  cases r; exact ⟨rfl, rfl, rfl, rfl, rfl, rfl, rfl⟩

theorem lp_to {r : LoopA} {m : Loop} (h : LpR p r m) (st : LoopState) (pe : Option Code) : LpR p (r.to st pe) { m with state := st, pending := pe } := by
  obtain ⟨e1, e2, e3, e4, e5, e6, e7⟩ := to_fields r st pe
  exact ⟨e1.symm, e2.symm, by rw [e3]; exact h.tm, by rw [e4]; exact h.params, by rw [e5]; exact h.assign, by rw [e6]; exact h.body, by rw [e7]; exact h.defers⟩

theorem set_loop (hm : M c p s w) {l l' : Nat} {r r2 : LoopA} {m : Loop} (hl : NR p l l') (hg : s.heap.get l = some (.loop r)) (h2 : LpR p r2 m) :
    M c p (s.put l (some (.loop r2))) { w with heap := w.heap.setIfInBounds l' (.loop m) } := by
  obtain ⟨sz, k, hp⟩ := hl
  exact hm.setObj (y := .loop r2) hg rfl rfl rfl rfl rfl ⟨_, hp⟩ fun _ => .loop h2

theorem round_ok {ex : ExF} (hex : ExOk P ex) : RoundOk P (roundF ex) := by
  intro c p s w l l' args args' v s' ro n hm hl hargs h
  unfold roundF at h
  split at h
  · rename_i r hg
    cases hb : Nat.beq r.params.length args.length with
    | false => rw [hb] at h; cases h
    | true =>
      rw [hb, cond_true] at h
      split at h
      · cases h
      · rename_i tm hpa
        obtain ⟨m, hw, hlp⟩ := get_loop hm hl hg
        obtain ⟨hT, htg⟩ := putAll_ok _ _ _ _ _ _ hargs hlp.tm hpa
        have hsz : args'.size = m.params.size := by
          have e1 := hargs.1
          have e2 := nb hb
          rw [← hlp.params] at e2
          simpa [e1] using e2.symm
        refine ⟨m.fn, (r.params.zip args'.toList).foldl (fun (t : Array Value) (x : Tmp × Value) => t.setIfInBounds x.1 x.2) m.tmps, m.assign, m.body, ?_, ?_⟩
        · have hf : (m.params.zip args').foldl (fun tmps (x : Tmp × Value) => tmps.setIfInBounds x.1 x.2) m.tmps = (r.params.zip args'.toList).foldl (fun (t : Array Value) (x : Tmp × Value) => t.setIfInBounds x.1 x.2) m.tmps := by
            rw [← Array.foldl_toList, Array.toList_zip, hlp.params]
          rw [← hf]
          show ((Instr.getLoop l').bind _).run P w = _
          rw [run_bind_ok _ _ (run_getLoop hw)]
          simp [hsz]
        · unfold roundBody at h
          split at h
          · rename_i tm1 s1 hx1
            split at h
            · rename_i r1 hg1
              split at h
              · rename_i hst1
                unfold roundEnd at h
                split at h
                · rename_i e tm2 s2 hx2
                  split at h
                  · rename_i r2 hg2
                    injection h with h
                    injection h with ev es
                    refine roundIn_of_wpIn trivial ?_
                    have hx1 : ex (some l) r.assign tm s = some ⟨.normal, tm1, [], s1⟩ := hx1
                    rw [hlp.assign]
                    refine hex c p s w (some l) (some l') r.assign tm _ _ n _ hm hT hl hx1 fun q w1 a1 ds1 hq hm1 hT1 _ hd1 hdef1 => ?_
                    have hl1 := hl.le hq
                    obtain ⟨m1, hw1, hlp1⟩ := get_loop hm1 hl1 hg1
                    have hbusy := set_loop hm1 hl1 hg1 (lp_to hlp1 .busy r1.pending)
                    refine ⟨{ w1 with heap := w1.heap.setIfInBounds l' (.loop { m1 with state := .busy, pending := r1.pending }) }, ?_, ?_⟩
                    · have hms : m1.state = .ready := by rw [hlp1.state]; exact hst1
                      have hpe : m1.pending = r1.pending := hlp1.pending
                      rw [← hpe]
                      show ((Instr.getLoop l').bind _).run P w1 = _
                      rw [run_bind_ok _ _ (run_getLoop hw1)]
                      show ((Go.setObj l' _).bind _).run P w1 = _
                      rw [run_bind_ok _ _ (run_setObj hw1 _), hms]
                      rfl
                    · rw [hlp.body]
                      refine hex c q _ _ (some l) (some l') r.body tm1 a1 _ n _ hbusy hT1 hl1 hx2 fun q2 w2 a2 ds2 hq2 hm2 hT2 _ hd2 hdef2 => ?_
                      have hl2 := hl1.le hq2
                      obtain ⟨m2, hw2, hlp2⟩ := get_loop hm2 hl2 hg2
                      have hend : ∀ jump : Option Code, (Instr.endRound l' jump).run P w2 = .ok (.bool jump.isNone) { w2 with heap := w2.heap.setIfInBounds l' (.loop { m2 with state := if jump.isNone then .ready else .done, pending := jump }) } := fun jump => by
                        show ((Instr.getLoop l').bind _).run P w2 = _
                        rw [run_bind_ok _ _ (run_getLoop hw2)]
                        show ((Go.setObj l' _).bind _).run P w2 = _
                        rw [run_bind_ok _ _ (run_setObj hw2 _)]
                        rfl
                      have hfin : ∀ jump st, exCode e = jump → stateOf e = st → (if jump.isNone then LoopState.ready else LoopState.done) = st →
                          ∃ v' w', (Instr.endRound l' jump).run P w2 = .ok v' w' ∧ Ret c p v s' (.returned v') w' := fun jump st e1 e2 e3 => by
                        refine ⟨_, _, hend jump, q2, .bool jump.isNone, rfl, Pl.le_trans hq hq2, ?_, ?_⟩
                        · rw [← es, e1, e2, e3]
                          exact set_loop hm2 hl2 hg2 (lp_to hlp2 st jump)
                        · rw [← ev, e1]; exact .flat rfl
                      cases e with
                      | normal => exact hfin none .ready rfl rfl rfl
                      | ret => exact hfin (some .ret) .done rfl rfl rfl
                      | exit id => exact hfin (some (.exit id)) .done rfl rfl rfl
                  · cases h
                · cases h
              · cases h
            · cases h
          · cases h
  · cases h

end Rn
end Go.Proofs.Ytapidabhdbjnmaa
