/- A run of a call that is handed no memory: operations whose order is drawn: what the order allows. -/
import Derived.Test.YtapidabhdbjnmaaRnw
namespace Go.Proofs.Ytapidabhdbjnmaa
namespace Rn

variable {P : Program} {p : Pl} {c : Ctx} {s s' : St} {w : World}

theorem listSame {r : Value → Value → Bool} (hr : ∀ x y, r x y = true → x = y) : ∀ (l l' : List Value), l.length = l'.length → ((l.zip l').all fun (x, y) => r x y) = true → l = l'
  | [], [], _, _ => rfl
  | x :: l, y :: l', hn, h => by
    simp only [List.zip_cons_cons, List.all_cons, Bool.and_eq_true] at h
    rw [hr x y h.1, listSame hr l l' (by simpa using hn) h.2]
  | [], _ :: _, hn, _ => by cases hn
  | _ :: _, [], hn, _ => by cases hn

theorem arrSame {r : Value → Value → Bool} (hr : ∀ x y, r x y = true → x = y) {a b : Array Value} (hn : a.size = b.size) (h : ((a.toList.zip b.toList).all fun (x, y) => r x y) = true) : a = b :=
  Array.toList_inj.1 (listSame hr _ _ (by simpa using hn) h)

theorem sameAddr_eq {a b : Addr} (h : sameAddrB a b = true) : a = b := by
  obtain ⟨b1, o1, s1⟩ := a
  obtain ⟨b2, o2, s2⟩ := b
  unfold sameAddrB at h
  simp only [Bool.and_eq_true] at h
  obtain ⟨⟨⟨h1, h2⟩, h3⟩, h4⟩ := h
  have e1 := Nat.eq_of_beq_eq_true h1
  have e2 := Nat.eq_of_beq_eq_true h2
  cases s1 with
  | some _ => cases h3
  | none => cases s2 with
    | some _ => cases h4
    | none => subst e1; subst e2; rfl

theorem sameVN_eq : ∀ (n : Nat) (x y : Value), sameVN n x y = true → x = y
  | 0, x, y, h => by cases h
  | n + 1, x, y, h => by
    have ih := sameVN_eq n
    unfold sameVN at h
    split at h
    · simp at h; rw [h]
    · simp only [Bool.and_eq_true, beq_iff_eq] at h; rw [h.1, h.2]
    · rename_i a b
      simp only [beq_iff_eq] at h
      have : a.data = b.data := Array.toList_inj.1 h
      obtain ⟨a⟩ := a
      obtain ⟨b⟩ := b
      have this : a = b := this
      rw [this]
    · rfl
    · rw [sameAddr_eq h]
    · simp only [Bool.and_eq_true] at h
      rw [Nat.eq_of_beq_eq_true h.1, Nat.eq_of_beq_eq_true h.2]
    · simp only [Bool.and_eq_true] at h
      rw [sameAddr_eq h.1.1, Nat.eq_of_beq_eq_true h.1.2, Nat.eq_of_beq_eq_true h.2]
    · rfl
    · rw [Nat.eq_of_beq_eq_true h]
    · rfl
    · rfl
    · simp only [Bool.and_eq_true] at h
      rw [Nat.eq_of_beq_eq_true h.1, ih _ _ h.2]
    · simp only [Bool.and_eq_true] at h
      rw [arrSame ih (Nat.eq_of_beq_eq_true h.1) h.2]
    · simp only [Bool.and_eq_true] at h
      rw [arrSame ih (Nat.eq_of_beq_eq_true h.1) h.2]
    · simp only [Bool.and_eq_true] at h
      obtain ⟨⟨⟨⟨h1, h2⟩, h3⟩, h4⟩, h5⟩ := h
      rw [arrSame ih (Nat.eq_of_beq_eq_true h2) h3, arrSame ih (Nat.eq_of_beq_eq_true h4) h5]
      split at h1
      · rw [Nat.eq_of_beq_eq_true h1]
      · cases h1
    · cases h

/-- What the order of the operations allows. -/
structure Ord (b : Array Nat) (ops : Array Oper) : Prop where
  edge : ∀ j o, ops[j]? = some o → ∀ e ∈ o.after, Region.binds .any e = true → e.on < j ∧ waits b j e.on = true
  wait : ∀ j o, ops[j]? = some o → ∀ i, i < ops.size → waits b j i = true → i < j ∧ ∃ e ∈ o.after, Region.binds .any e = true ∧ (e.on = i ∨ waits b e.on i = true)
  pair : ∀ i oi j oj, ops[i]? = some oi → ops[j]? = some oj → i < j → waits b j i = true ∨ ((∀ d, oi.dst = some d → d ∉ namesOf ops oj) ∧ ∀ d, oj.dst = some d → d ∉ namesOf ops oi)

theorem mem_zip {ops : Array Oper} {j : Nat} {o : Oper} (h : ops[j]? = some o) : (j, o) ∈ (List.range ops.size).zip ops.toList := by
  have hj : j < ops.size := by
    rcases Nat.lt_or_ge j ops.size with h' | h'
    · exact h'
    · rw [Array.getElem?_eq_none h'] at h; cases h
  refine List.mem_of_getElem? (i := j) ?_
  rw [List.getElem?_zip_eq_some]
  exact ⟨by simp [hj], by simpa using h⟩

theorem ord_of {ops : Array Oper} (h : orderOk ops = true) : Ord (Region.before ops) ops := by
  unfold orderOk at h
  simp only [Bool.and_eq_true, List.all_eq_true] at h
  obtain ⟨h1, h2⟩ := h
  refine ⟨fun j o ho e he hb => ?_, fun j o ho i hi hw => ?_, fun i oi j oj hoi hoj hij => ?_⟩
  · have := h1 _ (mem_zip ho)
    simp only [directOk, Bool.and_eq_true, List.all_eq_true] at this
    have := this.1 e (by simpa using he)
    rw [hb] at this
    simp only [Bool.not_true, Bool.false_or, Bool.and_eq_true] at this
    exact ⟨blt this.1, this.2⟩
  · have := h1 _ (mem_zip ho)
    simp only [directOk, Bool.and_eq_true, List.all_eq_true] at this
    have := this.2 i (by simpa using hi)
    rw [hw] at this
    simp only [Bool.not_true, Bool.false_or, Bool.and_eq_true, List.any_eq_true] at this
    obtain ⟨g1, e, g2, g3, g4⟩ := this
    refine ⟨blt g1, e, by simpa using g2, g3, ?_⟩
    simp only [Bool.or_eq_true] at g4
    exact g4.imp Nat.eq_of_beq_eq_true id
  · have := h2 _ (mem_zip hoi) _ (mem_zip hoj)
    simp only [pairOk, Bool.or_eq_true, Bool.and_eq_true] at this
    rcases this with (h3 | h3) | h3
    · exfalso
      have : Nat.blt i j = true := by rw [Nat.blt_eq]; exact hij
      rw [this] at h3; cases h3
    · exact .inl h3
    · refine .inr ⟨fun d hd => ?_, fun d hd => ?_⟩
      · have := h3.1
        rw [hd] at this
        simpa using this
      · have := h3.2
        rw [hd] at this
        simpa using this

/-- What has been carried out: what it waits for too. -/
structure Dn (b : Array Nat) (ops : Array Oper) (L : Nat → Bool) : Prop where
  down : ∀ j i, i < ops.size → L j = true → waits b j i = true → L i = true

section
variable {call : CallF} {round : RoundF} {ops : Array Oper} {b : Array Nat} {base : Nat} {tm0 : Tm} {s0 : St} {L L' : Nat → Bool}

theorem stL_app : ∀ (B X : List Ent), (∀ x ∈ B, (actSt x.r).isSome = true → L x.i = false) → stL s0 L (B ++ X) = stL s0 L X
  | [], _, _ => rfl
  | x :: B, X, h => by
    have ih := stL_app B X fun y hy => h y (List.mem_cons_of_mem _ hy)
    show (match actSt x.r with | some s1 => if L x.i = true then s1 else stL s0 L (B ++ X) | none => stL s0 L (B ++ X)) = _
    split
    · rename_i s1 hs
      rw [if_neg (by rw [h x (by simp) (by rw [hs]; rfl)]; exact Bool.false_ne_true)]
      exact ih
    · exact ih
theorem stL_congr : ∀ (X : List Ent), (∀ x ∈ X, (actSt x.r).isSome = true → L' x.i = L x.i) → stL s0 L' X = stL s0 L X
  | [], _ => rfl
  | x :: X, h => by
    have ih := stL_congr X fun y hy => h y (List.mem_cons_of_mem _ hy)
    show (match actSt x.r with | some s1 => if L' x.i = true then s1 else stL s0 L' X | none => stL s0 L' X) = (match actSt x.r with | some s1 => if L x.i = true then s1 else stL s0 L X | none => stL s0 L X)
    rw [ih]
    split
    · rename_i s1 hs
      rw [h x (by simp) (by rw [hs]; rfl)]
    · rfl
theorem valL_app {t : Nat} : ∀ (B X : List Ent), (∀ x ∈ B, x.o.dst = some t → L x.i = false) → valL tm0 L (B ++ X) t = valL tm0 L X t
  | [], _, _ => rfl
  | x :: B, X, h => by
    have ih := valL_app B X fun y hy => h y (List.mem_cons_of_mem _ hy)
    show (if L x.i = true ∧ x.o.dst = some t then x.v else valL tm0 L (B ++ X) t) = _
    rw [if_neg (fun e => by rw [h x (by simp) e.2] at e; exact Bool.false_ne_true e.1)]
    exact ih
theorem valL_congr {t : Nat} : ∀ (X : List Ent), (∀ x ∈ X, x.o.dst = some t → L' x.i = L x.i) → valL tm0 L' X t = valL tm0 L X t
  | [], _ => rfl
  | x :: X, h => by
    have ih := valL_congr X fun y hy => h y (List.mem_cons_of_mem _ hy)
    show (if L' x.i = true ∧ x.o.dst = some t then x.v else valL tm0 L' X t) = (if L x.i = true ∧ x.o.dst = some t then x.v else valL tm0 L X t)
    rw [ih]
    by_cases hd : x.o.dst = some t
    · rw [h x (by simp) hd]
    · rw [if_neg (fun e => hd e.2), if_neg (fun e => hd e.2)]

theorem Ch.idx {es : List Ent} {tm : Tm} {s : St} {ps : List Pend} (h : Ch P call round ops b base tm0 s0 es tm s ps) : ∀ x ∈ es, x.i < es.length ∧ ops[x.i]? = some x.o := by
  induction h with
  | nil => exact fun x hx => by cases hx
  | @cons es tm s ps e tm' s' ps' h hi ho ht hp hs ih =>
    intro x hx
    rcases List.mem_cons.1 hx with rfl | hx
    · exact ⟨by rw [hi]; simp, ho⟩
    · obtain ⟨k1, k2⟩ := ih x hx
      exact ⟨Nat.lt_trans k1 (by simp), k2⟩

theorem lt_of_ops {i : Nat} {o : Oper} (h : ops[i]? = some o) : i < ops.size := by
  rcases Nat.lt_or_ge i ops.size with h' | h'
  · exact h'
  · rw [Array.getElem?_eq_none h'] at h; cases h

theorem okLast_of {es : List Ent} {e : Ent} {s s' : St} {ps ps' : List Pend} (hs : Stp P call round ops b base e es s ps s' ps') (ha : (actSt e.r).isSome = true) : okLast b e.i (wsOf es) = true := by
  unfold Stp at hs
  split at hs
  · rename_i hr; rw [hr] at ha; cases ha
  · rename_i hr; rw [hr] at ha; cases ha
  · exact hs.2.2.2.1
  · rename_i hr; rw [hr] at ha; cases ha

theorem ws_mem : ∀ {es : List Ent} {l : Nat}, l ∈ wsOf es → ∃ x ∈ es, x.i = l ∧ (actSt x.r).isSome = true
  | [], l, h => by cases h
  | e :: r, l, h => by
    unfold wsOf at h
    split at h
    · rename_i s1 hs
      rcases List.mem_cons.1 h with rfl | h
      · exact ⟨e, by simp, rfl, by rw [hs]; rfl⟩
      · obtain ⟨x, k1, k2⟩ := ws_mem h
        exact ⟨x, List.mem_cons_of_mem _ k1, k2⟩
    · obtain ⟨x, k1, k2⟩ := ws_mem h
      exact ⟨x, List.mem_cons_of_mem _ k1, k2⟩

/-- If the last that writes has been carried out, all have. -/
theorem acts_all (hd : Dn b ops L) {es : List Ent} {tm : Tm} {s : St} {ps : List Pend} (h : Ch P call round ops b base tm0 s0 es tm s ps) :
    (∀ l r, wsOf es = l :: r → L l = true) → ∀ y ∈ es, (actSt y.r).isSome = true → L y.i = true := by
  induction h with
  | nil => exact fun _ y hy => by cases hy
  | @cons es tm s ps e tm' s' ps' h hi ho ht hp hs ih =>
    intro hl y hy ha
    cases hr : actSt e.r with
    | some s1 =>
      have he : L e.i = true := hl e.i (wsOf es) (by simp [wsOf, hr])
      rcases List.mem_cons.1 hy with rfl | hy
      · exact he
      · refine ih (fun l r hlr => ?_) y hy ha
        have hk := okLast_of hs (by rw [hr]; rfl)
        rw [hlr] at hk
        obtain ⟨x, k1, k2, _⟩ := ws_mem (es := es) (l := l) (by rw [hlr]; simp)
        exact hd.down e.i l (by rw [← k2]; exact lt_of_ops (h.idx x k1).2) he hk
    | none =>
      rcases List.mem_cons.1 hy with rfl | hy
      · rw [hr] at ha; cases ha
      · exact ih (fun l r hlr => hl l r (by simp [wsOf, hr, hlr])) y hy ha

theorem acts_last (hd : Dn b ops L) {A : List Ent} {tm : Tm} {s s2 : St} {ps ps2 : List Pend} (h : Ch P call round ops b base tm0 s0 A tm s ps) {e : Ent} (hs : Stp P call round ops b base e A s ps s2 ps2) (ha : (actSt e.r).isSome = true)
    (hw : ∀ k, k < ops.size → waits b e.i k = true → L k = true) : ∀ y ∈ A, (actSt y.r).isSome = true → L y.i = true :=
  acts_all hd h fun l r hlr => by
    have hk := okLast_of hs ha
    rw [hlr] at hk
    obtain ⟨x, k1, k2, _⟩ := ws_mem (es := A) (l := l) (by rw [hlr]; simp)
    exact hw l (by rw [← k2]; exact lt_of_ops (h.idx x k1).2) hk

theorem acts_cl (hd : Dn b ops L) {es : List Ent} {tm : Tm} {s : St} {ps : List Pend} (h : Ch P call round ops b base tm0 s0 es tm s ps) :
    ∀ x ∈ es, ∀ y ∈ es, (actSt x.r).isSome = true → (actSt y.r).isSome = true → y.i < x.i → L x.i = true → L y.i = true := by
  induction h with
  | nil => exact fun x hx => by cases hx
  | @cons es tm s ps e tm' s' ps' h hi ho ht hp hs ih =>
    intro x hx y hy ax ay hlt hL
    rcases List.mem_cons.1 hx with hx1 | hx1 <;> rcases List.mem_cons.1 hy with hy1 | hy1
    · subst hx1; subst hy1; omega
    · subst hx1; exact acts_last hd h hs ax (fun k hk hw => hd.down x.i k hk hL hw) y hy1 ay
    · subst hy1
      have := (h.idx x hx1).1
      omega
    · exact ih x hx1 y hy1 ax ay hlt hL

/-! ### The memories -/

theorem hs_len : ∀ (es : List Ent), (hsOf s0 es).length = (wsOf es).length + 1
  | [] => rfl
  | e :: es => by
    have := hs_len es
    unfold hsOf wsOf
    split <;> simp [this]

theorem hs_head : ∀ (es : List Ent), ∃ r, hsOf s0 es = stL s0 (fun _ => true) es :: r
  | [] => ⟨[], rfl⟩
  | e :: es => by
    obtain ⟨r, hr⟩ := hs_head es
    unfold hsOf stL
    split
    · exact ⟨_, rfl⟩
    · exact ⟨r, hr⟩

theorem hs_app : ∀ (B X : List Ent), ∃ r, hsOf s0 (B ++ X) = r ++ hsOf s0 X
  | [], X => ⟨[], rfl⟩
  | e :: B, X => by
    obtain ⟨r, hr⟩ := hs_app B X
    show ∃ r', (match actSt e.r with | some s1 => s1 :: hsOf s0 (B ++ X) | none => hsOf s0 (B ++ X)) = r' ++ hsOf s0 X
    split
    · exact ⟨_ :: r, by rw [hr]; rfl⟩
    · exact ⟨r, hr⟩

theorem nth_at (B : List Ent) (e : Ent) (A : List Ent) (he : actSt e.r = none) : nth (hsOf s0 (B ++ e :: A)).reverse (wsOf A).length = some (stL s0 (fun _ => true) A) := by
  rw [nth_eq]
  obtain ⟨r, hr⟩ := hs_app (s0 := s0) (B ++ [e]) A
  rw [List.append_assoc] at hr
  have hr : hsOf s0 (B ++ e :: A) = r ++ hsOf s0 A := hr
  obtain ⟨r2, h2⟩ := hs_head (s0 := s0) A
  have hl := hs_len (s0 := s0) A
  rw [hr, List.reverse_append, List.getElem?_append_left (by rw [List.length_reverse, hl]; omega), h2, List.reverse_cons, List.getElem?_append_right (by rw [List.length_reverse]; rw [h2] at hl; simp at hl; omega)]
  rw [h2] at hl
  simp at hl
  simp [hl]

theorem nth_now (hd : Dn b ops L) {es : List Ent} {tm : Tm} {s : St} {ps : List Pend} (h : Ch P call round ops b base tm0 s0 es tm s ps) :
    nth (hsOf s0 es).reverse ((wsOf es).filter L).length = some (stL s0 L es) := by
  induction h with
  | nil => rfl
  | @cons es tm s ps e tm' s' ps' h hi ho ht hp hs ih =>
    cases hr : actSt e.r with
    | none =>
      have e1 : hsOf s0 (e :: es) = hsOf s0 es := by simp [hsOf, hr]
      have e2 : wsOf (e :: es) = wsOf es := by simp [wsOf, hr]
      have e3 : stL s0 L (e :: es) = stL s0 L es := by simp [stL, hr]
      rw [e1, e2, e3]; exact ih
    | some s1 =>
      have e1 : hsOf s0 (e :: es) = s1 :: hsOf s0 es := by simp [hsOf, hr]
      have e2 : wsOf (e :: es) = e.i :: wsOf es := by simp [wsOf, hr]
      have e3 : stL s0 L (e :: es) = if L e.i = true then s1 else stL s0 L es := by simp [stL, hr]
      have hl := hs_len (s0 := s0) es
      rw [e1, e2, e3, nth_eq, List.reverse_cons]
      cases hL : L e.i with
      | true =>
        have hall := acts_last hd h hs (by rw [hr]; rfl) (fun k hk hw => hd.down e.i k hk hL hw)
        have hf : (wsOf es).filter L = wsOf es := List.filter_eq_self.2 fun l hl' => by
          obtain ⟨x, k1, k2, k3⟩ := ws_mem hl'
          rw [← k2]; exact hall x k1 k3
        rw [List.filter_cons_of_pos hL, hf, List.getElem?_append_right (by simp [hl])]
        simp [hl]
      | false =>
        have hle : ((wsOf es).filter L).length ≤ (wsOf es).length := List.length_filter_le _ _
        rw [List.filter_cons_of_neg (by rw [hL]; exact Bool.false_ne_true), List.getElem?_append_left (by rw [List.length_reverse, hl]; omega), ← nth_eq, ih]
        simp

theorem filter_le {α : Type} (f g : α → Bool) : ∀ (l : List α), (∀ x ∈ l, f x = true → g x = true) → (l.filter f).length ≤ (l.filter g).length
  | [], _ => Nat.le_refl _
  | x :: l, h => by
    have ih := filter_le f g l fun y hy => h y (List.mem_cons_of_mem _ hy)
    cases hf : f x with
    | true => rw [List.filter_cons_of_pos hf, List.filter_cons_of_pos (h x (by simp) hf)]; simpa using ih
    | false =>
      rw [List.filter_cons_of_neg (by rw [hf]; exact Bool.false_ne_true)]
      refine Nat.le_trans ih ?_
      by_cases hg : g x = true
      · rw [List.filter_cons_of_pos hg]; simp
      · rw [List.filter_cons_of_neg hg]; exact Nat.le_refl _

end
end Rn
end Go.Proofs.Ytapidabhdbjnmaa
