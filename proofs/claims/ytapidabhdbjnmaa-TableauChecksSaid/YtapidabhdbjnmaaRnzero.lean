/- A run of a call that is handed no memory: the zero of every type is without addresses. -/
import Derived.Test.YtapidabhdbjnmaaRnz
namespace Go.Proofs.Ytapidabhdbjnmaa
namespace Rn

variable {P : Program}

def Zc (z : Value) : Prop := ∀ c ∈ z.cells.toList, flatN 4 c = true

theorem flatN_up : ∀ (n : Nat) (v : Value), flatN n v = true → flatN (n + 1) v = true
  | 0, v, h => by cases h
  | n + 1, v, h => by
    have ih := flatN_up n
    have h : flatStep (flatN n) v = true := h
    show flatStep (flatN (n + 1)) v = true
    have hall : ∀ l : List Value, l.all (flatN n) = true → l.all (flatN (n + 1)) = true := fun l hl => by
      rw [List.all_eq_true] at hl ⊢
      exact fun x hx => ih x (hl x hx)
    cases v with
    | func fn a c =>
      unfold flatStep at h ⊢
      simp only [Bool.and_eq_true] at h ⊢
      exact ⟨⟨h.1.1, hall _ h.1.2⟩, hall _ h.2⟩
    | iface t v => exact ih v h
    | agg cs => exact hall _ h
    | tuple cs => exact hall _ h
    | _ => exact h

theorem Zc.flat {z : Value} (h : Zc z) : flat z = true := by
  have key : z.cells = #[z] → flatN 4 z = true → flatN 5 z = true := fun _ h => flatN_up 4 z h
  cases z with
  | agg cs => exact List.all_eq_true.2 h
  | _ => exact flatN_up 4 _ (h _ (by simp [Value.cells]))

def Zi (info : TypeId → Option TypeInfo) : Prop := ∀ t i z, info t = some i → i.zero = some z → Zc z

theorem forIn_inv {α β : Type} (f : α → β → Option (ForInStep β)) (I : β → Prop) (hf : ∀ x b r, I b → f x b = some r → ∃ b', (r = .yield b' ∨ r = .done b') ∧ I b') : ∀ (l : List α) (b b' : β), I b → forIn l b f = some b' → I b'
  | [], b, b', hb, h => by
    simp only [List.forIn_nil] at h
    injection h with h
    rw [← h]; exact hb
  | x :: l, b, b', hb, h => by
    rw [List.forIn_cons] at h
    cases hx : f x b with
    | none => rw [hx] at h; cases h
    | some r =>
      rw [hx] at h
      obtain ⟨b1, h1, h2⟩ := hf x b r hb hx
      rcases h1 with rfl | rfl
      · exact forIn_inv f I hf l b1 b' h2 h
      · have h : some b1 = some b' := h
        injection h with h
        rw [← h]; exact h2

theorem zc_word {d : TypeDesc} {s : String} {v : Value} {c : Bool} {n : Nat} {i : TypeInfo} {z : Value} (hi : i = Made.word d s v c n) (hz : i.zero = some z) (hv : Zc v) : Zc z := by
  subst hi
  have hz : some v = some z := hz
  injection hz with hz
  rw [← hz]; exact hv

theorem struct_ok {info : TypeId → Option TypeInfo} (h : Zi info) {fs : Array Field} {i : TypeInfo} {z : Value} (hr : Made.reckonStruct info fs = some i) (hz : i.zero = some z) : Zc z := by
  unfold Made.reckonStruct at hr
  simp only [← Array.forIn_toList, Option.bind_eq_bind, Option.bind_eq_some_iff, Option.pure_def] at hr
  obtain ⟨a, ha, hr⟩ := hr
  have hI := forIn_inv _ (fun b : Array Field × Nat × Nat × Nat × Nat × Bool × Bool × Option (Array Value) × String => ∀ zs, b.2.2.2.2.2.2.2.1 = some zs → ∀ c ∈ zs, flatN 4 c = true) (fun f b r hb hx => ?_) _ _ a ?_ ha
  · have hz2 : i.zero = a.2.2.2.2.2.2.2.1.map .agg := by
      split at hr <;> (injection hr with hr; rw [← hr])
    rw [hz2] at hz
    cases haz : a.2.2.2.2.2.2.2.1 with
    | none => rw [haz] at hz; cases hz
    | some zs =>
      rw [haz] at hz
      injection hz with hz
      subst hz
      intro c hc
      exact hI zs haz c (by simpa [Value.cells] using hc)
  · obtain ⟨j, hj, hx⟩ := Option.bind_eq_some_iff.1 hx
    have fin : ∀ (n : Nat) (zs : Array Value), (if n > Made.mostCells then none else b.2.2.2.2.2.2.2.1.bind fun u => j.zero.bind fun v => some (u ++ v.cells)) = some zs → ∀ c ∈ zs, flatN 4 c = true := fun n zs hzs c hc => by
      split at hzs
      · cases hzs
      · obtain ⟨u, hu, hzs⟩ := Option.bind_eq_some_iff.1 hzs
        obtain ⟨v, hv, hzs⟩ := Option.bind_eq_some_iff.1 hzs
        injection hzs with hzs
        rw [← hzs, Array.mem_append] at hc
        rcases hc with hc | hc
        · exact hb u hu c hc
        · exact h f.type j v hj hv c (by simpa using hc)
    by_cases h1 : j.str.isEmpty = true
    · rw [if_pos h1] at hx; cases hx
    · rw [if_neg h1] at hx
      by_cases h2 : f.embedded = true
      · rw [if_pos h2] at hx; cases hx
      · rw [if_neg h2] at hx
        by_cases h3 : f.tag.isEmpty = true
        · rw [if_pos h3] at hx
          obtain ⟨tag, _, hx⟩ := Option.bind_eq_some_iff.1 hx
          split at hx <;> (injection hx with hx; exact ⟨_, .inl hx.symm, fin _⟩)
        · rw [if_neg h3] at hx
          obtain ⟨tag, _, hx⟩ := Option.bind_eq_some_iff.1 hx
          split at hx <;> (injection hx with hx; exact ⟨_, .inl hx.symm, fin _⟩)
  · intro zs hzs c hc
    injection hzs with hzs
    rw [← hzs] at hc
    simp at hc

theorem reckon_ok {info : TypeId → Option TypeInfo} (h : Zi info) {d : TypeDesc} {i : TypeInfo} {z : Value} (hr : Made.reckon info d = some i) (hz : i.zero = some z) : Zc z := by
  have one : ∀ v : Value, v.cells = #[v] → flatN 4 v = true → Zc v := fun v h1 h2 c hc => by
    rw [h1] at hc
    have : c = v := by simpa using hc
    rw [this]; exact h2
  cases d with
  | pointer e =>
    simp only [Made.reckon, Option.bind_eq_bind, Option.bind_eq_some_iff] at hr
    obtain ⟨j, _, hr⟩ := hr
    split at hr
    · cases hr
    · split at hr
      · cases hr
      · simp only [Option.bind_eq_some_iff] at hr
        obtain ⟨s, _, hr⟩ := hr
        injection hr with hr
        exact zc_word hr.symm hz (one _ rfl rfl)
    · simp only [Option.bind_eq_some_iff] at hr
      obtain ⟨s, _, hr⟩ := hr
      injection hr with hr
      exact zc_word hr.symm hz (one _ rfl rfl)
  | slice e =>
    simp only [Made.reckon, Option.bind_eq_bind, Option.bind_eq_some_iff] at hr
    obtain ⟨j, _, s, _, hr⟩ := hr
    injection hr with hr
    exact zc_word hr.symm hz (one _ rfl rfl)
  | map k e =>
    simp only [Made.reckon, Option.bind_eq_bind, Option.bind_eq_some_iff] at hr
    obtain ⟨j, _, s, _, j2, _, s2, _, hr⟩ := hr
    injection hr with hr
    exact zc_word hr.symm hz (one _ rfl rfl)
  | chan dir e =>
    simp only [Made.reckon, Option.bind_eq_bind, Option.bind_eq_some_iff] at hr
    obtain ⟨j, _, s, _, hr⟩ := hr
    injection hr with hr
    exact zc_word hr.symm hz (one _ rfl rfl)
  | func ps rs v =>
    simp only [Made.reckon, Option.bind_eq_bind, Option.bind_eq_some_iff] at hr
    obtain ⟨s, _, hr⟩ := hr
    injection hr with hr
    exact zc_word hr.symm hz (one _ rfl rfl)
  | array n e =>
    simp only [Made.reckon, Option.bind_eq_bind, Option.bind_eq_some_iff] at hr
    obtain ⟨j, hj, s, _, hr⟩ := hr
    injection hr with hr
    subst hr
    simp only at hz
    split at hz
    · cases hz
    · split at hz
      · injection hz with hz
        subst hz
        exact fun c hc => by cases hc
      · cases hjz : j.zero with
        | none => rw [hjz] at hz; cases hz
        | some u =>
          rw [hjz] at hz
          injection hz with hz
          subst hz
          intro c hc
          have hu := h e j u hj hjz
          have hc : c ∈ ((Array.replicate n u.cells).flatten).toList := hc
          rw [Array.mem_toList_iff, Array.mem_flatten] at hc
          obtain ⟨l, h1, h2⟩ := hc
          have : l = u.cells := (Array.mem_replicate.1 h1).2
          rw [this] at h2
          exact hu c (by simpa using h2)
  | struct fs => exact struct_ok h hr hz
  | _ => cases hr

theorem infoAt_ok {T : Tables} (h : ∀ (i : Nat) (j : TypeInfo) (z : Value), T.types[i]? = some j → j.zero = some z → Zc z) : ∀ f, Zi (Made.infoAt T f)
  | 0, t, i, z, hi, hz => by cases hi
  | f + 1, t, i, z, hi, hz => by
    unfold Made.infoAt at hi
    split at hi
    · exact h t i z hi hz
    · obtain ⟨d, _, hi⟩ := Option.bind_eq_some_iff.1 hi
      exact reckon_ok (infoAt_ok h f) hi hz

/-- All types' zeros are without addresses. -/
def zerosOk (P : Program) : Bool := P.types.toList.all fun i => match i.zero with
  | some z => z.cells.toList.all (flatN 4)
  | none => true

theorem zeros_of (h : zerosOk P = true) : Zeros P := fun t i z hi hz => by
  have htab : ∀ (k : Nat) (j : TypeInfo) (z : Value), P.types[k]? = some j → j.zero = some z → Zc z := fun k j z hj hz => by
    unfold zerosOk at h
    have := (List.all_eq_true.1 h) j (by simpa using Array.mem_of_getElem? hj)
    rw [hz] at this
    exact List.all_eq_true.1 this
  refine Zc.flat ?_
  have hi : Tables.info? P.toTables t = some i := hi
  unfold Tables.info? at hi
  split at hi
  · exact htab t i z hi hz
  · exact infoAt_ok htab Made.depth t i z hi hz

end Rn
end Go.Proofs.Ytapidabhdbjnmaa
