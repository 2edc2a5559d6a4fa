/- A run of a call that is handed no memory: what an operation that reads at most comes to. -/
import Derived.Test.YtapidabhdbjnmaaRng
namespace Go.Proofs.Ytapidabhdbjnmaa
namespace Rn

variable {P : Program} {p : Pl}

theorem vr_pair {x x' : Value} (h : VR p x x') (b : Bool) : VR p (.tuple #[x, .bool b]) (.tuple #[x', .bool b]) :=
  .tuple rfl fun i v v' a c => by
    match i with
    | 0 => simp at a c; subst a; subst c; exact h
    | 1 => simp at a c; subst a; subst c; exact .flat rfl
    | n + 2 => simp at a

theorem run_getMap {w : World} {r : Nat} {es : Array MapEntry} {clock : Nat} (h : w.heap[r]? = some (.map es clock)) : (getObj r).run P w = .ok (.map es clock) w := by
  simp only [getObj, Sem.run, h]

theorem get_map {c : Ctx} {s : St} {w : World} (hm : M c p s w) {r r' : Nat} {es : List MapEntry} {clock : Nat} (hr : NR p r r') (hg : s.heap.get r = some (.map es clock)) :
    ∃ es' : Array MapEntry, w.heap[r']? = some (.map es' clock) ∧ ER p es es'.toList := by
  obtain ⟨sz, k, hp⟩ := hr
  obtain ⟨_, r2, sz', o, hp', _, hr', hb⟩ := hm.pres r _ hg
  rw [hp] at hp'
  injection hp' with e1
  have : r' = r2 := congrArg Prod.fst e1
  subst this
  cases hb with
  | @map _ es' _ _ he => exact ⟨es', hr', he⟩

/-- The entries that a map has. -/
theorem entries_of {c : Ctx} {s : St} {w : World} (hm : M c p s w) {m m' : Value} (hv : VR p m m') {es : List MapEntry}
    (h : entriesA m s = some es) :
    (m' = .map none ∧ es = []) ∨ ∃ r' clock, ∃ es' : Array MapEntry, m' = .map (some r') ∧ w.heap[r']? = some (.map es' clock) ∧ ER p es es'.toList := by
  unfold entriesA at h
  cases m with
  | map r =>
    cases r with
    | none =>
      injection h with h
      exact .inl ⟨vr_map_none hv, h.symm⟩
    | some r =>
      obtain ⟨r', rfl, hr⟩ := vr_map hv
      simp only at h
      split at h
      · rename_i es0 clock hg
        injection h with h
        subst h
        obtain ⟨es', h1, h2⟩ := get_map hm hr hg
        exact .inr ⟨r', clock, es', rfl, h1, h2⟩
      · cases h
  | _ => cases h

theorem peek_lookup (hz : Zeros P) {c : Ctx} {s : St} {w : World} (hm : M c p s w) {t : TypeId} {m k m' k' u : Value} {ok : Bool} (hv : VR p m m') (hk : VR p k k') (h : lookupA P t m k ok s = some u) :
    Peeks P p w (Instr.lookup t m' k' ok) u := by
  unfold lookupA at h
  split at h
  · rename_i kt et hd
    split at h
    · cases h
    · rename_i es hes
      cases hkf : (keysFlat es && flat k) with
      | false => rw [hkf] at h; cases h
      | true =>
        rw [hkf, cond_true] at h
        obtain ⟨h1, h2⟩ := and_true' hkf
        have hke : k' = k := vr_eq hk h2
        subst hke
        rcases entries_of hm hv hes with ⟨rfl, rfl⟩ | ⟨r', clock, es', rfl, hw, he⟩
        · have he : ER p [] (#[] : Array MapEntry).toList := ⟨rfl, fun i e e' h => by simp at h⟩
          split at h
          · rename_i a i hc hf
            obtain ⟨_, f2⟩ := find_ok he h1 hf
            obtain ⟨e, e', q, _⟩ := f2 i rfl
            simp at q
          · rename_i a hc hf
            obtain ⟨f1, _⟩ := find_ok he h1 hf
            have hc' := pureRun_run _ _ hc w
            have hf' := f1 rfl w
            split at h
            · rename_i z hz0
              injection h with h
              have hz1 := pureRun_run _ _ hz0 w
              have hzf := zero_flat hz hz0
              cases ok with
              | true =>
                exact ⟨.tuple #[z, .bool false], by simp [Instr.lookup, ru hd, hz1, hf'] at hc' ⊢; simp [hc', hf', hz1], h ▸ vr_pair (.flat hzf) false⟩
              | false =>
                exact ⟨z, by simp [Instr.lookup, ru hd, hz1, hf'] at hc' ⊢; simp [hc', hf', hz1], h ▸ .flat hzf⟩
            · cases h
          · cases h
        · have hemp : es.isEmpty = es'.isEmpty := by
            have hl := he.1
            cases es with
            | nil =>
              have : es'.size = 0 := by simpa using hl.symm
              simp [Array.isEmpty, this]
            | cons a b =>
              have : es'.size = (b.length + 1) := by simpa using hl.symm
              simp [Array.isEmpty, this]
          split at h
          · rename_i a i hc hf
            obtain ⟨_, f2⟩ := find_ok he h1 hf
            obtain ⟨e, e', q1, q2, q3, q4, q5, q6⟩ := f2 i rfl
            rw [hemp] at hc
            have hc' := pureRun_run _ _ hc w
            have hf' := q6 w
            rw [nth_eq, q1] at h
            injection h with h
            cases ok with
            | true => exact ⟨.tuple #[e'.val, .bool true], by simp [Instr.lookup, ru hd, run_getMap hw, hc', hf'], h ▸ vr_pair q4 true⟩
            | false => exact ⟨e'.val, by simp [Instr.lookup, ru hd, run_getMap hw, hc', hf'], h ▸ q4⟩
          · rename_i a hc hf
            obtain ⟨f1, _⟩ := find_ok he h1 hf
            rw [hemp] at hc
            have hc' := pureRun_run _ _ hc w
            have hf' := f1 rfl w
            split at h
            · rename_i z hz0
              injection h with h
              have hz1 := pureRun_run _ _ hz0 w
              have hzf := zero_flat hz hz0
              cases ok with
              | true => exact ⟨.tuple #[z, .bool false], by simp [Instr.lookup, ru hd, run_getMap hw, hc', hf', hz1], h ▸ vr_pair (.flat hzf) false⟩
              | false => exact ⟨z, by simp [Instr.lookup, ru hd, run_getMap hw, hc', hf', hz1], h ▸ .flat hzf⟩
            · cases h
          · cases h
  · cases h

theorem loadN_load {c : Ctx} {s : St} {w : World} (hm : M c p s w) {a a' : Addr} (ha : AR p a a') {n : Nat} {l : List Value} (h : loadN s a 0 n = some l) :
    ∃ l' : Array Value, (loadCells a' n).run P w = .ok l' w ∧ LR p l l'.toList := by
  obtain ⟨b, h1, h2⟩ := (rel_loadCells (P := P) ha n).peek hm (q_loadCells s a n 0 #[] l h)
  exact ⟨b, h2, by simpa using h1⟩

theorem LR.flat_eq {l l' : List Value} (h : LR p l l') (hf : ∀ v ∈ l, Rn.flat v = true) : l' = l := by
  induction l generalizing l' with
  | nil => exact h.nil_inv
  | cons v l ih =>
    obtain ⟨v', m, rfl, hv, hl⟩ := h.cons_inv
    rw [vr_eq hv (hf v (by simp)), ih hl fun x hx => hf x (by simp [hx])]

theorem isU8_eq {e : TypeId} (h : isU8 P e = true) : P.underlying e = some (.int .u8) := by
  unfold isU8 at h
  split at h
  · assumption
  · cases h

theorem peek_conv {c : Ctx} {s : St} {w : World} (hm : M c p s w) {sr d : TypeId} {x x' u : Value} (hv : VR p x x') (h : pConv P s sr d x = some u) : Peeks P p w (convert sr d x') u := by
  unfold pConv at h
  split at h
  · rename_i e a n cp hs hd
    obtain ⟨a', c', rfl, ha⟩ := vr_slice hv
    cases hu : isU8 P e with
    | false => rw [hu] at h; cases h
    | true =>
      rw [hu, cond_true] at h
      split at h
      · rename_i cs hcs
        cases hb : cs.all isByte with
        | false => rw [hb] at h; cases h
        | true =>
          rw [hb, cond_true] at h
          have hflat : ∀ v ∈ cs, flat v = true := fun v hv => by
            rw [List.all_eq_true] at hb
            have := hb v hv
            cases v <;> first | (cases this; done) | rfl
          have hld : ∃ l' : Array Value, (loadCells a' n).run P w = .ok l' w ∧ LR p cs l'.toList := by
            cases n with
            | zero =>
              rw [loadN_zero] at hcs
              injection hcs with hcs
              subst hcs
              exact ⟨#[], rfl, .nil p⟩
            | succ n => exact loadN_load hm (ha (by omega)) hcs
          obtain ⟨l', g1, g2⟩ := hld
          have hl : l' = cs.toArray := by
            apply Array.toList_inj.1
            rw [g2.flat_eq hflat]
          subst hl
          split at h
          case h_2 => cases h
          rename_i v0 hv0
          cases hfl : flat v0 with
          | false => rw [hfl] at h; cases h
          | true =>
          rw [hfl, cond_true] at h
          injection h with h
          subst h
          have hrun := pureRun_run _ _ hv0 w
          refine ⟨v0, ?_, .flat hfl⟩
          · show ((underlying sr).bind _).run P w = _
            rw [run_bind_ok _ _ (ru hs w)]
            show ((underlying d).bind _).run P w = _
            rw [run_bind_ok _ _ (ru hd w)]
            show ((underlying e).bind _).run P w = _
            rw [run_bind_ok _ _ (ru (isU8_eq hu) w)]
            show ((loadCells a' n).bind fun cs => bytesTree cs).run P w = _
            rw [run_bind_ok _ _ g1]
            exact hrun
      · cases h
  · cases h

end Rn
end Go.Proofs.Ytapidabhdbjnmaa
