/- A run of a call that is handed no memory: any operation that may write. -/
import Derived.Test.YtapidabhdbjnmaaRno
namespace Go.Proofs.Ytapidabhdbjnmaa
namespace Rn

variable {P : Program} {p : Pl} {c : Ctx} {s s' : St} {w : World}

theorem act_copy (hm : M c p s w) {ts : Array TypeId} {ty : TypeId} {d x d' x' v : Value} (hd : VR p d d') (hx : VR p x x') (h : copyA P ts d x s = some (v, s')) :
    ∃ q w' v', p.le q ∧ (Builtin.copy_ ts ty #[d', x']).run P w = .ok v' w' ∧ M c q s' w' ∧ VR q v v' := by
  unfold copyA at h
  split at h
  · rename_i dt ht
    split at h
    · rename_i e base n cp m hu hl
      split at h
      · rename_i i hi
        split at h
        · rename_i cs hcs
          have hlen : (Builtin.lenOf x').run P w = .ok m w := by
            unfold lenS at hl
            split at hl
            · injection hl with hl; subst hl
              obtain ⟨b', c', rfl, _⟩ := vr_slice_opt hx
              rfl
            · injection hl with hl; subst hl
              rw [vr_string hx]; rfl
            · cases hl
          have hfirst : ∃ l' : Array Value, (Builtin.firstCells i.size (Nat.min m n) x').run P w = .ok l' w ∧ LR p cs l'.toList := by
            unfold copyCells at hcs
            split at hcs
            · rename_i a m0 c0
              obtain ⟨a', c', rfl, ha⟩ := vr_slice hx
              injection hl with hl
              by_cases hz : Nat.min m n * i.size = 0
              · rw [hz, loadN_zero] at hcs
                injection hcs with hcs
                subst hcs
                refine ⟨#[], ?_, .nil p⟩
                show (loadCells a' (Nat.min m n * i.size)).run P w = _
                rw [hz]; rfl
              · have hm0 : m0 ≠ 0 := fun h0 => hz (by
                  have : Nat.min m n = 0 := by
                    have := Nat.min_le_left m n
                    have : Nat.min m n ≤ m := this
                    omega
                  rw [this, Nat.zero_mul])
                exact loadN_load hm (ha hm0) hcs
            · rename_i m0 c0
              injection hcs with hcs
              subst hcs
              rw [vr_slice_none hx]
              exact ⟨#[], rfl, .nil p⟩
            · rename_i b
              cases hb : Nat.beq i.size 1 with
              | false => rw [hb] at hcs; cases hcs
              | true =>
                rw [hb, cond_true] at hcs
                injection hcs with hcs
                subst hcs
                rw [vr_string hx]
                refine ⟨_, rfl, LR.flat fun v hv => ?_⟩
                simp only [Array.toList_map, List.mem_map] at hv
                obtain ⟨_, _, rfl⟩ := hv
                rfl
            · cases hcs
          obtain ⟨l', g1, g2⟩ := hfirst
          unfold copyTo at h
          cases base with
          | none =>
            simp only at h
            cases hem : cs.isEmpty with
            | false => rw [hem] at h; cases h
            | true =>
              rw [hem, cond_true] at h
              injection h with h
              injection h with e1 e2
              subst e1; subst e2
              rw [vr_slice_none hd]
              exact ⟨p, w, goInt (Nat.min m n), p.le_refl, by simp [Builtin.copy_, ht, ru hu, hlen, rs hi, g1], hm, .flat rfl⟩
          | some a =>
            obtain ⟨a', c', rfl, ha⟩ := vr_slice hd
            simp only at h
            split at h
            · rename_i s1 hs1
              injection h with h
              injection h with e1 e2
              subst e1; subst e2
              have hst : ∃ w', (storeCells a' l'.toList).run P w = .ok () w' ∧ M c p s1 w' := by
                by_cases hne : cs = []
                · subst hne
                  rw [storeN_nil] at hs1
                  injection hs1 with hs1
                  subst hs1
                  rw [g2.nil_inv]
                  exact ⟨w, rfl, hm⟩
                · have hn0 : n ≠ 0 := fun h0 => by
                    subst h0
                    have hmin : Nat.min m 0 = 0 := Nat.min_zero m
                    unfold copyCells at hcs
                    rw [hmin] at hcs
                    split at hcs
                    · rw [Nat.zero_mul, loadN_zero] at hcs
                      injection hcs with hcs
                      exact hne hcs.symm
                    · injection hcs with hcs
                      exact hne hcs.symm
                    · cases hb : Nat.beq i.size 1 with
                      | false => rw [hb] at hcs; cases hcs
                      | true =>
                        rw [hb, cond_true] at hcs
                        injection hcs with hcs
                        apply hne
                        rw [← hcs]
                        apply List.eq_nil_of_length_eq_zero
                        rw [Array.length_toList, Array.size_map]
                        show (ByteArray.extract _ 0 0).size = 0
                        rw [ByteArray.size_extract]
                        omega
                    · cases hcs
                  obtain ⟨w', k1, k2, _⟩ := storeN_ok (P := P) cs l'.toList s s1 w a a' 0 hm (ha hn0) g2 hs1
                  exact ⟨w', k1, k2⟩
              obtain ⟨w', k1, k2⟩ := hst
              exact ⟨p, w', goInt (Nat.min m n), p.le_refl, by simp [Builtin.copy_, ht, ru hu, hlen, rs hi, g1, k1], k2, .flat rfl⟩
            · cases h
        · cases h
      · cases h
    · cases h
  · cases h

theorem act_clear (hz : Zeros P) (hm : M c p s w) {ts : Array TypeId} {ty : TypeId} {x x' v : Value} (hx : VR p x x') (h : clearA P ts x s = some (v, s')) :
    ∃ q w' v', p.le q ∧ (Builtin.clear_ ts ty #[x']).run P w = .ok v' w' ∧ M c q s' w' ∧ VR q v v' := by
  unfold clearA at h
  split at h
  · rename_i t ht
    split at h
    · rename_i e a n cp hu
      split at h
      · rename_i i hi
        split at h
        · rename_i z hz0
          cases hb : Nat.ble n maxSmall with
          | false => rw [hb] at h; cases h
          | true =>
            rw [hb, cond_true] at h
            split at h
            · rename_i s1 hs1
              injection h with h
              injection h with e1 e2
              subst e1; subst e2
              obtain ⟨a', c', rfl, ha⟩ := vr_slice hx
              have hzf : flat z = true := hz _ _ _ hi hz0
              by_cases hn : n = 0
              · subst hn
                have hr : (rowZ z.cells (0 * z.cells.size)).toList = [] := by unfold rowZ; simp
                rw [hr, storeN_nil] at hs1
                injection hs1 with hs1
                subst hs1
                exact ⟨p, w, .tuple #[], p.le_refl, by simp [Builtin.clear_, ht, ru hu], hm, .flat rfl⟩
              · obtain ⟨w', k1, k2, _⟩ := storeN_ok (P := P) _ _ s s1 w a a' 0 hm (ha hn) (LR.flat (rowZ_flat (flat_cells hzf) (n * z.cells.size))) hs1
                have hrow : (rowZ z.cells (n * z.cells.size)) = Builtin.zeroCells z.cells n := rfl
                rw [hrow] at k1
                refine ⟨p, w', .tuple #[], p.le_refl, ?_, k2, .flat rfl⟩
                obtain ⟨n', rfl⟩ : ∃ n', n = n' + 1 := ⟨n - 1, by omega⟩
                simp [Builtin.clear_, ht, ru hu, zeroV hi hz0, k1]
            · cases h
        · cases h
      · cases h
    · cases h
  · cases h

theorem rel_range (t : TypeId) {v v' : Value} (h : VR p v v') : Rel P VR p (Instr.range t v) (Instr.range t v') := by
  refine .bind (rel_underlying t) fun q a b hq hab => ?_
  obtain ⟨rfl, _⟩ := hab
  cases a with
  | string =>
    cases v with
    | string b =>
      rw [vr_string h]
      exact .str fun q r r' hq hr => .pure (let ⟨_, _, h⟩ := hr; .ptr (.mk h))
    | _ => exact .bad fun s => rfl
  | map k e =>
    cases v with
    | map r =>
      cases r with
      | none => exact .bad fun s => rfl
      | some r =>
        obtain ⟨r', rfl, hr⟩ := vr_map h
        refine .getObj (hr.le hq) fun o o' ho => ?_
        cases ho with
        | map _ => exact .bad fun s => rfl
        | str => exact .bad fun s => rfl
    | _ => exact .bad fun s => rfl
  | _ => exact .bad fun s => by cases v <;> rfl

theorem rel_next (t : TypeId) (b : Bool) {v v' : Value} (h : VR p v v') : Rel P VR p (Instr.next v b t) (Instr.next v' b t) := by
  cases v with
  | pointer a =>
    cases a with
    | none => exact .bad fun s => rfl
    | some a =>
      obtain ⟨a', rfl, ha⟩ := vr_ptr h
      cases ha with
      | @mk r r' sz es off hp =>
        cases off with
        | succ n => exact .bad fun s => rfl
        | zero =>
          refine .getObj ⟨_, _, hp⟩ fun o o' ho => ?_
          cases ho with
          | map _ => cases b <;> exact .bad fun s => rfl
          | @str sb pos =>
            cases b with
            | false => exact .bad fun s => rfl
            | true =>
              show Rel P VR p (if pos < sb.size then _ else _) (if pos < sb.size then _ else _)
              by_cases hlt : pos < sb.size
              · rw [if_pos hlt, if_pos hlt]
                refine .setObj ⟨_, _, hp⟩ .str ?_
                exact .pure (.flat rfl)
              · rw [if_neg hlt, if_neg hlt]
                exact .pure (.flat rfl)
  | _ => exact .bad fun s => rfl

end Rn
end Go.Proofs.Ytapidabhdbjnmaa
