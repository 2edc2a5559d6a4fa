/- A run of a call that is handed no memory: append, copy, clear, iterators, calls: any operation that may write. -/
import Derived.Test.YtapidabhdbjnmaaRnn
namespace Go.Proofs.Ytapidabhdbjnmaa
namespace Rn

variable {P : Program} {p : Pl} {c : Ctx} {s s' : St} {w : World}

theorem news_ok (hz : Zeros P) (hm : M c p s w) {elem st xt : TypeId} {ts : Array TypeId} {size : Nat} {z : Value} {zeros : Bool} {info : TypeInfo} {xd : TypeDesc} (hI : AppI P ts elem size z zeros info st xt xd)
    {x x' : Value} {n : Nat} {news : List Value} (hx : VR p x x') (h : newsA s size z zeros x = some (n, news)) :
    ∃ nw, News P w size z zeros x' n nw ∧ LR p news nw.toList ∧ news.length = n * size := by
  unfold newsA at h
  cases hb : zeros with
  | false =>
    rw [hb, cond_false] at h
    obtain ⟨h1, nw, h2, h3⟩ := src_ok (P := P) hm hx h
    exact ⟨nw, .src rfl h1 h2, h3, src_len h⟩
  | true =>
    rw [hb, cond_true] at h
    split at h
    · rename_i m
      cases hc : (decide (0 < m) && Nat.ble m.toNat maxSmall) with
      | false => rw [hc] at h; cases h
      | true =>
        rw [hc, cond_true] at h
        injection h with h
        injection h with e1 e2
        subst e1; subst e2
        obtain ⟨q1, q2⟩ := and_true' hc
        have q1 := of_decide_eq_true q1
        have q2 := ble q2
        unfold maxSmall at q2
        have hzf : flat z = true := hz _ _ _ hI.inf hI.zero
        refine ⟨rowZ z.cells (m.toNat * z.cells.size), .zeros rfl ?_ q2 (by omega) rfl, .flat (rowZ_flat (flat_cells hzf) _), ?_⟩
        · rw [vr_int hx]
          congr 1
          omega
        · rw [Array.length_toList]
          unfold rowZ
          rw [Array.size_map, Array.size_range, hI.zsize]
    · cases h

theorem loadN_all {s : St} {b : Nat} {cl : List Value} {e : TypeId} {es : Nat} {olds : List Nat} {live : Bool} (hg : s.heap.get b = some (.cells cl e es olds live)) :
    ∀ (n i : Nat), i + n ≤ cl.length → loadN s ⟨b, 0, none⟩ i n = some ((cl.drop i).take n)
  | 0, i, _ => by rw [loadN_zero]; simp
  | n + 1, i, h => by
    rw [loadN_succ, loadN_all hg n (i + 1) (by omega), add_eq]
    have hc : s.cell ⟨b, 0 + i, none⟩ = some (cl[i]'(by omega)) := by
      unfold St.cell
      simp only [hg, nth_eq, Nat.zero_add]
      exact List.getElem?_eq_getElem _
    rw [hc]
    show some _ = _
    congr 1
    rw [List.drop_eq_getElem_cons (by omega : i < cl.length), List.take_succ_cons]

theorem get_append3 {p : Pl} {a b a' b' : List Value} (r : List Value) (h1 : LR p a a') (h2 : LR p b b') (i : Nat) (v : Value) (hv : (a ++ b)[i]? = some v) : ∃ v', (a' ++ b' ++ r)[i]? = some v' ∧ VR p v v' := by
  obtain ⟨v', g1, g2⟩ := (h1.append h2).get hv
  refine ⟨v', ?_, g2⟩
  rw [List.getElem?_append_left]
  · exact g1
  · rcases Nat.lt_or_ge i (a' ++ b').length with h | h
    · exact h
    · rw [List.getElem?_eq_none h] at g1; cases g1

theorem zeroCells_size (z : Array Value) (n : Nat) : (Builtin.zeroCells z n).size = n * z.size := by
  unfold Builtin.zeroCells
  simp

theorem act_append (hz : Zeros P) (hm : M c p s w) {ts : Array TypeId} {ty : TypeId} {sv xv sv' xv' v : Value} (hs : VR p sv sv') (hx : VR p xv xv') (h : appendA P ts sv xv s = some (v, s')) :
    ∃ q w' v', p.le q ∧ (Builtin.append_ ts ty #[sv', xv']).run P w = .ok v' w' ∧ M c q s' w' ∧ VR q v v' := by
  unfold appendA at h
  split at h
  · cases h
  · rename_i elem size z zeros hinfo
    obtain ⟨info, st, xt, xd, hI⟩ := appInfo_ok hinfo
    split at h
    · cases h
    · rename_i n news hn
      split at h
      · rename_i base sLen sCap
        obtain ⟨nw, hN, hnl, hnlen⟩ := news_ok hz hm hI hx hn
        obtain ⟨nw2, hN2, hnl2, _⟩ := news_ok hz hm.drew hI hx hn
        have hpos := hI.pos
        cases hb : (Nat.blt maxSmall (sLen + n) || !(news.all oneCellB)) with
        | true => rw [hb] at h; cases h
        | false =>
        rw [hb, cond_false] at h
        obtain ⟨hb1, hb2⟩ := (Bool.or_eq_false_iff).1 hb
        have hsm : sLen + n ≤ 65536 := by
          rcases Nat.lt_or_ge maxSmall (sLen + n) with h | h
          · rw [bltt h] at hb1; cases hb1
          · exact h
        have hone : ∀ v ∈ news, oneCellB v = true := by
          have : news.all oneCellB = true := by simpa using hb2
          rw [List.all_eq_true] at this
          exact this
        have hone' : ∀ v ∈ nw.toList, oneCellB v = true := fun v hv => by
          obtain ⟨i, hi, e⟩ := List.getElem_of_mem hv
          have hi2 : i < news.length := by rw [hnl.1]; exact hi
          have := hnl.2 i news[i] v (List.getElem?_eq_getElem hi2) (by rw [List.getElem?_eq_getElem hi, e])
          rw [vr_oneCell this]
          exact hone _ (List.getElem_mem _)
        have hin : ∀ (a : Option Addr) (cap' : Nat) (sC : Nat), sLen + n ≤ cap' → sv' = .slice a sLen cap' → base.isSome = a.isSome → (∀ x x', base = some x → a = some x' → news ≠ [] → AR p x x') →
            (∀ (v' : Value), v' = .slice a (sLen + n) cap' → VR p (.slice base (sLen + n) sC) v') →
            appendIn size base sLen sC (sLen + n) news s = some (v, s') → ∃ q w' v', p.le q ∧ (Builtin.append_ ts ty #[sv', xv']).run P w = .ok v' w' ∧ M c q s' w' ∧ VR q v v' := by
          intro a cap' sC hc hsv hso har hvr hin
          subst hsv
          unfold appendIn at hin
          cases base with
          | none =>
            cases a with
            | some _ => cases hso
            | none =>
              simp only at hin
              cases hem : news.isEmpty with
              | false => rw [hem] at hin; cases hin
              | true =>
                rw [hem, cond_true] at hin
                injection hin with hin
                injection hin with e1 e2
                subst e1; subst e2
                exact ⟨p, w, _, p.le_refl, run_append_in (ty := ty) hI hN hc (base := none) rfl, hm, hvr _ rfl⟩
          | some x =>
            cases a with
            | none => cases hso
            | some x' =>
              simp only at hin
              split at hin
              · rename_i s1 hs1
                injection hin with hin
                injection hin with e1 e2
                subst e1; subst e2
                by_cases hne : news = []
                · subst hne
                  have hnil : nw = #[] := by
                    apply Array.toList_inj.1
                    exact hnl.nil_inv
                  rw [storeN_nil] at hs1
                  injection hs1 with hs1
                  subst hs1
                  exact ⟨p, w, _, p.le_refl, run_append_in (ty := ty) hI hN hc (base := some x') (by rw [hnil]; rfl), hm, hvr _ rfl⟩
                · obtain ⟨w', g1, g2, _⟩ := storeN_ok (P := P) news nw.toList s s1 w _ _ 0 hm ((har x x' rfl rfl hne).add (sLen * size)) hnl hs1
                  exact ⟨p, w', _, p.le_refl, run_append_in (ty := ty) hI hN hc (base := some x') g1, g2, hvr _ rfl⟩
              · cases hin
        cases hK : Nat.blt sCap K with
        | true =>
          rw [hK, cond_true] at h
          have hKl := blt hK
          have hsv : ∃ a, sv' = .slice a sLen sCap ∧ base.isSome = a.isSome ∧ (∀ x x', base = some x → a = some x' → AR p x x') ∧ (base = none → sLen = 0 ∧ sCap = 0) := by
            cases base with
            | none =>
              refine ⟨none, vr_slice_none hs, rfl, fun x x' e => by (cases e), fun _ => ?_⟩
              have hnil : flat (.slice none sLen sCap) = true := by
                cases hs with
                | flat hh => exact hh
              have hnil : ((_ && Nat.beq sLen 0) && Nat.beq sCap 0) = true := hnil
              simp only [Bool.and_eq_true] at hnil
              exact ⟨nb hnil.1.2, nb hnil.2⟩
            | some x =>
              obtain ⟨x', e, hx'⟩ := vr_slice_lt hKl hs
              exact ⟨some x', e, rfl, fun y y' e1 e2 => by injection e1 with e1; injection e2 with e2; subst e1; subst e2; exact hx', fun e => by cases e⟩
          obtain ⟨a, e, hso, har, hnone⟩ := hsv
          cases hle : Nat.ble (sLen + n) sCap with
          | true =>
            rw [hle, cond_true] at h
            refine hin a sCap sCap (ble hle) e hso (fun x x' e1 e2 _ => har x x' e1 e2) (fun v' ev => ?_) h
            subst ev
            cases base with
            | none =>
              cases a with
              | some _ => cases hso
              | none =>
                obtain ⟨q1, q2⟩ := hnone rfl
                have := ble hle
                have hn0 : n = 0 := by omega
                rw [q1, q2, hn0]
                exact .flat rfl
            | some x =>
              cases a with
              | none => cases hso
              | some x' => exact .slc (har x x' rfl rfl) hKl
          | false =>
            rw [hle, cond_false] at h
            have hgt : ¬ sLen + n ≤ sCap := blef hle
            unfold appendNew at h
            split at h
            · rename_i sl old hold
              injection h with h
              injection h with e1 e2
              subst e1; subst e2
              obtain ⟨hol, old', ho1, ho2⟩ := src_ok (P := P) hm.drew hs hold
              have holen := src_len hold
              rw [e] at hol ho1
              injection hol with hol
              subst hol
              obtain ⟨newCap, k1, k2⟩ := run_append_out (ty := ty) hI hN hN2 hgt hsm ho1
              have hsz1 : (old' ++ nw2 ++ Builtin.zeroCells z.cells (newCap - (sLen + n))).size = newCap * size := by
                have e1 : old'.size = sLen * size := by rw [← holen, ho2.1, Array.length_toList]
                have e2 : nw2.size = n * size := by rw [← hnlen, hnl2.1, Array.length_toList]
                rw [Array.size_append, Array.size_append, e1, e2, zeroCells_size, hI.zsize, ← Nat.add_mul, ← Nat.add_mul]
                congr 1
                omega
              obtain ⟨g1, g2⟩ := hm.drew.new (x := .cells (old ++ news) elem size [] true) (sz := newCap * size) (o := .cells (old' ++ nw2 ++ Builtin.zeroCells z.cells (newCap - (sLen + n))) elem (0, 0))
                (.cells hsz1 fun i v hv => by
                  obtain ⟨v', q1, q2⟩ := get_append3 (Builtin.zeroCells z.cells (newCap - (sLen + n))).toList ho2 hnl2 i v hv
                  exact ⟨v', by simpa [← Array.getElem?_toList] using q1, q2⟩) (fun b hb => by cases hb)
              rw [e]
              refine ⟨_, _, _, g1, k2, g2, ?_⟩
              exact .slcK (r := w.heap.size) (sz := newCap * size) (es := size) (by simp [Pl.add, Blk.es]) (fun _ => ⟨rfl, by omega⟩) k1 (Nat.le_refl _)
            · cases h
        | false =>
          rw [hK, cond_false] at h
          have hKn : ¬ sCap < K := fun hh => by rw [bltt hh] at hK; cases hK
          cases base with
          | none =>
            exfalso
            have hnil : flat (.slice none sLen sCap) = true := by
              cases hs with
              | flat hh => exact hh
            have hnil : ((_ && Nat.beq sLen 0) && Nat.beq sCap 0) = true := hnil
            simp only [Bool.and_eq_true] at hnil
            have := nb hnil.2
            unfold K at hKn
            omega
          | some x =>
            obtain ⟨r, sz, es, off', cap', hsp, e, hp, ho, hroom, hlen⟩ := vr_sliceK hKn hs
            obtain ⟨xb, xo, xs⟩ := x
            simp only at hsp hp ho
            subst hsp
            cases hle : Nat.ble (sLen + n) (sCap - K) with
            | true =>
              rw [hle, cond_true] at h
              have hle := ble hle
              refine hin (some ⟨r, off', none⟩) cap' sCap (by omega) e rfl (fun y y' e1 e2 hne => ?_) (fun v' ev => ?_) h
              · injection e1 with e1; injection e2 with e2
                subst e1; subst e2
                have hn1 : news.length ≠ 0 := fun h0 => hne (List.length_eq_zero_iff.1 h0)
                have : n ≠ 0 := fun h0 => hn1 (by rw [hnlen, h0, Nat.zero_mul])
                rw [(ho (by omega)).1]
                exact .mk hp
              · subst ev
                have : sCap = K + (sCap - K) := by omega
                rw [this]
                exact .slcK hp ho hroom hle
            | false =>
              rw [hle, cond_false] at h
              have hgt := blef hle
              have h : appendMay elem size ⟨xb, xo, none⟩ sLen (sLen + n) news s = some (v, s') := h
              unfold appendMay at h
              split at h
              · rename_i cl e0 es0 olds hg
                have hg : s.heap.get xb = some (.cells cl e0 es0 olds true) := hg
                cases hbb : (Nat.beq es0 size && Nat.beq (sLen * size) cl.length && Nat.beq xo 0 && (none : Option Nat).isNone && Nat.beq e0 elem) with
                | false => rw [hbb] at h; cases h
                | true =>
                rw [hbb, cond_true] at h
                injection h with h
                injection h with e1 e2
                subst e1; subst e2
                simp only [Bool.and_eq_true] at hbb
                obtain ⟨⟨⟨⟨b1, b2⟩, b3⟩, _⟩, b5⟩ := hbb
                have b1 := nb b1
                have b2 := nb b2
                have b3 := nb b3
                have b5 := nb b5
                subst b1; subst b3; subst b5
                obtain ⟨_, r0, sz0, o0, hp0, hown, hr0, hb0⟩ := hm.pres xb _ hg
                have hpq : p xb = some (r0, sz0, es0) := hp0
                rw [hp] at hpq
                injection hpq with eq1
                have er : r = r0 := congrArg Prod.fst eq1
                have esz : sz = sz0 := congrArg (fun x => x.2.1) eq1
                have ees : es = es0 := congrArg (fun x => x.2.2) eq1
                subst er; subst esz; subst ees
                cases hb0 with
                | @cells _ _ _ _ _ cs _ hcsz hcs =>
                by_cases hfit : sLen + n ≤ cap'
                · -- there is room
                  obtain ⟨hoff, hsz⟩ := ho (by omega)
                  subst hoff
                  have hroomc : 0 + sLen * es + 0 + nw.toList.length ≤ cs.size := by
                    rw [← hnl.1, hnlen, hcsz, ← hsz, Nat.zero_add, Nat.add_zero, ← Nat.add_mul, Nat.zero_add]
                    exact Nat.mul_le_mul_right _ hfit
                  obtain ⟨w', cs', g1, g2, g3, g4, g5, g5', g6, g7⟩ := storeCells_block (P := P) (c := c) (r := r) (off := 0 + sLen * es) (hown rfl) nw.toList 0 w cs hm.keep hr0 hroomc hone'
                  obtain ⟨k1, k2⟩ := hm.grow (news := news) hg hp hr0 g3 g4 g5 (fun j hj => g6 j (by omega)) (fun j v hv => by
                    obtain ⟨v', q1, q2⟩ := hnl.get hv
                    have hj : j < nw.toList.length := by
                      rcases Nat.lt_or_ge j nw.toList.length with h | h
                      · exact h
                      · rw [List.getElem?_eq_none h] at q1; cases q1
                    refine ⟨v', ?_, q2⟩
                    have := g7 j hj
                    rw [q1] at this
                    rw [← this]
                    congr 1
                    omega) g2
                  rw [e]
                  refine ⟨_, w', _, k1, run_append_in (ty := ty) hI hN hfit (base := some ⟨r, 0, none⟩) (by
                    show (storeCells ((⟨r, 0, none⟩ : Addr).add (sLen * es)) nw.toList).run P w = _
                    rw [add_eq]; exact g1), k2, ?_⟩
                  exact .slcK (r := r) (sz := sz) (es := es) (by simp [Pl.add]) (fun _ => ⟨rfl, hsz⟩) hfit (Nat.le_refl _)
                · -- there is none
                  have hfirst : ∃ old' : Array Value, (Builtin.firstCells es sLen (.slice (some ⟨r, off', none⟩) sLen cap')).run P { w with drawn := w.drawn + 1 } = .ok old' { w with drawn := w.drawn + 1 } ∧ LR p cl old'.toList := by
                    have hload := loadN_all hg cl.length 0 (by omega)
                    simp only [List.drop_zero, List.take_length] at hload
                    rw [← b2] at hload
                    by_cases hs0 : sLen = 0
                    · subst hs0
                      refine ⟨#[], ?_, ?_⟩
                      · show (loadCells _ (0 * es)).run P _ = _
                        rw [Nat.zero_mul]; rfl
                      · rw [Nat.zero_mul, loadN_zero] at hload
                        injection hload with hload
                        rw [← hload]
                        exact .nil p
                    · rw [(ho (by omega)).1]
                      exact loadN_load (P := P) hm.drew (.mk hp) hload
                  obtain ⟨old', ho1, ho2⟩ := hfirst
                  obtain ⟨newCap, k1, k2⟩ := run_append_out (ty := ty) hI hN hN2 hfit hsm ho1
                  have hsz1 : (old' ++ nw2 ++ Builtin.zeroCells z.cells (newCap - (sLen + n))).size = newCap * es := by
                    have e1 : old'.size = sLen * es := by rw [b2, ho2.1, Array.length_toList]
                    have e2 : nw2.size = n * es := by rw [← hnlen, hnl2.1, Array.length_toList]
                    rw [Array.size_append, Array.size_append, e1, e2, zeroCells_size, hI.zsize, ← Nat.add_mul, ← Nat.add_mul]
                    congr 1
                    omega
                  have hst := hm.drew.stale hg
                  obtain ⟨g1, g2⟩ := hst.new (x := .cells (cl ++ news) e0 es (xb :: olds) true) (sz := newCap * es) (o := .cells (old' ++ nw2 ++ Builtin.zeroCells z.cells (newCap - (sLen + n))) e0 (0, 0))
                    (.cells hsz1 fun i v hv => by
                      obtain ⟨v', q1, q2⟩ := get_append3 (Builtin.zeroCells z.cells (newCap - (sLen + n))).toList ho2 hnl2 i v hv
                      exact ⟨v', by simpa [← Array.getElem?_toList] using q1, q2⟩) (fun b hb => by
                      have hb : b ∈ xb :: olds := hb
                      have hxm := (hm.pres xb _ hg).1
                      rcases List.mem_cons.1 hb with eb | hb
                      · subst eb
                        refine ⟨hm.lt hg, (hm.okk.2 _ _ hg).1, fun y hy => ?_⟩
                        rcases get_of_put hxm hy with ⟨_, f2⟩ | ⟨f1, _⟩
                        · injection f2 with f2
                          subst f2
                          exact ⟨rfl, by simp [Blk.len]⟩
                        · exact (f1 rfl).elim
                      · refine ⟨hm.olds xb b _ hg hb, (hm.okk.2 _ _ hg).2.1 b hb, fun y hy => ?_⟩
                        rcases get_of_put hxm hy with ⟨_, f2⟩ | ⟨_, f2⟩
                        · injection f2 with f2
                          subst f2
                          exact ⟨rfl, by simp [Blk.len]⟩
                        · obtain ⟨q1, q2⟩ := hm.dead xb b _ _ hg f2 rfl hb
                          exact ⟨q1, Nat.le_trans q2 (by show cl.length ≤ (cl ++ news).length; simp)⟩)
                  rw [e]
                  refine ⟨_, _, _, g1, k2, g2, ?_⟩
                  exact .slcK (r := w.heap.size) (sz := newCap * es) (es := es) (by simp [Pl.add, Blk.es, St.put]) (fun _ => ⟨rfl, by omega⟩) k1 (Nat.le_refl _)
              · cases h
      · cases h

end Rn
end Go.Proofs.Ytapidabhdbjnmaa
