/- Matrices in memory; the walk over copyRows. -/
import Derived.Test.YtbehihanhfmmhaaGreatG04
import Derived.StillTailTactics
import Derived.Laws.CopyOwn
namespace Go.Proofs.YtbehihanhfmmhaaGreat
open Go.RowKit

/-- A slice of slices that reads as lists of numbers. -/
def RdN (w : World) (v : Value) (Ms : List (List Nat)) : Prop :=
  ∃ vs : List Value, Rd w v 1 Ms.length vs ∧ ∀ i (h : i < Ms.length) (h' : i < vs.length), Rd w vs[i] 1 Ms[i].length (nats Ms[i])

theorem RdN.below {w w' : World} {v : Value} {Ls : List (List Nat)} (h : RdN w v Ls) (hB : Below w.heap.size w w') : RdN w' v Ls := by
  obtain ⟨vs, h1, h2⟩ := h
  exact ⟨vs, h1.below hB (Nat.le_refl _), fun i h h' => (h2 i h h').below hB (Nat.le_refl _)⟩

theorem Tryz.infoS : (Tryz.prog.info? 22).map (fun i => (i.zero, i.size, i.bytes)) = some (some (.slice none 0 0), 1, 24) := by kernel_rfl

/-- A new matrix: row i is the value vs[i]. -/
structure Mx (w wr : World) (b n cap : Nat) (vs : List Value) (Ms : List (List Nat)) : Prop where
  own : wr.ownsRow w.heap.size 22 1 (.slice (some ⟨b, 0, none⟩) n cap) n vs
  rows : ∀ (i : Nat) (v : Value) (M : List Nat), vs[i]? = some v → Ms[i]? = some M → wr.ownsRow w.heap.size 3 1 v M.length (nats M)
  len : Ms.length = n
  below : Below w.heap.size w wr

theorem Mx.vlen {w wr : World} {b n cap : Nat} {vs : List Value} {Ms : List (List Nat)} (h : Mx w wr b n cap vs Ms) : vs.length = n := by have := h.own.1; omega

theorem Mx.cell {w wr : World} {b n cap : Nat} {vs : List Value} {Ms : List (List Nat)} (h : Mx w wr b n cap vs Ms) {i : Nat} (hi : i < n) : ∃ a cp, wr.cell? ⟨b, i, none⟩ = some (.slice a (Ms.getD i []).length cp) ∧ wr.ownsRow w.heap.size 3 1 (.slice a (Ms.getD i []).length cp) (Ms.getD i []).length (nats (Ms.getD i [])) ∧ vs[i]? = some (.slice a (Ms.getD i []).length cp) := by
  have hv := h.vlen
  have hm := h.len
  have h1 : vs[i]? = some vs[i] := List.getElem?_eq_getElem (by omega)
  have h2 : Ms[i]? = some Ms[i] := List.getElem?_eq_getElem (by omega)
  have h3 := h.rows i _ _ h1 h2
  have e : Ms.getD i [] = Ms[i] := by simp [List.getD, h2]
  rw [e]
  obtain ⟨a, cp, h4, _⟩ := own_form h3
  refine ⟨a, cp, ?_, by rw [← h4]; exact h3, by rw [← h4]; exact h1⟩
  rw [h.own.cellAt i (by omega), h1, h4]

theorem Mx.free {w wr : World} {b n cap : Nat} {vs : List Value} {Ms : List (List Nat)} (h : Mx w wr b n cap vs Ms) (j : Nat) : wr.frozen? ⟨b, j, none⟩ = false := h.own.frozenAt j

theorem own_set_other {w : World} {base size n : Nat} {e : TypeId} {v : Value} {xs : List Value} (h : w.ownsRow base e size v n xs) {b j : Nat} (hne : v.ownBlock ≠ some b) (u : Value) : (w.setCell ⟨b, j, none⟩ u).ownsRow base e size v n xs := by
  refine ⟨h.1, ?_⟩
  rcases h.2 with h2 | ⟨k, cp, cur, h3, h4, h5, h6⟩
  · exact .inl h2
  · refine .inr ⟨k, cp, cur, h3, h4, ?_, h6⟩
    rw [heap_setCell_other w _ _ _ (by rintro rfl; apply hne; rw [h3]; rfl)]
    exact h5

theorem own_ty_ne {w : World} {base base' size size' n n' : Nat} {e e' : TypeId} {v : Value} {b cap : Nat} {xs xs' : List Value} (h : w.ownsRow base e size v n xs) (h' : w.ownsRow base' e' size' (.slice (some ⟨b, 0, none⟩) n' cap) n' xs') (hne : e ≠ e') : v.ownBlock ≠ some b := by
  intro hb
  rcases h.2 with ⟨rfl, _⟩ | ⟨k, cp, cur, h3, _, h5, _⟩
  · simp [Value.ownBlock] at hb
  · rcases h'.2 with ⟨h1, _⟩ | ⟨k', cp', cur', h3', _, h5', _⟩
    · cases h1
    · injection h3' with h3' _ _
      injection h3' with h3'
      injection h3' with h3' _ _
      subst h3'
      rw [h3] at hb
      simp [Value.ownBlock] at hb
      subst hb
      rw [h5] at h5'
      injection h5' with h5'
      injection h5' with _ h5' _
      exact hne h5'

/-- A row is put into the matrix. -/
theorem Mx.set {w wr : World} {b n cap : Nat} {vs : List Value} {Ms : List (List Nat)} (h : Mx w wr b n cap vs Ms) {i : Nat} {v : Value} {M : List Nat} (hv : wr.ownsRow w.heap.size 3 1 v M.length (nats M)) :
    Mx w (wr.setCell ⟨b, i, none⟩ v) b n cap (vs.set i v) (Ms.set i M) := by
  have hg : w.heap.size ≤ b := (h.own.lt b rfl).1
  refine ⟨(h.own.stored i v).1, fun j u N hu hN => ?_, by rw [List.length_set]; exact h.len, h.below.trans ((Below.refl _ _).setCell hg _)⟩
  rw [List.getElem?_set] at hu hN
  by_cases hij : i = j
  · rw [if_pos hij] at hu hN
    split at hu
    · split at hN
      · injection hu with hu; injection hN with hN
        subst hu hN
        exact own_set_other hv (own_ty_ne hv h.own (by decide)) _
      · cases hN
    · cases hu
  · rw [if_neg hij] at hu hN
    have h1 := h.rows j u N hu hN
    exact own_set_other h1 (own_ty_ne h1 h.own (by decide)) _

theorem Mx.low {w wr wx : World} {b n cap : Nat} {vs : List Value} {Ms : List (List Nat)} (h : Mx w wr b n cap vs Ms) (hB : Below wr.heap.size wr wx) : Mx w wx b n cap vs Ms :=
  ⟨own_kept h.own hB, fun i v M hv hM => own_kept (h.rows i v M hv hM) hB, h.len, h.below.trans (hB.mono h.below.size)⟩

/-- A row of the matrix is written in place: no other row may lie in its block. -/
theorem Mx.row {w wr wx : World} {b n cap i : Nat} {vs : List Value} {Ms : List (List Nat)} {v : Value} {M : List Nat} (h : Mx w wr b n cap vs Ms) (hi : vs[i]? = some v) (hg : wr.grownBy wx v.ownBlock) (hv : wx.ownsRow w.heap.size 3 1 v M.length (nats M)) (hne : ∀ (j : Nat) (u : Value) (g : Nat), j ≠ i → vs[j]? = some u → u.ownBlock = some g → v.ownBlock ≠ some g)
    (hold : wr.ownsRow w.heap.size 3 1 v M.length (nats (Ms.getD i []))) :
    Mx w wx b n cap vs (Ms.set i M) := by
  refine ⟨h.own.kept hg (.inr (fun e => own_ty_ne hold h.own (by decide) e.symm)), fun j u N hu hN => ?_, by rw [List.length_set]; exact h.len, h.below.grown hg h.below.size fun k hk => (hold.lt k hk).1⟩
  by_cases hij : j = i
  · subst hij
    rw [hi] at hu
    injection hu with hu
    subst hu
    rw [List.getElem?_set] at hN
    simp only [if_true] at hN
    split at hN
    · injection hN with hN; subst hN; exact hv
    · cases hN
  · rw [List.getElem?_set, if_neg (Ne.symm hij)] at hN
    have h1 := h.rows j u N hu hN
    refine h1.kept hg ?_
    cases hob : u.ownBlock with
    | none => exact .inl rfl
    | some g => exact .inr (fun e => hne j u g hij hu hob e.symm)

theorem Mx.rd {w wr : World} {b n cap : Nat} {vs : List Value} {Ms : List (List Nat)} (h : Mx w wr b n cap vs Ms) : RdN wr (.slice (some ⟨b, 0, none⟩) n cap) Ms := by
  have hl := h.len
  refine ⟨vs, by rw [hl]; exact Rd.of_own h.own, fun i hi hi' => ?_⟩
  exact Rd.of_own (h.rows i _ _ (List.getElem?_eq_getElem hi') (List.getElem?_eq_getElem hi))

theorem Mx.copied {w wr w1 wx : World} {b n cap k : Nat} {vs : List Value} {Ms : List (List Nat)} {M : List Nat} (h : Mx w wr b n cap vs Ms) (h1 : Below wr.heap.size wr w1)
    (hx : Below wr.heap.size (w1.setCell ⟨b, k, none⟩ (.slice (some ⟨wr.heap.size, 0, none⟩) M.length M.length)) wx) (hg : wx.heap[wr.heap.size]? = some (.cells (nats M).toArray 3 (0, 0))) (hm : M.length ≤ maxLen) :
    Mx w wx b n cap (vs.set k (.slice (some ⟨wr.heap.size, 0, none⟩) M.length M.length)) (Ms.set k M) := by
  have hb := h.own.lt b rfl
  have hrow : wx.ownsRow w.heap.size 3 1 (.slice (some ⟨wr.heap.size, 0, none⟩) M.length M.length) M.length (nats M) :=
    ⟨by rw [nats_length]; omega, .inr ⟨_, _, _, rfl, h.below.size, hg, Nat.le_refl _, hm, by simp [nats_length], by rw [List.take_of_length_le]; rw [Nat.mul_one]; simp [nats_length]⟩⟩
  refine ⟨own_low ((own_kept h.own h1).stored k _).1 hx (fun g hgg => by simp [Value.ownBlock] at hgg; omega), fun j u N hu hN => ?_, by rw [List.length_set]; exact h.len, ?_⟩
  · rw [List.getElem?_set] at hu hN
    by_cases hij : k = j
    · rw [if_pos hij] at hu hN
      split at hu
      · split at hN
        · injection hu with hu; injection hN with hN
          subst hu hN
          exact hrow
        · cases hN
      · cases hu
    · rw [if_neg hij] at hu hN
      have h3 := h.rows j u N hu hN
      refine own_low (own_set_other (own_kept h3 h1) (own_ty_ne h3 h.own (by decide)) _) hx fun g hgg => (h3.lt g hgg).2
  · exact (h.below.trans (h1.mono h.below.size)).trans (((Below.refl _ _).setCell hb.1 _).trans (hx.mono h.below.size))

theorem Mx.start {w w0 : World} {n : Nat} (hown : w0.ownsRow w.heap.size 22 1 (.slice (some ⟨w.heap.size, 0, none⟩) n n) n (madeCells #[Value.slice none 0 0] n).toList) (hg : w.grownBy w0 none) : Mx w w0 w.heap.size n n (List.replicate n (.slice none 0 0)) (List.replicate n []) := by
  rw [toList_madeCells_one] at hown
  refine ⟨hown, fun i v M hv hM => ?_, by simp, below_of_grown hg⟩
  rw [List.getElem?_replicate] at hv hM
  split at hv
  · rw [if_pos ‹_›] at hM
    injection hv with hv; injection hM with hM
    subst hv hM
    exact World.ownsRow_nil _ _ _ _
  · cases hv

/-- What a function that makes a matrix returns. -/
def RetM (w : World) (Ms : List (List Nat)) (x : Ending) (w' : World) : Prop := ∃ b cap vs, x = .returned (.slice (some ⟨b, 0, none⟩) Ms.length cap) ∧ Mx w w' b Ms.length cap vs Ms

theorem take_set_repl {α : Type} (L : List α) (z : α) (n k : Nat) (hl : L.length = n) (hk : k < n) : (L.take k ++ List.replicate (n - k) z).set k (L[k]'(by omega)) = L.take (k + 1) ++ List.replicate (n - (k + 1)) z := by
  rw [List.set_append, if_neg (by rw [List.length_take]; omega), List.length_take, show k - min k L.length = 0 by omega, List.take_succ_eq_append_getElem (by omega), show n - k = n - (k + 1) + 1 by omega, List.replicate_succ, List.set_cons_zero, List.append_assoc]
  rfl

set_option maxRecDepth 100000 in
set_option maxHeartbeats 2000000 in
theorem copyRows_is (Ms : List (List Nat)) (v : Value) (w : World) (hr : Hid (RdN w v Ms)) (hl : Ms.length ≤ 100000) (hls : Hid (∀ M ∈ Ms, M.length ≤ 100000)) :
    Calls Tryz.prog 98 #[v] w (RetM w Ms) := by
  obtain ⟨vs0, hrv, hrs⟩ := hr.out
  have hvl := hrv.1
  obtain ⟨_, a, cap, rfl, hcap, hcell⟩ := hrv
  have HC := Lib.hid hcell
  have HRS := Lib.hid hrs
  have HVL := Lib.hid hvl
  clear hcell hrs hvl hr
  obtain ⟨n, hn⟩ : ∃ n, n = Ms.length := ⟨_, rfl⟩
  have HN := Lib.hid hn
  unfold RetM
  rw [← hn] at hl hcap ⊢
  clear hn
  obtain ⟨i1, hi1, hy0, hy1, hy2⟩ := info_parts Tryz.infoS
  obtain ⟨i0, hi, hz0, hz1, hz2⟩ := info_parts Tryz.infoZ
  go_enter Tryz.func98, Tryz.ntmps98
  go_wp2_with (at_make; refine wpList_make_full _ rfl _ _ 53 rfl w.heap.size 22 i1 (.slice none 0 0) 1 Tryz.underlying53 hi1 hy0 hy1 .i64 .i64 _ _ n rfl rfl rfl rfl (by rw [hy2]; omega) (by unfold maxLen; omega) (Nat.le_refl _) ?_)
  intro w0 hown0 hgrow0
  have hst : Hid (Mx w w0 w.heap.size n n (List.replicate n (.slice none 0 0)) (Ms.take 0 ++ List.replicate (n - 0) [])) := by
    have := Mx.start hown0 hgrow0
    rw [Nat.sub_zero, List.take_zero, List.nil_append]; exact this
  clear hown0 hgrow0
  go_wp2_with (fail)
  go_loopw [10] (fun i wr => ∃ (k : Nat) (vs : List Value), i = .int .i64 k ∧ k ≤ n ∧ Hid (Mx w wr w.heap.size n n vs (Ms.take k ++ List.replicate (n - k) []))) (fun i _ => n - (intOf i).toNat)
  case atStart => exact ⟨0, _, rfl, by omega, hst⟩
  case round =>
    obtain ⟨k, vs, rfl, hk, HS⟩ := hrel
    by_cases hlt : k < n
    · have hkl : k < Ms.length := by have := HN.out; omega
      have hkv : k < vs0.length := by have := HVL.out; omega
      rcases HC.out with h0 | ⟨bm, rfl, hbm, hcl⟩
      · have := HN.out; omega
      obtain ⟨M, hM⟩ : ∃ M, M = Ms[k] := ⟨_, rfl⟩
      have hru := HRS.out k hkl hkv
      rw [← hM] at hru
      have hML : M.length ≤ 100000 := hls.out M (by rw [hM]; exact List.getElem_mem hkl)
      obtain ⟨_, au, cu, hu, hcu, hsrc⟩ := hru
      have c1 : wr.cell? ⟨bm, k, none⟩ = some (.slice au M.length cu) := by
        rw [HS.out.below.cell (p := ⟨bm, k, none⟩) hbm, ← hu]; exact hcl _ _ (by simp [hkv])
      have HSRC := Lib.hid hsrc
      have HMM : Hid (M = Ms[k]) := hM
      obtain ⟨m, hm⟩ : ∃ m, m = M.length := ⟨_, rfl⟩
      rw [← hm] at c1 hML hcu
      have Hm := Lib.hid hm
      have c2 : ∃ old, wr.cell? ⟨w.heap.size, k, none⟩ = some old := by
        obtain ⟨a', cp', h1, _⟩ := HS.out.cell hlt; exact ⟨_, h1⟩
      obtain ⟨old, c2⟩ := c2
      have f2 := HS.out.free k
      clear hcl hu hsrc hM hm
      go_wp2_with (at_make; refine wpList_make_full _ rfl _ _ 22 rfl w.heap.size 3 i0 (.int .i64 0) 1 Tryz.underlying22 hi hz0 hz1 .i64 .i64 _ _ m rfl rfl rfl rfl (by rw [hz2]; omega) (by unfold maxLen; omega) HS.out.below.size ?_)
      intro w1 hown1 hgrow1
      have HB1 := Lib.hid (below_of_grown hgrow1)
      have HO1 := Lib.hid hown1
      have d1 : w1.cell? ⟨w.heap.size, k, none⟩ = some old := by rw [HB1.out.cell (p := ⟨w.heap.size, k, none⟩) ((HS.out.own.lt _ rfl).2)]; exact c2
      have d2 : w1.frozen? ⟨w.heap.size, k, none⟩ = false := by rw [HB1.out.frozen (p := ⟨w.heap.size, k, none⟩) ((HS.out.own.lt _ rfl).2)]; exact f2
      have d3 : w1.cell? ⟨bm, k, none⟩ = some (.slice au m cu) := by rw [HB1.out.cell (p := ⟨bm, k, none⟩) (by have := HS.out.below.size; show bm < _; omega)]; exact c1
      have hne : ¬ bm = w.heap.size := by omega
      clear c1 c2 f2 hown1 hgrow1
      go_wp2_with (fail)
      have e1 : (w1.setCell ⟨w.heap.size, k, none⟩ (.slice (some ⟨wr.heap.size, 0, none⟩) m m)).cell? ⟨w.heap.size, k, none⟩ = some (.slice (some ⟨wr.heap.size, 0, none⟩) m m) := World.cell?_setCell_same w1 _ _ d1
      have e2 : (w1.setCell ⟨w.heap.size, k, none⟩ (.slice (some ⟨wr.heap.size, 0, none⟩) m m)).cell? ⟨bm, k, none⟩ = some (.slice au m cu) := by
        rw [World.cell?_setCell_other w1 _ _ _ (by intro e; injection e with e; exact hne e.symm)]; exact d3
      have hW0 : Hid (∀ W6 : World, W6 = w1.setCell ⟨w.heap.size, k, none⟩ (.slice (some ⟨wr.heap.size, 0, none⟩) m m) → W6.heap[wr.heap.size]? = w1.heap[wr.heap.size]?) := fun W6 h => by
        rw [h]; exact heap_setCell_other w1 _ _ _ (Nat.ne_of_gt (HS.out.own.lt _ rfl).2)
      generalize hW : w1.setCell ⟨w.heap.size, k, none⟩ (.slice (some ⟨wr.heap.size, 0, none⟩) m m) = W6 at e1 e2 ⊢
      have HW := Lib.hid hW
      clear hW d1 d2 d3
      go_still_tail 8, (by kernel_rfl)
      have hsz : (Tryz.prog.info? 3).map (·.size) = some 1 := by rw [hi]; simp [hz1]
      have hlM : (nats M).length = m := by rw [nats_length]; exact Hm.out.symm
      have hgr : W6.heap[wr.heap.size]? = some (.cells (nats (List.replicate m 0)).toArray 3 (0, 0)) := by
        rw [hW0.out W6 HW.out.symm]
        rcases HO1.out.2 with ⟨h1, _⟩ | ⟨g, cp, cur, h1, _, h3, _, _, h6, h7⟩
        · cases h1
        · injection h1 with h1 _ h4
          injection h1 with h1
          injection h1 with h1
          subst h1
          rw [h3]
          congr 2
          rw [← nats_zeros, ← h7, List.take_of_length_le (by rw [Array.length_toList]; omega)]
      refine wpList_copy_splice rfl (.tmp 25) (.tmp 29) 22 22 rfl 3 Tryz.underlying22 hsz (some ⟨wr.heap.size, 0, none⟩) au m m m cu (by rfl) (by rfl) wr.heap.size 0 (nats (List.replicate m 0)) 3 hgr (nats M) (by simp [hlM]) ?_ (by simp [hlM, nats_length]) (fun u hu => by unfold nats at hu; obtain ⟨z, _, rfl⟩ := List.mem_map.1 hu; rfl) wr.heap.size W6 ?_ (Nat.le_refl _) ?_
      · intro hpos
        refine ⟨rfl, ?_⟩
        rcases HSRC.out with h0 | ⟨b, hb1, hb2, hb3⟩
        · rw [hlM] at hpos; have := Hm.out; omega
        · refine ⟨⟨b, 0, none⟩, hb1, fun j u hu => ?_⟩
          have hadd : (⟨b, 0, none⟩ : Addr).add j = ⟨b, j, none⟩ := by unfold Addr.add; split <;> simp_all
          rw [hadd]
          have h9 : Below w.heap.size w W6 := by
            rw [← HW.out]
            exact (HS.out.below.trans (HB1.out.mono HS.out.below.size)).setCell (Nat.le_refl _) _
          exact (h9.cell (p := ⟨b, j, none⟩) hb2).trans (hb3 j u hu)
      · exact (Below.refl _ _).drew
      · intro wx hgx hBx
        have hgx' : wx.heap[wr.heap.size]? = some (.cells (nats M).toArray 3 (0, 0)) := by
          have h1 := hgx.out
          have h2 : splice (nats (List.replicate m 0)) 0 (nats M) = nats M := by
            simp only [splice, List.take_zero, List.nil_append, Nat.zero_add]
            rw [List.drop_eq_nil_of_le (by rw [hlM, nats_length, List.length_replicate]; omega), List.append_nil]
          rw [h2] at h1
          exact h1
        have HE : Hid (Mx w wx w.heap.size n n (vs.set k (.slice (some ⟨wr.heap.size, 0, none⟩) M.length M.length)) (Ms.take (k + 1) ++ List.replicate (n - (k + 1)) [])) := by
          have h1 := HS.out.copied (k := k) (M := M) (wx := wx) HB1.out (by rw [← Hm.out, HW.out]; exact hBx) hgx' (by unfold maxLen; have := Hm.out; omega)
          have e : (Ms.take k ++ List.replicate (n - k) []).set k M = Ms.take (k + 1) ++ List.replicate (n - (k + 1)) [] := by
            rw [HMM.out]; exact take_set_repl Ms [] n k HN.out.symm hlt
          rw [e] at h1
          exact h1
        clear hgx hBx hgx' hgr hsz hlM e1 e2
        go_wp2_with (fail)
        go_roundw
        case rel => exact ⟨k + 1, _, by go_num, by omega, HE⟩
        case measure => simp [intOf]; omega
    · obtain rfl : k = n := by omega
      have HE : Hid (Mx w wr w.heap.size k k vs Ms) := by
        have := HS.out
        rw [Nat.sub_self, List.replicate_zero, List.append_nil, List.take_of_length_le (by rw [HN.out]; omega)] at this
        exact this
      go_wp2_with (fail)
      go_ret
      exact ⟨_, _, vs, rfl, HE.out⟩

end Go.Proofs.YtbehihanhfmmhaaGreat
