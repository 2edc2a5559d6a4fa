/- What a call leaves alone; the walk over the program's insert. -/
import Derived.Test.YtapidabhdbjnmaaTj
namespace Go.Proofs.Ytapidabhdbjnmaa
open Go.RowKit

/-- Of the blocks that were there, only those of S may have changed. -/
def Frame (S : Nat → Prop) (w w' : World) : Prop := w.heap.size ≤ w'.heap.size ∧ ∀ g, g < w.heap.size → ¬ S g → w'.heap[g]? = w.heap[g]?
theorem Frame.refl (S : Nat → Prop) (w : World) : Frame S w w := ⟨Nat.le_refl _, fun _ _ _ => rfl⟩
theorem Frame.below {S : Nat → Prop} {w w1 w2 : World} (h : Frame S w w1) (hB : Below w1.heap.size w1 w2) : Frame S w w2 := ⟨Nat.le_trans h.1 hB.size, fun g h1 h2 => by rw [hB.block g (by have := h.1; omega)]; exact h.2 g h1 h2⟩
theorem Frame.set {S : Nat → Prop} {w w1 : World} (h : Frame S w w1) {p : Addr} (hp : S p.block ∨ w.heap.size ≤ p.block) (u : Value) : Frame S w (w1.setCell p u) := by
  refine ⟨by simpa using h.1, fun g h1 h2 => ?_⟩
  rw [heap_setCell_other w1 _ _ _ (by rintro rfl; rcases hp with h3 | h3; exact h2 h3; omega)]
  exact h.2 g h1 h2
theorem Frame.grown {S : Nat → Prop} {w w1 w2 : World} (h : Frame S w w1) {v : Value} (hg : w1.grownBy w2 v.ownBlock) (hv : ∀ g, v.ownBlock = some g → S g ∨ w.heap.size ≤ g) : Frame S w w2 := by
  refine ⟨Nat.le_trans h.1 hg.size, fun g h1 h2 => ?_⟩
  rw [hg.block g (by have := h.1; omega) (fun e => by rcases hv g e.symm with h3 | h3; exact h2 h3; omega)]
  exact h.2 g h1 h2
theorem Frame.trans {S T : Nat → Prop} {w w1 w2 : World} (h : Frame S w w1) (k : Frame T w1 w2) (hST : ∀ g, T g → S g ∨ w.heap.size ≤ g) : Frame S w w2 := by
  refine ⟨Nat.le_trans h.1 k.1, fun g h1 h2 => ?_⟩
  rw [k.2 g (by have := h.1; omega) (fun h3 => by rcases hST g h3 with h4 | h4; exact h2 h4; omega)]
  exact h.2 g h1 h2
theorem own_frame {S : Nat → Prop} {w w' : World} {base size n : Nat} {e : TypeId} {v : Value} {xs : List Value} (h : w.ownsRow base e size v n xs) (hF : Frame S w w') (hv : ∀ g, v.ownBlock = some g → ¬ S g) : w'.ownsRow base e size v n xs := by
  refine ⟨h.1, ?_⟩
  rcases h.2 with h2 | ⟨k, cp, cur, h3, h4, h5, h6⟩
  · exact .inl h2
  · refine .inr ⟨k, cp, cur, h3, h4, ?_, h6⟩
    rw [hF.2 k (h.lt k (by rw [h3]; rfl)).2 (hv k (by rw [h3]; rfl))]
    exact h5

/-- The blocks of rows. -/
def PB (v : Value) (vs : List Value) (g : Nat) : Prop := v.ownBlock = some g ∨ ∃ u ∈ vs, u.ownBlock = some g
theorem Tab.pb {w wr : World} {v : Value} {vs : List Value} {Ms : List (List Nat)} (h : Tab w wr v vs Ms) {g : Nat} (hg : PB v vs g) : g < wr.heap.size ∧ w.heap.size ≤ g := by
  rcases hg with h1 | ⟨u, hu, h1⟩
  · have := h.m.own.lt g h1; exact ⟨this.2, this.1⟩
  · obtain ⟨i, hi, rfl⟩ := List.getElem_of_mem hu
    have h2 := h.m.vlen
    have := (h.m.rows i _ (Ms[i]'(by omega)) (List.getElem?_eq_getElem hi) (List.getElem?_eq_getElem (by omega))).lt g h1
    exact ⟨this.2, this.1⟩
theorem Tab.frame {S : Nat → Prop} {w wr wx : World} {v : Value} {vs : List Value} {Ms : List (List Nat)} (h : Tab w wr v vs Ms) (hF : Frame S wr wx) (hB : Below w.heap.size w wx) (hS : ∀ g, PB v vs g → ¬ S g) : Tab w wx v vs Ms :=
  ⟨⟨own_frame h.m.own hF fun g hg => hS g (.inl hg), fun i u M hu hM => own_frame (h.m.rows i u M hu hM) hF fun g hg => hS g (.inr ⟨u, List.mem_of_getElem? hu, hg⟩), hB⟩, h.d⟩
theorem Tab.other {w wr : World} {v : Value} {vs : List Value} {Ms : List (List Nat)} (h : Tab w wr v vs Ms) {p : Addr} (hp : w.heap.size ≤ p.block) (hn : ¬ PB v vs p.block) (z : Value) : Tab w (wr.setCell p z) v vs Ms :=
  h.frame (S := fun g => g = p.block) ((Frame.refl (fun g => g = p.block) wr).set (.inl rfl) z) (h.m.below.trans ((Below.refl _ _).setCell hp z)) (fun g hg e => hn (by rw [← e]; exact hg))

/-- What insert returns. -/
def RetTf (w0 w : World) (S : Nat → Prop) (Ms : List (List Nat)) (g : Nat) (x : Ending) (w' : World) : Prop :=
  ∃ v' vs, x = .returned (.tuple #[v', .int .i64 (g : Int)]) ∧ Tab w0 w' v' vs Ms ∧ Frame S w w' ∧ ∀ q, PB v' vs q → S q ∨ w.heap.size ≤ q

set_option maxRecDepth 100000 in
set_option maxHeartbeats 4000000 in
theorem insert_is (Ms : List (List Nat)) (x0 : Nat) (v : Value) (vs : List Value) (w0 w : World) (ht : Hid (Tab w0 w v vs Ms)) (hok : Hid (T.Ok Ms)) (hl : Ms.length ≤ 99) (hls : Hid (∀ X ∈ Ms, X.length ≤ 99)) :
    Calls Try.prog 44 #[v, .int .i64 (x0 : Int)] w (RetTf w0 w (PB v vs) (T.ins Ms x0).1 (T.ins Ms x0).2) := by
  obtain ⟨a1, c1, hv1, hcc1, hcc2, _⟩ := own_form ht.out.m.own
  subst hv1
  obtain ⟨n, hn⟩ : ∃ n, n = Ms.length := ⟨_, rfl⟩
  rw [← hn] at ht hcc1 hl ⊢
  have HN := Lib.hid hn
  clear hn
  obtain ⟨i0, hi, hz0, hz1, hz2⟩ := info_parts Try.infoZ
  obtain ⟨i1, hi1, hy0, hy1, hy2⟩ := info_parts Try.infoS
  have HA0 := Lib.hid (T.At.start hok.out x0)
  obtain ⟨X, hX⟩ : ∃ X, X = w.heap.size := ⟨_, rfl⟩
  have HXE := Lib.hid hX
  have HB1 : Hid (Below w.heap.size w (w.alloc (.cells #[.int .i64 (x0 : Int)] 3))) := (Below.refl _ _).alloc (Nat.le_refl _) _
  have HT1 : Hid (Tab w0 (w.alloc (.cells #[.int .i64 (x0 : Int)] 3)) (.slice a1 n c1) vs Ms) := ht.out.low HB1.out
  have HF1 : Hid (Frame (PB (.slice a1 n c1) vs) w (w.alloc (.cells #[.int .i64 (x0 : Int)] 3))) := (Frame.refl _ _).below HB1.out
  have HNX : Hid (¬ PB (.slice a1 n c1) vs X) := fun h => by have := (ht.out.pb h).1; omega
  have hx1 : (w.alloc (.cells #[.int .i64 (x0 : Int)] 3)).cell? ⟨X, 0, none⟩ = some (.int .i64 (x0 : Int)) := by rw [hX]; simp
  have hx2 : (w.alloc (.cells #[.int .i64 (x0 : Int)] 3)).frozen? ⟨X, 0, none⟩ = false := by rw [hX]; simp
  have hx3 : X < (w.alloc (.cells #[.int .i64 (x0 : Int)] 3)).heap.size := by rw [hX]; simp
  have hw0 : w0.heap.size ≤ X := by rw [hX]; exact ht.out.m.below.size
  go_enter Try.func44, Try.ntmps44
  go_wp2_with (fail)
  rw [← hX]
  clear hX HB1 ht
  go_loopw [11] (fun iv wx => ∃ (x i : Nat) (Ns : List (List Nat)), iv = .int .i64 i ∧ i ≤ n ∧ Hid (Tab w0 wx (.slice a1 n c1) vs Ns) ∧ Hid (T.At Ms x0 Ns x i) ∧ Hid (∀ Y ∈ Ns, Y.length ≤ 99) ∧ Hid (Frame (PB (.slice a1 n c1) vs) w wx) ∧ wx.cell? ⟨X, 0, none⟩ = some (.int .i64 (x : Int)) ∧ wx.frozen? ⟨X, 0, none⟩ = false ∧ X < wx.heap.size) (fun iv _ => n - (intOf iv).toNat)
  case atStart => exact ⟨x0, 0, Ms, rfl, by omega, HT1, HA0, hls, HF1, hx1, hx2, hx3⟩
  case round =>
    obtain ⟨x, i, Ns, rfl, hi2, HT, HA, HLN, HF, k1, k2, k3⟩ := hrel
    have hNl : Ns.length = n := by rw [HA.out.1]; exact HN.out.symm
    by_cases hin : i < n
    · have hiN : i < Ns.length := by omega
      obtain ⟨b, n', cap', a, cp, e, hn', hbl, e1, e2, e3, e4⟩ := HT.out.cell hiN
      injection e with e5 e6 e7
      subst e5 e6 e7
      obtain ⟨Y, hY⟩ : ∃ Y, Y = Ns.getD i [] := ⟨_, rfl⟩
      have hYo := HA.out.ok hiN
      have hYl := HLN.out Y (by rw [hY]; exact T.getD_mem _ _ hiN)
      rw [← hY] at e1 e2 e3 hYo
      obtain ⟨m, hm⟩ : ∃ m, m = Y.length := ⟨_, rfl⟩
      have hm0 : m ≠ 0 := by rw [hm]; exact hYo.1
      obtain ⟨gY, rfl, hg1, hg2, hgc, hgf⟩ := own_cells (n := m) (by rw [hm]; exact e3) (by omega)
      rw [← hm] at e1 e2 hYl
      have HE2 := Lib.hid e2
      have HE3 : Hid (wr.ownsRow w0.heap.size 3 1 (.slice (some ⟨gY, 0, none⟩) m cp) m (nats Y)) := by show World.ownsRow _ _ _ _ _ _ _; rw [hm]; exact e3
      have HY := Lib.hid hY
      have HM := Lib.hid hm
      have hmc : m ≤ cp := by obtain ⟨_, _, e, h9, _⟩ := own_form HE3.out; injection e with _ _ e; omega
      have hgX : gY ≠ X := fun e => HNX.out (.inr ⟨_, List.mem_of_getElem? e2, by rw [← e]; rfl⟩)
      have hbX : b ≠ X := fun e => HNX.out (.inl (by rw [← e]; rfl))
      have hin1 : (i : Int) < (n : Int) := by omega
      have HAS : Hid (T.Asc Y) := hYo.2
      -- the row's own cell
      obtain ⟨R, hR⟩ : ∃ R, R = wr.heap.size := ⟨_, rfl⟩
      obtain ⟨W, hW⟩ : ∃ W, W = wr.alloc (.cells #[.slice (some ⟨gY, 0, none⟩) m cp] 22) := ⟨_, rfl⟩
      have hBW : Below wr.heap.size wr W := by rw [hW]; exact (Below.refl _ _).alloc (Nat.le_refl _) _
      have hr1 : W.cell? ⟨R, 0, none⟩ = some (.slice (some ⟨gY, 0, none⟩) m cp) := by rw [hW, hR]; simp
      have hr2 : W.cell? ⟨X, 0, none⟩ = some (.int .i64 (x : Int)) := (hBW.cell (p := ⟨X, 0, none⟩) k3).trans k1
      have HGC : Hid (∀ j, j < m → W.cell? ⟨gY, j, none⟩ = some (.int .i64 (Y.getD j 0 : Nat))) := fun j hj => (hBW.cell (p := ⟨gY, j, none⟩) hg2).trans (hgc j hj)
      have hS := Lib.hid (search_is Y x R X gY m cp W hm HAS (by omega) hr1 hr2 HGC)
      obtain ⟨K, hK⟩ : ∃ K, K = T.pos x Y := ⟨_, rfl⟩
      rw [← hK] at hS
      have HK := Lib.hid hK
      have hKm : K ≤ m := by rw [hK, hm]; exact T.pos_le x Y
      have HBW := Lib.hid hBW
      have HWE := Lib.hid hW
      clear hY hYo e2 e3 hm hgc hn' hK hBW hW
      go_wp2_with (fail)
      rw [← hR, ← HWE.out]
      refine hS.out.mono ?_
      rintro e w2 ⟨rfl, nn, hw⟩
      have HB2 : Hid (Below wr.heap.size wr w2) := by rw [hw]; exact below_drewN HBW.out _
      have r1 : w2.cell? ⟨wr.heap.size, 0, none⟩ = some (.slice (some ⟨gY, 0, none⟩) m cp) := by rw [hw, ← hR]; simpa using hr1
      have r2 : w2.cell? ⟨X, 0, none⟩ = some (.int .i64 (x : Int)) := (HB2.out.cell (p := ⟨X, 0, none⟩) k3).trans k1
      have r3 : w2.frozen? ⟨X, 0, none⟩ = false := (HB2.out.frozen (p := ⟨X, 0, none⟩) k3).trans k2
      have r4 : X < w2.heap.size := Nat.lt_of_lt_of_le k3 HB2.out.size
      have HT2 : Hid (Tab w0 w2 (.slice (some ⟨b, 0, none⟩) n c1) vs Ns) := HT.out.low HB2.out
      have HE4 : Hid (w2.ownsRow w0.heap.size 3 1 (.slice (some ⟨gY, 0, none⟩) m cp) m (nats Y)) := own_kept HE3.out HB2.out
      have HF2 : Hid (Frame (PB (.slice (some ⟨b, 0, none⟩) n c1) vs) w w2) := HF.out.below HB2.out
      have hwx : w.heap.size ≤ w2.heap.size := HF2.out.1
      have hw02 : w0.heap.size ≤ w2.heap.size := HT2.out.m.below.size
      have s1 : w2.cell? ⟨b, i, none⟩ = some (.slice (some ⟨gY, 0, none⟩) m cp) := (HB2.out.cell (p := ⟨b, i, none⟩) hbl).trans e1
      clear hS HBW HWE HGC hr1 hr2 hw k1 k2 k3 HT HF HE3 e1 e4 hgf
      by_cases hKm2 : K = m
      · obtain rfl : m = K := hKm2.symm
        have HRES : Hid ((T.ins Ms x0).1 = Ns.set i (Y ++ [x]) ∧ (T.ins Ms x0).2 = i) := by
          have h9 := HA.out.last hiN (by rw [← HY.out, ← HK.out, HM.out])
          rw [← HY.out] at h9
          exact h9
        have hd : ((m : Int) == (m : Int)) = true := by simp
        clear hKm2
        go_wp2_with ((at_builtin; refine wpList_append_own_at _ rfl _ _ 22 rfl w0.heap.size 3 i0 (.int .i64 0) 1 8 Try.underlying22 hi hz0 hz1 hz2 rfl (by decide) _ _ _ rfl (HE4.out.alloc _) ⟨w2.heap.size, 0, none⟩ 1 1 [.int .i64 (x : Int)] rfl rfl (cell_one_new _ _ _) (by intro u hu; simp at hu; rw [hu]; rfl) (by unfold maxLen; omega) (by omega) (by simp; omega) ?_))
        intro v4 w4 hown4 hgrow4 _ hat4
        have hBa : Below w2.heap.size w2 (w2.alloc (.cells #[.int .i64 (x : Int)] 3)) := (Below.refl _ _).alloc (Nat.le_refl _) _
        obtain ⟨q1, q2⟩ := HT2.out.outer HE2.out hBa hgrow4
        have hown5 : w4.ownsRow w0.heap.size 3 1 v4 (Y ++ [x]).length (nats (Y ++ [x])) := by
          rw [nats_append, List.length_append, ← HM.out]
          exact hown4
        have HT4 : Hid (Tab w0 (w4.setCell ⟨b, i, none⟩ v4) (.slice (some ⟨b, 0, none⟩) n c1) (vs.set i v4) (T.ins Ms x0).1) := by
          show Tab _ _ _ _ _
          rw [HRES.out.1]
          refine HT2.out.grow HE2.out hBa hgrow4 hown5 ?_
          rcases hat4 with h9 | h9
          · exact .inl h9
          · exact .inr ⟨_, h9, by simp⟩
        have hSg : ∀ g, (Value.slice (some ⟨gY, 0, none⟩) m cp).ownBlock = some g → PB (.slice (some ⟨b, 0, none⟩) n c1) vs g := fun g hg => .inr ⟨_, List.mem_of_getElem? HE2.out, hg⟩
        have HF4 : Hid (Frame (PB (.slice (some ⟨b, 0, none⟩) n c1) vs) w (w4.setCell ⟨b, i, none⟩ v4)) :=
          ((HF2.out.below hBa).grown hgrow4 fun g hg => .inl (hSg g hg)).set (p := ⟨b, i, none⟩) (.inl (.inl rfl)) v4
        have HP4 : Hid (∀ q, PB (.slice (some ⟨b, 0, none⟩) n c1) (vs.set i v4) q → PB (.slice (some ⟨b, 0, none⟩) n c1) vs q ∨ w.heap.size ≤ q) := fun q hq => by
          rcases hq with h9 | ⟨u, hu, h9⟩
          · exact .inl (.inl h9)
          · rcases List.mem_or_eq_of_mem_set hu with h8 | h8
            · exact .inl (.inr ⟨u, h8, h9⟩)
            · rw [h8] at h9
              rcases hat4 with h7 | h7
              · exact .inl (hSg q (by rw [← h7]; exact h9))
              · rw [h7] at h9
                injection h9 with h9
                right
                rw [← h9]; first | omega | (simp; omega)
        have HG : Hid ((T.ins Ms x0).2 = i) := HRES.out.2
        obtain ⟨a4, c4, hv4, _⟩ := own_form hown4
        subst hv4
        clear hown4 hgrow4 hat4 hown5 hBa hSg
        go_wp2_with (fail)
        go_ret2
        rw [HG.out]
        exact ⟨_, _, rfl, HT4.out, HF4.out, HP4.out⟩
      · have hKl : K < m := by omega
        obtain ⟨g9, hg9, _, hg92, hgc, hgf⟩ := own_cells HE4.out (by omega)
        injection hg9 with hg9
        injection hg9 with hg9
        subst hg9
        have c2 : w2.cell? ⟨gY, K, none⟩ = some (.int .i64 (Y.getD K 0 : Nat)) := hgc K hKl
        have f2 : w2.frozen? ⟨gY, K, none⟩ = false := hgf K
        obtain ⟨y, hy⟩ : ∃ y, y = Y.getD K 0 := ⟨_, rfl⟩
        rw [← hy] at c2
        have hd : ((K : Int) == (m : Int)) = false := by rw [beq_eq_false_iff_ne]; omega
        have hkm : (K : Int) < (m : Int) := by omega
        have c4 : (w2.setCell ⟨gY, K, none⟩ (.int .i64 (x : Int))).cell? ⟨X, 0, none⟩ = some (.int .i64 (x : Int)) := by
          rw [World.cell?_setCell_other _ _ _ _ (by intro e; injection e with e; exact hgX e)]; exact r2
        have f4 : (w2.setCell ⟨gY, K, none⟩ (.int .i64 (x : Int))).frozen? ⟨X, 0, none⟩ = false := by simpa using r3
        have HTn : Hid (Tab w0 ((w2.setCell ⟨gY, K, none⟩ (.int .i64 (x : Int))).setCell ⟨X, 0, none⟩ (.int .i64 (y : Int))) (.slice (some ⟨b, 0, none⟩) n c1) vs (Ns.set i (Y.set K x))) := by
          have h9 := HT2.out.put (j := K) (x := x) (by rw [← HY.out, ← HM.out]; exact HE2.out) hiN
          rw [← HY.out] at h9
          exact h9.other (p := ⟨X, 0, none⟩) hw0 HNX.out _
        have HFn : Hid (Frame (PB (.slice (some ⟨b, 0, none⟩) n c1) vs) w ((w2.setCell ⟨gY, K, none⟩ (.int .i64 (x : Int))).setCell ⟨X, 0, none⟩ (.int .i64 (y : Int)))) :=
          (HF2.out.set (p := ⟨gY, K, none⟩) (.inl (.inr ⟨_, List.mem_of_getElem? HE2.out, rfl⟩)) _).set (p := ⟨X, 0, none⟩) (.inr (by rw [HXE.out]; exact Nat.le_refl _)) _
        have HAn : Hid (T.At Ms x0 (Ns.set i (Y.set K x)) y (i + 1)) := by
          have h9 := HA.out.next hiN (by rw [← HY.out, ← HK.out, ← HM.out]; exact hKl)
          rw [← HY.out, ← HK.out, ← hy] at h9
          exact h9
        have HLn : Hid (∀ Z ∈ Ns.set i (Y.set K x), Z.length ≤ 99) := fun Z hZ => by
          rcases List.mem_or_eq_of_mem_set hZ with h9 | h9
          · exact HLN.out Z h9
          · rw [h9, List.length_set, ← HM.out]; exact hYl
        have z1 : ((w2.setCell ⟨gY, K, none⟩ (.int .i64 (x : Int))).setCell ⟨X, 0, none⟩ (.int .i64 (y : Int))).cell? ⟨X, 0, none⟩ = some (.int .i64 (y : Int)) := World.cell?_setCell_same _ _ _ c4
        have z2 : ((w2.setCell ⟨gY, K, none⟩ (.int .i64 (x : Int))).setCell ⟨X, 0, none⟩ (.int .i64 (y : Int))).frozen? ⟨X, 0, none⟩ = false := by simpa using f4
        have z3 : X < ((w2.setCell ⟨gY, K, none⟩ (.int .i64 (x : Int))).setCell ⟨X, 0, none⟩ (.int .i64 (y : Int))).heap.size := by simpa using r4
        have HZ := Lib.hid (And.intro z1 (And.intro z2 z3))
        have hgX2 : ¬ X = gY := fun e => hgX e.symm
        clear hy hKm2 hgc hgf z1 z2 z3
        go_wp2_with (fail)
        go_region
        have HTd : Hid (Tab w0 ((w2.setCell ⟨gY, K, none⟩ (.int .i64 (x : Int))).setCell ⟨X, 0, none⟩ (.int .i64 (y : Int))).drew (.slice (some ⟨b, 0, none⟩) n c1) vs (Ns.set i (Y.set K x))) := HTn.out.low (Below.refl _ _).drew
        have HFd : Hid (Frame (PB (.slice (some ⟨b, 0, none⟩) n c1) vs) w ((w2.setCell ⟨gY, K, none⟩ (.int .i64 (x : Int))).setCell ⟨X, 0, none⟩ (.int .i64 (y : Int))).drew) := HFn.out.below (Below.refl _ _).drew
        have z1 : ((w2.setCell ⟨gY, K, none⟩ (.int .i64 (x : Int))).setCell ⟨X, 0, none⟩ (.int .i64 (y : Int))).drew.cell? ⟨X, 0, none⟩ = some (.int .i64 (y : Int)) := HZ.out.1
        have z2 : ((w2.setCell ⟨gY, K, none⟩ (.int .i64 (x : Int))).setCell ⟨X, 0, none⟩ (.int .i64 (y : Int))).drew.frozen? ⟨X, 0, none⟩ = false := HZ.out.2.1
        have z3 : X < ((w2.setCell ⟨gY, K, none⟩ (.int .i64 (x : Int))).setCell ⟨X, 0, none⟩ (.int .i64 (y : Int))).drew.heap.size := HZ.out.2.2
        clear c2 f2 c4 f4 r1 r2 r3 r4 HZ HTn HFn s1
        generalize ((w2.setCell ⟨gY, K, none⟩ (.int .i64 (x : Int))).setCell ⟨X, 0, none⟩ (.int .i64 (y : Int))).drew = W5 at HTd HFd z1 z2 z3 ⊢
        go_wp2_with (fail)
        go_roundw
        case rel => exact ⟨y, i + 1, _, by go_num, by omega, HTd, HAn, HLn, HFd, z1, z2, z3⟩
        case measure => simp [intOf]; omega
    · obtain rfl : n = i := by omega
      have HRES : Hid ((T.ins Ms x0).1 = Ns ++ [[x]] ∧ (T.ins Ms x0).2 = n) := HA.out.new hNl.symm
      have hB1 : Below wr.heap.size wr (wr.alloc (.cells #[.int .i64 (x : Int)] 3)) := (Below.refl _ _).alloc (Nat.le_refl _) _
      have HT2 : Hid (Tab w0 (wr.alloc (.cells #[.int .i64 (x : Int)] 3)) (.slice a1 n c1) vs Ns) := HT.out.low hB1
      have HO2 : Hid ((wr.alloc (.cells #[.int .i64 (x : Int)] 3)).ownsRow w0.heap.size 3 1 (.slice (some ⟨wr.heap.size, 0, none⟩) 1 1) [x].length (nats [x])) := own_base (lit1_own wr x) HT.out.m.below.size
      have HF2 : Hid (∀ g, (Value.slice (some ⟨wr.heap.size, 0, none⟩) 1 1).ownBlock = some g → ∀ t ∈ vs, t.ownBlock ≠ some g) := fun g hg t ht e => by
        have h9 := HT.out.lt t ht g e
        simp [Value.ownBlock] at hg
        omega
      have HFa : Hid (Frame (PB (.slice a1 n c1) vs) w (wr.alloc (.cells #[.int .i64 (x : Int)] 3))) := HF.out.below hB1
      have hsz : w0.heap.size ≤ wr.heap.size := HT.out.m.below.size
      have hsz2 : w.heap.size ≤ wr.heap.size := HF.out.1
      have HCN := cell_one_new (wr.alloc (.cells #[.int .i64 (x : Int)] 3)) (.slice (some ⟨wr.heap.size, 0, none⟩) 1 1) 22
      rw [show (wr.alloc (.cells #[.int .i64 (x : Int)] 3)).heap.size = wr.heap.size + 1 by simp] at HCN
      have HCN := Lib.hid HCN
      have HNL := Lib.hid hNl
      clear hB1 hNl hin
      go_wp2_with ((at_builtin; refine wpList_append_own_at _ rfl _ _ 24 rfl w0.heap.size 22 i1 (.slice none 0 0) 1 24 Try.underlying24 hi1 hy0 hy1 hy2 rfl (by decide) _ _ _ rfl (HT2.out.m.own.alloc _) ⟨wr.heap.size + 1, 0, none⟩ 1 1 [.slice (some ⟨wr.heap.size, 0, none⟩) 1 1] rfl rfl HCN.out (by intro u hu; simp at hu; rw [hu]; rfl) (by unfold maxLen; have := HNL.out; omega) (by have := HNL.out; omega) (by simp; omega) ?_))
      intro v5 w5 hown5 hgrow5 _ hat5
      have HT5 : Hid (Tab w0 w5 v5 (vs ++ [.slice (some ⟨wr.heap.size, 0, none⟩) 1 1]) (T.ins Ms x0).1) := by
        show Tab _ _ _ _ _
        rw [HRES.out.1]
        exact HT2.out.push HO2.out HF2.out hown5 hgrow5
      have HF5 : Hid (Frame (PB (.slice a1 n c1) vs) w w5) := (HFa.out.below ((Below.refl _ _).alloc (Nat.le_refl _) _)).grown hgrow5 fun g hg => .inl (.inl hg)
      have HP5 : Hid (∀ q, PB v5 (vs ++ [.slice (some ⟨wr.heap.size, 0, none⟩) 1 1]) q → PB (.slice a1 n c1) vs q ∨ w.heap.size ≤ q) := fun q hq => by
        rcases hq with h9 | ⟨u, hu, h9⟩
        · rcases hat5 with h7 | h7
          · exact .inl (.inl (by rw [← h7]; exact h9))
          · rw [h7] at h9
            injection h9 with h9
            right
            rw [← h9]; first | omega | (simp; omega)
        · rcases List.mem_append.1 hu with h8 | h8
          · exact .inl (.inr ⟨u, h8, h9⟩)
          · simp at h8
            subst h8
            simp [Value.ownBlock] at h9
            right; omega
      have HG : Hid ((T.ins Ms x0).2 = n) := HRES.out.2
      obtain ⟨a5, c5, hv5, _⟩ := own_form hown5
      subst hv5
      clear hown5 hgrow5 hat5
      go_wp2_with (fail)
      go_ret2
      rw [HG.out]
      exact ⟨_, _, rfl, HT5.out, HF5.out, HP5.out⟩

end Go.Proofs.Ytapidabhdbjnmaa
