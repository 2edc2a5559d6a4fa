/- The walk over turned. -/
import Derived.Test.YtahhkbdodgjaeaaPf
import Derived.Test.YtahhkbdodgjaeaaShelf
namespace Go.Proofs.Ytahhkbdodgjaeaa
open Go.RowKit

/-- A game in memory of a call's own. -/
structure OwnG (w0 wx : World) (v1 v2 v3 : Value) (vs : List Value) (A B : List Int) (C : List (List Int)) : Prop where
  a : wx.ownsRow w0.heap.size 3 1 v1 A.length (zs A)
  b : wx.ownsRow w0.heap.size 3 1 v2 B.length (zs B)
  c : wx.ownsRow w0.heap.size 22 1 v3 C.length vs
  rows : ∀ (i : Nat) (u : Value) (M : List Int), vs[i]? = some u → C[i]? = some M → wx.ownsRow w0.heap.size 3 1 u M.length (zs M)
  d12 : Far v1 v2
  d1 : ∀ u ∈ vs, Far v1 u
  d2 : ∀ u ∈ vs, Far v2 u
theorem OwnG.rd {w0 wx : World} {v1 v2 v3 : Value} {vs : List Value} {A B : List Int} {C : List (List Int)} (h : OwnG w0 wx v1 v2 v3 vs A B C) : RdG wx v1 v2 v3 A B C :=
  ⟨Rd.of_own h.a, Rd.of_own h.b, vs, Rd.of_own h.c, fun i hi hi' => Rd.of_own (h.rows i _ _ (List.getElem?_eq_getElem hi') (List.getElem?_eq_getElem hi))⟩
theorem OwnG.keep {w0 wx wy : World} {v1 v2 v3 : Value} {vs : List Value} {A B : List Int} {C : List (List Int)} (h : OwnG w0 wx v1 v2 v3 vs A B C) (hB : Below wx.heap.size wx wy) : OwnG w0 wy v1 v2 v3 vs A B C :=
  ⟨own_kept h.a hB, own_kept h.b hB, own_kept h.c hB, fun i u M h1 h2 => own_kept (h.rows i u M h1 h2) hB, h.d12, h.d1, h.d2⟩
theorem OwnG.from {w0 w1 wx : World} {v1 v2 v3 : Value} {vs : List Value} {A B : List Int} {C : List (List Int)} (h : OwnG w1 wx v1 v2 v3 vs A B C) (hB : w0.heap.size ≤ w1.heap.size) : OwnG w0 wx v1 v2 v3 vs A B C :=
  ⟨own_base h.a hB, own_base h.b hB, own_base h.c hB, fun i u M h1 h2 => own_base (h.rows i u M h1 h2) hB, h.d12, h.d1, h.d2⟩
theorem OwnG.set {w0 wx : World} {v1 v2 v3 : Value} {vs : List Value} {A B : List Int} {C : List (List Int)} (h : OwnG w0 wx v1 v2 v3 vs A B C) {g j : Nat} (hg : g < w0.heap.size) (u : Value) : OwnG w0 (wx.setCell ⟨g, j, none⟩ u) v1 v2 v3 vs A B C :=
  ⟨own_set_other h.a (own_ne_num h.a hg) _, own_set_other h.b (own_ne_num h.b hg) _, own_set_other h.c (own_ne_num h.c hg) _, fun i x M h1 h2 => own_set_other (h.rows i x M h1 h2) (own_ne_num (h.rows i x M h1 h2) hg) _, h.d12, h.d1, h.d2⟩
theorem GSt.own {w0 X wx : World} {G : Nat} {T : TypeId} {v1 v2 v3 : Value} {vs : List Value} {A B : List Int} {C : List (List Int)} (h : GSt w0 X wx G T v1 v2 v3 vs A B C) : OwnG X wx v1 v2 v3 vs A B C := ⟨h.a, h.b, h.c, h.rows, h.d12, h.d1, h.d2⟩

/-- slices.Clone, at a list that is read. -/
theorem clone_is (L : List Int) (v : Value) (w : World) (hr : Hid (Rd w v 1 L.length (zs L))) (hl : L.length ≤ 1000000) :
    Calls Try.prog 80 #[v] w fun e w' => (∃ a c, e = .returned (.slice a L.length c) ∧ w'.ownsRow w.heap.size 3 1 (.slice a L.length c) L.length (zs L)) ∧ Below w.heap.size w w' := by
  obtain ⟨_, a, c, rfl, hc, h4⟩ := id hr.out
  by_cases h0 : L.length = 0
  · have hL : L = [] := List.eq_nil_of_length_eq_zero h0
    subst hL
    cases a with
    | none =>
      refine (Try.slices_Clone_int_nil 0 c w).mono ?_
      rintro e w' ⟨rfl, rfl⟩
      exact ⟨⟨none, 0, rfl, World.ownsRow_nil _ _ _ _⟩, Below.refl _ _⟩
    | some a =>
      refine (Try.slices_Clone_int_zero a c w).mono ?_
      rintro e w' ⟨v', rfl, ho, _, hB⟩
      obtain ⟨a', c', hv, _⟩ := own_form ho
      subst hv
      exact ⟨⟨a', c', rfl, ho⟩, hB⟩
  · rcases h4 with h4 | ⟨b, rfl, hb, hcell⟩
    · exact absurd h4 h0
    · refine (Try.slices_Clone_int b 0 L.length c L w (Nat.le_refl _) (by omega) (fun j hj => ?_)).mono ?_
      · rw [Nat.zero_add, hcell j _ (zs_get L j hj)]; simp [List.getD, hj]
      · rintro e w' ⟨v', rfl, ho, _, hB⟩
        rw [List.take_length] at ho
        obtain ⟨a', c', hv, _⟩ := own_form ho
        subst hv
        exact ⟨⟨a', c', rfl, ho⟩, hB⟩

theorem Try.infoH : (Try.prog.info? 56).map (·.size) = some 3 := by kernel_rfl
set_option maxRecDepth 100000 in
set_option maxHeartbeats 4000000 in
theorem turned_is (O R : List Int) (N : List (List Int)) (vo vr vn : Value) (w : World) (h : Hid (RdG w vo vr vn O R N)) (hs : Hid (Small O R N)) (hg : Hid (GameZ O R N)) :
    Calls Try.prog 61 #[.agg #[vo, vr, vn]] w fun e w' => (∃ v1 v2 v3 vs, e = .returned (.agg #[v1, v2, v3]) ∧ OwnG w w' v1 v2 v3 vs (O.map (1 - ·)) (R.map (· + 1)) N) ∧ Below w.heap.size w w' := by
  obtain ⟨ao, co, ho⟩ := h.out.o.shape
  obtain ⟨ar, cr, hr⟩ := h.out.r.shape
  obtain ⟨an, cn, hn, _⟩ := h.out.n.shape
  subst ho hr hn
  obtain ⟨_, hg2, hg3, hg4, hg5⟩ := hg.out
  obtain ⟨m, hm⟩ : ∃ m, m = O.length := ⟨_, rfl⟩
  have hml : m ≤ 24 := by omega
  have HM := Lib.hid hm
  rw [hg3, hg4] at h
  rw [hg3, hg4, ← hm]
  have HRL : Hid (R.length = m) := by rw [hm]; exact hg3
  have HNL : Hid (N.length = m) := by rw [hm]; exact hg4
  have HOK : Hid (∀ i, i < m → okAt O R N i) := by rw [hm]; exact hg5
  rw [← hm] at h
  obtain ⟨b, hb⟩ : ∃ b, b = w.heap.size := ⟨_, rfl⟩
  obtain ⟨X0, hX0⟩ : ∃ X, X = (w.alloc (.cells #[.slice ao m co, .slice ar m cr, .slice an m cn] 56)).alloc (.cells #[.slice none 0 0, .slice none 0 0, .slice none 0 0] 56) := ⟨_, rfl⟩
  obtain ⟨X, hX⟩ : ∃ X, X = X0.alloc (.cells #[.slice none 0 0, .slice none 0 0, .slice none 0 0] 56) := ⟨_, rfl⟩
  have hs0 : X0.heap.size = b + 2 := by rw [hX0, hb]; simp
  have HA0 : Hid (Below w.heap.size w X0) := by rw [hX0]; exact ((Below.refl _ _).alloc (Nat.le_refl _) _).alloc (by simp) _
  have HR0 : Hid (RdG X0 (.slice ao m co) (.slice ar m cr) (.slice an m cn) O R N) := h.out.below HA0.out
  have hca : X0.cell? ⟨b, 0, none⟩ = some (.slice ao m co) := by rw [hX0, hb]; simp
  have hcb : X0.cell? ⟨b, 1, none⟩ = some (.slice ar m cr) := by rw [hX0, hb]; simp
  have hcn : X0.cell? ⟨b, 2, none⟩ = some (.slice an m cn) := by rw [hX0, hb]; simp
  have HRB : Hid (X0.heap[b + 1]? = some (.cells #[.slice none 0 0, .slice none 0 0, .slice none 0 0] 56 (0, 0))) := by
    show _ = _
    rw [hX0, hb]
    have h9 := heap_alloc_new (w.alloc (.cells #[.slice ao m co, .slice ar m cr, .slice an m cn] 56)) (.cells #[.slice none 0 0, .slice none 0 0, .slice none 0 0] 56)
    rw [show (w.alloc (.cells #[.slice ao m co, .slice ar m cr, .slice an m cn] 56)).heap.size = w.heap.size + 1 by simp] at h9
    exact h9
  have HC0 : Hid (∀ W, Below X0.heap.size X0 W → W.cell? ⟨b, 0, none⟩ = some (.slice ao m co) ∧ W.cell? ⟨b, 1, none⟩ = some (.slice ar m cr) ∧ W.cell? ⟨b, 2, none⟩ = some (.slice an m cn)) := fun W h =>
    ⟨by rw [h.cell (p := ⟨b, 0, none⟩) (by show b < _; omega)]; exact hca, by rw [h.cell (p := ⟨b, 1, none⟩) (by show b < _; omega)]; exact hcb, by rw [h.cell (p := ⟨b, 2, none⟩) (by show b < _; omega)]; exact hcn⟩
  have HG0 : Hid (GSt X0 X X (b + 2) 56 (.slice none 0 0) (.slice none 0 0) (.slice none 0 0) [] ((O.map (1 - ·)).take 0) ((R.map (· + 1)).take 0) (N.take 0)) := by
    refine GSt.start ?_ (by rw [hX]; exact (Below.refl _ _).alloc (Nat.le_refl _) _) (by omega)
    rw [hX, ← hs0]; exact heap_alloc_new _ _
  have HS0 := Lib.hid hs0
  have HBE := Lib.hid hb
  obtain ⟨i0, hi, hz0, hz1, hz2⟩ := info_parts Try.infoZ
  obtain ⟨i1, hi1, hy0, hy1, hy2⟩ := info_parts Try.infoS
  have HX0 := Lib.hid hX0
  have HX := Lib.hid hX
  have cz : X.cell? ⟨b, 2, none⟩ = some (.slice an m cn) := (HC0.out X (by rw [hX]; exact (Below.refl _ _).alloc (Nat.le_refl _) _)).2.2
  clear h hg2 hg3 hg4 hg5 hm hca hcb hcn hs0
  go_enter Try.func61, Try.ntmps61
  go_upto_region 2 with fail
  rw [show (w.alloc (.cells #[.slice ao m co, .slice ar m cr, .slice an m cn] 56)).alloc (.cells #[.slice none 0 0, .slice none 0 0, .slice none 0 0] 56) = X0 from hX0.symm, ← hX, ← hb]
  clear hX0 hX hb
  go_wp2_with (fail)
  go_loopw [9] (fun iv wx => ∃ (i : Nat) (a1 a2 a3 : Option Addr) (c1 c2 c3 : Nat) (vs : List Value), iv = .int .i64 i ∧ i ≤ m ∧ True ∧ Hid (GSt X0 X wx (b + 2) 56 (.slice a1 i c1) (.slice a2 i c2) (.slice a3 i c3) vs ((O.map (1 - ·)).take i) ((R.map (· + 1)).take i) (N.take i))) (fun iv _ => m - (intOf iv).toNat)
  case atStart => exact ⟨0, none, none, none, 0, 0, 0, [], rfl, by omega, trivial, HG0⟩
  case round =>
    obtain ⟨i, a1, a2, a3, c1, c2, c3, vs, rfl, him, _, HGS⟩ := hrel
    have cn0 : wr.cell? ⟨b, 2, none⟩ = some (.slice an m cn) := (HC0.out _ HGS.out.below).2.2
    by_cases hin : i < m
    · have hin1 : (i : Int) < (m : Int) := by omega
      obtain ⟨bo, eo, hbo, co1⟩ := zat HR0.out.o i (by have := HM.out; omega)
      subst eo
      obtain ⟨br, er, hbr, cr1⟩ := zat HR0.out.r i (by have := HRL.out; omega)
      subst er
      obtain ⟨bn, xn, yn, en, hbn, cn1, cn2, rn⟩ := HR0.out.n.rowAt i (by have := HNL.out; omega)
      subst en
      obtain ⟨x, hx⟩ : ∃ x, x = O.getD i 0 := ⟨_, rfl⟩
      obtain ⟨y, hy⟩ : ∃ y, y = R.getD i 0 := ⟨_, rfl⟩
      obtain ⟨L, hL⟩ : ∃ L, L = N.getD i [] := ⟨_, rfl⟩
      have hk := HOK.out i hin
      unfold okAt at hk
      have hLl := hs.out.at i
      rw [← hx] at co1
      rw [← hy] at cr1
      rw [← hL] at cn1 cn2 rn hLl
      rw [← hx, ← hy] at hk
      obtain ⟨g1, g2, g3, _, _⟩ := hk
      obtain ⟨z0, hz⟩ : ∃ z, z = 1 - x := ⟨_, rfl⟩
      obtain ⟨z1, hzz⟩ : ∃ z, z = y + 1 := ⟨_, rfl⟩
      have HTK : Hid ((O.map (1 - ·)).take (i + 1) = (O.map (1 - ·)).take i ++ [z0] ∧ (R.map (· + 1)).take (i + 1) = (R.map (· + 1)).take i ++ [z1] ∧ N.take i ++ [L] = N.take (i + 1)) := by
        have l1 : i < (O.map (1 - ·)).length := by rw [List.length_map, ← HM.out]; exact hin
        have l2 : i < (R.map (· + 1)).length := by rw [List.length_map, HRL.out]; exact hin
        have l3 : i < N.length := by rw [HNL.out]; exact hin
        have l4 : i < O.length := by rw [← HM.out]; exact hin
        have l5 : i < R.length := by rw [HRL.out]; exact hin
        refine ⟨?_, ?_, ?_⟩
        · rw [List.take_succ_eq_append_getElem l1, hz, hx]; simp [List.getD, l4]
        · rw [List.take_succ_eq_append_getElem l2, hzz, hy]; simp [List.getD, l5]
        · rw [List.take_succ_eq_append_getElem l3, hL]; simp [List.getD, l3]
      have hw0 : IntKind.i64.wrap (1 - x) = z0 := by rw [IntWalk.i64_in _ (by omega)]; exact hz.symm
      have hw1 : IntKind.i64.wrap (y + 1) = z1 := by rw [IntWalk.i64_in _ (by omega)]; exact hzz.symm
      have HKA : Hid (∀ W, Below X0.heap.size X0 W → W.cell? ⟨b, 0, none⟩ = some (.slice (some ⟨bo, 0, none⟩) m co) ∧ W.cell? ⟨bo, i, none⟩ = some (.int .i64 x)) := fun W h => ⟨(HC0.out W h).1, by rw [h.cell (p := ⟨bo, i, none⟩) hbo]; exact co1⟩
      have HKB : Hid (∀ W, Below X0.heap.size X0 W → W.cell? ⟨b, 1, none⟩ = some (.slice (some ⟨br, 0, none⟩) m cr) ∧ W.cell? ⟨br, i, none⟩ = some (.int .i64 y)) := fun W h => ⟨(HC0.out W h).2.1, by rw [h.cell (p := ⟨br, i, none⟩) hbr]; exact cr1⟩
      have HRN : Hid (∀ W, Below X0.heap.size X0 W → Rd W (.slice xn L.length yn) 1 L.length (zs L)) := fun W h => rn.below h (Nat.le_refl _)
      have cw : wr.cell? ⟨bn, i, none⟩ = some (.slice xn L.length yn) := by rw [HGS.out.below.cell (p := ⟨bn, i, none⟩) hbn]; exact cn1
      have HLL := Lib.hid hLl
      have LA0 : Hid (((O.map (1 - ·)).take i).length = i) := by show _ = _; rw [List.length_take, List.length_map, ← HM.out]; omega
      have LB0 : Hid (((R.map (· + 1)).take i).length = i) := by show _ = _; rw [List.length_take, List.length_map, HRL.out]; omega
      have LC0 : Hid ((N.take i).length = i) := by show _ = _; rw [List.length_take, HNL.out]; omega
      have HZ := Lib.hid (And.intro hw0 hw1)
      clear hx hy hL rn co1 cr1 cn1 hbo hbr hbn hLl
      obtain ⟨A, hA⟩ : ∃ A, A = (O.map (1 - ·)).take i := ⟨_, rfl⟩
      obtain ⟨B, hB⟩ : ∃ B, B = (R.map (· + 1)).take i := ⟨_, rfl⟩
      obtain ⟨C, hC⟩ : ∃ C, C = N.take i := ⟨_, rfl⟩
      rw [← hA] at HGS LA0 HTK
      rw [← hB] at HGS LB0 HTK
      rw [← hC] at HGS LC0 HTK
      have LA : Hid (A.length = i) := LA0
      have LB : Hid (B.length = i) := LB0
      have LC : Hid (C.length = i) := LC0
      clear hA hB hC LA0 LB0 LC0
      go_upto_region 5 with fail
      have HSZ : Hid (b + 2 < wr.heap.size) := Nat.lt_of_lt_of_le HGS.out.hi HGS.out.le
      obtain ⟨q0, _, _⟩ := cell3 HGS.out.cell
      have HOW : Hid (wr.ownsRow X.heap.size 3 1 (.slice a1 i c1) i (zs A)) := by have h9 := HGS.out.a; rw [LA.out] at h9; exact h9
      clear hz hzz
      go_cut [15] (fun _ wx => ∃ (W5 : World) (a1' : Option Addr) (c1' : Nat), W5 = wx ∧ GSt X0 X wx (b + 2) 56 (.slice a1' (i + 1) c1') (.slice a2 i c2) (.slice a3 i c3) vs (A ++ [z0]) B C)
      case first =>
        refine wp_region_held_drew (S := (fun w' => (w'.cell? ⟨b, 0, none⟩ = some (.slice (some ⟨bo, 0, none⟩) m co) ∧ w'.cell? ⟨bo, i, none⟩ = some (.int .i64 x)))) (by kernel_rfl) ?_ (fun hHeld => ?_)
        · (try dsimp only); exact HKA.out _ HGS.out.below.drew
        refine wpAnyH_take (i := 0) (oi := { dst := some 14, op := Op.fieldAddr 56 (Operand.tmp 3) 0, type := 0, pos := "game.go:105", after := #[], guard := none }) (v := ?_) rfl (by kernel_rfl) (by kernel_rfl) (by kernel_rfl) (fun _ _ _ h => h) (Or.inl ⟨by rfl, ?_⟩) (by assumption) ?_
        rotate_left
        · intro w hSw; (try dsimp only at hSw); go_simp; all_goals (try with_reducible rfl)
        try simp only [Act.put, List.setIfInBounds_toArray, List.set_cons_zero, List.set_cons_succ]
        refine wpAnyH_take (i := 2) (oi := { dst := some 16, op := Op.fieldAddr 56 (Operand.tmp 1) 0, type := 0, pos := "game.go:105", after := #[], guard := none }) (v := ?_) rfl (by kernel_rfl) (by kernel_rfl) (by kernel_rfl) (fun _ _ _ h => h) (Or.inl ⟨by rfl, ?_⟩) (by assumption) ?_
        rotate_left
        · intro w hSw; (try dsimp only at hSw); go_simp; all_goals (try with_reducible rfl)
        try simp only [Act.put, List.setIfInBounds_toArray, List.set_cons_zero, List.set_cons_succ]
        refine wpAnyH_take (i := 3) (oi := { dst := some 17, op := Op.load 22 (Operand.tmp 16), type := 22, pos := "game.go:105", after := #[{ on := 2, ground := Ground.data }], guard := none }) (v := ?_) rfl (by kernel_rfl) (by kernel_rfl) (by kernel_rfl) (fun _ _ _ h => h) (Or.inl ⟨by rfl, ?_⟩) (by assumption) ?_
        rotate_left
        · intro w hSw; (try dsimp only at hSw); go_simp; all_goals (try with_reducible rfl)
        try simp only [Act.put, List.setIfInBounds_toArray, List.set_cons_zero, List.set_cons_succ]
        refine wpAnyH_take (i := 4) (oi := { dst := some 18, op := Op.move (Operand.tmp 4), type := 3, pos := "game.go:105", after := #[], guard := none }) (v := ?_) rfl (by kernel_rfl) (by kernel_rfl) (by kernel_rfl) (fun _ _ _ h => h) (Or.inl ⟨by rfl, ?_⟩) (by assumption) ?_
        rotate_left
        · intro w hSw; (try dsimp only at hSw); go_simp; all_goals (try with_reducible rfl)
        try simp only [Act.put, List.setIfInBounds_toArray, List.set_cons_zero, List.set_cons_succ]
        refine wpAnyH_take (i := 5) (oi := { dst := some 19, op := Op.indexAddr 22 (Operand.tmp 17) (Operand.tmp 18), type := 0, pos := "game.go:105", after := #[{ on := 3, ground := Ground.data }, { on := 4, ground := Ground.data }], guard := none }) (v := ?_) rfl (by kernel_rfl) (by kernel_rfl) (by kernel_rfl) (fun _ _ _ h => h) (Or.inl ⟨by rfl, ?_⟩) (by assumption) ?_
        rotate_left
        · intro w hSw; (try dsimp only at hSw); go_simp; all_goals (try with_reducible rfl)
        try simp only [Act.put, List.setIfInBounds_toArray, List.set_cons_zero, List.set_cons_succ]
        refine wpAnyH_take (i := 6) (oi := { dst := some 20, op := Op.load 3 (Operand.tmp 19), type := 3, pos := "game.go:105", after := #[{ on := 5, ground := Ground.data }], guard := none }) (v := ?_) rfl (by kernel_rfl) (by kernel_rfl) (by kernel_rfl) (fun _ _ _ h => h) (Or.inl ⟨by rfl, ?_⟩) (by assumption) ?_
        rotate_left
        · intro w hSw; (try dsimp only at hSw); go_simp; all_goals (try with_reducible rfl)
        try simp only [Act.put, List.setIfInBounds_toArray, List.set_cons_zero, List.set_cons_succ]
        refine wpAnyH_take (i := 7) (oi := { dst := some 21, op := Op.binOp BinOp.sub 3 (Operand.const (Value.int IntKind.i64 1)) (Operand.tmp 20) 3, type := 3, pos := "game.go:105", after := #[{ on := 6, ground := Ground.data }], guard := none }) (v := ?_) rfl (by kernel_rfl) (by kernel_rfl) (by kernel_rfl) (fun _ _ _ h => h) (Or.inl ⟨by rfl, ?_⟩) (by assumption) ?_
        rotate_left
        · intro w hSw; (try dsimp only at hSw); go_simp; all_goals (try with_reducible rfl)
        try simp only [Act.put, List.setIfInBounds_toArray, List.set_cons_zero, List.set_cons_succ]
        refine wpAnyH_ready (rs := [1, 8]) (by kernel_rfl) (by simp) ?_
        refine AllReadyH.cons (o := { dst := some 15, op := Op.load 22 (Operand.tmp 14), type := 22, pos := "game.go:105", after := #[{ on := 0, ground := Ground.data }], guard := none }) rfl (fun K hK => ?_) ?_
        ·
          have q0 := q0
          go_simp
          refine hK.out _ _ ?_ (fun hHeld => ?_)
          · (try dsimp only); exact HKA.out _ HGS.out.below.drew
          clear hK K
          try simp only [Act.put, List.setIfInBounds_toArray, List.set_cons_zero, List.set_cons_succ]
          refine wpAnyH_ready (rs := [8]) (by kernel_rfl) (by simp) ?_
          refine AllReadyH.cons (o := { dst := some 22, op := Op.buildSlice 22 1 #[(0, Operand.tmp 21)], type := 22, pos := "game.go:105", after := #[{ on := 7, ground := Ground.data }], guard := none }) rfl (fun K hK => ?_) ?_
          ·
            go_simp
            refine hK.out _ _ ?_ (fun hHeld => ?_)
            · (try dsimp only); exact HKA.out _ (HGS.out.below.drew.alloc HGS.out.below.drew.size _)
            clear hK K
            try simp only [Act.put, List.setIfInBounds_toArray, List.set_cons_zero, List.set_cons_succ]
            refine wpAnyH_ready (rs := [9]) (by kernel_rfl) (by simp) ?_
            refine AllReadyH.cons (o := { dst := some 23, op := Op.call { callee := Callee.builtin Builtin.append, args := #[Operand.tmp 15, Operand.tmp 22], argTypes := #[22, 22] }, type := 22, pos := "game.go:105", after := #[{ on := 1, ground := Ground.data }, { on := 8, ground := Ground.data }], guard := none }) rfl (fun K hK => ?_) ?_
            ·
              refine step_append_lies _ (by rfl) _ _ _ (by rfl) X.heap.size 3 i0 (.int .i64 0) 1 8 Try.underlying22 hi hz0 hz1 hz2 rfl (by omega) (.slice a1 i c1) i (zs A) (by rfl) (by first | exact (HOW.out.alloc _).drew | exact (HOW.out.drew).alloc _) ⟨wr.heap.size, 0, none⟩ 1 1 [.int .i64 z0] (by rfl) (by rfl) (World.news_of_block (cs := #[.int .i64 z0]) (t := 3) (fr := (0, 0)) (heap_alloc_new wr _)) (by simp [Value.oneCell']) (by omega) (by unfold maxLen; omega) (by omega) (by have := HGS.out.le; simp; omega) (wr.heap.size + 1) (by simp) ?_
              intro gg cap w3 hown3 hgrow hat hlt3
              have hBX : Below wr.heap.size wr (wr.alloc (.cells #[.int .i64 z0] 3)).drew := ((Below.refl _ _).alloc (Nat.le_refl _) _).drew
              have HBA : Hid (Below X0.heap.size X0 w3) := (below_step HGS.out.below hBX).grown hgrow (Nat.le_trans HGS.out.below.size hBX.size) fun g hg => by have := (HGS.out.a.lt g hg).1; have := HGS.out.lo; have := HGS.out.hi; omega
              have HG3 : Hid (w3.heap[b + 2]? = some (.cells #[.slice a1 (i) c1, .slice a2 (i) c2, .slice a3 i c3] 56 (0, 0))) := by
                show _ = _
                rw [hgrow.block (b + 2) (by have := HSZ.out; simp; omega) (fun e => own_ne_num HGS.out.a HGS.out.hi e.symm), hBX.block (b + 2) HSZ.out]; exact HGS.out.cell
              have HW3 := Lib.hid (And.intro hown3 (And.intro hgrow (And.intro hat hBX)))
              clear hown3 hgrow hat hlt3 hBX
              refine hK.out _ _ ?_ (fun hHeld => ?_)
              · (try dsimp only); exact HKA.out _ HBA.out
              clear hK K
              try simp only [Act.put, List.setIfInBounds_toArray, List.set_cons_zero, List.set_cons_succ]
              refine wpAnyH_take (i := 10) (oi := { dst := some 24, op := Op.fieldAddr 56 (Operand.tmp 3) 0, type := 0, pos := "game.go:105", after := #[{ on := 0, ground := Ground.phase }, { on := 1, ground := Ground.phase }, { on := 2, ground := Ground.phase }, { on := 3, ground := Ground.phase }, { on := 4, ground := Ground.phase }, { on := 5, ground := Ground.phase }, { on := 6, ground := Ground.phase }, { on := 7, ground := Ground.phase }, { on := 8, ground := Ground.phase }, { on := 9, ground := Ground.phase }], guard := none }) (v := ?_) rfl (by kernel_rfl) (by kernel_rfl) (by kernel_rfl) (fun _ _ _ h => h) (Or.inl ⟨by rfl, ?_⟩) (by assumption) ?_
              rotate_left
              · intro w hSw; (try dsimp only at hSw); go_simp; all_goals (try with_reducible rfl)
              try simp only [Act.put, List.setIfInBounds_toArray, List.set_cons_zero, List.set_cons_succ]
              refine wpAnyH_ready (rs := [11]) (by kernel_rfl) (by simp) ?_
              refine AllReadyH.cons (o := { dst := none, op := Op.store 22 (Operand.tmp 24) (Operand.tmp 23), type := 0, pos := "game.go:105", after := #[{ on := 10, ground := Ground.data }, { on := 9, ground := Ground.data }, { on := 9, ground := Ground.chain }, { on := 0, ground := Ground.phase }, { on := 1, ground := Ground.phase }, { on := 2, ground := Ground.phase }, { on := 3, ground := Ground.phase }, { on := 4, ground := Ground.phase }, { on := 5, ground := Ground.phase }, { on := 6, ground := Ground.phase }, { on := 7, ground := Ground.phase }, { on := 8, ground := Ground.phase }, { on := 9, ground := Ground.phase }], guard := none }) rfl (fun K hK => ?_) ?_
              ·
                have hG3 := HG3.out
                have k2 : w3.cell? ⟨b + 2, 0, none⟩ = some (.slice a1 i c1) := by simp only [World.cell?, hG3]; rfl
                have k3 : w3.frozen? ⟨b + 2, 0, none⟩ = false := by simp only [World.frozen?, hG3]; rfl
                clear hG3
                go_simp
                refine hK.out _ _ ?_ (fun hHeld => ?_)
                · (try dsimp only); exact HKA.out _ (HBA.out.setCell (p := ⟨b + 2, 0, none⟩) HGS.out.lo _)
                clear hK K
                try simp only [Act.put, List.setIfInBounds_toArray, List.set_cons_zero, List.set_cons_succ]
                refine wpAnyH_done (by kernel_rfl) ?_ _
                go_wp2_with (fail)
                go_meet
                refine ⟨_, some ⟨gg, 0, none⟩, cap, rfl, ?_⟩
                have h9 := HGS.out.pushA (x := z0) HW3.out.2.2.2 (v' := .slice (some ⟨gg, 0, none⟩) (i + 1) cap) (by rw [show zs (A ++ [z0]) = zs A ++ [.int .i64 z0] by simp [zs], List.length_append, LA.out]; exact HW3.out.1) HW3.out.2.1 (by rcases HW3.out.2.2.1 with h | h; exact .inl h.symm; exact .inr ⟨gg, rfl, by omega⟩)
                exact h9
              exact AllReadyH.nil
            exact AllReadyH.nil
          exact AllReadyH.nil
        refine AllReadyH.cons (o := { dst := some 22, op := Op.buildSlice 22 1 #[(0, Operand.tmp 21)], type := 22, pos := "game.go:105", after := #[{ on := 7, ground := Ground.data }], guard := none }) rfl (fun K hK => ?_) ?_
        ·
          go_simp
          refine hK.out _ _ ?_ (fun hHeld => ?_)
          · (try dsimp only); exact HKA.out _ (HGS.out.below.drew.alloc HGS.out.below.drew.size _)
          clear hK K
          try simp only [Act.put, List.setIfInBounds_toArray, List.set_cons_zero, List.set_cons_succ]
          refine wpAnyH_ready (rs := [1]) (by kernel_rfl) (by simp) ?_
          refine AllReadyH.cons (o := { dst := some 15, op := Op.load 22 (Operand.tmp 14), type := 22, pos := "game.go:105", after := #[{ on := 0, ground := Ground.data }], guard := none }) rfl (fun K hK => ?_) ?_
          ·
            have q0 := q0
            have q1 : (wr.alloc (.cells #[.int .i64 z0] 3)).cell? ⟨b + 2, 0, none⟩ = some (.slice a1 i c1) := (((Below.refl _ _).alloc (Nat.le_refl _) _).cell (p := ⟨b + 2, 0, none⟩) HSZ.out).trans q0
            go_simp
            refine hK.out _ _ ?_ (fun hHeld => ?_)
            · (try dsimp only); exact HKA.out _ (HGS.out.below.drew.alloc HGS.out.below.drew.size _)
            clear hK K
            try simp only [Act.put, List.setIfInBounds_toArray, List.set_cons_zero, List.set_cons_succ]
            refine wpAnyH_ready (rs := [9]) (by kernel_rfl) (by simp) ?_
            refine AllReadyH.cons (o := { dst := some 23, op := Op.call { callee := Callee.builtin Builtin.append, args := #[Operand.tmp 15, Operand.tmp 22], argTypes := #[22, 22] }, type := 22, pos := "game.go:105", after := #[{ on := 1, ground := Ground.data }, { on := 8, ground := Ground.data }], guard := none }) rfl (fun K hK => ?_) ?_
            ·
              refine step_append_lies _ (by rfl) _ _ _ (by rfl) X.heap.size 3 i0 (.int .i64 0) 1 8 Try.underlying22 hi hz0 hz1 hz2 rfl (by omega) (.slice a1 i c1) i (zs A) (by rfl) (by first | exact (HOW.out.alloc _).drew | exact (HOW.out.drew).alloc _) ⟨wr.heap.size, 0, none⟩ 1 1 [.int .i64 z0] (by rfl) (by rfl) (World.news_of_block (cs := #[.int .i64 z0]) (t := 3) (fr := (0, 0)) (heap_alloc_new wr _)) (by simp [Value.oneCell']) (by omega) (by unfold maxLen; omega) (by omega) (by have := HGS.out.le; simp; omega) (wr.heap.size + 1) (by simp) ?_
              intro gg cap w3 hown3 hgrow hat hlt3
              have hBX : Below wr.heap.size wr (wr.alloc (.cells #[.int .i64 z0] 3)).drew := ((Below.refl _ _).alloc (Nat.le_refl _) _).drew
              have HBA : Hid (Below X0.heap.size X0 w3) := (below_step HGS.out.below hBX).grown hgrow (Nat.le_trans HGS.out.below.size hBX.size) fun g hg => by have := (HGS.out.a.lt g hg).1; have := HGS.out.lo; have := HGS.out.hi; omega
              have HG3 : Hid (w3.heap[b + 2]? = some (.cells #[.slice a1 (i) c1, .slice a2 (i) c2, .slice a3 i c3] 56 (0, 0))) := by
                show _ = _
                rw [hgrow.block (b + 2) (by have := HSZ.out; simp; omega) (fun e => own_ne_num HGS.out.a HGS.out.hi e.symm), hBX.block (b + 2) HSZ.out]; exact HGS.out.cell
              have HW3 := Lib.hid (And.intro hown3 (And.intro hgrow (And.intro hat hBX)))
              clear hown3 hgrow hat hlt3 hBX
              refine hK.out _ _ ?_ (fun hHeld => ?_)
              · (try dsimp only); exact HKA.out _ HBA.out
              clear hK K
              try simp only [Act.put, List.setIfInBounds_toArray, List.set_cons_zero, List.set_cons_succ]
              refine wpAnyH_take (i := 10) (oi := { dst := some 24, op := Op.fieldAddr 56 (Operand.tmp 3) 0, type := 0, pos := "game.go:105", after := #[{ on := 0, ground := Ground.phase }, { on := 1, ground := Ground.phase }, { on := 2, ground := Ground.phase }, { on := 3, ground := Ground.phase }, { on := 4, ground := Ground.phase }, { on := 5, ground := Ground.phase }, { on := 6, ground := Ground.phase }, { on := 7, ground := Ground.phase }, { on := 8, ground := Ground.phase }, { on := 9, ground := Ground.phase }], guard := none }) (v := ?_) rfl (by kernel_rfl) (by kernel_rfl) (by kernel_rfl) (fun _ _ _ h => h) (Or.inl ⟨by rfl, ?_⟩) (by assumption) ?_
              rotate_left
              · intro w hSw; (try dsimp only at hSw); go_simp; all_goals (try with_reducible rfl)
              try simp only [Act.put, List.setIfInBounds_toArray, List.set_cons_zero, List.set_cons_succ]
              refine wpAnyH_ready (rs := [11]) (by kernel_rfl) (by simp) ?_
              refine AllReadyH.cons (o := { dst := none, op := Op.store 22 (Operand.tmp 24) (Operand.tmp 23), type := 0, pos := "game.go:105", after := #[{ on := 10, ground := Ground.data }, { on := 9, ground := Ground.data }, { on := 9, ground := Ground.chain }, { on := 0, ground := Ground.phase }, { on := 1, ground := Ground.phase }, { on := 2, ground := Ground.phase }, { on := 3, ground := Ground.phase }, { on := 4, ground := Ground.phase }, { on := 5, ground := Ground.phase }, { on := 6, ground := Ground.phase }, { on := 7, ground := Ground.phase }, { on := 8, ground := Ground.phase }, { on := 9, ground := Ground.phase }], guard := none }) rfl (fun K hK => ?_) ?_
              ·
                have hG3 := HG3.out
                have k2 : w3.cell? ⟨b + 2, 0, none⟩ = some (.slice a1 i c1) := by simp only [World.cell?, hG3]; rfl
                have k3 : w3.frozen? ⟨b + 2, 0, none⟩ = false := by simp only [World.frozen?, hG3]; rfl
                clear hG3
                go_simp
                refine hK.out _ _ ?_ (fun hHeld => ?_)
                · (try dsimp only); exact HKA.out _ (HBA.out.setCell (p := ⟨b + 2, 0, none⟩) HGS.out.lo _)
                clear hK K
                try simp only [Act.put, List.setIfInBounds_toArray, List.set_cons_zero, List.set_cons_succ]
                refine wpAnyH_done (by kernel_rfl) ?_ _
                go_wp2_with (fail)
                go_meet
                refine ⟨_, some ⟨gg, 0, none⟩, cap, rfl, ?_⟩
                have h9 := HGS.out.pushA (x := z0) HW3.out.2.2.2 (v' := .slice (some ⟨gg, 0, none⟩) (i + 1) cap) (by rw [show zs (A ++ [z0]) = zs A ++ [.int .i64 z0] by simp [zs], List.length_append, LA.out]; exact HW3.out.1) HW3.out.2.1 (by rcases HW3.out.2.2.1 with h | h; exact .inl h.symm; exact .inr ⟨gg, rfl, by omega⟩)
                exact h9
              exact AllReadyH.nil
            exact AllReadyH.nil
          exact AllReadyH.nil
        exact AllReadyH.nil
      case rest =>
        obtain ⟨W5, a1, c1, rfl, HGS⟩ := hcut
        have HGS := Lib.hid HGS
        have cw := (HRN.out _ HGS.out.below)
        go_upto_region 6 with fail
        have HSZ : Hid (b + 2 < W5.heap.size) := Nat.lt_of_lt_of_le HGS.out.hi HGS.out.le
        obtain ⟨_, q1, _⟩ := cell3 HGS.out.cell
        have HOW : Hid (W5.ownsRow X.heap.size 3 1 (.slice a2 i c2) i (zs B)) := by have h9 := HGS.out.b; rw [LB.out] at h9; exact h9
        have hw1 := HZ.out.2
        go_cut [24] (fun _ wx => ∃ (W6 : World) (a2' : Option Addr) (c2' : Nat), W6 = wx ∧ GSt X0 X wx (b + 2) 56 (.slice a1 (i + 1) c1) (.slice a2' (i + 1) c2') (.slice a3 i c3) vs (A ++ [z0]) (B ++ [z1]) C)
        case first =>
          refine wp_region_held_drew (S := (fun w' => (w'.cell? ⟨b, 1, none⟩ = some (.slice (some ⟨br, 0, none⟩) m cr) ∧ w'.cell? ⟨br, i, none⟩ = some (.int .i64 y)))) (by kernel_rfl) ?_ (fun hHeld => ?_)
          · (try dsimp only); exact HKB.out _ HGS.out.below.drew
          refine wpAnyH_take (i := 0) (oi := { dst := some 25, op := Op.fieldAddr 56 (Operand.tmp 3) 1, type := 0, pos := "game.go:106", after := #[], guard := none }) (v := ?_) rfl (by kernel_rfl) (by kernel_rfl) (by kernel_rfl) (fun _ _ _ h => h) (Or.inl ⟨by rfl, ?_⟩) (by assumption) ?_
          rotate_left
          · intro w hSw; (try dsimp only at hSw); go_simp; all_goals (try with_reducible rfl)
          try simp only [Act.put, List.setIfInBounds_toArray, List.set_cons_zero, List.set_cons_succ]
          refine wpAnyH_take (i := 2) (oi := { dst := some 27, op := Op.fieldAddr 56 (Operand.tmp 1) 1, type := 0, pos := "game.go:106", after := #[], guard := none }) (v := ?_) rfl (by kernel_rfl) (by kernel_rfl) (by kernel_rfl) (fun _ _ _ h => h) (Or.inl ⟨by rfl, ?_⟩) (by assumption) ?_
          rotate_left
          · intro w hSw; (try dsimp only at hSw); go_simp; all_goals (try with_reducible rfl)
          try simp only [Act.put, List.setIfInBounds_toArray, List.set_cons_zero, List.set_cons_succ]
          refine wpAnyH_take (i := 3) (oi := { dst := some 28, op := Op.load 22 (Operand.tmp 27), type := 22, pos := "game.go:106", after := #[{ on := 2, ground := Ground.data }], guard := none }) (v := ?_) rfl (by kernel_rfl) (by kernel_rfl) (by kernel_rfl) (fun _ _ _ h => h) (Or.inl ⟨by rfl, ?_⟩) (by assumption) ?_
          rotate_left
          · intro w hSw; (try dsimp only at hSw); go_simp; all_goals (try with_reducible rfl)
          try simp only [Act.put, List.setIfInBounds_toArray, List.set_cons_zero, List.set_cons_succ]
          refine wpAnyH_take (i := 4) (oi := { dst := some 29, op := Op.move (Operand.tmp 4), type := 3, pos := "game.go:106", after := #[], guard := none }) (v := ?_) rfl (by kernel_rfl) (by kernel_rfl) (by kernel_rfl) (fun _ _ _ h => h) (Or.inl ⟨by rfl, ?_⟩) (by assumption) ?_
          rotate_left
          · intro w hSw; (try dsimp only at hSw); go_simp; all_goals (try with_reducible rfl)
          try simp only [Act.put, List.setIfInBounds_toArray, List.set_cons_zero, List.set_cons_succ]
          refine wpAnyH_take (i := 5) (oi := { dst := some 30, op := Op.indexAddr 22 (Operand.tmp 28) (Operand.tmp 29), type := 0, pos := "game.go:106", after := #[{ on := 3, ground := Ground.data }, { on := 4, ground := Ground.data }], guard := none }) (v := ?_) rfl (by kernel_rfl) (by kernel_rfl) (by kernel_rfl) (fun _ _ _ h => h) (Or.inl ⟨by rfl, ?_⟩) (by assumption) ?_
          rotate_left
          · intro w hSw; (try dsimp only at hSw); go_simp; all_goals (try with_reducible rfl)
          try simp only [Act.put, List.setIfInBounds_toArray, List.set_cons_zero, List.set_cons_succ]
          refine wpAnyH_take (i := 6) (oi := { dst := some 31, op := Op.load 3 (Operand.tmp 30), type := 3, pos := "game.go:106", after := #[{ on := 5, ground := Ground.data }], guard := none }) (v := ?_) rfl (by kernel_rfl) (by kernel_rfl) (by kernel_rfl) (fun _ _ _ h => h) (Or.inl ⟨by rfl, ?_⟩) (by assumption) ?_
          rotate_left
          · intro w hSw; (try dsimp only at hSw); go_simp; all_goals (try with_reducible rfl)
          try simp only [Act.put, List.setIfInBounds_toArray, List.set_cons_zero, List.set_cons_succ]
          refine wpAnyH_take (i := 7) (oi := { dst := some 32, op := Op.binOp BinOp.add 3 (Operand.tmp 31) (Operand.const (Value.int IntKind.i64 1)) 3, type := 3, pos := "game.go:106", after := #[{ on := 6, ground := Ground.data }], guard := none }) (v := ?_) rfl (by kernel_rfl) (by kernel_rfl) (by kernel_rfl) (fun _ _ _ h => h) (Or.inl ⟨by rfl, ?_⟩) (by assumption) ?_
          rotate_left
          · intro w hSw; (try dsimp only at hSw); go_simp; all_goals (try with_reducible rfl)
          try simp only [Act.put, List.setIfInBounds_toArray, List.set_cons_zero, List.set_cons_succ]
          refine wpAnyH_ready (rs := [1, 8]) (by kernel_rfl) (by simp) ?_
          refine AllReadyH.cons (o := { dst := some 26, op := Op.load 22 (Operand.tmp 25), type := 22, pos := "game.go:106", after := #[{ on := 0, ground := Ground.data }], guard := none }) rfl (fun K hK => ?_) ?_
          ·
            have q0 := q1
            go_simp
            refine hK.out _ _ ?_ (fun hHeld => ?_)
            · (try dsimp only); exact HKB.out _ HGS.out.below.drew
            clear hK K
            try simp only [Act.put, List.setIfInBounds_toArray, List.set_cons_zero, List.set_cons_succ]
            refine wpAnyH_ready (rs := [8]) (by kernel_rfl) (by simp) ?_
            refine AllReadyH.cons (o := { dst := some 33, op := Op.buildSlice 22 1 #[(0, Operand.tmp 32)], type := 22, pos := "game.go:106", after := #[{ on := 7, ground := Ground.data }], guard := none }) rfl (fun K hK => ?_) ?_
            ·
              go_simp
              refine hK.out _ _ ?_ (fun hHeld => ?_)
              · (try dsimp only); exact HKB.out _ (HGS.out.below.drew.alloc HGS.out.below.drew.size _)
              clear hK K
              try simp only [Act.put, List.setIfInBounds_toArray, List.set_cons_zero, List.set_cons_succ]
              refine wpAnyH_ready (rs := [9]) (by kernel_rfl) (by simp) ?_
              refine AllReadyH.cons (o := { dst := some 34, op := Op.call { callee := Callee.builtin Builtin.append, args := #[Operand.tmp 26, Operand.tmp 33], argTypes := #[22, 22] }, type := 22, pos := "game.go:106", after := #[{ on := 1, ground := Ground.data }, { on := 8, ground := Ground.data }], guard := none }) rfl (fun K hK => ?_) ?_
              ·
                refine step_append_lies _ (by rfl) _ _ _ (by rfl) X.heap.size 3 i0 (.int .i64 0) 1 8 Try.underlying22 hi hz0 hz1 hz2 rfl (by omega) (.slice a2 i c2) i (zs B) (by rfl) (by first | exact (HOW.out.alloc _).drew | exact (HOW.out.drew).alloc _) ⟨W5.heap.size, 0, none⟩ 1 1 [.int .i64 z1] (by rfl) (by rfl) (World.news_of_block (cs := #[.int .i64 z1]) (t := 3) (fr := (0, 0)) (heap_alloc_new W5 _)) (by simp [Value.oneCell']) (by omega) (by unfold maxLen; omega) (by omega) (by have := HGS.out.le; simp; omega) (W5.heap.size + 1) (by simp) ?_
                intro gg cap w3 hown3 hgrow hat hlt3
                have hBX : Below W5.heap.size W5 (W5.alloc (.cells #[.int .i64 z1] 3)).drew := ((Below.refl _ _).alloc (Nat.le_refl _) _).drew
                have HBA : Hid (Below X0.heap.size X0 w3) := (below_step HGS.out.below hBX).grown hgrow (Nat.le_trans HGS.out.below.size hBX.size) fun g hg => by have := (HGS.out.b.lt g hg).1; have := HGS.out.lo; have := HGS.out.hi; omega
                have HG3 : Hid (w3.heap[b + 2]? = some (.cells #[.slice a1 (i + 1) c1, .slice a2 (i) c2, .slice a3 i c3] 56 (0, 0))) := by
                  show _ = _
                  rw [hgrow.block (b + 2) (by have := HSZ.out; simp; omega) (fun e => own_ne_num HGS.out.b HGS.out.hi e.symm), hBX.block (b + 2) HSZ.out]; exact HGS.out.cell
                have HW3 := Lib.hid (And.intro hown3 (And.intro hgrow (And.intro hat hBX)))
                clear hown3 hgrow hat hlt3 hBX
                refine hK.out _ _ ?_ (fun hHeld => ?_)
                · (try dsimp only); exact HKB.out _ HBA.out
                clear hK K
                try simp only [Act.put, List.setIfInBounds_toArray, List.set_cons_zero, List.set_cons_succ]
                refine wpAnyH_take (i := 10) (oi := { dst := some 35, op := Op.fieldAddr 56 (Operand.tmp 3) 1, type := 0, pos := "game.go:106", after := #[{ on := 0, ground := Ground.phase }, { on := 1, ground := Ground.phase }, { on := 2, ground := Ground.phase }, { on := 3, ground := Ground.phase }, { on := 4, ground := Ground.phase }, { on := 5, ground := Ground.phase }, { on := 6, ground := Ground.phase }, { on := 7, ground := Ground.phase }, { on := 8, ground := Ground.phase }, { on := 9, ground := Ground.phase }], guard := none }) (v := ?_) rfl (by kernel_rfl) (by kernel_rfl) (by kernel_rfl) (fun _ _ _ h => h) (Or.inl ⟨by rfl, ?_⟩) (by assumption) ?_
                rotate_left
                · intro w hSw; (try dsimp only at hSw); go_simp; all_goals (try with_reducible rfl)
                try simp only [Act.put, List.setIfInBounds_toArray, List.set_cons_zero, List.set_cons_succ]
                refine wpAnyH_ready (rs := [11]) (by kernel_rfl) (by simp) ?_
                refine AllReadyH.cons (o := { dst := none, op := Op.store 22 (Operand.tmp 35) (Operand.tmp 34), type := 0, pos := "game.go:106", after := #[{ on := 10, ground := Ground.data }, { on := 9, ground := Ground.data }, { on := 9, ground := Ground.chain }, { on := 0, ground := Ground.phase }, { on := 1, ground := Ground.phase }, { on := 2, ground := Ground.phase }, { on := 3, ground := Ground.phase }, { on := 4, ground := Ground.phase }, { on := 5, ground := Ground.phase }, { on := 6, ground := Ground.phase }, { on := 7, ground := Ground.phase }, { on := 8, ground := Ground.phase }, { on := 9, ground := Ground.phase }], guard := none }) rfl (fun K hK => ?_) ?_
                ·
                  have hG3 := HG3.out
                  have k2 : w3.cell? ⟨b + 2, 1, none⟩ = some (.slice a2 i c2) := by simp only [World.cell?, hG3]; rfl
                  have k3 : w3.frozen? ⟨b + 2, 1, none⟩ = false := by simp only [World.frozen?, hG3]; rfl
                  clear hG3
                  go_simp
                  refine hK.out _ _ ?_ (fun hHeld => ?_)
                  · (try dsimp only); exact HKB.out _ (HBA.out.setCell (p := ⟨b + 2, 1, none⟩) HGS.out.lo _)
                  clear hK K
                  try simp only [Act.put, List.setIfInBounds_toArray, List.set_cons_zero, List.set_cons_succ]
                  refine wpAnyH_done (by kernel_rfl) ?_ _
                  go_wp2_with (fail)
                  go_meet
                  refine ⟨_, some ⟨gg, 0, none⟩, cap, rfl, ?_⟩
                  have h9 := HGS.out.pushB (x := z1) HW3.out.2.2.2 (v' := .slice (some ⟨gg, 0, none⟩) (i + 1) cap) (by rw [show zs (B ++ [z1]) = zs B ++ [.int .i64 z1] by simp [zs], List.length_append, LB.out]; exact HW3.out.1) HW3.out.2.1 (by rcases HW3.out.2.2.1 with h | h; exact .inl h.symm; exact .inr ⟨gg, rfl, by omega⟩)
                  exact h9
                exact AllReadyH.nil
              exact AllReadyH.nil
            exact AllReadyH.nil
          refine AllReadyH.cons (o := { dst := some 33, op := Op.buildSlice 22 1 #[(0, Operand.tmp 32)], type := 22, pos := "game.go:106", after := #[{ on := 7, ground := Ground.data }], guard := none }) rfl (fun K hK => ?_) ?_
          ·
            go_simp
            refine hK.out _ _ ?_ (fun hHeld => ?_)
            · (try dsimp only); exact HKB.out _ (HGS.out.below.drew.alloc HGS.out.below.drew.size _)
            clear hK K
            try simp only [Act.put, List.setIfInBounds_toArray, List.set_cons_zero, List.set_cons_succ]
            refine wpAnyH_ready (rs := [1]) (by kernel_rfl) (by simp) ?_
            refine AllReadyH.cons (o := { dst := some 26, op := Op.load 22 (Operand.tmp 25), type := 22, pos := "game.go:106", after := #[{ on := 0, ground := Ground.data }], guard := none }) rfl (fun K hK => ?_) ?_
            ·
              have q0 := q1
              have q1 : (W5.alloc (.cells #[.int .i64 z1] 3)).cell? ⟨b + 2, 1, none⟩ = some (.slice a2 i c2) := (((Below.refl _ _).alloc (Nat.le_refl _) _).cell (p := ⟨b + 2, 1, none⟩) HSZ.out).trans q1
              go_simp
              refine hK.out _ _ ?_ (fun hHeld => ?_)
              · (try dsimp only); exact HKB.out _ (HGS.out.below.drew.alloc HGS.out.below.drew.size _)
              clear hK K
              try simp only [Act.put, List.setIfInBounds_toArray, List.set_cons_zero, List.set_cons_succ]
              refine wpAnyH_ready (rs := [9]) (by kernel_rfl) (by simp) ?_
              refine AllReadyH.cons (o := { dst := some 34, op := Op.call { callee := Callee.builtin Builtin.append, args := #[Operand.tmp 26, Operand.tmp 33], argTypes := #[22, 22] }, type := 22, pos := "game.go:106", after := #[{ on := 1, ground := Ground.data }, { on := 8, ground := Ground.data }], guard := none }) rfl (fun K hK => ?_) ?_
              ·
                refine step_append_lies _ (by rfl) _ _ _ (by rfl) X.heap.size 3 i0 (.int .i64 0) 1 8 Try.underlying22 hi hz0 hz1 hz2 rfl (by omega) (.slice a2 i c2) i (zs B) (by rfl) (by first | exact (HOW.out.alloc _).drew | exact (HOW.out.drew).alloc _) ⟨W5.heap.size, 0, none⟩ 1 1 [.int .i64 z1] (by rfl) (by rfl) (World.news_of_block (cs := #[.int .i64 z1]) (t := 3) (fr := (0, 0)) (heap_alloc_new W5 _)) (by simp [Value.oneCell']) (by omega) (by unfold maxLen; omega) (by omega) (by have := HGS.out.le; simp; omega) (W5.heap.size + 1) (by simp) ?_
                intro gg cap w3 hown3 hgrow hat hlt3
                have hBX : Below W5.heap.size W5 (W5.alloc (.cells #[.int .i64 z1] 3)).drew := ((Below.refl _ _).alloc (Nat.le_refl _) _).drew
                have HBA : Hid (Below X0.heap.size X0 w3) := (below_step HGS.out.below hBX).grown hgrow (Nat.le_trans HGS.out.below.size hBX.size) fun g hg => by have := (HGS.out.b.lt g hg).1; have := HGS.out.lo; have := HGS.out.hi; omega
                have HG3 : Hid (w3.heap[b + 2]? = some (.cells #[.slice a1 (i + 1) c1, .slice a2 (i) c2, .slice a3 i c3] 56 (0, 0))) := by
                  show _ = _
                  rw [hgrow.block (b + 2) (by have := HSZ.out; simp; omega) (fun e => own_ne_num HGS.out.b HGS.out.hi e.symm), hBX.block (b + 2) HSZ.out]; exact HGS.out.cell
                have HW3 := Lib.hid (And.intro hown3 (And.intro hgrow (And.intro hat hBX)))
                clear hown3 hgrow hat hlt3 hBX
                refine hK.out _ _ ?_ (fun hHeld => ?_)
                · (try dsimp only); exact HKB.out _ HBA.out
                clear hK K
                try simp only [Act.put, List.setIfInBounds_toArray, List.set_cons_zero, List.set_cons_succ]
                refine wpAnyH_take (i := 10) (oi := { dst := some 35, op := Op.fieldAddr 56 (Operand.tmp 3) 1, type := 0, pos := "game.go:106", after := #[{ on := 0, ground := Ground.phase }, { on := 1, ground := Ground.phase }, { on := 2, ground := Ground.phase }, { on := 3, ground := Ground.phase }, { on := 4, ground := Ground.phase }, { on := 5, ground := Ground.phase }, { on := 6, ground := Ground.phase }, { on := 7, ground := Ground.phase }, { on := 8, ground := Ground.phase }, { on := 9, ground := Ground.phase }], guard := none }) (v := ?_) rfl (by kernel_rfl) (by kernel_rfl) (by kernel_rfl) (fun _ _ _ h => h) (Or.inl ⟨by rfl, ?_⟩) (by assumption) ?_
                rotate_left
                · intro w hSw; (try dsimp only at hSw); go_simp; all_goals (try with_reducible rfl)
                try simp only [Act.put, List.setIfInBounds_toArray, List.set_cons_zero, List.set_cons_succ]
                refine wpAnyH_ready (rs := [11]) (by kernel_rfl) (by simp) ?_
                refine AllReadyH.cons (o := { dst := none, op := Op.store 22 (Operand.tmp 35) (Operand.tmp 34), type := 0, pos := "game.go:106", after := #[{ on := 10, ground := Ground.data }, { on := 9, ground := Ground.data }, { on := 9, ground := Ground.chain }, { on := 0, ground := Ground.phase }, { on := 1, ground := Ground.phase }, { on := 2, ground := Ground.phase }, { on := 3, ground := Ground.phase }, { on := 4, ground := Ground.phase }, { on := 5, ground := Ground.phase }, { on := 6, ground := Ground.phase }, { on := 7, ground := Ground.phase }, { on := 8, ground := Ground.phase }, { on := 9, ground := Ground.phase }], guard := none }) rfl (fun K hK => ?_) ?_
                ·
                  have hG3 := HG3.out
                  have k2 : w3.cell? ⟨b + 2, 1, none⟩ = some (.slice a2 i c2) := by simp only [World.cell?, hG3]; rfl
                  have k3 : w3.frozen? ⟨b + 2, 1, none⟩ = false := by simp only [World.frozen?, hG3]; rfl
                  clear hG3
                  go_simp
                  refine hK.out _ _ ?_ (fun hHeld => ?_)
                  · (try dsimp only); exact HKB.out _ (HBA.out.setCell (p := ⟨b + 2, 1, none⟩) HGS.out.lo _)
                  clear hK K
                  try simp only [Act.put, List.setIfInBounds_toArray, List.set_cons_zero, List.set_cons_succ]
                  refine wpAnyH_done (by kernel_rfl) ?_ _
                  go_wp2_with (fail)
                  go_meet
                  refine ⟨_, some ⟨gg, 0, none⟩, cap, rfl, ?_⟩
                  have h9 := HGS.out.pushB (x := z1) HW3.out.2.2.2 (v' := .slice (some ⟨gg, 0, none⟩) (i + 1) cap) (by rw [show zs (B ++ [z1]) = zs B ++ [.int .i64 z1] by simp [zs], List.length_append, LB.out]; exact HW3.out.1) HW3.out.2.1 (by rcases HW3.out.2.2.1 with h | h; exact .inl h.symm; exact .inr ⟨gg, rfl, by omega⟩)
                  exact h9
                exact AllReadyH.nil
              exact AllReadyH.nil
            exact AllReadyH.nil
          exact AllReadyH.nil
        case rest =>
          obtain ⟨W6, a2, c2, rfl, HGS⟩ := hcut
          have HGS := Lib.hid HGS
          go_upto_region 7 with fail
          have HSZ : Hid (b + 2 < W6.heap.size) := Nat.lt_of_lt_of_le HGS.out.hi HGS.out.le
          obtain ⟨_, _, q2⟩ := cell3 HGS.out.cell
          have HOW : Hid (∀ W, Below W6.heap.size W6 W → W.ownsRow X.heap.size 22 1 (.slice a3 i c3) i vs) := fun W h => by have h9 := own_kept HGS.out.c h; rw [LC.out] at h9; exact h9
          have HCL : Hid (∀ W, Below W6.heap.size W6 W → Calls Try.prog 80 #[.slice xn L.length yn] W fun e w' => (∃ a c, e = .returned (.slice a L.length c) ∧ w'.ownsRow W.heap.size 3 1 (.slice a L.length c) L.length (zs L)) ∧ Below W6.heap.size W6 w') := fun W h => (clone_is L _ W (HRN.out W (below_step HGS.out.below h)) (by have := HLL.out; omega)).mono fun e w' h2 => ⟨h2.1, below_step h h2.2⟩
          rw [← HTK.out.1, ← HTK.out.2.1] at HGS
          refine wp_region_held_drew (S := (fun w' => True)) (by kernel_rfl) ?_ (fun hHeld => ?_)
          · (try dsimp only); all_goals trivial
          refine wpAnyH_take (i := 0) (oi := { dst := some 36, op := Op.fieldAddr 56 (Operand.tmp 3) 2, type := 0, pos := "game.go:107", after := #[], guard := none }) (v := ?_) rfl (by kernel_rfl) (by kernel_rfl) (by kernel_rfl) (fun _ _ _ h => h) (Or.inl ⟨by rfl, ?_⟩) (by assumption) ?_
          rotate_left
          · intro w hSw; (try dsimp only at hSw); go_simp; all_goals (try with_reducible rfl)
          try simp only [Act.put, List.setIfInBounds_toArray, List.set_cons_zero, List.set_cons_succ]
          refine wpAnyH_take (i := 2) (oi := { dst := some 38, op := Op.move (Operand.tmp 5), type := 22, pos := "game.go:107", after := #[], guard := none }) (v := ?_) rfl (by kernel_rfl) (by kernel_rfl) (by kernel_rfl) (fun _ _ _ h => h) (Or.inl ⟨by rfl, ?_⟩) (by assumption) ?_
          rotate_left
          · intro w hSw; (try dsimp only at hSw); go_simp; all_goals (try with_reducible rfl)
          try simp only [Act.put, List.setIfInBounds_toArray, List.set_cons_zero, List.set_cons_succ]
          refine wpAnyH_ready (rs := [1, 3]) (by kernel_rfl) (by simp) ?_
          refine AllReadyH.cons (o := { dst := some 37, op := Op.load 23 (Operand.tmp 36), type := 23, pos := "game.go:107", after := #[{ on := 0, ground := Ground.data }], guard := none }) rfl (fun K hK => ?_) ?_
          ·
            have q0 := q2
            go_simp
            refine hK.out _ _ ?_ (fun hHeld => ?_)
            · (try dsimp only); all_goals trivial
            clear hK K
            try simp only [Act.put, List.setIfInBounds_toArray, List.set_cons_zero, List.set_cons_succ]
            refine wpAnyH_ready (rs := [3]) (by kernel_rfl) (by simp) ?_
            refine AllReadyH.cons (o := { dst := some 39, op := Op.call { callee := Callee.value (Operand.func 80), args := #[Operand.tmp 38], argTypes := #[22] }, type := 22, pos := "game.go:107", after := #[{ on := 2, ground := Ground.data }], guard := none }) rfl (fun K hK => ?_) ?_
            ·
              go_simp
              go_at_call 80
              refine (HCL.out _ (by first | exact Below.refl _ _ | exact (Below.refl _ _).drew)).mono ?_
              rintro e wC ⟨⟨aC, cC, rfl, hC⟩, hB⟩
              have HBC : Hid (Below W6.heap.size W6 wC) := hB
              have HC := Lib.hid hC
              clear hB hC
              try go_wp2_with (fail)
              refine hK.out _ _ ?_ (fun hHeld => ?_)
              · (try dsimp only); all_goals trivial
              clear hK K
              try simp only [Act.put, List.setIfInBounds_toArray, List.set_cons_zero, List.set_cons_succ]
              refine wpAnyH_ready (rs := [4]) (by kernel_rfl) (by simp) ?_
              refine AllReadyH.cons (o := { dst := some 40, op := Op.buildSlice 23 1 #[(0, Operand.tmp 39)], type := 23, pos := "game.go:107", after := #[{ on := 3, ground := Ground.data }], guard := none }) rfl (fun K hK => ?_) ?_
              ·
                go_simp
                refine hK.out _ _ ?_ (fun hHeld => ?_)
                · (try dsimp only); all_goals trivial
                clear hK K
                try simp only [Act.put, List.setIfInBounds_toArray, List.set_cons_zero, List.set_cons_succ]
                refine wpAnyH_ready (rs := [5]) (by kernel_rfl) (by simp) ?_
                refine AllReadyH.cons (o := { dst := some 41, op := Op.call { callee := Callee.builtin Builtin.append, args := #[Operand.tmp 37, Operand.tmp 40], argTypes := #[23, 23] }, type := 23, pos := "game.go:107", after := #[{ on := 1, ground := Ground.data }, { on := 4, ground := Ground.data }, { on := 3, ground := Ground.chain }], guard := none }) rfl (fun K hK => ?_) ?_
                ·
                  have hBX : Below W6.heap.size W6 (wC.alloc (.cells #[.slice aC L.length cC] 22)) := HBC.out.alloc HBC.out.size _
                  refine step_append_lies _ (by rfl) _ _ _ (by rfl) X.heap.size 22 i1 (.slice none 0 0) 1 24 Try.underlying23 hi1 hy0 hy1 hy2 rfl (by omega) (.slice a3 i c3) i vs (by rfl) (HOW.out _ hBX) ⟨wC.heap.size, 0, none⟩ 1 1 [.slice aC L.length cC] (by rfl) (by rfl) (World.news_of_block (cs := #[.slice aC L.length cC]) (t := 22) (fr := (0, 0)) (heap_alloc_new wC _)) (by simp [Value.oneCell']) (by omega) (by unfold maxLen; omega) (by omega) (by have := HGS.out.le; have := HBC.out.size; simp; omega) (wC.heap.size + 1) (by simp) ?_
                  intro gg cap w3 hown3 hgrow hat hlt3
                  have HG3 : Hid (w3.heap[b + 2]? = some (.cells #[.slice a1 (i + 1) c1, .slice a2 (i + 1) c2, .slice a3 i c3] 56 (0, 0))) := by
                    show _ = _
                    rw [hgrow.block (b + 2) (by have := HSZ.out; have := HBC.out.size; simp; omega) (fun e => own_ne_num HGS.out.c HGS.out.hi e.symm), hBX.block (b + 2) HSZ.out]; exact HGS.out.cell
                  have HW3 := Lib.hid (And.intro hown3 (And.intro hgrow (And.intro hat hBX)))
                  clear hown3 hgrow hat hlt3 hBX
                  refine hK.out _ _ ?_ (fun hHeld => ?_)
                  · (try dsimp only); all_goals trivial
                  clear hK K
                  try simp only [Act.put, List.setIfInBounds_toArray, List.set_cons_zero, List.set_cons_succ]
                  refine wpAnyH_take (i := 6) (oi := { dst := some 42, op := Op.fieldAddr 56 (Operand.tmp 3) 2, type := 0, pos := "game.go:107", after := #[{ on := 0, ground := Ground.phase }, { on := 1, ground := Ground.phase }, { on := 2, ground := Ground.phase }, { on := 3, ground := Ground.phase }, { on := 4, ground := Ground.phase }, { on := 5, ground := Ground.phase }], guard := none }) (v := ?_) rfl (by kernel_rfl) (by kernel_rfl) (by kernel_rfl) (fun _ _ _ h => h) (Or.inl ⟨by rfl, ?_⟩) (by assumption) ?_
                  rotate_left
                  · intro w hSw; (try dsimp only at hSw); go_simp; all_goals (try with_reducible rfl)
                  try simp only [Act.put, List.setIfInBounds_toArray, List.set_cons_zero, List.set_cons_succ]
                  refine wpAnyH_ready (rs := [7]) (by kernel_rfl) (by simp) ?_
                  refine AllReadyH.cons (o := { dst := none, op := Op.store 23 (Operand.tmp 42) (Operand.tmp 41), type := 0, pos := "game.go:107", after := #[{ on := 6, ground := Ground.data }, { on := 5, ground := Ground.data }, { on := 5, ground := Ground.chain }, { on := 0, ground := Ground.phase }, { on := 1, ground := Ground.phase }, { on := 2, ground := Ground.phase }, { on := 3, ground := Ground.phase }, { on := 4, ground := Ground.phase }, { on := 5, ground := Ground.phase }], guard := none }) rfl (fun K hK => ?_) ?_
                  ·
                    have hG3 := HG3.out
                    have k2 : w3.cell? ⟨b + 2, 2, none⟩ = some (.slice a3 i c3) := by simp only [World.cell?, hG3]; rfl
                    have k3 : w3.frozen? ⟨b + 2, 2, none⟩ = false := by simp only [World.frozen?, hG3]; rfl
                    clear hG3
                    go_simp
                    refine hK.out _ _ ?_ (fun hHeld => ?_)
                    · (try dsimp only); all_goals trivial
                    clear hK K
                    try simp only [Act.put, List.setIfInBounds_toArray, List.set_cons_zero, List.set_cons_succ]
                    refine wpAnyH_done (by kernel_rfl) ?_ _
                    have h9 := HGS.out.pushC HW3.out.2.2.2 (v' := .slice (some ⟨gg, 0, none⟩) (i + 1) cap) (HC.out.alloc _) (by rw [LC.out]; exact HW3.out.1) HW3.out.2.1
                    rw [HTK.out.2.2] at h9
                    have HN := Lib.hid h9
                    clear h9
                    go_wp2_with (fail)
                    go_roundw
                    case rel => exact ⟨i + 1, a1, a2, _, c1, c2, cap, _, by go_num, by omega, by first | rfl | trivial, HN⟩
                    case measure => simp [intOf]; omega
                  exact AllReadyH.nil
                exact AllReadyH.nil
              exact AllReadyH.nil
            exact AllReadyH.nil
          refine AllReadyH.cons (o := { dst := some 39, op := Op.call { callee := Callee.value (Operand.func 80), args := #[Operand.tmp 38], argTypes := #[22] }, type := 22, pos := "game.go:107", after := #[{ on := 2, ground := Ground.data }], guard := none }) rfl (fun K hK => ?_) ?_
          ·
            go_simp
            go_at_call 80
            refine (HCL.out _ (by first | exact Below.refl _ _ | exact (Below.refl _ _).drew)).mono ?_
            rintro e wC ⟨⟨aC, cC, rfl, hC⟩, hB⟩
            have HBC : Hid (Below W6.heap.size W6 wC) := hB
            have HC := Lib.hid hC
            clear hB hC
            try go_wp2_with (fail)
            refine hK.out _ _ ?_ (fun hHeld => ?_)
            · (try dsimp only); all_goals trivial
            clear hK K
            try simp only [Act.put, List.setIfInBounds_toArray, List.set_cons_zero, List.set_cons_succ]
            refine wpAnyH_ready (rs := [1, 4]) (by kernel_rfl) (by simp) ?_
            refine AllReadyH.cons (o := { dst := some 37, op := Op.load 23 (Operand.tmp 36), type := 23, pos := "game.go:107", after := #[{ on := 0, ground := Ground.data }], guard := none }) rfl (fun K hK => ?_) ?_
            ·
              have q0 := q2
              have q1 := (HBC.out.cell (p := ⟨b + 2, 2, none⟩) HSZ.out).trans q2
              go_simp
              refine hK.out _ _ ?_ (fun hHeld => ?_)
              · (try dsimp only); all_goals trivial
              clear hK K
              try simp only [Act.put, List.setIfInBounds_toArray, List.set_cons_zero, List.set_cons_succ]
              refine wpAnyH_ready (rs := [4]) (by kernel_rfl) (by simp) ?_
              refine AllReadyH.cons (o := { dst := some 40, op := Op.buildSlice 23 1 #[(0, Operand.tmp 39)], type := 23, pos := "game.go:107", after := #[{ on := 3, ground := Ground.data }], guard := none }) rfl (fun K hK => ?_) ?_
              ·
                go_simp
                refine hK.out _ _ ?_ (fun hHeld => ?_)
                · (try dsimp only); all_goals trivial
                clear hK K
                try simp only [Act.put, List.setIfInBounds_toArray, List.set_cons_zero, List.set_cons_succ]
                refine wpAnyH_ready (rs := [5]) (by kernel_rfl) (by simp) ?_
                refine AllReadyH.cons (o := { dst := some 41, op := Op.call { callee := Callee.builtin Builtin.append, args := #[Operand.tmp 37, Operand.tmp 40], argTypes := #[23, 23] }, type := 23, pos := "game.go:107", after := #[{ on := 1, ground := Ground.data }, { on := 4, ground := Ground.data }, { on := 3, ground := Ground.chain }], guard := none }) rfl (fun K hK => ?_) ?_
                ·
                  have hBX : Below W6.heap.size W6 (wC.alloc (.cells #[.slice aC L.length cC] 22)) := HBC.out.alloc HBC.out.size _
                  refine step_append_lies _ (by rfl) _ _ _ (by rfl) X.heap.size 22 i1 (.slice none 0 0) 1 24 Try.underlying23 hi1 hy0 hy1 hy2 rfl (by omega) (.slice a3 i c3) i vs (by rfl) (HOW.out _ hBX) ⟨wC.heap.size, 0, none⟩ 1 1 [.slice aC L.length cC] (by rfl) (by rfl) (World.news_of_block (cs := #[.slice aC L.length cC]) (t := 22) (fr := (0, 0)) (heap_alloc_new wC _)) (by simp [Value.oneCell']) (by omega) (by unfold maxLen; omega) (by omega) (by have := HGS.out.le; have := HBC.out.size; simp; omega) (wC.heap.size + 1) (by simp) ?_
                  intro gg cap w3 hown3 hgrow hat hlt3
                  have HG3 : Hid (w3.heap[b + 2]? = some (.cells #[.slice a1 (i + 1) c1, .slice a2 (i + 1) c2, .slice a3 i c3] 56 (0, 0))) := by
                    show _ = _
                    rw [hgrow.block (b + 2) (by have := HSZ.out; have := HBC.out.size; simp; omega) (fun e => own_ne_num HGS.out.c HGS.out.hi e.symm), hBX.block (b + 2) HSZ.out]; exact HGS.out.cell
                  have HW3 := Lib.hid (And.intro hown3 (And.intro hgrow (And.intro hat hBX)))
                  clear hown3 hgrow hat hlt3 hBX
                  refine hK.out _ _ ?_ (fun hHeld => ?_)
                  · (try dsimp only); all_goals trivial
                  clear hK K
                  try simp only [Act.put, List.setIfInBounds_toArray, List.set_cons_zero, List.set_cons_succ]
                  refine wpAnyH_take (i := 6) (oi := { dst := some 42, op := Op.fieldAddr 56 (Operand.tmp 3) 2, type := 0, pos := "game.go:107", after := #[{ on := 0, ground := Ground.phase }, { on := 1, ground := Ground.phase }, { on := 2, ground := Ground.phase }, { on := 3, ground := Ground.phase }, { on := 4, ground := Ground.phase }, { on := 5, ground := Ground.phase }], guard := none }) (v := ?_) rfl (by kernel_rfl) (by kernel_rfl) (by kernel_rfl) (fun _ _ _ h => h) (Or.inl ⟨by rfl, ?_⟩) (by assumption) ?_
                  rotate_left
                  · intro w hSw; (try dsimp only at hSw); go_simp; all_goals (try with_reducible rfl)
                  try simp only [Act.put, List.setIfInBounds_toArray, List.set_cons_zero, List.set_cons_succ]
                  refine wpAnyH_ready (rs := [7]) (by kernel_rfl) (by simp) ?_
                  refine AllReadyH.cons (o := { dst := none, op := Op.store 23 (Operand.tmp 42) (Operand.tmp 41), type := 0, pos := "game.go:107", after := #[{ on := 6, ground := Ground.data }, { on := 5, ground := Ground.data }, { on := 5, ground := Ground.chain }, { on := 0, ground := Ground.phase }, { on := 1, ground := Ground.phase }, { on := 2, ground := Ground.phase }, { on := 3, ground := Ground.phase }, { on := 4, ground := Ground.phase }, { on := 5, ground := Ground.phase }], guard := none }) rfl (fun K hK => ?_) ?_
                  ·
                    have hG3 := HG3.out
                    have k2 : w3.cell? ⟨b + 2, 2, none⟩ = some (.slice a3 i c3) := by simp only [World.cell?, hG3]; rfl
                    have k3 : w3.frozen? ⟨b + 2, 2, none⟩ = false := by simp only [World.frozen?, hG3]; rfl
                    clear hG3
                    go_simp
                    refine hK.out _ _ ?_ (fun hHeld => ?_)
                    · (try dsimp only); all_goals trivial
                    clear hK K
                    try simp only [Act.put, List.setIfInBounds_toArray, List.set_cons_zero, List.set_cons_succ]
                    refine wpAnyH_done (by kernel_rfl) ?_ _
                    have h9 := HGS.out.pushC HW3.out.2.2.2 (v' := .slice (some ⟨gg, 0, none⟩) (i + 1) cap) (HC.out.alloc _) (by rw [LC.out]; exact HW3.out.1) HW3.out.2.1
                    rw [HTK.out.2.2] at h9
                    have HN := Lib.hid h9
                    clear h9
                    go_wp2_with (fail)
                    go_roundw
                    case rel => exact ⟨i + 1, a1, a2, _, c1, c2, cap, _, by go_num, by omega, by first | rfl | trivial, HN⟩
                    case measure => simp [intOf]; omega
                  exact AllReadyH.nil
                exact AllReadyH.nil
              exact AllReadyH.nil
            refine AllReadyH.cons (o := { dst := some 40, op := Op.buildSlice 23 1 #[(0, Operand.tmp 39)], type := 23, pos := "game.go:107", after := #[{ on := 3, ground := Ground.data }], guard := none }) rfl (fun K hK => ?_) ?_
            ·
              go_simp
              refine hK.out _ _ ?_ (fun hHeld => ?_)
              · (try dsimp only); all_goals trivial
              clear hK K
              try simp only [Act.put, List.setIfInBounds_toArray, List.set_cons_zero, List.set_cons_succ]
              refine wpAnyH_ready (rs := [1]) (by kernel_rfl) (by simp) ?_
              refine AllReadyH.cons (o := { dst := some 37, op := Op.load 23 (Operand.tmp 36), type := 23, pos := "game.go:107", after := #[{ on := 0, ground := Ground.data }], guard := none }) rfl (fun K hK => ?_) ?_
              ·
                have q0 := q2
                have q1 := (HBC.out.cell (p := ⟨b + 2, 2, none⟩) HSZ.out).trans q2
                have q3 := (((HBC.out.alloc HBC.out.size (.cells #[.slice aC L.length cC] 22))).cell (p := ⟨b + 2, 2, none⟩) HSZ.out).trans q2
                go_simp
                refine hK.out _ _ ?_ (fun hHeld => ?_)
                · (try dsimp only); all_goals trivial
                clear hK K
                try simp only [Act.put, List.setIfInBounds_toArray, List.set_cons_zero, List.set_cons_succ]
                refine wpAnyH_ready (rs := [5]) (by kernel_rfl) (by simp) ?_
                refine AllReadyH.cons (o := { dst := some 41, op := Op.call { callee := Callee.builtin Builtin.append, args := #[Operand.tmp 37, Operand.tmp 40], argTypes := #[23, 23] }, type := 23, pos := "game.go:107", after := #[{ on := 1, ground := Ground.data }, { on := 4, ground := Ground.data }, { on := 3, ground := Ground.chain }], guard := none }) rfl (fun K hK => ?_) ?_
                ·
                  have hBX : Below W6.heap.size W6 (wC.alloc (.cells #[.slice aC L.length cC] 22)) := HBC.out.alloc HBC.out.size _
                  refine step_append_lies _ (by rfl) _ _ _ (by rfl) X.heap.size 22 i1 (.slice none 0 0) 1 24 Try.underlying23 hi1 hy0 hy1 hy2 rfl (by omega) (.slice a3 i c3) i vs (by rfl) (HOW.out _ hBX) ⟨wC.heap.size, 0, none⟩ 1 1 [.slice aC L.length cC] (by rfl) (by rfl) (World.news_of_block (cs := #[.slice aC L.length cC]) (t := 22) (fr := (0, 0)) (heap_alloc_new wC _)) (by simp [Value.oneCell']) (by omega) (by unfold maxLen; omega) (by omega) (by have := HGS.out.le; have := HBC.out.size; simp; omega) (wC.heap.size + 1) (by simp) ?_
                  intro gg cap w3 hown3 hgrow hat hlt3
                  have HG3 : Hid (w3.heap[b + 2]? = some (.cells #[.slice a1 (i + 1) c1, .slice a2 (i + 1) c2, .slice a3 i c3] 56 (0, 0))) := by
                    show _ = _
                    rw [hgrow.block (b + 2) (by have := HSZ.out; have := HBC.out.size; simp; omega) (fun e => own_ne_num HGS.out.c HGS.out.hi e.symm), hBX.block (b + 2) HSZ.out]; exact HGS.out.cell
                  have HW3 := Lib.hid (And.intro hown3 (And.intro hgrow (And.intro hat hBX)))
                  clear hown3 hgrow hat hlt3 hBX
                  refine hK.out _ _ ?_ (fun hHeld => ?_)
                  · (try dsimp only); all_goals trivial
                  clear hK K
                  try simp only [Act.put, List.setIfInBounds_toArray, List.set_cons_zero, List.set_cons_succ]
                  refine wpAnyH_take (i := 6) (oi := { dst := some 42, op := Op.fieldAddr 56 (Operand.tmp 3) 2, type := 0, pos := "game.go:107", after := #[{ on := 0, ground := Ground.phase }, { on := 1, ground := Ground.phase }, { on := 2, ground := Ground.phase }, { on := 3, ground := Ground.phase }, { on := 4, ground := Ground.phase }, { on := 5, ground := Ground.phase }], guard := none }) (v := ?_) rfl (by kernel_rfl) (by kernel_rfl) (by kernel_rfl) (fun _ _ _ h => h) (Or.inl ⟨by rfl, ?_⟩) (by assumption) ?_
                  rotate_left
                  · intro w hSw; (try dsimp only at hSw); go_simp; all_goals (try with_reducible rfl)
                  try simp only [Act.put, List.setIfInBounds_toArray, List.set_cons_zero, List.set_cons_succ]
                  refine wpAnyH_ready (rs := [7]) (by kernel_rfl) (by simp) ?_
                  refine AllReadyH.cons (o := { dst := none, op := Op.store 23 (Operand.tmp 42) (Operand.tmp 41), type := 0, pos := "game.go:107", after := #[{ on := 6, ground := Ground.data }, { on := 5, ground := Ground.data }, { on := 5, ground := Ground.chain }, { on := 0, ground := Ground.phase }, { on := 1, ground := Ground.phase }, { on := 2, ground := Ground.phase }, { on := 3, ground := Ground.phase }, { on := 4, ground := Ground.phase }, { on := 5, ground := Ground.phase }], guard := none }) rfl (fun K hK => ?_) ?_
                  ·
                    have hG3 := HG3.out
                    have k2 : w3.cell? ⟨b + 2, 2, none⟩ = some (.slice a3 i c3) := by simp only [World.cell?, hG3]; rfl
                    have k3 : w3.frozen? ⟨b + 2, 2, none⟩ = false := by simp only [World.frozen?, hG3]; rfl
                    clear hG3
                    go_simp
                    refine hK.out _ _ ?_ (fun hHeld => ?_)
                    · (try dsimp only); all_goals trivial
                    clear hK K
                    try simp only [Act.put, List.setIfInBounds_toArray, List.set_cons_zero, List.set_cons_succ]
                    refine wpAnyH_done (by kernel_rfl) ?_ _
                    have h9 := HGS.out.pushC HW3.out.2.2.2 (v' := .slice (some ⟨gg, 0, none⟩) (i + 1) cap) (HC.out.alloc _) (by rw [LC.out]; exact HW3.out.1) HW3.out.2.1
                    rw [HTK.out.2.2] at h9
                    have HN := Lib.hid h9
                    clear h9
                    go_wp2_with (fail)
                    go_roundw
                    case rel => exact ⟨i + 1, a1, a2, _, c1, c2, cap, _, by go_num, by omega, by first | rfl | trivial, HN⟩
                    case measure => simp [intOf]; omega
                  exact AllReadyH.nil
                exact AllReadyH.nil
              exact AllReadyH.nil
            exact AllReadyH.nil
          exact AllReadyH.nil
    · obtain rfl : m = i := by omega
      have HE : Hid (OwnG X wr (.slice a1 m c1) (.slice a2 m c2) (.slice a3 m c3) vs (O.map (1 - ·)) (R.map (· + 1)) N ∧ wr.heap[b + 2]? = some (.cells #[.slice a1 m c1, .slice a2 m c2, .slice a3 m c3] 56 (0, 0)) ∧ wr.heap[b + 1]? = some (.cells #[.slice none 0 0, .slice none 0 0, .slice none 0 0] 56 (0, 0))) := by
        have h9 := HGS.out
        rw [List.take_of_length_le (by rw [List.length_map]; have := HM.out; omega), List.take_of_length_le (by rw [List.length_map, HRL.out]; exact Nat.le_refl _), List.take_of_length_le (by rw [HNL.out]; exact Nat.le_refl _)] at h9
        exact ⟨h9.own, h9.cell, by rw [h9.below.block (b + 1) (by have := HS0.out; omega)]; exact HRB.out⟩
      have HBL := Lib.hid HGS.out.below
      obtain ⟨s0, s1, s2⟩ := cell3 HE.out.2.1
      obtain ⟨e0, e1, e2⟩ := cell3 HE.out.2.2
      have f0 := froz3 HE.out.2.2 0
      have f1 := froz3 HE.out.2.2 1
      have f2 := froz3 HE.out.2.2 2
      clear HGS hin
      go_wp2_with (fail)
      have hE := heap_set3 HE.out.2.2 (.slice a1 m c1) (.slice a2 m c2) (.slice a3 m c3)
      refine bodyPost_ret (results_cell_row Try.results61 _ _ (b + 1) _ _ _ _ rfl hE Try.underlying56 rfl Try.infoH) rfl ?_
      have hbw : w.heap.size ≤ b + 1 := by have := HBE.out; omega
      have hbX : b + 1 < X.heap.size := by rw [HX.out]; simp; have := HS0.out; omega
      have hXw : w.heap.size ≤ X.heap.size := by have := HBE.out; omega
      have hBB := HA0.out.trans (HBL.out.mono HA0.out.size)
      exact ⟨⟨_, _, _, _, rfl, (((HE.out.1.set hbX _).set hbX _).set hbX _).from hXw⟩, ((hBB.setCell (p := ⟨b + 1, 0, none⟩) hbw _).setCell (p := ⟨b + 1, 1, none⟩) hbw _).setCell (p := ⟨b + 1, 2, none⟩) hbw _⟩

end Go.Proofs.Ytahhkbdodgjaeaa
