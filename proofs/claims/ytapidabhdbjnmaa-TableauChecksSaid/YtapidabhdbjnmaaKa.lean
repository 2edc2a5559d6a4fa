/- Rows of ints that came in, and their copies. -/
import Derived.Test.YtapidabhdbjnmaaTi
import Derived.Deep.Slices
import Derived.Deep.Strs
namespace Go.Proofs.Ytapidabhdbjnmaa
open Go.RowKit

/-- A slice of slices that reads as lists of ints. -/
def RdZ (w : World) (v : Value) (Ms : List (List Int)) : Prop :=
  ∃ vs : List Value, Rd w v 1 Ms.length vs ∧ ∀ i (h : i < Ms.length) (h' : i < vs.length), Rd w vs[i] 1 Ms[i].length (zs Ms[i])
theorem RdZ.below {w w' : World} {v : Value} {Ls : List (List Int)} (h : RdZ w v Ls) (hB : Below w.heap.size w w') : RdZ w' v Ls := by
  obtain ⟨vs, h1, h2⟩ := h
  exact ⟨vs, h1.below hB (Nat.le_refl _), fun i h h' => (h2 i h h').below hB (Nat.le_refl _)⟩
theorem RdZ.shape {w : World} {v : Value} {Ms : List (List Int)} (h : RdZ w v Ms) : ∃ a c, v = .slice a Ms.length c ∧ Ms.length ≤ c := by
  obtain ⟨vs, ⟨_, a, cap, e, hc, _⟩, _⟩ := h
  exact ⟨a, cap, e, hc⟩
theorem RdZ.rowAt {w : World} {a : Option Addr} {n cap : Nat} {Ms : List (List Int)} (h : RdZ w (.slice a n cap) Ms) (i : Nat) (hi : i < Ms.length) : ∃ b x c, a = some ⟨b, 0, none⟩ ∧ b < w.heap.size ∧ w.cell? ⟨b, i, none⟩ = some (.slice x (Ms.getD i []).length c) ∧ (Ms.getD i []).length ≤ c ∧ Rd w (.slice x (Ms.getD i []).length c) 1 (Ms.getD i []).length (zs (Ms.getD i [])) := by
  obtain ⟨vs, ⟨hl, ad, cap, hv, _, hc⟩, h2⟩ := h
  injection hv with hv _ _
  subst hv
  rcases hc with h0 | ⟨b, rfl, hlt, hcell⟩
  · omega
  · have hiv : i < vs.length := by omega
    have e : Ms.getD i [] = Ms[i] := by simp [List.getD, hi]
    have hr := h2 i hi hiv
    rw [← e] at hr
    obtain ⟨_, x, c, hs, hcc, _⟩ := id hr
    refine ⟨b, x, c, rfl, hlt, ?_, hcc, by rw [← hs]; exact hr⟩
    rw [hcell i _ (List.getElem?_eq_getElem hiv), hs]

/-- New rows of ints. -/
structure MxZ (w wr : World) (v : Value) (vs : List Value) (Ms : List (List Int)) : Prop where
  own : wr.ownsRow w.heap.size 22 1 v Ms.length vs
  rows : ∀ (i : Nat) (u : Value) (M : List Int), vs[i]? = some u → Ms[i]? = some M → wr.ownsRow w.heap.size 3 1 u M.length (zs M)
  below : Below w.heap.size w wr
theorem MxZ.nil {w wr : World} (hB : Below w.heap.size w wr) : MxZ w wr (.slice none 0 0) [] [] := ⟨World.ownsRow_nil _ _ _ _, fun i u M h => by simp at h, hB⟩
theorem MxZ.low {w wr wx : World} {v : Value} {vs : List Value} {Ms : List (List Int)} (h : MxZ w wr v vs Ms) (hB : Below wr.heap.size wr wx) : MxZ w wx v vs Ms :=
  ⟨own_kept h.own hB, fun i u M hv hM => own_kept (h.rows i u M hv hM) hB, h.below.trans (hB.mono h.below.size)⟩
theorem MxZ.rd {w wr : World} {v : Value} {vs : List Value} {Ms : List (List Int)} (h : MxZ w wr v vs Ms) : RdZ wr v Ms :=
  ⟨vs, Rd.of_own h.own, fun i hi hi' => Rd.of_own (h.rows i _ _ (List.getElem?_eq_getElem hi') (List.getElem?_eq_getElem hi))⟩
theorem MxZ.vlen {w wr : World} {v : Value} {vs : List Value} {Ms : List (List Int)} (h : MxZ w wr v vs Ms) : vs.length = Ms.length := by have := h.own.1; omega
theorem MxZ.from {w0 w wr : World} {v : Value} {vs : List Value} {Ms : List (List Int)} (h : MxZ w wr v vs Ms) (hB : Below w0.heap.size w0 w) : MxZ w0 wr v vs Ms :=
  ⟨own_base h.own hB.size, fun i u M hv hM => own_base (h.rows i u M hv hM) hB.size, hB.trans (h.below.mono hB.size)⟩
theorem MxZ.append {w wr wa wx : World} {v v' u : Value} {vs : List Value} {Ms : List (List Int)} {M : List Int} (h : MxZ w wr v vs Ms) (hu : wr.ownsRow w.heap.size 3 1 u M.length (zs M))
    (hown : wx.ownsRow w.heap.size 22 1 v' (Ms.length + 1) (vs ++ [u])) (hBa : Below wr.heap.size wr wa) (hg : wa.grownBy wx v.ownBlock) : MxZ w wx v' (vs ++ [u]) (Ms ++ [M]) := by
  have hvl := h.vlen
  refine ⟨by rw [List.length_append]; exact hown, fun i t N ht hN => ?_, (h.below.trans (hBa.mono h.below.size)).grown hg (Nat.le_trans h.below.size hBa.size) fun g hg' => (h.own.lt g hg').1⟩
  have hk : ∀ (t : Value) (N : List Int), wr.ownsRow w.heap.size 3 1 t N.length (zs N) → wx.ownsRow w.heap.size 3 1 t N.length (zs N) := fun t N h1 =>
    (own_kept h1 hBa).kept hg (own_ty_ne2 h1 h.own (by decide))
  rw [List.getElem?_append] at ht hN
  split at ht
  · rw [if_pos (by omega)] at hN
    exact hk t N (h.rows i t N ht hN)
  · rw [if_neg (by omega)] at hN
    rw [hvl] at ht
    have h0 : i - Ms.length = 0 := by
      by_cases h0 : i - Ms.length = 0
      · exact h0
      · rw [List.getElem?_eq_none (by simp; omega)] at ht; cases ht
    rw [h0] at ht hN
    simp at ht hN
    subst ht hN
    exact hk u M hu

/-! ### Arguments -/
theorem spot_of {w : World} {a : Addr} {v : Value} (h : w.cell? a = some v) : a = ⟨a.block, a.off, none⟩ ∧ a.block < w.heap.size := by
  refine ⟨?_, World.block_lt_of_cell? w a h⟩
  unfold World.cell? at h
  split at h
  · split at h
    · cases h
    · rename_i h2
      obtain ⟨b, o, s⟩ := a
      cases s with
      | none => rfl
      | some x => simp at h2
  · cases h

/-- v reads as lists of ints, at a plain address. -/
def ArgZ (w : World) (v : Value) (Zs : List (List Int)) : Prop :=
  ∃ (a : Option Addr) (cap : Nat), v = .slice a Zs.length cap ∧ Zs.length ≤ cap ∧ cap ≤ 9223372036854775807 ∧ (Zs.length = 0 ∨ ∃ b o, a = some ⟨b, o, none⟩ ∧ b < w.heap.size ∧ ∀ i, i < Zs.length → ∃ u, w.cell? ⟨b, o + i, none⟩ = some u ∧ ArgI w u (Zs.getD i []))
theorem ArgZ.below {w w' : World} {v : Value} {Zs : List (List Int)} (h : ArgZ w v Zs) (hB : Below w.heap.size w w') : ArgZ w' v Zs := by
  obtain ⟨a, cap, h1, h2, h3, h4⟩ := h
  refine ⟨a, cap, h1, h2, h3, ?_⟩
  rcases h4 with h4 | ⟨b, o, h5, h6, h7⟩
  · exact .inl h4
  · refine .inr ⟨b, o, h5, Nat.lt_of_lt_of_le h6 hB.size, fun i hi => ?_⟩
    obtain ⟨u, g1, g2⟩ := h7 i hi
    exact ⟨u, by rw [hB.cell (p := ⟨b, o + i, none⟩) h6]; exact g1, g2.below hB⟩

theorem Try.cellsI1 : Try.prog.cellsOf 3 = 1 := by kernel_rfl
theorem Try.cellsS1 : Try.prog.cellsOf 22 = 1 := by kernel_rfl
theorem Try.cellsM1 : Try.prog.cellsOf 24 = 1 := by kernel_rfl

section
open Go.ChangeShapes Go.WideShapes Go.Joins
set_option maxRecDepth 100000 in
theorem argZ_of_cell {H : Type} {enc : TypeId × Value → H} {W : World} {v : Value} {fuel : Nat} {x : DataW H × List MemPlace}
    (hf : DataW.trod enc Try.prog W 0 (fun _ => true) true fuel 24 [v] = some x) : ∃ Z, ArgZ W v Z := by
  rcases Go.Deep.open_slice Try.underlying24 hf with ⟨hcs, hx⟩ | ⟨a, len', cap', m, n, D, Pl, hcs, _, hl, hm, hmm, hx, hall⟩
  · simp only [List.cons.injEq, and_true] at hcs
    rw [hcs]
    exact ⟨[], none, 0, rfl, by simp, by omega, .inl rfl⟩
  · simp only [List.cons.injEq, and_true] at hcs
    rw [hcs]
    simp only [if_true] at hmm
    unfold maxLen at hm
    have each : ∀ i, i < len' → ∃ q : List Int, ∃ u, W.cell? (a.add i) = some u ∧ ArgI W u q := by
      intro i hi
      obtain ⟨cs', h1, h2⟩ := hall i (by omega)
      rw [Try.cellsS1] at h1
      obtain ⟨_, hlen, hcell⟩ := World.cells?_some h1
      match cs', hlen with
      | [v0], _ =>
        obtain ⟨q, hq⟩ := argI_of_cell h2
        have c0 := hcell 0 (by omega)
        rw [Go.Deep.add_add] at c0
        exact ⟨q, v0, by simpa using c0, hq⟩
    obtain ⟨q, hq⟩ := Go.Deep.choose_lt each
    refine ⟨(List.range len').map q, some a, cap', by simp, by simp; omega, by omega, ?_⟩
    by_cases h0 : len' = 0
    · left; simpa using h0
    · right
      obtain ⟨u, h3, _⟩ := hq 0 (by omega)
      obtain ⟨h1, h2⟩ := spot_of h3
      have ha : a.add 0 = a := rfl
      rw [ha] at h1 h2
      refine ⟨a.block, a.off, by rw [← h1], h2, fun k hk => ?_⟩
      have hk' : k < len' := by simpa using hk
      obtain ⟨u, r0, r1⟩ := hq k hk'
      rw [h1, add_plain] at r0
      refine ⟨u, by simpa using r0, ?_⟩
      have : ((List.range len').map q).getD k [] = q k := by simp [List.getD, hk']
      rw [this]; exact r1
set_option maxRecDepth 100000 in
theorem argF_of {H : Type} {enc : TypeId × Value → H} {W : World} {base : Nat} {v : Value} {d : DataW H} {p : List MemPlace} (hv : Value.okWide Try.prog W .any base 41 v)
    (h : DataW.Trod enc Try.prog W 0 (fun _ => true) true 41 v d p) : ∃ (v0 v1 : Value) (A B : List (List Int)), v = .agg #[v0, v1] ∧ ArgZ W v0 A ∧ ArgZ W v1 B := by
  obtain ⟨cs, rfl, hcs⟩ := okWide_struct Try.underlying41 hv
  obtain ⟨fuel, hf⟩ := h
  obtain ⟨y0, y1, n, _, hlen, g0, g1⟩ := trod_struct2 Try.underlying41 hf
  have h2 : cs.size = 2 := by rw [hcs]; kernel_rfl
  obtain ⟨v0, v1, rfl⟩ : ∃ v0 v1, cs = #[v0, v1] := by
    obtain ⟨l⟩ := cs
    match l, h2 with
    | [v0, v1], _ => exact ⟨v0, v1, rfl⟩
  simp [Try.cellsM1, Value.cells] at g0 g1
  obtain ⟨O, hO⟩ := argZ_of_cell g0
  obtain ⟨R, hR⟩ := argZ_of_cell g1
  exact ⟨v0, v1, O, R, rfl, hO, hR⟩
end

def cut61 (N : List (List Int)) : List (List Int) := (N.take 61).map fun l => l.take 61

set_option maxRecDepth 100000 in
set_option maxHeartbeats 2000000 in
theorem rows_is (N : List (List Int)) (v : Value) (w : World) (hv : Hid (ArgZ w v N)) :
    Calls Try.prog 12 #[v] w fun e w' => ∃ v' vs, e = .returned v' ∧ MxZ w w' v' vs (cut61 N) := by
  obtain ⟨a0, cap0, hv0, hc1, hc2, hcell⟩ := hv.out
  subst hv0
  obtain ⟨n, hn⟩ : ∃ n, n = N.length := ⟨_, rfl⟩
  rw [← hn] at hc1 hcell ⊢
  have HN := Lib.hid hn
  have HC := Lib.hid hcell
  obtain ⟨M, hM⟩ : ∃ M, M = cut61 N := ⟨_, rfl⟩
  have hMl : M.length = min n 61 := by rw [hM, cut61, List.length_map, List.length_take, hn]; omega
  have HML := Lib.hid hMl
  have HME := Lib.hid hM
  rw [← hM]
  obtain ⟨i1, hi1, hy0, hy1, hy2⟩ := info_parts Try.infoS
  have HT0 : Hid (MxZ w w (.slice none 0 0) [] (M.take 0)) := MxZ.nil (Below.refl _ _)
  clear hn hcell hM hMl hv
  go_enter Try.func12, Try.ntmps12
  go_wp2_with (fail)
  go_loopw [3, 4] (fun ov iv wx => ∃ (i cp : Nat) (a : Option Addr) (vs : List Value), ov = .slice a i cp ∧ iv = .int .i64 i ∧ i ≤ n ∧ i ≤ 61 ∧ Hid (MxZ w wx (.slice a i cp) vs (M.take i))) (fun _ iv _ => n - (intOf iv).toNat)
  case atStart => exact ⟨0, 0, none, [], rfl, rfl, by omega, by omega, HT0⟩
  case round =>
    obtain ⟨i, cp, a, vs, rfl, rfl, hin0, hi61, HT⟩ := hrel
    by_cases hin : i < n
    · have hin1 : (i : Int) < (n : Int) := by omega
      have hd1 : decide (i < n) = true := by simpa using hin
      by_cases hi3 : i < 61
      · have hd2 : decide ((i : Int) < 61) = true := by rw [decide_eq_true_iff]; omega
        have hi31 : (i : Int) < 61 := by omega
        rcases HC.out with h4 | ⟨bn, on, rfl, hbn, h7⟩
        · omega
        obtain ⟨u, h8, h9⟩ := h7 i hin
        obtain ⟨L, hL⟩ : ∃ L, L = N.getD i [] := ⟨_, rfl⟩
        rw [← hL] at h9
        have cu : wr.cell? ⟨bn, on + i, none⟩ = some u := by rw [HT.out.below.cell (p := ⟨bn, on + i, none⟩) hbn]; exact h8
        have HOW := Lib.hid (own_is L u wr (h9.below HT.out.below))
        have hiN : i < N.length := by rw [← HN.out]; exact hin
        have HTK : Hid (M.take (i + 1) = M.take i ++ [L.take 61]) := by
          show _ = _
          rw [List.take_succ_eq_append_getElem (by rw [HML.out]; omega)]
          congr 2
          simp [HME.out, cut61, hL, List.getD, hiN]
        have HTL : Hid ((M.take i).length = i) := by show _ = _; rw [List.length_take, HML.out]; omega
        obtain ⟨au, nu, cu', hu⟩ := h9.form
        subst hu
        clear h7 h8 h9 hL hbn hiN
        go_wp2_with (fail)
        refine HOW.out.mono ?_
        rintro e w2 ⟨⟨v2, rfl, hN2⟩, hB⟩
        have HB2 : Hid (Below wr.heap.size wr w2) := hB
        have HN2 : Hid (w2.ownsRow w.heap.size 3 1 v2 (L.take 61).length (zs (L.take 61))) := own_base hN2 HT.out.below.size
        have HT2 : Hid (MxZ w w2 (.slice a i cp) vs (M.take i)) := HT.out.low hB
        have HO2 : Hid (w2.ownsRow w.heap.size 22 1 (.slice a i cp) i vs) := by have h9 := HT2.out.own; rw [HTL.out] at h9; exact h9
        obtain ⟨a2, c2, hv2, _⟩ := own_form HN2.out
        subst hv2
        obtain ⟨l2, hl2⟩ : ∃ l, l = (L.take 61).length := ⟨_, rfl⟩
        have HL2 := Lib.hid hl2
        rw [← hl2]
        clear hN2 hB hl2
        go_wp2_with (at_builtin; refine wpList_append_own _ rfl _ _ 24 rfl w.heap.size 22 i1 (.slice none 0 0) 1 24 Try.underlying24 hi1 hy0 hy1 hy2 rfl (by decide) _ _ _ rfl (HO2.out.alloc _) ⟨w2.heap.size, 0, none⟩ 1 1 [.slice a2 l2 c2] rfl rfl ?c1 ?c2 ?c3 ?c4 ?c5 ?_)
        case c1 => exact cell_one_new _ _ _
        case c2 => intro u hu; simp at hu; rw [hu]; rfl
        case c3 => unfold maxLen; omega
        case c4 => omega
        case c5 => have := HT2.out.below.size; simp; omega
        intro v' w3 hown3 hgrow3 _
        have HT3 : Hid (MxZ w w3 v' (vs ++ [.slice a2 l2 c2]) (M.take (i + 1))) := by
          show MxZ _ _ _ _ _
          rw [HTK.out]
          exact HT2.out.append (by rw [HL2.out]; exact HN2.out) (by rw [HTL.out]; exact hown3) ((Below.refl _ _).alloc (Nat.le_refl _) _) hgrow3
        obtain ⟨a3, c3, hv3, _⟩ := own_form hown3
        subst hv3
        clear hown3 hgrow3
        go_wp2_with (fail)
        go_roundw
        case rel => exact ⟨i + 1, c3, a3, _, rfl, by go_num, by omega, by omega, HT3⟩
        case measure => simp [intOf]; omega
      · have hd2 : decide ((i : Int) < 61) = false := by rw [decide_eq_false_iff_not]; omega
        obtain rfl : i = 61 := by omega
        have HE : Hid (MxZ w wr (.slice a 61 cp) vs M) := by
          have h9 := HT.out
          rw [List.take_of_length_le (by rw [HML.out]; omega)] at h9
          exact h9
        clear hi3 hin HT
        go_wp2_with (fail)
        go_ret
        exact ⟨_, _, rfl, HE.out⟩
    · have hd1 : decide (i < n) = false := by simpa using hin
      obtain rfl : n = i := by omega
      have HE : Hid (MxZ w wr (.slice a n cp) vs M) := by
        have h9 := HT.out
        rw [List.take_of_length_le (by rw [HML.out]; omega)] at h9
        exact h9
      clear hin HT
      go_wp2_with (fail)
      go_ret
      exact ⟨_, _, rfl, HE.out⟩

end Go.Proofs.Ytapidabhdbjnmaa
