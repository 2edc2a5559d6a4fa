/- Lists and games that came in, and their copies. -/
import Derived.Test.YtahhkbdodgjaeaaTb
import Derived.Deep.DeepCutAuto
import Derived.ProofKit
import Derived.OpenShut
import Derived.Lib.SmallJoins
import Derived.Deep.Slices
import Derived.Deep.Strs
namespace Go.Proofs.Ytahhkbdodgjaeaa
open Go.RowKit

/-- v reads as the ints Z. -/
def ArgI (w : World) (v : Value) (Z : List Int) : Prop :=
  Z.length ≤ 9223372036854775807 ∧ ((v = .slice none 0 0 ∧ Z = []) ∨
    ∃ (a : Addr) (cap : Nat), v = .slice (some a) Z.length cap ∧ Z.length ≤ cap ∧ cap ≤ 9223372036854775807 ∧ ∀ i (h : i < Z.length), w.cell? (a.add i) = some (.int .i64 Z[i]))

theorem ArgI.form {w : World} {v : Value} {Z : List Int} (h : ArgI w v Z) : ∃ a n cap, v = .slice a n cap := by
  rcases h.2 with ⟨h, _⟩ | ⟨a, cap, h, _⟩
  · exact ⟨_, _, _, h⟩
  · exact ⟨_, _, _, h⟩

theorem ArgI.below {w w' : World} {v : Value} {Z : List Int} (h : ArgI w v Z) (hB : Below w.heap.size w w') : ArgI w' v Z := by
  refine ⟨h.1, ?_⟩
  rcases h.2 with h1 | ⟨a, cap, h1, h2, h3, h4⟩
  · exact .inl h1
  · refine .inr ⟨a, cap, h1, h2, h3, fun i hi => ?_⟩
    have hc := h4 i hi
    have hlt := World.block_lt_of_cell? w _ hc
    rw [hB.cell hlt]
    exact hc


section
open Go.ChangeShapes Go.WideShapes
set_option maxRecDepth 100000 in
theorem argI_of {H : Type} {enc : TypeId × Value → H} {W : World} {base : Nat} {v : Value} {d : DataW H} {p : List MemPlace} (hv : Value.okWide Try.prog W .any base 22 v)
    (h : DataW.Trod enc Try.prog W 0 (fun _ => true) true 22 v d p) : ∃ Z, ArgI W v Z := by
  obtain ⟨a0, len, cap, rfl⟩ := okWide_slice Try.underlying22 hv
  obtain ⟨fuel, hf⟩ := h
  rcases open_ints Try.underlying22 Try.underlying3 (by kernel_rfl) hf with ⟨hcs, hx⟩ | ⟨a, len', cap', zs, hcs, _, hl, hm, hz, hx, hcell, hwz⟩
  · simp only [Value.cells, List.cons.injEq, and_true] at hcs
    rw [hcs]
    exact ⟨[], by simp, .inl ⟨rfl, rfl⟩⟩
  · simp only [Value.cells, List.cons.injEq, and_true] at hcs
    rw [hcs]
    simp only [if_true] at hz
    unfold maxLen at hm
    have hlen : (zs.take len').length = len' := by rw [List.length_take]; omega
    refine ⟨zs.take len', by omega, .inr ⟨a, cap', by rw [hlen], by omega, by omega, fun i hi => ?_⟩⟩
    have := hcell i (by omega)
    rw [this, List.getElem_take]
    simp [List.getD, show i < zs.length by omega]
end


section
open Go.ChangeShapes Go.WideShapes Go.Joins
set_option maxRecDepth 100000 in
theorem argI_of_cell {H : Type} {enc : TypeId × Value → H} {W : World} {v : Value} {n : Nat} {y : DataW H × List MemPlace}
    (h : DataW.trod enc Try.prog W 0 (fun _ => true) true n 22 [v] = some y) : ∃ Z, ArgI W v Z := by
  rcases open_ints Try.underlying22 Try.underlying3 (by kernel_rfl) h with ⟨hcs, hx⟩ | ⟨a, len', cap', zs, hcs, _, hl, hm, hz, hx, hcell, hwz⟩
  · simp only [List.cons.injEq, and_true] at hcs
    rw [hcs]
    exact ⟨[], by simp, .inl ⟨rfl, rfl⟩⟩
  · simp only [List.cons.injEq, and_true] at hcs
    rw [hcs]
    simp only [if_true] at hz
    unfold maxLen at hm
    have hlen : (zs.take len').length = len' := by rw [List.length_take]; omega
    refine ⟨zs.take len', by omega, .inr ⟨a, cap', by rw [hlen], by omega, by omega, fun i hi => ?_⟩⟩
    have := hcell i (by omega)
    rw [this, List.getElem_take]
    simp [List.getD, show i < zs.length by omega]
end

theorem zs_one (Z : List Int) : ∀ u ∈ zs Z, u.oneCell' = true := fun u hu => by unfold zs at hu; obtain ⟨z, _, rfl⟩ := List.mem_map.1 hu; rfl

/-- A new list of ints. -/
def NewZ (w w' : World) (v : Value) (Z : List Int) : Prop := w'.ownsRow w.heap.size 3 1 v Z.length (zs Z)
theorem NewZ.rd {w w' : World} {v : Value} {Z : List Int} (h : NewZ w w' v Z) : Rd w' v 1 Z.length (zs Z) := Rd.of_own h


set_option maxRecDepth 100000 in
set_option maxHeartbeats 1000000 in
theorem list_is (Z : List Int) (v : Value) (w : World) (hv : Hid (ArgI w v Z)) :
    Calls Try.prog 24 #[v] w fun x w' => (∃ v', x = .returned v' ∧ NewZ w w' v' (Z.take 30)) ∧ Below w.heap.size w w' := by
  obtain ⟨i0, hi, hz0, hz1, hz2⟩ := info_parts Try.infoZ
  obtain ⟨hmax, hc⟩ := hv.out
  rcases hc with ⟨rfl, rfl⟩ | ⟨ad, cap, rfl, hcap, hcap2, hcell⟩
  · clear hv
    go_enter Try.func24, Try.ntmps24
    go_wp2_with (fail)
    go_ret
    exact ⟨⟨_, rfl, World.ownsRow_nil _ _ _ _⟩, Below.refl _ _⟩
  · obtain ⟨n, hn⟩ : ∃ n, n = Z.length := ⟨_, rfl⟩
    obtain ⟨m, hm⟩ : ∃ m, m = min n 30 := ⟨_, rfl⟩
    have hml : (Z.take 30).length = m := by rw [List.length_take, hm, hn]; omega
    have hm1 : min (n : Int) 30 = (m : Int) := by omega
    have hm3 : min n 30 = m := by omega
    have hm2 : (if (30 : Int) < (n : Int) then (30 : Int) else (n : Int)) = (m : Int) := by split <;> omega
    have HC : Hid (∀ j u, (zs (Z.take 30))[j]? = some u → w.cell? (ad.add j) = some u) := fun j u hu => by
      have hj : j < (Z.take 30).length := by
        rcases Nat.lt_or_ge j (Z.take 30).length with h1 | h1
        · exact h1
        · rw [List.getElem?_eq_none (by rw [zs_length]; exact h1)] at hu; cases hu
      have hjZ : j < Z.length := by rw [List.length_take] at hj; omega
      rw [hcell j hjZ, ← hu, zs_get _ _ hj, List.getElem_take]
    have H1 := Lib.hid (zs_one (Z.take 30))
    have HL : Hid ((zs (Z.take 30)).length = m * 1) := by show _ = _; rw [zs_length, hml]; omega
    have HML := Lib.hid hml
    have hmn : m ≤ 30 := by omega
    have hmc : m ≤ cap := by omega
    have hmn2 : m ≤ n := by omega
    rw [← hn] at hcap ⊢
    rw [← hn] at hmax
    by_cases h30 : n ≤ 30
    · have hd : ((30 : Int) < (n : Int)) = False := by simp; omega
      have hmm : m = n := by omega
      clear hcell hv hn hm hml hm1 hm2 hm3
      subst hmm
      have hq1 : min (m : Int) 30 = (m : Int) := by omega
      go_enter Try.func24, Try.ntmps24
      go_wp2_with (at_builtin; refine wpList_append_own _ rfl _ _ 22 rfl w.heap.size 3 i0 (.int .i64 0) 1 8 Try.underlying22 hi hz0 hz1 hz2 rfl (by decide) _ 0 [] rfl (World.ownsRow_nil _ _ _ _) ad m cap (zs (Z.take 30)) rfl HL.out HC.out H1.out (by unfold maxLen; omega) (by omega) (by simp) ?_)
      intro v' w1 hown hgrow _
      have hB1 : Below w.heap.size w w1 := (Below.refl _ _).grown hgrow (Nat.le_refl _) (by intro g hg; simp [Value.ownBlock] at hg)
      have HR : Hid (NewZ w w1 v' (Z.take 30) ∧ Below w.heap.size w w1) := ⟨by unfold NewZ; rw [HML.out]; simpa using hown, hB1⟩
      clear hown hgrow hB1
      go_wp2_with (fail)
      go_ret
      exact ⟨⟨_, rfl, HR.out.1⟩, HR.out.2⟩
    · have hd : ((30 : Int) < (n : Int)) = True := by simp; omega
      have hmm : m = 30 := by omega
      have hn30 : (30 : Int) ≤ (n : Int) := by omega
      have hc30 : 30 ≤ cap := by omega
      clear hcell hv hn hm hml hm1 hm2 hm3
      subst hmm
      have hq1 : min (n : Int) 30 = 30 := by omega
      go_enter Try.func24, Try.ntmps24
      go_wp2_with (at_builtin; refine wpList_append_own _ rfl _ _ 22 rfl w.heap.size 3 i0 (.int .i64 0) 1 8 Try.underlying22 hi hz0 hz1 hz2 rfl (by decide) _ 0 [] rfl (World.ownsRow_nil _ _ _ _) ad 30 cap (zs (Z.take 30)) rfl HL.out HC.out H1.out (by unfold maxLen; omega) (by omega) (by simp) ?_)
      intro v' w1 hown hgrow _
      have hB1 : Below w.heap.size w w1 := (Below.refl _ _).grown hgrow (Nat.le_refl _) (by intro g hg; simp [Value.ownBlock] at hg)
      have HR : Hid (NewZ w w1 v' (Z.take 30) ∧ Below w.heap.size w w1) := ⟨by unfold NewZ; rw [HML.out]; simpa using hown, hB1⟩
      clear hown hgrow hB1
      go_wp2_with (fail)
      go_ret
      exact ⟨⟨_, rfl, HR.out.1⟩, HR.out.2⟩

set_option maxRecDepth 100000 in
set_option maxHeartbeats 1000000 in
theorem ints_is (F G : List Nat) (v u : Value) (t : Bool) (w : World) (hv : Hid (Rd w v 1 F.length (nats F))) (hu : Hid (Rd w u 1 G.length (nats G))) (hl : F.length ≤ 1000000) (hl2 : G.length ≤ 1000000) (ht : Hid (F = G ↔ t = true)) :
    Calls Try.prog 22 #[v, u] w fun x w' => x = .returned (.bool t) ∧ ∃ n, w' = w.drewN n := by
  obtain ⟨_, a1, cap1, rfl, hcap1, _⟩ := hv.out
  obtain ⟨_, a2, cap2, rfl, hcap2, _⟩ := hu.out
  have H1 : Hid (∀ i, i < F.length → ∃ b, a1 = some ⟨b, 0, none⟩ ∧ b < w.heap.size ∧ w.cell? ⟨b, i, none⟩ = some (.int .i64 (F.getD i 0 : Nat))) := fun i hi => hv.out.at i hi
  have H2 : Hid (∀ i, i < G.length → ∃ b, a2 = some ⟨b, 0, none⟩ ∧ b < w.heap.size ∧ w.cell? ⟨b, i, none⟩ = some (.int .i64 (G.getD i 0 : Nat))) := fun i hi => hu.out.at i hi
  clear hv hu
  obtain ⟨m1, hm1⟩ : ∃ m1, m1 = F.length := ⟨_, rfl⟩
  obtain ⟨m2, hm2⟩ : ∃ m2, m2 = G.length := ⟨_, rfl⟩
  rw [← hm1] at hl hcap1 H1 ⊢
  rw [← hm2] at hl2 hcap2 H2 ⊢
  have HM := Lib.hid (And.intro hm1 hm2)
  clear hm1 hm2
  by_cases he : m1 = m2
  · subst he
    have hd : ((m1 : Int) != (m1 : Int)) = false := by simp
    go_enter Try.func22, Try.ntmps22
    go_wp2_with (fail)
    go_loopw [5] (fun iv wx => ∃ (k m : Nat), iv = .int .i64 k ∧ k ≤ m1 ∧ Hid (∀ i, i < k → F.getD i 0 = G.getD i 0) ∧ wx = w.drewN m) (fun iv _ => m1 - (intOf iv).toNat)
    case atStart => exact ⟨0, 0, rfl, by omega, fun i hi => absurd hi (by omega), by first | rfl | trivial | simp⟩
    case round =>
      obtain ⟨k, m, rfl, hk, HK, rfl⟩ := hrel
      by_cases hlt : k < m1
      · obtain ⟨b1, rfl, hb1, c1⟩ := H1.out k hlt
        obtain ⟨b2, rfl, hb2, c2⟩ := H2.out k hlt
        obtain ⟨x, hx⟩ : ∃ x, x = F.getD k 0 := ⟨_, rfl⟩
        obtain ⟨y, hy⟩ : ∃ y, y = G.getD k 0 := ⟨_, rfl⟩
        rw [← hx] at c1
        rw [← hy] at c2
        have HXY := Lib.hid (And.intro hx hy)
        clear hx hy
        have hkl : (k : Int) < (m1 : Int) := by omega
        by_cases hxy : x = y
        · have hd2 : ((x : Int) != (y : Int)) = false := by rw [hxy]; simp
          have HK2 : Hid (∀ i, i < k + 1 → F.getD i 0 = G.getD i 0) := fun i hi => by
            rcases Nat.lt_or_ge i k with h | h
            · exact HK.out i h
            · obtain rfl : i = k := by omega
              rw [← HXY.out.1, ← HXY.out.2, hxy]
          have HE := Lib.hid hxy
          clear hxy
          go_wp2_with (fail)
          go_quiet (fail)
          go_wp2_with (fail)
          go_roundw
          case rel => exact ⟨k + 1, _, by go_num, by omega, HK2, rfl⟩
          case measure => simp [intOf]; omega
        · have hd2 : ((x : Int) != (y : Int)) = true := by rw [bne_iff_ne]; omega
          have htf : Hid (t = false) := by
            cases t with
            | false => rfl
            | true => exact absurd (ht.out.2 rfl) fun e => hxy (by rw [HXY.out.1, HXY.out.2, e])
          clear hxy
          go_wp2_with (fail)
          go_quiet (fail)
          go_wp2_with (fail)
          go_ret
          exact ⟨by rw [htf.out]; rfl, _, by first | rfl | exact World.drewN_drewN _ _ _⟩
      · obtain rfl : k = m1 := by omega
        have htt : Hid (t = true) := ht.out.1 (Q.ext_getD (by rw [← HM.out.1, ← HM.out.2]) fun i hi => HK.out i (by rw [HM.out.1]; exact hi))
        go_wp2_with (fail)
        go_ret
        exact ⟨by rw [htt.out]; rfl, _, rfl⟩
  · have hd : ((m1 : Int) != (m2 : Int)) = true := by rw [bne_iff_ne]; omega
    have htf : Hid (t = false) := by
      cases t with
      | false => rfl
      | true => exact absurd (ht.out.2 rfl) fun e => he (by rw [HM.out.1, HM.out.2, e])
    clear he
    go_enter Try.func22, Try.ntmps22
    go_wp2_with (fail)
    go_ret
    exact ⟨by rw [htf.out]; rfl, 0, rfl⟩


/-- A list of lists is read row by row. -/
theorem RdN.rowAt {w : World} {a : Option Addr} {n cap : Nat} {Ms : List (List Nat)} (h : RdN w (.slice a n cap) Ms) (i : Nat) (hi : i < Ms.length) : ∃ b x c, a = some ⟨b, 0, none⟩ ∧ b < w.heap.size ∧ w.cell? ⟨b, i, none⟩ = some (.slice x (Ms.getD i []).length c) ∧ Rd w (.slice x (Ms.getD i []).length c) 1 (Ms.getD i []).length (nats (Ms.getD i [])) := by
  obtain ⟨b, cap', x, c, hf⟩ := h.at i hi
  have e := hf.eq
  injection e with e _ _
  exact ⟨b, x, c, e, hf.lt, hf.cell, hf.rd⟩
theorem RdN.len {w : World} {a : Option Addr} {n cap : Nat} {Ms : List (List Nat)} (h : RdN w (.slice a n cap) Ms) : n = Ms.length ∧ n ≤ cap := by
  obtain ⟨vs, ⟨_, a', cap', e, hc, _⟩, _⟩ := h
  injection e with _ e1 e2
  subst e1 e2
  exact ⟨rfl, hc⟩


/-! ### Rows of ints -/
theorem up_length' (F : List Nat) : (F.map fun (n : Nat) => (n : Int)).length = F.length := by simp
def up (F : List Nat) : List Int := F.map fun (n : Nat) => (n : Int)
theorem up_length (F : List Nat) : (up F).length = F.length := by simp [up]
theorem zs_up (F : List Nat) : zs (up F) = nats F := by simp [zs, up, nats]
theorem zat {w : World} {a : Option Addr} {n cap : Nat} {Z : List Int} (h : Rd w (.slice a n cap) 1 Z.length (zs Z)) (i : Nat) (hi : i < Z.length) : ∃ b, a = some ⟨b, 0, none⟩ ∧ b < w.heap.size ∧ w.cell? ⟨b, i, none⟩ = some (.int .i64 (Z.getD i 0)) := by
  obtain ⟨_, a', cap', e, _, h4⟩ := h
  injection e with e _ _
  subst e
  rcases h4 with h4 | ⟨b, rfl, hb, hc⟩
  · omega
  · refine ⟨b, rfl, hb, ?_⟩
    rw [hc i _ (by rw [zs_get Z i hi])]
    simp [List.getD, hi]

/-- A slice of slices that reads as lists of ints. -/
def RdZ (w : World) (v : Value) (Ms : List (List Int)) : Prop :=
  ∃ vs : List Value, Rd w v 1 Ms.length vs ∧ ∀ i (h : i < Ms.length) (h' : i < vs.length), Rd w vs[i] 1 Ms[i].length (zs Ms[i])
theorem RdZ.below {w w' : World} {v : Value} {Ls : List (List Int)} (h : RdZ w v Ls) (hB : Below w.heap.size w w') : RdZ w' v Ls := by
  obtain ⟨vs, h1, h2⟩ := h
  exact ⟨vs, h1.below hB (Nat.le_refl _), fun i h h' => (h2 i h h').below hB (Nat.le_refl _)⟩
theorem RdZ.shape {w : World} {v : Value} {Ms : List (List Int)} (h : RdZ w v Ms) : ∃ a c, v = .slice a Ms.length c ∧ Ms.length ≤ c := by
  obtain ⟨vs, ⟨_, a, cap, e, hc, _⟩, _⟩ := h
  exact ⟨a, cap, e, hc⟩
theorem RdZ.rowAt {w : World} {a : Option Addr} {n cap : Nat} {Ms : List (List Int)} (h : RdZ w (.slice a n cap) Ms) (i : Nat) (hi : i < Ms.length) : ∃ b x c, a = some ⟨b, 0, none⟩ ∧ b < w.heap.size ∧ w.cell? ⟨b, i, none⟩ = some (.slice x (Ms.getD i []).length c) ∧ (Ms.getD i []).length ≤ c ∧ Rd w (.slice x (Ms.getD i []).length c) 1 (Ms.getD i []).length (zs (Ms.getD i [])) := by
  obtain ⟨vs, ⟨hl, ad, cap, hv, _, hc⟩, h2⟩ := h
  injection hv with hv _ _
  subst hv
  rcases hc with h0 | ⟨b, rfl, hlt, hcell⟩
  · omega
  · have hiv : i < vs.length := by omega
    have e : Ms.getD i [] = Ms[i] := by simp [List.getD, hi]
    have hr := h2 i hi hiv
    rw [← e] at hr
    obtain ⟨_, x, c, hs, hcc, _⟩ := id hr
    refine ⟨b, x, c, rfl, hlt, ?_, hcc, by rw [← hs]; exact hr⟩
    rw [hcell i _ (List.getElem?_eq_getElem hiv), hs]

/-- New rows of ints. -/
structure MxZ (w wr : World) (v : Value) (vs : List Value) (Ms : List (List Int)) : Prop where
  own : wr.ownsRow w.heap.size 22 1 v Ms.length vs
  rows : ∀ (i : Nat) (u : Value) (M : List Int), vs[i]? = some u → Ms[i]? = some M → wr.ownsRow w.heap.size 3 1 u M.length (zs M)
  below : Below w.heap.size w wr
theorem MxZ.nil {w wr : World} (hB : Below w.heap.size w wr) : MxZ w wr (.slice none 0 0) [] [] := ⟨World.ownsRow_nil _ _ _ _, fun i u M h => by simp at h, hB⟩
theorem MxZ.low {w wr wx : World} {v : Value} {vs : List Value} {Ms : List (List Int)} (h : MxZ w wr v vs Ms) (hB : Below wr.heap.size wr wx) : MxZ w wx v vs Ms :=
  ⟨own_kept h.own hB, fun i u M hv hM => own_kept (h.rows i u M hv hM) hB, h.below.trans (hB.mono h.below.size)⟩
theorem MxZ.rd {w wr : World} {v : Value} {vs : List Value} {Ms : List (List Int)} (h : MxZ w wr v vs Ms) : RdZ wr v Ms :=
  ⟨vs, Rd.of_own h.own, fun i hi hi' => Rd.of_own (h.rows i _ _ (List.getElem?_eq_getElem hi') (List.getElem?_eq_getElem hi))⟩
theorem MxZ.vlen {w wr : World} {v : Value} {vs : List Value} {Ms : List (List Int)} (h : MxZ w wr v vs Ms) : vs.length = Ms.length := by have := h.own.1; omega
theorem MxZ.from {w0 w wr : World} {v : Value} {vs : List Value} {Ms : List (List Int)} (h : MxZ w wr v vs Ms) (hB : Below w0.heap.size w0 w) : MxZ w0 wr v vs Ms :=
  ⟨own_base h.own hB.size, fun i u M hv hM => own_base (h.rows i u M hv hM) hB.size, hB.trans (h.below.mono hB.size)⟩
theorem MxZ.append {w wr wa wx : World} {v v' u : Value} {vs : List Value} {Ms : List (List Int)} {M : List Int} (h : MxZ w wr v vs Ms) (hu : wr.ownsRow w.heap.size 3 1 u M.length (zs M))
    (hown : wx.ownsRow w.heap.size 22 1 v' (Ms.length + 1) (vs ++ [u])) (hBa : Below wr.heap.size wr wa) (hg : wa.grownBy wx v.ownBlock) : MxZ w wx v' (vs ++ [u]) (Ms ++ [M]) := by
  have hvl := h.vlen
  refine ⟨by rw [List.length_append]; exact hown, fun i t N ht hN => ?_, (h.below.trans (hBa.mono h.below.size)).grown hg (Nat.le_trans h.below.size hBa.size) fun g hg' => (h.own.lt g hg').1⟩
  have hk : ∀ (t : Value) (N : List Int), wr.ownsRow w.heap.size 3 1 t N.length (zs N) → wx.ownsRow w.heap.size 3 1 t N.length (zs N) := fun t N h1 =>
    (own_kept h1 hBa).kept hg (own_ty_ne2 h1 h.own (by decide))
  rw [List.getElem?_append] at ht hN
  split at ht
  · rw [if_pos (by omega)] at hN
    exact hk t N (h.rows i t N ht hN)
  · rw [if_neg (by omega)] at hN
    rw [hvl] at ht
    have h0 : i - Ms.length = 0 := by
      by_cases h0 : i - Ms.length = 0
      · exact h0
      · rw [List.getElem?_eq_none (by simp; omega)] at ht; cases ht
    rw [h0] at ht hN
    simp at ht hN
    subst ht hN
    exact hk u M hu

/-! ### Arguments -/
theorem spot_of {w : World} {a : Addr} {v : Value} (h : w.cell? a = some v) : a = ⟨a.block, a.off, none⟩ ∧ a.block < w.heap.size := by
  refine ⟨?_, World.block_lt_of_cell? w a h⟩
  unfold World.cell? at h
  split at h
  · split at h
    · cases h
    · rename_i h2
      obtain ⟨b, o, s⟩ := a
      cases s with
      | none => rfl
      | some x => simp at h2
  · cases h

/-- v reads as lists of ints, at a plain address. -/
def ArgZ (w : World) (v : Value) (Zs : List (List Int)) : Prop :=
  ∃ (a : Option Addr) (cap : Nat), v = .slice a Zs.length cap ∧ Zs.length ≤ cap ∧ cap ≤ 9223372036854775807 ∧ (Zs.length = 0 ∨ ∃ b o, a = some ⟨b, o, none⟩ ∧ b < w.heap.size ∧ ∀ i, i < Zs.length → ∃ u, w.cell? ⟨b, o + i, none⟩ = some u ∧ ArgI w u (Zs.getD i []))
theorem ArgZ.below {w w' : World} {v : Value} {Zs : List (List Int)} (h : ArgZ w v Zs) (hB : Below w.heap.size w w') : ArgZ w' v Zs := by
  obtain ⟨a, cap, h1, h2, h3, h4⟩ := h
  refine ⟨a, cap, h1, h2, h3, ?_⟩
  rcases h4 with h4 | ⟨b, o, h5, h6, h7⟩
  · exact .inl h4
  · refine .inr ⟨b, o, h5, Nat.lt_of_lt_of_le h6 hB.size, fun i hi => ?_⟩
    obtain ⟨u, g1, g2⟩ := h7 i hi
    exact ⟨u, by rw [hB.cell (p := ⟨b, o + i, none⟩) h6]; exact g1, g2.below hB⟩

theorem Try.cellsI1 : Try.prog.cellsOf 3 = 1 := by kernel_rfl
theorem Try.cellsS1 : Try.prog.cellsOf 22 = 1 := by kernel_rfl
theorem Try.cellsM1 : Try.prog.cellsOf 23 = 1 := by kernel_rfl

section
open Go.ChangeShapes Go.WideShapes Go.Joins
set_option maxRecDepth 100000 in
theorem argZ_of_cell {H : Type} {enc : TypeId × Value → H} {W : World} {v : Value} {fuel : Nat} {x : DataW H × List MemPlace}
    (hf : DataW.trod enc Try.prog W 0 (fun _ => true) true fuel 23 [v] = some x) : ∃ Z, ArgZ W v Z := by
  rcases Go.Deep.open_slice Try.underlying23 hf with ⟨hcs, hx⟩ | ⟨a, len', cap', m, n, D, Pl, hcs, _, hl, hm, hmm, hx, hall⟩
  · simp only [List.cons.injEq, and_true] at hcs
    rw [hcs]
    exact ⟨[], none, 0, rfl, by simp, by omega, .inl rfl⟩
  · simp only [List.cons.injEq, and_true] at hcs
    rw [hcs]
    simp only [if_true] at hmm
    unfold maxLen at hm
    have each : ∀ i, i < len' → ∃ q : List Int, ∃ u, W.cell? (a.add i) = some u ∧ ArgI W u q := by
      intro i hi
      obtain ⟨cs', h1, h2⟩ := hall i (by omega)
      rw [Try.cellsS1] at h1
      obtain ⟨_, hlen, hcell⟩ := World.cells?_some h1
      match cs', hlen with
      | [v0], _ =>
        obtain ⟨q, hq⟩ := argI_of_cell h2
        have c0 := hcell 0 (by omega)
        rw [Go.Deep.add_add] at c0
        exact ⟨q, v0, by simpa using c0, hq⟩
    obtain ⟨q, hq⟩ := Go.Deep.choose_lt each
    refine ⟨(List.range len').map q, some a, cap', by simp, by simp; omega, by omega, ?_⟩
    by_cases h0 : len' = 0
    · left; simpa using h0
    · right
      obtain ⟨u, h3, _⟩ := hq 0 (by omega)
      obtain ⟨h1, h2⟩ := spot_of h3
      have ha : a.add 0 = a := rfl
      rw [ha] at h1 h2
      refine ⟨a.block, a.off, by rw [← h1], h2, fun k hk => ?_⟩
      have hk' : k < len' := by simpa using hk
      obtain ⟨u, r0, r1⟩ := hq k hk'
      rw [h1, add_plain] at r0
      refine ⟨u, by simpa using r0, ?_⟩
      have : ((List.range len').map q).getD k [] = q k := by simp [List.getD, hk']
      rw [this]; exact r1
set_option maxRecDepth 100000 in
theorem argG_of {H : Type} {enc : TypeId × Value → H} {W : World} {base : Nat} {v : Value} {d : DataW H} {p : List MemPlace} (hv : Value.okWide Try.prog W .any base 25 v)
    (h : DataW.Trod enc Try.prog W 0 (fun _ => true) true 25 v d p) : ∃ (vo vr vn : Value) (O R : List Int) (N : List (List Int)), v = .agg #[vo, vr, vn] ∧ ArgI W vo O ∧ ArgI W vr R ∧ ArgZ W vn N := by
  obtain ⟨cs, rfl, hcs⟩ := okWide_struct Try.underlying25 hv
  obtain ⟨fuel, hf⟩ := h
  obtain ⟨y0, y1, y2, k, _, _, g0, g1, g2⟩ := Go.Deep.trod_struct3 Try.underlying25 hf
  have h2 : cs.size = 3 := by rw [hcs]; kernel_rfl
  obtain ⟨v0, v1, v2, rfl⟩ : ∃ v0 v1 v2, cs = #[v0, v1, v2] := by
    obtain ⟨l⟩ := cs
    match l, h2 with
    | [v0, v1, v2], _ => exact ⟨v0, v1, v2, rfl⟩
  simp [Try.cellsI1, Try.cellsS1, Try.cellsM1, Value.cells] at g0 g1 g2
  obtain ⟨O, hO⟩ := argI_of_cell g0
  obtain ⟨R, hR⟩ := argI_of_cell g1
  obtain ⟨N, hN⟩ := argZ_of_cell g2
  exact ⟨v0, v1, v2, O, R, N, rfl, hO, hR, hN⟩
set_option maxRecDepth 100000 in
theorem argO_of {H : Type} {enc : TypeId × Value → H} {W : World} {base : Nat} {v : Value} {d : DataW H} {p : List MemPlace} (hv : Value.okWide Try.prog W .any base 28 v)
    (h : DataW.Trod enc Try.prog W 0 (fun _ => true) true 28 v d p) : ∃ (v0 v1 : Value) (A B : List Int), v = .agg #[v0, v1] ∧ ArgI W v0 A ∧ ArgI W v1 B := by
  obtain ⟨cs, rfl, hcs⟩ := okWide_struct Try.underlying28 hv
  obtain ⟨fuel, hf⟩ := h
  obtain ⟨y0, y1, n, _, hlen, g0, g1⟩ := trod_struct2 Try.underlying28 hf
  have h2 : cs.size = 2 := by rw [hcs]; kernel_rfl
  obtain ⟨v0, v1, rfl⟩ : ∃ v0 v1, cs = #[v0, v1] := by
    obtain ⟨l⟩ := cs
    match l, h2 with
    | [v0, v1], _ => exact ⟨v0, v1, rfl⟩
  simp [Try.cellsI1, Try.cellsS1, Value.cells] at g0 g1
  obtain ⟨O, hO⟩ := argI_of_cell g0
  obtain ⟨R, hR⟩ := argI_of_cell g1
  exact ⟨v0, v1, O, R, rfl, hO, hR⟩
end

end Go.Proofs.Ytahhkbdodgjaeaa
