/- The walks over arePoints and Through. -/
import Derived.Test.YtgnpohapmijfiaaG10
import Derived.Test.YtgnpohapmijfiaaG11
import Derived.Test.YtgnpohapmijfiaaG15
import Derived.Maps.OwnSet
namespace Go.Proofs.Ytgnpohapmijfiaa
open Go.RowKit Go.Maps

/-- A map of ints to bools that tells the ints of S. -/
structure PSet {H : Type} (D : DataW H) (S : List Int) : Prop where
  map : IsMap D
  val : ∀ x : Int, D.atKey (.int .i64 x) (.lit (.bool false)) = .lit (.bool (decide (x ∈ S)))
theorem PSet.empty {H : Type} : PSet (.map [] : DataW H) [] := ⟨isMap_empty, fun x => by simp [DataW.atKey]⟩
theorem PSet.put {H : Type} {D : DataW H} {S : List Int} (h : PSet D S) (x : Int) : PSet (D.put (.int .i64 x) (.lit (.bool true))) (x :: S) := by
  have hk : WideAt.IsKeyLit (.int .i64 x) := by simp [WideAt.IsKeyLit]
  refine ⟨h.map.put _ _, fun y => ?_⟩
  by_cases hy : y = x
  · subst hy
    rw [atKey_put_same h.map hk]
    simp
  · rw [atKey_put_other (by simpa using hy), h.val]
    simp [hy]
theorem pzero4 (w : World) : (zeroValue 4).run Try.prog w = .ok (.bool false) w := by kernel_rfl
set_option maxRecDepth 100000 in
theorem pplain_inv {H : Type} {v : Value} {z : DataW H × List MemPlace} (h : plainElem Try.prog 4 v = some z) : ∃ a, v = .bool a ∧ z = (.lit (.bool a), []) := by
  unfold plainElem at h
  rw [Try.underlying4] at h
  cases v <;> simp at h
  exact ⟨_, rfl, h.symm⟩
set_option maxRecDepth 100000 in
theorem plook {H : Type} {w : World} {b n : Nat} {D : DataW H} {S : List Int} (h : w.ownsMap Try.prog 3 (plainElem Try.prog 4) b n D) (hS : PSet D S) (q : Int) (hq : (Lit.int .i64 q).wf = true) :
    (Instr.lookup 94 (.map (some b)) (.int .i64 q) false).run Try.prog w = .ok (.bool (decide (q ∈ S))) w := by
  obtain ⟨v, ps, hrun, hv⟩ := h.lookup (int_keyed Try.underlying3) Try.underlying94 (pzero4 w) (plainElem_bool Try.underlying4 false) (keyOf_int_mk Try.underlying3 hq)
  obtain ⟨a, rfl, hz⟩ := pplain_inv hv
  rw [hrun]
  have h1 : D.atKey (.int .i64 q) (.lit (.bool false)) = .lit (.bool a) := congrArg Prod.fst hz
  rw [hS.val] at h1
  injection h1 with h1
  injection h1 with h1
  rw [h1]
theorem pwfb4 : plainElem (H := Unit) Try.prog 4 (.bool true) = some (.lit (.bool true), []) := plainElem_bool Try.underlying4 true
theorem plaw3 : Keyed Try.prog 3 := int_keyed Try.underlying3

theorem own_below {H : Type} {P : Program} {k : TypeId} {R : Value → Option (DataW H × List MemPlace)} {w w' : World} {b n B : Nat} {D : DataW H} (h : w.ownsMap P k R b n D) (hB : Below B w w') (hb : b < B) : w'.ownsMap P k R b n D := by
  obtain ⟨es, clock, h1, h2, h3, h4⟩ := h
  exact ⟨es, clock, (hB.block b hb).trans h1, h2, h3, h4⟩

/-- Points in memory. -/
def flatP (L : List (Int × Int)) : List Value := L.flatMap fun q => [.int .i64 q.1, .int .i64 q.2]
theorem flatP_length (L : List (Int × Int)) : (flatP L).length = L.length * 2 := by
  induction L with
  | nil => rfl
  | cons x L ih => rw [flatP, List.flatMap_cons, List.length_append, List.length_cons]; rw [flatP] at ih; rw [ih]; simp; omega
theorem flatP_get : ∀ (L : List (Int × Int)) (k : Nat) (h : k < L.length), (flatP L)[k * 2]? = some (.int .i64 L[k].1) ∧ (flatP L)[k * 2 + 1]? = some (.int .i64 L[k].2)
  | [], k, h => by simp at h
  | x :: L, 0, h => by simp [flatP]
  | x :: L, k + 1, h => by
    have ih := flatP_get L k (by simpa using h)
    have e : flatP (x :: L) = [.int .i64 x.1, .int .i64 x.2] ++ flatP L := by simp [flatP]
    rw [e]
    refine ⟨?_, ?_⟩
    · rw [List.getElem?_append_right (by simp; omega)]
      simpa [show (k + 1) * 2 - 2 = k * 2 by omega] using ih.1
    · rw [List.getElem?_append_right (by simp; omega)]
      simpa [show (k + 1) * 2 + 1 - 2 = k * 2 + 1 by omega] using ih.2

/-- What arePoints asks of the points from here on, those before having the first numbers S. -/
def ptsB (p : Int) : List Int → List (Int × Int) → Bool
  | _, [] => true
  | S, q :: L => decide (0 ≤ q.1 ∧ q.1 < p) && decide (0 ≤ q.2 ∧ q.2 < p) && !decide (q.1 ∈ S) && ptsB p (q.1 :: S) L

set_option maxRecDepth 100000 in
set_option maxHeartbeats 4000000 in
theorem arePoints_is (p : Int) (L : List (Int × Int)) (v : Value) (t : Bool) (w : World) (_hp : 2 ≤ p) (hp2 : p ≤ 1021) (hr : Hid (Rd w v 2 L.length (flatP L))) (hlen : L.length ≤ 1000000) (ht : Hid ((decide (L.length ≤ 33) && ptsB p [] L) = t)) :
    Calls Try.prog 64 #[.int .i64 p, v] w fun x w' => x = .returned (.bool t) ∧ Below w.heap.size w w' := by
  obtain ⟨_, a, cap, rfl, hcap, hcell⟩ := hr.out
  obtain ⟨n, hn⟩ : ∃ n, n = L.length := ⟨_, rfl⟩
  have HN := Lib.hid hn
  have HC : Hid (∀ k (h : k < L.length), ∃ b, a = some ⟨b, 0, none⟩ ∧ b < w.heap.size ∧ w.cell? ⟨b, k * 2, none⟩ = some (.int .i64 L[k].1) ∧ w.cell? ⟨b, k * 2 + 1, none⟩ = some (.int .i64 L[k].2)) := fun k h => by
    rcases hcell with h0 | ⟨b, h1, h2, h3⟩
    · omega
    · have hf := flatP_get L k h
      exact ⟨b, h1, h2, h3 _ _ hf.1, h3 _ _ hf.2⟩
  rw [← hn] at hcap hlen ht ⊢
  clear hn hcell hr
  by_cases h33 : n ≤ 33
  · have hd : decide ((33 : Int) < (n : Int)) = false := by rw [decide_eq_false_iff_not]; omega
    have hmm : ∀ w, (Instr.makeMap 94 none).run Try.prog w = .ok (.map (some w.heap.size)) (w.alloc (.map #[] 0)) := fun w => run_makeMap _ w
    have HT : Hid (ptsB p [] (L.drop 0) = t) := by have h := ht.out; rw [decide_eq_true (by omega), Bool.true_and] at h; exact h
    clear ht
    go_enter Try.func64, Try.ntmps64
    go_wp2_with (fail)
    go_loopw [14] (fun iv wr => ∃ (k : Nat) (S : List Int) (D : DataW Unit), iv = .int .i64 k ∧ k ≤ n ∧ Hid (ptsB p S (L.drop k) = t) ∧ wr.ownsMap Try.prog 3 (plainElem Try.prog 4) w.heap.size k D ∧ Hid (PSet D S) ∧ Below w.heap.size w wr ∧ w.heap.size < wr.heap.size) (fun iv _ => n - (intOf iv).toNat)
    case atStart => exact ⟨0, [], .map [], rfl, by omega, HT, World.ownsMap_made _ _ _ _, PSet.empty, (Below.refl _ _).alloc (Nat.le_refl _) _, by simp⟩
    case round =>
      obtain ⟨k, S, D, rfl, hk, HP, hown, hS, hB, hsz⟩ := hrel
      by_cases hlt : k < n
      · have hkL : k < L.length := by have := HN.out; omega
        obtain ⟨b, hb0, hb, c0, c1⟩ := HC.out k hkL
        subst hb0
        have hd : L.drop k = L[k] :: L.drop (k + 1) := List.drop_eq_getElem_cons hkL
        have hP := HP.out
        rw [hd] at hP
        obtain ⟨q, hq⟩ : ∃ q, q = L[k] := ⟨_, rfl⟩
        rw [← hq] at c0 c1 hP
        obtain ⟨x, y⟩ := q
        simp only at c0 c1
        rw [ptsB] at hP
        simp only at hP
        have e0 : wr.cell? ⟨b, k * 2, none⟩ = some (.int .i64 x) := by rw [hB.cell (p := ⟨b, k * 2, none⟩) hb]; exact c0
        have e1 : wr.cell? ⟨b, k * 2 + 1, none⟩ = some (.int .i64 y) := by rw [hB.cell (p := ⟨b, k * 2 + 1, none⟩) hb]; exact c1
        have HQ := Lib.hid hq
        clear c0 c1 hd hq
        have hwf : 0 ≤ x ∧ x < p → (Lit.int .i64 x).wf = true := fun h => by
          simp only [Lit.wf, Bool.and_eq_true, decide_eq_true_eq]
          exact ⟨by show (-9223372036854775808 : Int) ≤ x; omega, by show x ≤ (9223372036854775807 : Int); omega⟩
        have hBa : Below wr.heap.size wr (wr.alloc (.cells #[.int .i64 x, .int .i64 y] 48)) := (Below.refl _ _).alloc (Nat.le_refl _) _
        have hown2 := own_below hown hBa hsz
        have HBA := Lib.hid (hB.trans (hBa.mono hB.size))
        have f0 : (wr.alloc (.cells #[.int .i64 x, .int .i64 y] 48)).cell? ⟨wr.heap.size, 0, none⟩ = some (.int .i64 x) := by simp
        have f1 : (wr.alloc (.cells #[.int .i64 x, .int .i64 y] 48)).cell? ⟨wr.heap.size, 1, none⟩ = some (.int .i64 y) := by simp
        have HBw := Lib.hid hB
        by_cases hx : 0 ≤ x ∧ x < p
        · have HX := Lib.hid hx
          have hwx := hwf hx
          by_cases hy : 0 ≤ y ∧ y < p
          · have HY := Lib.hid hy
            have hlook := plook hown2 hS.out x hwx
            rw [decide_eq_true hx, decide_eq_true hy, Bool.true_and, Bool.true_and] at hP
            by_cases hxS : x ∈ S
            · have hd2 : decide (x ∈ S) = true := by simpa using hxS
              rw [hd2] at hlook
              rw [hd2, Bool.not_true, Bool.false_and] at hP
              have HT2 := Lib.hid hP
              clear hP hx hy hwf hd2 hxS hown hown2 hBa hB
              go_wp2_with (fail)
              refine (coeff_yes p x _ HX).mono ?_
              rintro z w1 ⟨rfl, hw1⟩
              subst hw1
              go_wp2_with (fail)
              refine (coeff_yes p y _ HY).mono ?_
              rintro z w1 ⟨rfl, hw1⟩
              subst hw1
              go_wp2_with (fail)
              go_ret
              exact ⟨by rw [← HT2.out]; rfl, HBA.out⟩
            · have hd2 : decide (x ∈ S) = false := by simpa using hxS
              rw [hd2] at hlook
              rw [hd2, Bool.not_false, Bool.true_and] at hP
              have HPN := Lib.hid hP
              clear hP hx hy hwf hd2 hxS hown hBa hB
              go_wp2_with (fail)
              refine (coeff_yes p x _ HX).mono ?_
              rintro z w1 ⟨rfl, hw1⟩
              subst hw1
              go_wp2_with (fail)
              refine (coeff_yes p y _ HY).mono ?_
              rintro z w1 ⟨rfl, hw1⟩
              subst hw1
              go_wp2_with (at_mapUpdate; refine wpList_mapUpdate_own _ rfl _ _ _ 94 rfl 3 4 plaw3 Try.underlying94 _ w.heap.size k _ rfl hown2 (by unfold maxLen; omega) _ _ _ rfl rfl (keyOf_int_mk Try.underlying3 hwx) _ [] pwfb4 ?_; intro w1 hown1 hgrow1)
              have HO2 := Lib.hid (And.intro hown1 hgrow1)
              have hsz1 : w.heap.size < w1.heap.size := by
                have h1 := hgrow1.size
                have h2 : wr.heap.size < (wr.alloc (.cells #[.int .i64 x, .int .i64 y] 48)).heap.size := by simp
                omega
              clear hown1 hgrow1 hown2
              go_roundw
              case rel => exact ⟨k + 1, x :: S, _, by go_num, by omega, HPN, HO2.out.1, hS.out.put x, HBA.out.grown HO2.out.2 HBA.out.size (fun b hb => by cases hb; exact Nat.le_refl _), hsz1⟩
              case measure => simp [intOf]; omega
          · have HY := Lib.hid hy
            rw [decide_eq_true hx, decide_eq_false hy, Bool.true_and, Bool.false_and, Bool.false_and] at hP
            have HT2 := Lib.hid hP
            clear hP hx hy hwf hown hown2 hBa hB
            go_wp2_with (fail)
            refine (coeff_yes p x _ HX).mono ?_
            rintro z w1 ⟨rfl, hw1⟩
            subst hw1
            go_wp2_with (fail)
            refine (coeff_no p y _ HY).mono ?_
            rintro z w1 ⟨rfl, hw1⟩
            subst hw1
            go_wp2_with (fail)
            go_ret
            exact ⟨by rw [← HT2.out]; rfl, HBA.out⟩
        · have HX := Lib.hid hx
          rw [decide_eq_false hx, Bool.false_and, Bool.false_and, Bool.false_and] at hP
          have HT2 := Lib.hid hP
          clear hP hx hwf hown hown2 hBa hB
          go_wp2_with (fail)
          refine (coeff_no p x _ HX).mono ?_
          rintro z w1 ⟨rfl, hw1⟩
          subst hw1
          go_wp2_with (fail)
          go_ret
          exact ⟨by rw [← HT2.out]; rfl, HBA.out⟩
      · obtain rfl : k = n := by omega
        have HT2 : Hid (true = t) := by
          have h := HP.out
          rw [List.drop_of_length_le (by have := HN.out; omega), ptsB] at h; exact h
        have HB := Lib.hid hB
        clear hown HP hB
        go_wp2_with (fail)
        go_ret
        exact ⟨by rw [← HT2.out]; rfl, HB.out⟩
  · have hd : decide ((33 : Int) < (n : Int)) = true := by rw [decide_eq_true_iff]; omega
    have HT : Hid (false = t) := by have h := ht.out; rw [decide_eq_false (by omega), Bool.false_and] at h; exact h
    clear ht
    go_enter Try.func64, Try.ntmps64
    go_wp2_with (fail)
    go_ret
    exact ⟨by rw [← HT.out]; rfl, Below.refl _ _⟩

/-- Points of numbers, as ints. -/
def upP (L : List (Nat × Nat)) : List (Int × Int) := L.map fun q => ((q.1 : Int), (q.2 : Int))
theorem upP_length (L : List (Nat × Nat)) : (upP L).length = L.length := by simp [upP]
theorem ptsB_of {p : Nat} : ∀ (L : List (Nat × Nat)) (S : List Int), (∀ q ∈ L, q.1 < p ∧ q.2 < p) → (∀ q ∈ L, (q.1 : Int) ∉ S) → (L.map fun q => q.1).Nodup → ptsB p S (upP L) = true
  | [], S, _, _, _ => rfl
  | q :: L, S, h1, h2, h3 => by
    have hq := h1 q (by simp)
    rw [List.map_cons] at h3
    have h4 := List.nodup_cons.1 h3
    show ptsB p S (((q.1 : Int), (q.2 : Int)) :: upP L) = true
    rw [ptsB]
    simp only
    rw [decide_eq_true (by omega), decide_eq_true (by omega), decide_eq_false (h2 q (by simp)), ptsB_of L _ (fun x hx => h1 x (by simp [hx])) (fun x hx hm => ?_) h4.2]
    · rfl
    · rcases List.mem_cons.1 hm with h5 | h5
      · exact h4.1 (List.mem_map.2 ⟨x, hx, by omega⟩)
      · exact h2 x (by simp [hx]) h5
theorem Q.Pts.b {p : Nat} {L : List (Nat × Nat)} (h : Q.Pts p L) (h33 : L.length ≤ 33) : (decide ((upP L).length ≤ 33) && ptsB p [] (upP L)) = true := by
  rw [upP_length, decide_eq_true h33, Bool.true_and]
  refine ptsB_of L [] (fun q hq => ?_) (fun q hq hm => by simp at hm) ?_
  · obtain ⟨i, hi, rfl⟩ := List.getElem_of_mem hq
    have h1 := h.xs i hi
    have h2 := h.ys i hi
    simp only [Q.xAt, Q.yAt, List.getD_eq_getElem?_getD, List.getElem?_eq_getElem hi, Option.getD_some] at h1 h2
    exact ⟨h1, h2⟩
  · refine List.pairwise_iff_getElem.2 fun i j hi hj hij => ?_
    have h1 := h.ne j i (by simpa using hj) hij
    simp only [List.length_map] at hi hj
    simp only [Q.xAt, List.getD_eq_getElem?_getD, List.getElem?_eq_getElem hi, List.getElem?_eq_getElem hj, Option.getD_some] at h1
    simpa using h1

theorem Rd.trimmed {w : World} {a : Option Addr} {cap : Nat} {F : List Nat} (h : Rd w (.slice a F.length cap) 1 F.length (nats F)) : Rd w (.slice a (Q.trimLen F) cap) 1 (Q.trim F).length (nats (Q.trim F)) := by
  obtain ⟨_, a', cap', hv, hc, hcell⟩ := h
  injection hv with e1 _ e3
  subst e1 e3
  have hle := Q.trimLen_le F
  refine ⟨by rw [nats_length]; omega, a, cap, by rw [Q.trim_length], by rw [Q.trim_length]; omega, ?_⟩
  rcases hcell with h0 | ⟨b, h1, h2, h3⟩
  · exact .inl (by rw [Q.trim_length]; omega)
  · refine .inr ⟨b, h1, h2, fun j u hu => h3 j u ?_⟩
    unfold nats Q.trim at hu
    unfold nats
    rw [List.getElem?_map] at hu ⊢
    by_cases hj : j < Q.trimLen F
    · rwa [List.getElem?_take_of_lt hj] at hu
    · rw [List.getElem?_take_eq_none (by omega)] at hu; cases hu

set_option maxRecDepth 100000 in
set_option maxHeartbeats 8000000 in
theorem Through_ok (p : Nat) (L : List (Nat × Nat)) (v : Value) (w : World) (hP : Hid (M.Pr p)) (hp2 : p ≤ 1021) (hr : Hid (Rd w v 2 L.length (flatP (upP L)))) (hlen : L.length ≤ 33) (hL : Hid (Q.Pts p L)) :
    Calls Try.prog 34 #[.int .i64 p, v] w (RetE w (Q.thrAt p L L.length).1) := by
  have hp : 2 ≤ p := hP.out.1
  have hfi : Hid (FieldI (p : Int)) := ⟨by omega, by omega, by rw [Int.toNat_natCast]; exact hP.out⟩
  have HPB : Hid ((decide ((upP L).length ≤ 33) && ptsB p [] (upP L)) = true) := hL.out.b hlen
  have HR0 : Hid (Rd w v 2 (upP L).length (flatP (upP L))) := by show Rd _ _ _ _ _; rw [upP_length]; exact hr.out
  obtain ⟨_, a, cap, rfl, hcap, hcell⟩ := hr.out
  obtain ⟨n, hn⟩ : ∃ n, n = L.length := ⟨_, rfl⟩
  have HN := Lib.hid hn
  have HC : Hid (∀ k (h : k < L.length), ∃ b, a = some ⟨b, 0, none⟩ ∧ b < w.heap.size ∧ w.cell? ⟨b, k * 2, none⟩ = some (.int .i64 (Q.xAt L k : Int)) ∧ w.cell? ⟨b, k * 2 + 1, none⟩ = some (.int .i64 (Q.yAt L k : Int))) := fun k h => by
    rcases hcell with h0 | ⟨b, h1, h2, h3⟩
    · omega
    · have hf := flatP_get (upP L) k (by rw [upP_length]; exact h)
      have e : (upP L)[k]'(by rw [upP_length]; exact h) = ((Q.xAt L k : Int), (Q.yAt L k : Int)) := by
        simp [upP, Q.xAt, Q.yAt, List.getD, h]
      rw [e] at hf
      exact ⟨b, h1, h2, h3 _ _ hf.1, h3 _ _ hf.2⟩
  rw [← hn] at hcap hlen HR0 ⊢
  have HUP : Hid ((upP L).length ≤ 1000000) := by show _ ≤ _; rw [upP_length]; omega
  rw [upP_length, ← hn] at HR0
  have HR1 : Hid (Rd w (.slice a n cap) 2 (upP L).length (flatP (upP L))) := by show Rd _ _ _ _ _; rw [upP_length, ← HN.out]; exact HR0.out
  clear hn hcell hr HR0
  go_enter Try.func34, Try.ntmps34
  go_wp2_with (fail)
  refine (isField_yes p w hfi).mono ?_
  rintro e w1 ⟨rfl, hB1⟩
  have HB1 := Lib.hid hB1
  have HR2 : Hid (Rd w1 (.slice a n cap) 2 (upP L).length (flatP (upP L))) := HR1.out.below hB1 (Nat.le_refl _)
  clear hB1
  go_wp2_with (fail)
  refine (arePoints_is p (upP L) _ true _ (by omega) (by omega) HR2 HUP.out HPB).mono ?_
  rintro e w2 ⟨rfl, hB2⟩
  have HB2 := Lib.hid (HB1.out.trans (hB2.mono HB1.out.size))
  have HN0 : Hid (NewL w (w2.alloc (.cells #[.int .i64 1] 3)) (.slice (some ⟨w2.heap.size, 0, none⟩) 1 1) [1]) := own_base (lit1_own w2 1) HB2.out.size
  have HBA : Hid (Below w.heap.size w (w2.alloc (.cells #[.int .i64 1] 3))) := HB2.out.alloc HB2.out.size _
  clear hB2
  have hzp : ((p : Int) == 0) = false := by simp; omega
  go_wp2_with (fail)
  go_loopw [6, 7, 26] (fun fv zv iv wx => ∃ (k m1 m2 cp1 cp2 : Nat) (a1 a2 : Option Addr), fv = .slice a1 m1 cp1 ∧ zv = .slice a2 m2 cp2 ∧ iv = .int .i64 k ∧ k ≤ n ∧ Hid (m1 = (Q.thrAt p L k).1.length ∧ m2 = (Q.thrAt p L k).2.length) ∧ Hid (NewL w wx (.slice a1 m1 cp1) (Q.thrAt p L k).1) ∧ Hid (NewL w wx (.slice a2 m2 cp2) (Q.thrAt p L k).2) ∧ Hid (Below w.heap.size w wx)) (fun _ _ iv _ => n - (intOf iv).toNat)
  case atStart => exact ⟨0, 0, 1, 0, 1, none, _, rfl, rfl, rfl, by omega, ⟨rfl, rfl⟩, NewL.nil _ _, HN0, HBA⟩
  case round =>
    obtain ⟨k, m1, m2, cp1, cp2, a1, a2, rfl, rfl, rfl, hk, HM, HNF, HNZ, HB⟩ := hrel
    by_cases hlt : k < n
    · have hkL : k < L.length := by have := HN.out; omega
      obtain ⟨b, hb0, hb, c0, c1⟩ := HC.out k hkL
      subst hb0
      have T := Q.thrAt_is hP.out hL.out k (by omega)
      obtain ⟨f, hf⟩ : ∃ f, f = (Q.thrAt p L k).1 := ⟨_, rfl⟩
      obtain ⟨z, hz⟩ : ∃ z, z = (Q.thrAt p L k).2 := ⟨_, rfl⟩
      rw [← hf, ← hz] at T
      rw [← hf] at HNF HM
      rw [← hz] at HNZ HM
      obtain ⟨x, hx⟩ : ∃ x, x = Q.xAt L k := ⟨_, rfl⟩
      obtain ⟨y, hy⟩ : ∃ y, y = Q.yAt L k := ⟨_, rfl⟩
      rw [← hx] at c0
      rw [← hy] at c1
      have hxp : x < p := by rw [hx]; exact hL.out.xs k hkL
      have hyp : y < p := by rw [hy]; exact hL.out.ys k hkL
      have hzv : Q.valP p z x ≠ 0 := T.zno x hxp fun q hq => by
        obtain ⟨i, h1, h2, h3, _⟩ := Q.mem_take_pt hq
        rw [h3, hx]; exact hL.out.ne k i hkL h1
      have hfl : f.length ≤ 33 := by have := T.flen; rw [List.length_take] at this; omega
      have hzl : z.length ≤ 34 := by have := T.zlen; rw [List.length_take] at this; omega
      have hz0 : z.length ≠ 0 := by have := T.zlen; omega
      have HPF : Hid (Q.Pol p f) := T.fpol
      have HPZ : Hid (Q.Pol p z) := T.zpol
      obtain ⟨vf, hvf⟩ : ∃ vf, vf = Q.valP p f x := ⟨_, rfl⟩
      obtain ⟨vz, hvz⟩ : ∃ vz, vz = Q.valP p z x := ⟨_, rfl⟩
      have hvfp : vf < p := by rw [hvf]; exact Q.val_lt (by omega) _ _
      have hvzp : vz < p := by rw [hvz]; exact Q.val_lt (by omega) _ _
      rw [← hvz] at hzv
      obtain ⟨inv, hinv⟩ : ∃ inv, inv = Q.invM p vz := ⟨_, rfl⟩
      have hinvp : inv < p := by rw [hinv]; exact (Q.inv_spec hP.out hvzp hzv).1
      obtain ⟨gp, hgp⟩ : ∃ gp, gp = y + p - vf := ⟨_, rfl⟩
      have hgap : (y : Int) - (vf : Int) + (p : Int) = (gp : Int) := by omega
      obtain ⟨t, ht⟩ : ∃ t, t = gp * inv % p := ⟨_, rfl⟩
      have hgi : gp * inv ≤ 2042 * 1021 := Nat.mul_le_mul (by omega) (by omega)
      have hgi2 : (0 : Int) ≤ (gp : Int) * (inv : Int) ∧ (gp : Int) * (inv : Int) ≤ 2084882 := by
        have h : (gp : Int) * (inv : Int) = ((gp * inv : Nat) : Int) := by simp
        omega
      have htI : ((gp : Int) * (inv : Int)) % (p : Int) = (t : Int) := by rw [ht]; rfl
      have htp : t < p := by rw [ht]; exact Nat.mod_lt _ (by omega)
      obtain ⟨s, hs⟩ : ∃ s, s = (p - x) % p := ⟨_, rfl⟩
      have hsI : ((p : Int) - (x : Int)) % (p : Int) = (s : Int) := by
        have h : (p : Int) - (x : Int) = ((p - x : Nat) : Int) := by omega
        rw [h, hs]; rfl
      have hsp : s < p := by rw [hs]; exact Nat.mod_lt _ (by omega)
      have HSTEP : Hid (Q.thrAt p L (k + 1) = (Q.sumP p f (Q.trim (Q.prodP' p z [t])), Q.prodP' p z [s, 1])) := by
        show Q.thrStep p (Q.thrAt p L k).1 (Q.thrAt p L k).2 (Q.xAt L k) (Q.yAt L k) = _
        unfold Q.thrStep
        simp only
        rw [← hf, ← hz, ← hx, ← hy, ← hvf, ← hvz, ← hinv, ← hgp, ← ht, Q.lin, ← hs]
      have HVF := Lib.hid hvf
      have HVZ := Lib.hid hvz
      have HINV := Lib.hid hinv
      have e0 : wr.cell? ⟨b, k * 2, none⟩ = some (.int .i64 (x : Int)) := by rw [HB.out.cell (p := ⟨b, k * 2, none⟩) hb]; exact c0
      have e1 : wr.cell? ⟨b, k * 2 + 1, none⟩ = some (.int .i64 (y : Int)) := by rw [HB.out.cell (p := ⟨b, k * 2 + 1, none⟩) hb]; exact c1
      have hBa : Below wr.heap.size wr (wr.alloc (.cells #[.int .i64 (x : Int), .int .i64 (y : Int)] 48)) := (Below.refl _ _).alloc (Nat.le_refl _) _
      have HBA2 := Lib.hid hBa
      have hwz : wr.heap.size < (wr.alloc (.cells #[.int .i64 (x : Int), .int .i64 (y : Int)] 48)).heap.size := by simp
      obtain ⟨wA, hwA⟩ : ∃ wA, wA = wr.alloc (.cells #[.int .i64 (x : Int), .int .i64 (y : Int)] 48) := ⟨_, rfl⟩
      have f0 : wA.cell? ⟨wr.heap.size, 0, none⟩ = some (.int .i64 (x : Int)) := by rw [hwA]; simp
      have f1 : wA.cell? ⟨wr.heap.size, 1, none⟩ = some (.int .i64 (y : Int)) := by rw [hwA]; simp
      rw [← hwA] at HBA2 hwz
      have HBB := Lib.hid (HB.out.trans (HBA2.out.mono HB.out.size))
      have HNF2 : Hid (NewL w wA (.slice a1 m1 cp1) f) := HNF.out.keep HBA2.out
      have HNZ2 : Hid (NewL w wA (.slice a2 m2 cp2) z) := HNZ.out.keep HBA2.out
      have HWA := Lib.hid hwA
      clear T hf hz hx hy hvf hvz hinv hgp ht hgi hs c0 c1 hBa hwA HNF HNZ
      have HRFj : Hid (∀ W, Below wA.heap.size wA W → Rd W (.slice a1 m1 cp1) 1 f.length (nats f)) := fun W h => HNF2.out.rd.below h (Nat.le_refl _)
      have HRZj : Hid (∀ W, Below wA.heap.size wA W → Rd W (.slice a2 m2 cp2) 1 z.length (nats z)) := fun W h => HNZ2.out.rd.below h (Nat.le_refl _)
      have HRDf : Hid (Q.Red p f) := HPF.out.red
      have HRDz : Hid (Q.Red p z) := HPZ.out.red
      have HRDt : Hid (Q.Red p [t]) := fun u hu => by simp at hu; omega
      have HRDs : Hid (Q.Red p [s, 1]) := fun u hu => by simp at hu; omega
      go_upto_region 8 with (fail)
      rw [← HWA.out]
      go_quiet (fail)
      go_wp2_with (fail)
      refine (valueAt_is p x f _ _ hp hp2 hxp (HRFj.out _ (below_drewN (Below.refl _ _) _)) HRDf (by omega)).mono ?_
      rintro e w3 ⟨rfl, hw⟩
      subst hw
      rw [← HVF.out]
      go_wp2_with (fail)
      refine (valueAt_is p x z _ _ hp hp2 hxp (HRZj.out _ (below_drewN (Below.refl _ _) _)) HRDz (by omega)).mono ?_
      rintro e w3 ⟨rfl, hw⟩
      subst hw
      rw [← HVZ.out]
      go_wp2_with (fail)
      refine (inverseOf_is p vz _ hP hp2 hvzp hzv).mono ?_
      rintro e w3 ⟨rfl, nd, hw⟩
      rw [← HINV.out]
      have hB3 : Below wA.heap.size wA w3 := by rw [hw]; exact below_drewN (below_drewN (Below.refl _ _) _) _
      have HB3 := Lib.hid hB3
      clear hw hB3
      have HBl3 : Hid (Below wA.heap.size wA (w3.alloc (.cells #[.int .i64 (t : Int)] 3))) := HB3.out.alloc HB3.out.size _
      have HRL3 : Hid (Rd (w3.alloc (.cells #[.int .i64 (t : Int)] 3)) (.slice (some ⟨w3.heap.size, 0, none⟩) 1 1) 1 [t].length (nats [t])) := Rd.of_own (lit1_own w3 t)
      have HRZ3 : Hid (Rd (w3.alloc (.cells #[.int .i64 (t : Int)] 3)) (.slice a2 m2 cp2) 1 z.length (nats z)) := HRZj.out _ HBl3.out
      go_wp2_with (fail)
      refine (product_is p z [t] _ _ _ hp hp2 HRZ3 HRL3 HRDz HRDt (by omega) (by simp)).mono ?_
      rintro e w4 ⟨⟨v4, rfl, hN4⟩, hB4⟩
      have HB4 := Lib.hid (HBl3.out.trans (hB4.mono HBl3.out.size))
      obtain ⟨C, hC⟩ : ∃ C, C = Q.prodP' p z [t] := ⟨_, rfl⟩
      rw [← hC] at hN4
      have hCl : C.length ≤ 34 := by rw [hC, Q.prod_length hz0 (by simp)]; simp; omega
      obtain ⟨a4, cp4, hv4, hcp4, hcp5, _⟩ := own_form hN4
      subst hv4
      have HRC : Hid (Rd w4 (.slice a4 C.length cp4) 1 C.length (nats C)) := hN4.rd
      have HRT : Hid (Rd w4 (.slice a4 (Q.trimLen C) cp4) 1 (Q.trim C).length (nats (Q.trim C))) := Rd.trimmed HRC.out
      have HRDC : Hid (Q.Red p (Q.trim C)) := by
        have h : Q.Red p C := by rw [hC]; exact Q.red_prod (by omega) _ _
        exact h.trim.red
      have hTl : (Q.trim C).length ≤ 34 := by rw [Q.trim_length]; exact Nat.le_trans (Q.trimLen_le C) hCl
      have HRF4 : Hid (Rd w4 (.slice a1 m1 cp1) 1 f.length (nats f)) := HRFj.out _ HB4.out
      have HCE := Lib.hid hC
      obtain ⟨c, hc⟩ : ∃ c, c = C.length := ⟨_, rfl⟩
      have HCL := Lib.hid hc
      have HRC2 : Hid (Rd w4 (.slice a4 c cp4) 1 C.length (nats C)) := by show Rd _ _ _ _ _; rw [hc]; exact HRC.out
      rw [← hc] at hcp4 ⊢
      clear hN4 hB4 hC hc HRL3 HRZ3
      go_wp2_with (fail)
      refine (trim_is C _ c cp4 _ HCL HRC2 (by have := HCL.out; omega) hcp4 hcp5).mono ?_
      rintro e w5 ⟨rfl, hw⟩
      subst hw
      go_wp2_with (fail)
      refine (sum_is p f (Q.trim C) _ _ _ hp hp2 HRF4 HRT HRDf HRDC (by omega) (by omega)).mono ?_
      rintro e w5 ⟨⟨v5, rfl, hN5⟩, hB5⟩
      have HB5 := Lib.hid (HB4.out.trans (hB5.mono HB4.out.size))
      have HN5 : Hid (NewL w w5 v5 (Q.thrAt p L (k + 1)).1) := by
        show NewL _ _ _ _
        rw [HSTEP.out, ← HCE.out]
        exact hN5.from (Nat.le_trans HBB.out.size HB4.out.size)
      have HBl5 : Hid (Below wA.heap.size wA (w5.alloc (.cells #[.int .i64 (s : Int), .int .i64 1] 3))) := HB5.out.alloc HB5.out.size _
      have HRL5 : Hid (Rd (w5.alloc (.cells #[.int .i64 (s : Int), .int .i64 1] 3)) (.slice (some ⟨w5.heap.size, 0, none⟩) 2 2) 1 [s, 1].length (nats [s, 1])) := lit2 w5 s 1 3
      have HRZ5 : Hid (Rd (w5.alloc (.cells #[.int .i64 (s : Int), .int .i64 1] 3)) (.slice a2 m2 cp2) 1 z.length (nats z)) := HRZj.out _ HBl5.out
      obtain ⟨a5, cp5, hv5⟩ := hN5.rd.shape
      subst hv5
      have hBx5 : Below w5.heap.size w5 (w5.alloc (.cells #[.int .i64 (s : Int), .int .i64 1] 3)) := (Below.refl _ _).alloc (Nat.le_refl _) _
      have HBX5 := Lib.hid hBx5
      clear hN5 hB5 hBx5
      go_wp2_with (fail)
      refine (product_is p z [s, 1] _ _ _ hp hp2 HRZ5 HRL5 HRDz HRDs (by omega) (by simp)).mono ?_
      rintro e w6 ⟨⟨v6, rfl, hN6⟩, hB6⟩
      have HB6 := Lib.hid (HBl5.out.trans (hB6.mono HBl5.out.size))
      have HNF6 : Hid (NewL w w6 (.slice a5 (Q.sumP p f (Q.trim C)).length cp5) (Q.thrAt p L (k + 1)).1) := HN5.out.keep (HBX5.out.trans (hB6.mono HBX5.out.size))
      have HNZ6 : Hid (NewL w w6 v6 (Q.thrAt p L (k + 1)).2) := by
        show NewL _ _ _ _
        rw [HSTEP.out]
        exact hN6.from (Nat.le_trans HBB.out.size HBl5.out.size)
      obtain ⟨a6, cp6, hv6⟩ := hN6.rd.shape
      subst hv6
      have HM6 : Hid ((Q.sumP p f (Q.trim C)).length = (Q.thrAt p L (k + 1)).1.length ∧ (Q.prodP' p z [s, 1]).length = (Q.thrAt p L (k + 1)).2.length) := by
        rw [HSTEP.out, ← HCE.out]; exact ⟨rfl, rfl⟩
      have HBF := Lib.hid (HBB.out.trans (HB6.out.mono HBB.out.size))
      clear hN6 hB6
      go_wp2_with (fail)
      go_roundw
      case rel => exact ⟨k + 1, _, _, cp5, cp6, a5, a6, rfl, rfl, by go_num, by omega, HM6, HNF6, HNZ6, HBF⟩
      case measure => simp [intOf]; omega
    · obtain rfl : k = n := by omega
      have HNE : Hid (NewL w wr (.slice a1 m1 cp1) (Q.thrAt p L k).1) := HNF.out
      clear HNF HNZ HM
      go_wp2_with (fail)
      go_ret2
      exact ⟨⟨_, rfl, HNE.out⟩, HB.out⟩

end Go.Proofs.Ytgnpohapmijfiaa
