/- Texts of the proof, laid together. -/
import Derived.Test.YtgcjdojhfimceaaGreatG05
import Derived.Test.YtgcjdojhfimceaaGreatG01
import Derived.Deep.DeepCutAuto
import Derived.ProofKit
import Derived.OpenShut
import Derived.Maps.OwnSet
namespace Go.Proofs.YtgcjdojhfimceaaGreat
open Go.RowKit

/-- v reads as the ints Z. -/
def ArgI (w : World) (v : Value) (Z : List Int) : Prop :=
  Z.length ≤ 9223372036854775807 ∧ ((v = .slice none 0 0 ∧ Z = []) ∨
    ∃ (a : Addr) (cap : Nat), v = .slice (some a) Z.length cap ∧ Z.length ≤ cap ∧ cap ≤ 9223372036854775807 ∧ ∀ i (h : i < Z.length), w.cell? (a.add i) = some (.int .i64 Z[i]))

theorem ArgI.below {w w' : World} {v : Value} {Z : List Int} (h : ArgI w v Z) (hB : Below w.heap.size w w') : ArgI w' v Z := by
  refine ⟨h.1, ?_⟩
  rcases h.2 with h1 | ⟨a, cap, h1, h2, h3, h4⟩
  · exact .inl h1
  · refine .inr ⟨a, cap, h1, h2, h3, fun i hi => ?_⟩
    have hc := h4 i hi
    have hlt := World.block_lt_of_cell? w _ hc
    rw [hB.cell hlt]
    exact hc

theorem intsZ_take (Z : List Int) (k : Nat) : intsZ (Z.take k) = (intsZ Z).take k := by simp [intsZ]

section
open Go.ChangeShapes Go.WideShapes
set_option maxRecDepth 100000 in
theorem argI_of {H : Type} {enc : TypeId × Value → H} {W : World} {base : Nat} {v : Value} {d : DataW H} {p : List MemPlace} (hv : Value.okWide Tryz.prog W .any base 25 v)
    (h : DataW.Trod enc Tryz.prog W 0 (fun _ => true) true 25 v d p) : ∃ Z, ArgI W v Z := by
  obtain ⟨a0, len, cap, rfl⟩ := okWide_slice Tryz.underlying25 hv
  obtain ⟨fuel, hf⟩ := h
  rcases open_ints Tryz.underlying25 Tryz.underlying3 (by kernel_rfl) hf with ⟨hcs, hx⟩ | ⟨a, len', cap', zs, hcs, _, hl, hm, hz, hx, hcell, hwz⟩
  · simp only [Value.cells, List.cons.injEq, and_true] at hcs
    rw [hcs]
    exact ⟨[], by simp, .inl ⟨rfl, rfl⟩⟩
  · simp only [Value.cells, List.cons.injEq, and_true] at hcs
    rw [hcs]
    simp only [if_true] at hz
    unfold maxLen at hm
    have hlen : (zs.take len').length = len' := by rw [List.length_take]; omega
    refine ⟨zs.take len', by omega, .inr ⟨a, cap', by rw [hlen], by omega, by omega, fun i hi => ?_⟩⟩
    have := hcell i (by omega)
    rw [this, List.getElem_take]
    simp [List.getD, show i < zs.length by omega]
end

end Go.Proofs.YtgcjdojhfimceaaGreat

namespace Go.Proofs.YtgcjdojhfimceaaGreat
open Go.RowKit Go.Maps

/-- A map of ints to bools that tells the ints of S. -/
structure SetI {H : Type} (D : DataW H) (S : List Int) : Prop where
  map : IsMap D
  val : ∀ x : Int, D.atKey (.int .i64 x) (.lit (.bool false)) = .lit (.bool (decide (x ∈ S)))

theorem SetI.empty {H : Type} : SetI (.map [] : DataW H) [] := ⟨isMap_empty, fun x => by simp [DataW.atKey]⟩

theorem SetI.put {H : Type} {D : DataW H} {S : List Int} (h : SetI D S) (x : Int) : SetI (D.put (.int .i64 x) (.lit (.bool true))) (x :: S) := by
  have hk : WideAt.IsKeyLit (.int .i64 x) := by simp [WideAt.IsKeyLit]
  refine ⟨h.map.put _ _, fun y => ?_⟩
  by_cases hy : y = x
  · subst hy
    rw [atKey_put_same h.map hk]
    simp
  · rw [atKey_put_other (by simpa using hy), h.val]
    simp [hy]

theorem zero4 (w : World) : (zeroValue 4).run Tryz.prog w = .ok (.bool false) w := by kernel_rfl

set_option maxRecDepth 100000 in
theorem plain_bool_inv {H : Type} {v : Value} {z : DataW H × List MemPlace} (h : plainElem Tryz.prog 4 v = some z) : ∃ a, v = .bool a ∧ z = (.lit (.bool a), []) := by
  unfold plainElem at h
  rw [Tryz.underlying4] at h
  cases v <;> simp at h
  exact ⟨_, rfl, h.symm⟩

set_option maxRecDepth 100000 in
/-- Asking the map. -/
theorem look_set {H : Type} {w : World} {b n : Nat} {D : DataW H} {S : List Int} (h : w.ownsMap Tryz.prog 3 (plainElem Tryz.prog 4) b n D) (hS : SetI D S) (q : Int) (hq : (Lit.int .i64 q).wf = true) :
    (Instr.lookup 69 (.map (some b)) (.int .i64 q) false).run Tryz.prog w = .ok (.bool (decide (q ∈ S))) w := by
  obtain ⟨v, ps, hrun, hv⟩ := h.lookup (int_keyed Tryz.underlying3) Tryz.underlying69 (zero4 w) (plainElem_bool Tryz.underlying4 false) (keyOf_int_mk Tryz.underlying3 hq)
  obtain ⟨a, rfl, hz⟩ := plain_bool_inv hv
  rw [hrun]
  have h1 : D.atKey (.int .i64 q) (.lit (.bool false)) = .lit (.bool a) := congrArg Prod.fst hz
  rw [hS.val] at h1
  injection h1 with h1
  injection h1 with h1
  rw [h1]

theorem strips_step {q n : Int} (hq : 2 ≤ q) (hn : 1 ≤ n) : (n % q = 0 → 1 ≤ n / q ∧ n / q < n ∧ M.strips q (n / q) = M.strips q n) ∧ (n % q ≠ 0 → M.strips q n = n) := by
  obtain ⟨e, h1, h2, h3, h4⟩ := M.strips_spec hq hn
  obtain ⟨Q, rfl⟩ := Int.eq_ofNat_of_zero_le (show 0 ≤ q by omega)
  obtain ⟨N, rfl⟩ := Int.eq_ofNat_of_zero_le (show 0 ≤ n by omega)
  simp only [Int.toNat_natCast] at h1 h2
  constructor
  · intro h0
    have hd : Q ∣ N := by exact_mod_cast Int.dvd_of_emod_eq_zero h0
    have e1 : ((N : Int) / (Q : Int)) = ((N / Q : Nat) : Int) := rfl
    have hlt : N / Q < N := Nat.div_lt_self (by omega) (by omega)
    have hpos : 1 ≤ N / Q := Nat.div_pos (Nat.le_of_dvd (by omega) hd) (by omega)
    rw [e1]
    refine ⟨by omega, by omega, ?_⟩
    obtain ⟨e', g1, g2, g3, _⟩ := M.strips_spec (q := (Q : Int)) (n := ((N / Q : Nat) : Int)) hq (by omega)
    simp only [Int.toNat_natCast] at g1 g2
    have hN : N = Q ^ (e' + 1) * (M.strips Q ((N / Q : Nat) : Int)).toNat := by
      rw [Nat.pow_succ, Nat.mul_comm (Q ^ e'), Nat.mul_assoc, ← g1, Nat.mul_div_cancel' hd]
    have := (M.strip_unique (by omega) (hN.symm.trans h1) g2 h2).2
    omega
  · intro h0
    have hnd : ¬ Q ∣ N := fun hd => h0 (Int.emod_eq_zero_of_dvd (by exact_mod_cast hd))
    have hN : Q ^ 0 * N = Q ^ e * (M.strips Q (N : Int)).toNat := by rw [← h1]; simp
    have := (M.strip_unique (by omega) hN hnd h2).2
    omega

def FOk (F : List Int) : Prop := ∀ q ∈ F, (Lit.int .i64 q).wf = true

end Go.Proofs.YtgcjdojhfimceaaGreat
namespace Go.Proofs.YtgcjdojhfimceaaGreat
open Go.RowKit Go.Maps

theorem ints_toNat (F : List Int) (h : ∀ q ∈ F, 0 ≤ q) : intsZ F = ints (F.map Int.toNat) := by
  unfold intsZ ints
  rw [List.map_map]
  refine List.map_congr_left fun q hq => ?_
  have := h q hq
  simp only [Function.comp_apply]
  congr 1
  omega

theorem powB_nat {W P q : Int} (hP : 1 ≤ P) (hq : 0 ≤ q) : (!(M.powB W ((P - 1) / q) P)) = (W.toNat ^ ((P.toNat - 1) / q.toNat) % P.toNat != 1) := by
  have e1 : ((P - 1) / q).toNat = (P.toNat - 1) / q.toNat := by
    obtain ⟨a, ha⟩ := Int.eq_ofNat_of_zero_le (show 0 ≤ P - 1 by omega)
    obtain ⟨b, rfl⟩ := Int.eq_ofNat_of_zero_le hq
    rw [ha, show ((a : Int) / (b : Int)) = ((a / b : Nat) : Int) from rfl, Int.toNat_natCast, Int.toNat_natCast]
    congr 1; omega
  unfold M.powB M.pw
  rw [e1, Bool.eq_iff_iff]
  simp only [Bool.not_eq_true', beq_eq_false_iff_ne, bne_iff_ne, ne_eq]
  omega

theorem gensI_genB {W P : Int} {F : List Int} (hP : 1 ≤ P) (h : ∀ q ∈ F, 0 ≤ q) : M.gensI W P F = genB W.toNat P.toNat (F.map Int.toNat) := by
  unfold M.gensI genB
  rw [List.all_map, Bool.eq_iff_iff, List.all_eq_true, List.all_eq_true]
  constructor
  · intro h1 q hq; have := h1 q hq; rw [powB_nat hP (h q hq)] at this; exact this
  · intro h1 q hq; have := h1 q hq; rw [powB_nat hP (h q hq)]; exact this

def entV (P W : Int) (v : Value) : Value := .agg #[.int .i64 P, .int .i64 W, v]

theorem own_below {H : Type} {P : Program} {k : TypeId} {R : Value → Option (DataW H × List MemPlace)} {w w' : World} {b n B : Nat} {D : DataW H} (h : w.ownsMap P k R b n D) (hB : Below B w w') (hb : b < B) : w'.ownsMap P k R b n D := by
  obtain ⟨es, clock, h1, h2, h3, h4⟩ := h
  exact ⟨es, clock, (hB.block b hb).trans h1, h2, h3, h4⟩

theorem Rd.lenv {w : World} {v : Value} {n : Nat} {xs : List Value} (h : Rd w v 1 n xs) : ∃ a cap, v = .slice a n cap := by
  obtain ⟨_, a, cap, hv, _⟩ := h
  exact ⟨a, cap, hv⟩

theorem areF_mem {S : List Int} (hS : ∀ q ∈ S, 2 ≤ q ∧ q ≤ 2147483647) : ∀ {F : List Int} {last rest : Int}, M.areF S last rest F = true → ∀ q ∈ F, 1 ≤ q ∧ q ≤ 2147483647
  | [], _, _, _, q, hq => by cases hq
  | x :: F, last, rest, h, q, hq => by
    rw [M.areF] at h
    split at h
    · cases h
    · rename_i hc
      rcases List.mem_cons.1 hq with rfl | hq
      · have h1 : q ∈ S := Classical.byContradiction fun h1 => hc (.inr (.inl h1))
        have := hS q h1
        omega
      · exact areF_mem hS h q hq

end Go.Proofs.YtgcjdojhfimceaaGreat
namespace Go.Proofs.YtgcjdojhfimceaaGreat
open Go.RowKit Go.Maps

/-- A slice of entries. -/
def RdE (w : World) (v : Value) (L : List M.Ent) : Prop :=
  ∃ (a : Option Addr) (cap : Nat), v = .slice a L.length cap ∧ L.length ≤ cap ∧ (L.length = 0 ∨ ∃ b, a = some ⟨b, 0, none⟩ ∧ b < w.heap.size ∧ ∀ k (h : k < L.length), ∃ fv,
    w.cell? ⟨b, k * 3, none⟩ = some (.int .i64 L[k].P) ∧ w.cell? ⟨b, k * 3 + 1, none⟩ = some (.int .i64 L[k].W) ∧ w.cell? ⟨b, k * 3 + 2, none⟩ = some fv ∧ Rd w fv 1 L[k].F.length (intsZ L[k].F))

theorem RdE.below {w w' : World} {v : Value} {L : List M.Ent} (h : RdE w v L) (hB : Below w.heap.size w w') : RdE w' v L := by
  obtain ⟨a, cap, hv, hc, h2⟩ := h
  refine ⟨a, cap, hv, hc, ?_⟩
  rcases h2 with h2 | ⟨b, ha, hb, h2⟩
  · exact .inl h2
  · refine .inr ⟨b, ha, by have := hB.size; omega, fun k hk => ?_⟩
    obtain ⟨fv, c0, c1, c2, hr⟩ := h2 k hk
    refine ⟨fv, ?_, ?_, ?_, hr.below hB (Nat.le_refl _)⟩
    · rw [hB.cell (p := ⟨b, k * 3, none⟩) hb]; exact c0
    · rw [hB.cell (p := ⟨b, k * 3 + 1, none⟩) hb]; exact c1
    · rw [hB.cell (p := ⟨b, k * 3 + 2, none⟩) hb]; exact c2

def EntOk (E : M.Ent) : Prop := (Lit.int .i64 E.P).wf = true ∧ (Lit.int .i64 E.W).wf = true ∧ FOk E.F ∧ E.F.length ≤ 1000000

theorem wfb4 : plainElem (H := Unit) Tryz.prog 4 (.bool true) = some (.lit (.bool true), []) := plainElem_bool Tryz.underlying4 true
theorem law3' : Keyed Tryz.prog 3 := int_keyed Tryz.underlying3

theorem cell3_new (w : World) (x y z : Value) (t : TypeId) : (w.alloc (.cells #[x, y, z] t)).cell? ⟨w.heap.size, 0, none⟩ = some x := by
  simp

end Go.Proofs.YtgcjdojhfimceaaGreat
namespace Go.Proofs.YtgcjdojhfimceaaGreat
open Go.RowKit Go.Maps

/-- The program's judgement of a verdict. -/
def rightP (n d : Int) (L : List M.Ent) : Bool :=
  if d = 0 then decide (0 < L.length) && M.proofP n 1 [] L
  else if 0 < L.length then false
  else if n = 1 then d == 1
  else decide (1 < d ∧ d < n ∧ n % d = 0)

def verV (d : Int) (v : Value) : Value := .agg #[.int .i64 d, v]

theorem RdE.lenv {w : World} {v : Value} {L : List M.Ent} (h : RdE w v L) : ∃ a cap, v = .slice a L.length cap := by
  obtain ⟨a, cap, hv, _⟩ := h
  exact ⟨a, cap, hv⟩

end Go.Proofs.YtgcjdojhfimceaaGreat
namespace Go.Proofs.YtgcjdojhfimceaaGreat
open Go.RowKit Go.Maps

/-- What the last entry's number was. -/
def PrevOk (L : List M.Ent) (k : Nat) (prev : Option Int) : Prop := ∀ p, prev = some p ↔ ∃ (j : Nat) (h : j < L.length), k = j + 1 ∧ L[j].P = p

theorem PrevOk.zero (L : List M.Ent) : PrevOk L 0 none := fun p => by
  constructor
  · intro h; cases h
  · rintro ⟨j, h, h1, _⟩; omega

theorem PrevOk.succ (L : List M.Ent) (k : Nat) (h : k < L.length) : PrevOk L (k + 1) (some L[k].P) := fun p => by
  constructor
  · intro h1; cases h1; exact ⟨k, h, rfl, rfl⟩
  · rintro ⟨j, h1, h2, h3⟩
    obtain rfl : k = j := by omega
    rw [h3]

theorem RdE.take {w : World} {a : Option Addr} {cap n k : Nat} {L : List M.Ent} (h : RdE w (.slice a n cap) L) (hk : k ≤ n) : RdE w (.slice a k cap) (L.take k) ∧ (L.take k).length = k := by
  obtain ⟨a', cap', hv, hc, h2⟩ := h
  simp only [Value.slice.injEq] at hv
  obtain ⟨rfl, rfl, rfl⟩ := hv
  have hl : (L.take k).length = k := by simp; omega
  refine ⟨⟨a, cap, by rw [hl], by omega, ?_⟩, hl⟩
  rcases h2 with h2 | ⟨b, ha, hb, h2⟩
  · exact .inl (by omega)
  · refine .inr ⟨b, ha, hb, fun j hj => ?_⟩
    have hj2 : j < L.length := by omega
    obtain ⟨fv, c0, c1, c2, hr⟩ := h2 j hj2
    rw [List.getElem_take]
    exact ⟨fv, c0, c1, c2, hr⟩

/-- The copy of an entry lies in block b. -/
structure AtX (w wx : World) (b : Nat) (P W : Int) (v : Value) : Prop where
  below : Below w.heap.size w wx
  lt : b < wx.heap.size
  c0 : wx.cell? ⟨b, 0, none⟩ = some (.int .i64 P)
  c1 : wx.cell? ⟨b, 1, none⟩ = some (.int .i64 W)
  c2 : wx.cell? ⟨b, 2, none⟩ = some v

theorem AtX.new (w wr : World) (P W : Int) (v : Value) (t : TypeId) (m : Nat) (hB : Below w.heap.size w wr) : AtX w ((wr.alloc (.cells #[.int .i64 P, .int .i64 W, v] t)).drewN m) wr.heap.size P W v := by
  refine ⟨below_drewN (hB.alloc hB.size _) m, ?_, ?_, ?_, ?_⟩
  · show wr.heap.size < (wr.alloc _).heap.size
    simp
  · show (wr.alloc _).cell? _ = _
    simp
  · show (wr.alloc _).cell? _ = _
    simp
  · show (wr.alloc _).cell? _ = _
    simp

theorem still_here {P : Program} {f : FuncId} {args : Array Value} {v : Value} {w0 : World} (a n : Nat) (c : Calls P f args (w0.drewN (a + n)) fun e w' => e = .returned v ∧ w0.drewN (a + n) = w') :
    Calls P f args (w0.drewN (a + n)) fun e w' => e = .returned v ∧ ∃ m, w' = w0.drewN (a + m) :=
  c.mono fun _ _ ⟨he, hw⟩ => ⟨he, n, hw.symm⟩

theorem RdE.drewN {w : World} {v : Value} {L : List M.Ent} (h : RdE w v L) (n : Nat) : RdE (w.drewN n) v L := h.below (below_drewN (Below.refl _ _) n)

/-- What the last factor was. -/
def PrevF (F : List Int) (k : Nat) (prev : Option Int) : Prop := ∀ p, prev = some p ↔ ∃ (j : Nat) (h : j < F.length), k = j + 1 ∧ F[j] = p

theorem PrevF.zero (F : List Int) : PrevF F 0 none := fun p => by
  constructor
  · intro h; cases h
  · rintro ⟨j, h, h1, _⟩; omega

theorem PrevF.succ (F : List Int) (k : Nat) (h : k < F.length) : PrevF F (k + 1) (some F[k]) := fun p => by
  constructor
  · intro h1; cases h1; exact ⟨k, h, rfl, rfl⟩
  · rintro ⟨j, h1, h2, h3⟩
    obtain rfl : k = j := by omega
    rw [h3]

end Go.Proofs.YtgcjdojhfimceaaGreat
namespace Go.Proofs.YtgcjdojhfimceaaGreat
open Go.RowKit Go.Maps

theorem proofR_eq (n : Int) (L : List M.Ent) : M.proofR n none [] L = (decide (0 < L.length) && M.proofP n 1 [] L) := by
  rw [M.proof_eq L 1 none [] (by simp) (by omega) (by simp) (by simp)]
  cases L with
  | nil => rfl
  | cons E L => simp

end Go.Proofs.YtgcjdojhfimceaaGreat