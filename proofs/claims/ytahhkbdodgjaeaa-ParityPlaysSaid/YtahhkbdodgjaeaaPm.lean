/- The walks over greatestRank and play. -/
import Derived.Test.YtahhkbdodgjaeaaPl
namespace Go.Proofs.Ytahhkbdodgjaeaa
open Go.RowKit

theorem seg_max (a b : Int) : (if a < b then b else a) = max a b := by split <;> omega

set_option maxRecDepth 100000 in
set_option maxHeartbeats 2000000 in
theorem greatestRank_is (O R : List Int) (N : List (List Int)) (L : List Nat) (vo vr vn vl : Value) (w : World) (h : Hid (RdG w vo vr vn O R N)) (hs : Hid (Small O R N)) (hl : Hid (Rd w vl 1 L.length (nats L))) (hll : L.length ≤ 1000000) (hR : Hid (∀ l ∈ L, l < R.length ∧ 0 ≤ R.getD l 0 ∧ R.getD l 0 ≤ 9)) :
    Calls Try.prog 55 #[.agg #[vo, vr, vn], vl] w fun e w' => e = .returned (.int .i64 (Pl.topR R L)) ∧ Below w.heap.size w w' := by
  obtain ⟨ao, co, ho⟩ := h.out.o.shape
  obtain ⟨ar, cr, hr⟩ := h.out.r.shape
  obtain ⟨an, cn, hn, _⟩ := h.out.n.shape
  subst ho hr hn
  obtain ⟨m, hm⟩ : ∃ m, m = O.length := ⟨_, rfl⟩
  obtain ⟨m2, hm2⟩ : ∃ m, m = R.length := ⟨_, rfl⟩
  obtain ⟨m3, hm3⟩ : ∃ m, m = N.length := ⟨_, rfl⟩
  have hml : m ≤ 30 := by rw [hm]; exact hs.out.o
  have hml3 : m3 ≤ 30 := by rw [hm3]; exact hs.out.n
  have HM := Lib.hid (And.intro hm (And.intro hm2 hm3))
  obtain ⟨b, hb⟩ : ∃ b, b = w.heap.size := ⟨_, rfl⟩
  obtain ⟨X, hX⟩ : ∃ X, X = w.alloc (.cells #[.slice ao m co, .slice ar m2 cr, .slice an m3 cn] 56) := ⟨_, rfl⟩
  have HA : Hid (Below w.heap.size w X) := by rw [hX]; exact (Below.refl _ _).alloc (Nat.le_refl _) _
  have HRG : Hid (RdG X (.slice ao m co) (.slice ar m2 cr) (.slice an m3 cn) O R N) := by
    have h9 := h.out.below HA.out
    show RdG _ _ _ _ _ _ _
    rw [hm, hm2, hm3]; exact h9
  have hca : X.cell? ⟨b, 0, none⟩ = some (.slice ao m co) := by rw [hX, hb]; simp
  have hcb : X.cell? ⟨b, 1, none⟩ = some (.slice ar m2 cr) := by rw [hX, hb]; simp
  have hcn : X.cell? ⟨b, 2, none⟩ = some (.slice an m3 cn) := by rw [hX, hb]; simp
  have hXs : b < X.heap.size := by rw [hX, hb]; simp
  have HXS := Lib.hid hXs
  rw [← hm, ← hm2, ← hm3]
  obtain ⟨al, cl, hvl⟩ := hl.out.shape
  subst hvl
  obtain ⟨k, hk⟩ : ∃ k, k = L.length := ⟨_, rfl⟩
  have HK := Lib.hid hk
  have HL : Hid (Rd X (.slice al k cl) 1 L.length (nats L)) := by
    have h9 := hl.out.below HA.out (Nat.le_refl _)
    show Rd _ _ _ _ _
    rw [hk]; exact h9
  rw [← hk] at hll ⊢
  have HB0 : Hid (0 = Pl.topR R (L.take 0)) := rfl
  clear h hm hm2 hm3 hl hk hXs
  go_enter Try.func55, Try.ntmps55
  go_upto_region 1 with fail
  rw [← hb, ← hX]
  clear hX hb
  go_wp2_with (fail)
  go_loopw [5, 10] (fun gv iv wx => ∃ (i : Nat) (g : Int), gv = .int .i64 g ∧ iv = .int .i64 i ∧ i ≤ k ∧ wx = X ∧ Hid (g = Pl.topR R (L.take i))) (fun _ iv _ => k - (intOf iv).toNat)
  case atStart => exact ⟨0, 0, rfl, rfl, by omega, rfl, HB0⟩
  case round =>
    obtain ⟨i, g, rfl, rfl, him, rfl, HG⟩ := hrel
    by_cases hin : i < k
    · have hin1 : (i : Int) < (k : Int) := by omega
      have hiL : i < L.length := by rw [← HK.out]; exact hin
      obtain ⟨bl, el, _, cl1⟩ := HL.out.at i hiL
      subst el
      obtain ⟨x, hx⟩ : ∃ x, x = L.getD i 0 := ⟨_, rfl⟩
      rw [← hx] at cl1
      obtain ⟨hxR, hx0, hx9⟩ := hR.out x (by rw [hx]; simp [List.getD, hiL])
      obtain ⟨br, er, _, cr1⟩ := zat HRG.out.r x hxR
      subst er
      obtain ⟨y, hy⟩ : ∃ y, y = R.getD x 0 := ⟨_, rfl⟩
      rw [← hy] at cr1 hx0 hx9
      have hxm : (x : Int) < (m2 : Int) := by have := HM.out.2.1; omega
      obtain ⟨g2, hg2⟩ : ∃ g2, g2 = max g y := ⟨_, rfl⟩
      have HGN : Hid (g2 = Pl.topR R (L.take (i + 1))) := by
        show _ = _
        rw [List.take_succ_eq_append_getElem hiL, Pl.topR_snoc, ← HG.out, hg2, hy, hx]
        simp [List.getD, hiL]
      have hmx : max g y = g2 := hg2.symm
      have hmx2 : (if g < y then y else g) = g2 := by rw [seg_max]; exact hg2.symm
      clear hx hy hxR hg2
      go_wp2_with (fail)
      go_roundw
      case rel => exact ⟨i + 1, g2, by first | rfl | rw [hmx] | rw [hmx2] | simp [hmx], by first | rfl | go_num, by omega, by first | rfl | trivial, HGN⟩
      case measure => simp [intOf]; omega
    · obtain rfl : k = i := by omega
      have HE : Hid (g = Pl.topR R L) := by
        have h9 := HG.out
        rw [List.take_of_length_le (by rw [HK.out]; exact Nat.le_refl _)] at h9
        exact h9
      clear hin
      go_wp2_with (fail)
      go_ret
      exact ⟨by rw [← HE.out]; rfl, HA.out⟩

/-- A set of positions behind a block. -/
def bls (S : List Bool) : List Value := S.map fun x => Value.bool x
structure Seen (w : World) (s : Nat) (S : List Bool) : Prop where
  h : w.heap[s]? = some (.cells (bls S).toArray 67 (0, 0))
  len : S.length = 24
theorem Seen.cell {w : World} {s : Nat} {S : List Bool} (h : Seen w s S) {u : Nat} (hu : u < 24) : w.cell? ⟨s, u, none⟩ = some (.bool (S.getD u false)) := by
  have h1 := h.h
  have h2 := h.len
  simp only [World.cell?, h1]
  simp [bls, List.getD, show u < S.length by omega]
theorem Seen.free {w : World} {s : Nat} {S : List Bool} (h : Seen w s S) (u : Nat) : w.frozen? ⟨s, u, none⟩ = false := by
  have h1 := h.h
  simp only [World.frozen?, h1]; simp
theorem Seen.set {w : World} {s : Nat} {S : List Bool} (h : Seen w s S) (u : Nat) (x : Bool) : Seen (w.setCell ⟨s, u, none⟩ (.bool x)) s (S.set u x) := by
  refine ⟨?_, by rw [List.length_set]; exact h.len⟩
  have := heap_set1 (i := u) h.h (.bool x)
  rw [this]
  simp [bls, List.map_set]
theorem Seen.low {w w' : World} {s : Nat} {S : List Bool} (h : Seen w s S) (hb : w'.heap[s]? = w.heap[s]?) : Seen w' s S := ⟨by rw [hb]; exact h.h, h.len⟩
theorem Seen.lt {w : World} {s : Nat} {S : List Bool} (h : Seen w s S) : s < w.heap.size := (Array.getElem?_eq_some_iff.1 h.h).1

end Go.Proofs.Ytahhkbdodgjaeaa
