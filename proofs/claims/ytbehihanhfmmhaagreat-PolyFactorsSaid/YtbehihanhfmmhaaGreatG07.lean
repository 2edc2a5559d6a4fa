/- The walk over slices.Repeat of one number. -/
import Derived.Test.YtbehihanhfmmhaaGreatG05
import Derived.Test.YtbehihanhfmmhaaGreatG06
import Derived.Deep.RegionLaw
namespace Go.Proofs.YtbehihanhfmmhaaGreat
open Go.RowKit

theorem mul1_is (n : Nat) (w : World) (hn : n ≤ 1000000) : Calls Tryz.prog 102 #[.int .u64 1, .int .u64 (n : Int)] w fun e w' => e = .returned (.tuple #[.int .u64 0, .int .u64 (n : Int)]) ∧ w = w' := by
  have h := Tryz.bits_Mul 1 n (by omega) (by omega) w
  refine h.mono fun e w' ⟨h1, h2⟩ => ⟨?_, h2.symm⟩
  rw [h1]
  have e1 : 1 * n / 18446744073709551616 = 0 := by rw [Nat.one_mul]; exact Nat.div_eq_of_lt (by omega)
  have e2 : 1 * n % 18446744073709551616 = n := by rw [Nat.one_mul]; exact Nat.mod_eq_of_lt (by omega)
  rw [e1, e2]
  rfl

/-- The first c places hold -1. -/
def ones (n c : Nat) : List Value := zs (List.replicate c (-1) ++ List.replicate (n - c) 0)

theorem ones_splice (n c d : Nat) (h : c + d ≤ n) : splice (ones n c) c (zs (List.replicate d (-1))) = ones n (c + d) := by
  unfold splice ones zs
  simp only [List.map_append, List.map_replicate, List.length_replicate]
  rw [List.take_left' (by simp), List.drop_append, List.drop_eq_nil_of_le (by simp), List.length_replicate, List.nil_append, List.drop_replicate, ← List.replicate_append_replicate (n := c) (m := d), List.append_assoc, show n - c - (c + d - c) = n - (c + d) by omega]

set_option maxRecDepth 100000 in
set_option maxHeartbeats 2000000 in
theorem repeat_is (n B cp : Nat) (w : World) (hn : n ≤ 100000) (hc : w.cell? ⟨B, 0, none⟩ = some (.int .i64 (-1))) :
    Calls Tryz.prog 99 #[.slice (some ⟨B, 0, none⟩) 1 cp, .int .i64 n] w fun x w' => (∃ g, x = .returned (.slice (some ⟨g, 0, none⟩) n n) ∧ w'.ownsRow w.heap.size 3 1 (.slice (some ⟨g, 0, none⟩) n n) n (zs (List.replicate n (-1)))) ∧ Below w.heap.size w w' := by
  have hBl : B < w.heap.size := World.block_lt_of_cell? w _ hc
  have HC := Lib.hid hc
  clear hc
  obtain ⟨i0, hi, hz0, hz1, hz2⟩ := info_parts Tryz.infoZ
  have hsz : (Tryz.prog.info? 3).map (·.size) = some 1 := by rw [hi]; simp [hz1]
  have HSZ := Lib.hid hsz
  clear hsz
  go_enter Tryz.func99, Tryz.ntmps99
  go_wp2_with (first
    | (go_at_call 102; refine (mul1_is n _ (by omega)).mono ?_; rintro e w' ⟨rfl, rfl⟩)
    | (at_make; refine wpList_make_full _ rfl _ _ 22 rfl w.heap.size 3 i0 (.int .i64 0) 1 Tryz.underlying22 hi hz0 hz1 .i64 .i64 _ _ n rfl rfl rfl rfl (by rw [hz2]; omega) (by unfold maxLen; omega) (Nat.le_refl _) ?_))
  intro w0 hown0 hgrow0
  have hg0 : w0.heap[w.heap.size]? = some (.cells (ones n 0).toArray 3 (0, 0)) := by
    rcases hown0.2 with ⟨h1, _⟩ | ⟨g, cq, cur, h1, _, h3, _, _, h6, h7⟩
    · cases h1
    · injection h1 with h1 _ h4
      injection h1 with h1
      injection h1 with h1
      subst h1
      rw [h3]
      congr 2
      have h8 : ones n 0 = nats (List.replicate n 0) := by simp [ones, zs, nats]
      rw [h8, ← nats_zeros, ← h7, List.take_of_length_le (by rw [Array.length_toList]; omega)]
  have HG0 := Lib.hid hg0
  have HB0 := Lib.hid (below_of_grown hgrow0)
  clear hown0 hgrow0 hg0
  have hol : Hid (∀ c, c ≤ n → (ones n c).length = n) := fun c hc => by simp [ones, zs]; omega
  have HL1 : Hid ((zs (List.replicate (min 1 n) (-1))).length = Nat.min 1 n) := by show _ = _; simp [zs]
  have HF1 : Hid (0 + (zs (List.replicate (min 1 n) (-1))).length ≤ (ones n 0).length) := by show _ ≤ _; rw [hol.out 0 (by omega)]; simp [zs]; omega
  have HP1 : Hid (0 < (zs (List.replicate (min 1 n) (-1))).length → some (⟨w.heap.size, 0, none⟩ : Addr) = some ⟨w.heap.size, 0, none⟩ ∧ ∃ ad, some (⟨B, 0, none⟩ : Addr) = some ad ∧ ∀ j v, (zs (List.replicate (min 1 n) (-1)))[j]? = some v → w0.cell? (ad.add j) = some v) := fun _ => by
    refine ⟨rfl, ⟨B, 0, none⟩, rfl, fun j v hv => ?_⟩
    simp only [zs, List.map_replicate, List.getElem?_replicate] at hv
    split at hv
    · obtain rfl : j = 0 := by omega
      injection hv with hv
      subst hv
      exact (HB0.out.cell (p := ⟨B, 0, none⟩) hBl).trans HC.out
    · cases hv
  have H1C : Hid (∀ d, ∀ u ∈ zs (List.replicate d (-1)), u.oneCell' = true) := fun d u hu => by unfold zs at hu; obtain ⟨z, _, rfl⟩ := List.mem_map.1 hu; rfl
  go_wp2_with (refine wpList_copy_splice (o := ⟨some 33, _, _, _, _, _⟩) rfl (.tmp 31) (.tmp 32) 22 22 rfl 3 Tryz.underlying22 HSZ.out (some ⟨w.heap.size, 0, none⟩) (some ⟨B, 0, none⟩) n n 1 cp (by rfl) (by rfl) w.heap.size 0 (ones n 0) 3 HG0.out (zs (List.replicate (min 1 n) (-1))) HL1.out HP1.out HF1.out (H1C.out _) w.heap.size w HB0.out (Nat.le_refl _) ?_)
  intro w1 hg1 hB1
  have HS1 : Hid (w1.heap[w.heap.size]? = some (.cells (ones n (min 1 n)).toArray 3 (0, 0)) ∧ Below w.heap.size w w1) := by
    refine ⟨?_, hB1⟩
    have := hg1.out
    rw [ones_splice n 0 (min 1 n) (by omega), Nat.zero_add] at this
    exact this
  have hl1 : (zs (List.replicate (min 1 n) (-1))).length = min 1 n := HL1.out
  rw [hl1]
  clear hg1 hB1 HL1 HF1 HP1 hl1
  go_wp2_with (fail)
  go_loopw [8] (fun x wr => ∃ (c : Nat), x = .int .i64 c ∧ c ≤ n ∧ (0 < n → 0 < c) ∧ Hid (wr.heap[w.heap.size]? = some (.cells (ones n c).toArray 3 (0, 0)) ∧ Below w.heap.size w wr)) (fun x _ => n - (intOf x).toNat)
  case atStart => exact ⟨min 1 n, rfl, by omega, by omega, HS1⟩
  case round =>
    obtain ⟨c, rfl, hc, hc0, HS⟩ := hrel
    by_cases hlt : c < n
    · have hc1 : 0 < c := hc0 (by omega)
      have hnc : ¬ n = c := by omega
      have hnc1 : (c : Int) ≤ (n : Int) := by omega
      have hmin : (min c (n - c)) + c ≤ n := by omega
      have HL1 : Hid ((zs (List.replicate (min c (n - c)) (-1))).length = Nat.min c (n - c)) := by show _ = _; simp [zs]
      have HF1 : Hid (c + (zs (List.replicate (min c (n - c)) (-1))).length ≤ (ones n c).length) := by show _ ≤ _; rw [hol.out c hc]; simp [zs]; omega
      have HP1 : Hid (∀ wq : World, wq.heap = wr.heap → ∀ j v, (zs (List.replicate (min c (n - c)) (-1)))[j]? = some v → wq.cell? ((⟨w.heap.size, 0, none⟩ : Addr).add j) = some v) := fun wq hwq j v hv => by
        have hadd : (⟨w.heap.size, 0, none⟩ : Addr).add j = ⟨w.heap.size, j, none⟩ := by unfold Addr.add; split <;> simp_all
        simp only [zs, List.map_replicate, List.getElem?_replicate] at hv
        split at hv
        · injection hv with hv
          subst hv
          rw [hadd, cell_of_row wq w.heap.size j _ 3 (0, 0) (by rw [hwq]; exact HS.out.1)]
          simp [ones, zs, List.getElem?_append, show j < c by omega]
        · cases hv
      go_wp2_with (fail)
      go_region_law (refine step_copy_splice (by rfl) (.tmp 41) (.tmp 44) 22 22 (by rfl) 3 Tryz.underlying22 HSZ.out (some ⟨w.heap.size, c, none⟩) (some ⟨w.heap.size, 0, none⟩) (n - c) (n - c) c n (by simp [Act.eval, Act.put]) (by simp [Act.eval, Act.put]) w.heap.size c (ones n c) 3 HS.out.1 (zs (List.replicate (min c (n - c)) (-1))) HL1.out (fun _ => ⟨rfl, _, rfl, HP1.out _ rfl⟩) HF1.out (H1C.out _) w.heap.size w (HS.out.2.drew) (Nat.le_refl _) ?_; intro w2 hg2 hB2)
      all_goals
        have HS2 : Hid (w2.heap[w.heap.size]? = some (.cells (ones n (c + min c (n - c))).toArray 3 (0, 0)) ∧ Below w.heap.size w w2) := by
          refine ⟨?_, hB2⟩
          have := hg2.out
          rw [ones_splice n c (min c (n - c)) (by omega)] at this
          exact this
        have hl2 : (zs (List.replicate (min c (n - c)) (-1))).length = min c (n - c) := HL1.out
        rw [hl2]
        have hwr : IntKind.i64.wrap ((c : Int) + ((min c (n - c) : Nat) : Int)) = ((c + min c (n - c) : Nat) : Int) := by rw [IntWalk.i64_in _ (by omega)]; rfl
        rw [hwr]
        obtain ⟨c', hc'⟩ : ∃ c', c' = c + min c (n - c) := ⟨_, rfl⟩
        rw [← hc'] at HS2 ⊢
        have hcc : c < c' := by omega
        have hcc2 : c' ≤ n := by omega
        clear hg2 hB2 hl2 hwr hc' HL1 HF1 HP1
        go_simp
        go_wp2_with (fail)
        go_roundw
        case rel => exact ⟨c', rfl, hcc2, by omega, HS2⟩
        case measure => simp [intOf]; omega
    · obtain rfl : c = n := by omega
      have hown : Hid (wr.ownsRow w.heap.size 3 1 (.slice (some ⟨w.heap.size, 0, none⟩) c c) c (zs (List.replicate c (-1)))) := by
        refine ⟨by simp [zs], .inr ⟨_, _, _, rfl, Nat.le_refl _, HS.out.1, Nat.le_refl _, by unfold maxLen; omega, by simp [hol.out c (Nat.le_refl _)], ?_⟩⟩
        simp [ones, zs]
      have HB := Lib.hid HS.out.2
      go_wp2_with (fail)
      go_ret
      exact ⟨⟨_, rfl, hown.out⟩, HB.out⟩

end Go.Proofs.YtbehihanhfmmhaaGreat
