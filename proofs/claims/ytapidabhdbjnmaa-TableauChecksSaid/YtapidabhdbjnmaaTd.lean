/- The walk over the reference's Copy. -/
import Derived.Test.YtapidabhdbjnmaaTc
namespace Go.Proofs.Ytapidabhdbjnmaa
open Go.RowKit

/-- What a function that makes rows returns. -/
def RetTb (w : World) (Ms : List (List Nat)) (x : Ending) (w' : World) : Prop := ∃ v' vs, x = .returned v' ∧ Tab w w' v' vs Ms
theorem rd_cells {w : World} {a : Option Addr} {n cap m : Nat} {X : List Nat} (h : Rd w (.slice a n cap) 1 m (nats X)) (h0 : m ≠ 0) : ∃ b, a = some ⟨b, 0, none⟩ ∧ n = m ∧ b < w.heap.size ∧ ∀ j u, (nats X)[j]? = some u → w.cell? ((⟨b, 0, none⟩ : Addr).add j) = some u := by
  obtain ⟨_, a', cap', e, _, h4⟩ := h
  injection e with e e1 e2
  subst e e1 e2
  rcases h4 with h4 | ⟨b, rfl, hb, hc⟩
  · exact absurd h4 h0
  · exact ⟨b, rfl, rfl, hb, fun j u hu => by rw [add_off, Nat.zero_add]; exact hc j u hu⟩

set_option maxRecDepth 100000 in
set_option maxHeartbeats 2000000 in
theorem rCopy_is (Ms : List (List Nat)) (v : Value) (w : World) (hr : Hid (RdN w v Ms)) (hl : Ms.length ≤ 100) (hls : Hid (∀ X ∈ Ms, X.length ≠ 0 ∧ X.length ≤ 100)) :
    Calls Try.prog 37 #[v] w (RetTb w Ms) := by
  obtain ⟨a0, cap0, hv0⟩ : ∃ a c, v = .slice a Ms.length c := by obtain ⟨vs, h, _⟩ := hr.out; exact h.shape
  subst hv0
  obtain ⟨n, hn⟩ : ∃ n, n = Ms.length := ⟨_, rfl⟩
  have HR : Hid (RdN w (.slice a0 n cap0) Ms) := by show RdN _ _ _; rw [hn]; exact hr.out
  rw [← hn] at hl ⊢
  have HN := Lib.hid hn
  clear hn hr
  obtain ⟨i0, hi, hz0, hz1, hz2⟩ := info_parts Try.infoZ
  obtain ⟨i1, hi1, hy0, hy1, hy2⟩ := info_parts Try.infoS
  have HT0 : Hid (Tab w w (.slice none 0 0) [] (Ms.take 0)) := Tab.nil (Below.refl _ _)
  go_enter Try.func37, Try.ntmps37
  go_wp2_with (fail)
  go_loopw [3, 4] (fun ov iv wx => ∃ (i cp : Nat) (a : Option Addr) (vs : List Value), ov = .slice a i cp ∧ iv = .int .i64 i ∧ i ≤ n ∧ Hid (Tab w wx (.slice a i cp) vs (Ms.take i))) (fun _ iv _ => n - (intOf iv).toNat)
  case atStart => exact ⟨0, 0, none, [], rfl, rfl, by omega, HT0⟩
  case round =>
    obtain ⟨i, cp, a, vs, rfl, rfl, hi2, HT⟩ := hrel
    obtain ⟨Tk, hTk⟩ : ∃ Tk, Tk = Ms.take i := ⟨_, rfl⟩
    rw [← hTk] at HT
    have HTL : Hid (Tk.length = i) := by show _ = _; rw [hTk, List.length_take]; have := HN.out; omega
    have HTE := Lib.hid hTk
    clear hTk
    by_cases hin : i < n
    · have hiM : i < Ms.length := by rw [← HN.out]; exact hin
      obtain ⟨b, x, c, e, hb, c1, r1⟩ := (HR.out.below HT.out.m.below).rowAt i hiM
      subst e
      obtain ⟨X, hX⟩ : ∃ X, X = Ms.getD i [] := ⟨_, rfl⟩
      rw [← hX] at c1 r1
      have hXo := hls.out X (by rw [hX]; simp [List.getD, hiM])
      obtain ⟨m, hm⟩ : ∃ m, m = X.length := ⟨_, rfl⟩
      rw [← hm] at c1 r1 hXo
      obtain ⟨bx, rfl, _, hbx, hcx⟩ := rd_cells r1 hXo.1
      have HC := Lib.hid hcx
      have H1 := Lib.hid (nats_one X)
      have HXL : Hid ((nats X).length = m * 1) := by show _ = _; rw [nats_length, hm]; omega
      have HM := Lib.hid hm
      have HTK : Hid (Ms.take (i + 1) = Tk ++ [X]) := by show _ = _; rw [HTE.out, List.take_succ_eq_append_getElem hiM, hX]; simp [List.getD, hiM]
      have hm100 : m ≤ 100 := hXo.2
      have hmc : m ≤ c := by
        obtain ⟨_, _, _, e, h9, _⟩ := r1
        injection e with _ _ e
        omega
      have hin1 : (i : Int) < (n : Int) := by omega
      clear hX hXo hm hcx r1
      go_wp2_with ((at_builtin; refine wpList_append_own_at _ rfl _ _ 22 rfl wr.heap.size 3 i0 (.int .i64 0) 1 8 Try.underlying22 hi hz0 hz1 hz2 rfl (by decide) _ 0 [] rfl (World.ownsRow_nil _ _ _ _) ⟨bx, 0, none⟩ m c (nats X) rfl HXL.out HC.out H1.out (by unfold maxLen; omega) (by omega) (Nat.le_refl _) ?_))
      intro v4 w4 hown4 hgrow4 _ hat4
      have hB4 : Below wr.heap.size wr w4 := (Below.refl _ _).grown hgrow4 (Nat.le_refl _) (by intro g hg; simp [Value.ownBlock] at hg)
      have HT4 : Hid (Tab w w4 (.slice a i cp) vs Tk) := HT.out.low hB4
      have HO4 : Hid (w4.ownsRow w.heap.size 3 1 v4 X.length (nats X)) := by
        have h9 := own_base hown4 HT.out.m.below.size
        rw [HM.out] at h9
        exact h9
      have HF4 : Hid (∀ g, v4.ownBlock = some g → ∀ t ∈ vs, t.ownBlock ≠ some g) := fun g hg t ht e => by
        have h8 := (hown4.lt g hg).1
        have h9 := HT.out.lt t ht g e
        omega
      obtain ⟨a4, c4, hv4, _⟩ := own_form HO4.out
      subst hv4
      clear hown4 hgrow4 hat4 hB4
      go_wp2_with ((at_builtin; refine wpList_append_own _ rfl _ _ 24 rfl w.heap.size 22 i1 (.slice none 0 0) 1 24 Try.underlying24 hi1 hy0 hy1 hy2 rfl (by decide) _ _ _ rfl (HT4.out.m.own.alloc _) ⟨w4.heap.size, 0, none⟩ 1 1 [.slice a4 X.length c4] rfl rfl (cell_one_new _ _ _) (by intro u hu; simp at hu; rw [hu]; rfl) (by unfold maxLen; have := HTL.out; omega) (by have := HTL.out; omega) (by simp; have h8 := HT4.out.m.below.size; omega) ?_))
      intro v5 w5 hown5 hgrow5 _
      have HT5 : Hid (Tab w w5 v5 (vs ++ [.slice a4 X.length c4]) (Ms.take (i + 1))) := by
        show Tab _ _ _ _ _
        rw [HTK.out]
        exact HT4.out.push HO4.out HF4.out hown5 hgrow5
      obtain ⟨a5, c5, hv5, _⟩ := own_form hown5
      subst hv5
      rw [HTL.out] at HT5 ⊢
      clear hown5 hgrow5
      go_wp2_with (fail)
      go_roundw
      case rel => exact ⟨i + 1, c5, a5, _, rfl, by go_num, by omega, HT5⟩
      case measure => simp [intOf]; omega
    · obtain rfl : n = i := by omega
      have HE : Hid (Tab w wr (.slice a n cp) vs Ms) := by
        have h1 := HT.out
        rw [HTE.out, List.take_of_length_le (by rw [← HN.out]; omega)] at h1
        exact h1
      clear hin
      go_wp2_with (fail)
      go_ret
      exact ⟨_, vs, rfl, HE.out⟩

end Go.Proofs.Ytapidabhdbjnmaa
