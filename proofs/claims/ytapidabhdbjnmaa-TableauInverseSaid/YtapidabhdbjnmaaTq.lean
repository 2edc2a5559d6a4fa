/- The walk over Insert. -/
import Derived.Test.YtapidabhdbjnmaaTp
namespace Go.Proofs.Ytapidabhdbjnmaa
open Go.RowKit

def up (F : List Nat) : List Int := F.map fun (n : Nat) => (n : Int)
theorem up_length (F : List Nat) : (up F).length = F.length := by simp [up]
theorem zs_up (F : List Nat) : zs (up F) = nats F := by simp [zs, up, nats]
theorem word_up {Z : List Int} (h : WordI Z) : ∃ F, Z = up F ∧ F.length ≤ 60 ∧ ∀ y ∈ F, y ≤ 1000 := by
  refine ⟨Z.map Int.toNat, ?_, by rw [List.length_map]; exact h.1, fun y hy => ?_⟩
  · unfold up
    rw [List.map_map]
    refine (List.map_id Z).symm.trans (List.map_congr_left fun x hx => ?_)
    have := (h.2 x hx).1
    show x = ((x.toNat : Nat) : Int)
    omega
  · obtain ⟨x, hx, rfl⟩ := List.mem_map.1 hy
    have := (h.2 x hx).2
    omega
theorem up_word {F : List Nat} (hl : F.length ≤ 60) (h : ∀ y ∈ F, y ≤ 1000) : WordI (up F) := by
  refine ⟨by rw [up_length]; exact hl, fun x hx => ?_⟩
  unfold up at hx
  obtain ⟨y, hy, rfl⟩ := List.mem_map.1 hx
  have := h y hy
  exact ⟨by omega, by omega⟩

set_option maxRecDepth 100000 in
set_option maxHeartbeats 1000000 in
theorem Insert_ok (F : List Nat) (v : Value) (w : World) (hr : Hid (Rd w v 1 F.length (nats F))) (hl : F.length ≤ 60) (hw : Hid (∀ y ∈ F, y ≤ 1000)) :
    Calls Try.prog 9 #[v] w fun e w' => (∃ vp vq, e = .returned (.tuple #[vp, vq, .int .i64 0]) ∧ RdN w' vp (T.pair F F.length).1 ∧ RdN w' vq (T.pair F F.length).2) ∧ Below w.heap.size w w' := by
  obtain ⟨a, cap, hv⟩ := hr.out.shape
  subst hv
  have HZ : Hid (Rd w (.slice a F.length cap) 1 (up F).length (zs (up F))) := by show Rd _ _ _ _ _; rw [up_length, zs_up]; exact hr.out
  have HWD := Lib.hid (up_word hl hw.out)
  have hIW := Lib.hid (isWord_is (up F) (.slice a F.length cap) true w HZ (by rw [up_length]; omega) ⟨fun _ => rfl, fun _ => HWD.out⟩)
  have hPO := Lib.hid (pairOf_is F (.slice a F.length cap) w hr hl)
  obtain ⟨n, hn⟩ : ∃ n, n = F.length := ⟨_, rfl⟩
  rw [← hn] at hIW hPO ⊢
  clear hn HZ HWD hr hl
  go_enter Try.func9, Try.ntmps9
  go_wp2_with (fail)
  refine hIW.out.mono ?_
  rintro e w1 ⟨rfl, hw1⟩
  subst hw1
  go_wp2_with (fail)
  refine hPO.out.mono ?_
  rintro e w2 ⟨vp, vq, vsp, vsq, rfl, hP, hQ, hD⟩
  have HE : Hid (RdN w2 vp (T.pair F n).1 ∧ RdN w2 vq (T.pair F n).2 ∧ Below w1.heap.size w1 w2) := ⟨hP.m.rd, hQ.m.rd, hP.m.below⟩
  obtain ⟨ap, cp, hvp, _⟩ := own_form hP.m.own
  obtain ⟨aq, cq, hvq, _⟩ := own_form hQ.m.own
  subst hvp hvq
  clear hP hQ hD
  go_wp2_with (fail)
  go_ret3
  exact ⟨⟨_, _, rfl, HE.out.1, HE.out.2.1⟩, HE.out.2.2⟩

set_option maxRecDepth 100000 in
theorem Insert_arg (Z : List Int) (v : Value) (w : World) (hr : Hid (Rd w v 1 Z.length (zs Z))) (hl : Z.length ≤ 1000000) (hn : Hid (¬ WordI Z)) :
    Calls Try.prog 9 #[v] w fun e w' => e = .returned (.tuple #[.slice none 0 0, .slice none 0 0, .int .i64 2]) ∧ w' = w := by
  obtain ⟨a, cap, hv⟩ := hr.out.shape
  subst hv
  go_enter Try.func9, Try.ntmps9
  go_wp2_with (fail)
  refine (isWord_is Z _ false w hr hl ⟨fun h => absurd h hn.out, fun h => by cases h⟩).mono ?_
  rintro e w1 ⟨rfl, hw1⟩
  subst hw1
  go_wp2_with (fail)
  go_ret3
  exact ⟨rfl, rfl⟩

end Go.Proofs.Ytapidabhdbjnmaa
