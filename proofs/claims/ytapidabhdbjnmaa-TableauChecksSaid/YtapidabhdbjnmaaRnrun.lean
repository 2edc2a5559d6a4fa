/- A run of a call that is handed no memory: the call itself. -/
import Derived.Test.YtapidabhdbjnmaaRnzero
namespace Go.Proofs.Ytapidabhdbjnmaa
namespace Rn

variable {P : Program}

/-- The variables of the program that a run knows lie as it knows them. -/
def Laid (vars : List (Nat × List Value × TypeId)) (w : World) : Prop := ∀ x ∈ vars, w.heap[x.1]? = some (.cells x.2.1.toArray x.2.2 (0, 0))

def varsOk (P : Program) (vars : List (Nat × List Value × TypeId)) : Bool :=
  Nat.ble vars.length P.globals.size && vars.all fun x => Nat.blt x.1 vars.length && x.2.1.all flat

theorem start_next : ∀ (l : List (Nat × List Value × TypeId)), (startOf P l).next = P.globals.size
  | [] => rfl
  | (_, _, _) :: l => start_next l

theorem start_get : ∀ (l : List (Nat × List Value × TypeId)) (b : Nat) (x : Blk), (startOf P l).heap.get b = some x → b < most ∧ ∃ v ∈ l, v.1 = b ∧ x = .cells v.2.1 v.2.2 0 [] false
  | [], b, x, h => by
    have h : (T.nil : T Blk).get b = some x := h
    rw [T.get_nil] at h
    cases h
  | (g, cl, e) :: l, b, x, h => by
    have h : ((startOf P l).put g (some (.cells cl e 0 [] false))).heap.get b = some x := h
    rw [St.get_put] at h
    by_cases hc : g = b ∧ g < most
    · rw [if_pos hc] at h
      injection h with h
      exact ⟨hc.1 ▸ hc.2, (g, cl, e), by simp, hc.1, h.symm⟩
    · rw [if_neg hc] at h
      obtain ⟨k1, v, k2, k3⟩ := start_get l b x h
      exact ⟨k1, v, by simp [k2], k3⟩

def widthAt (w : World) (b : Nat) : Nat := match w.heap[b]? with
  | some (.cells c _ _) => c.size
  | _ => 0
def startPl (w : World) (n : Nat) : Pl := fun b => if b < n then some (b, widthAt w b, 0) else none
def startCtx (w : World) (n : Nat) : Ctx := ⟨w, fun _ => False, n, fun _ => True, fun _ => True, 0, fun _ => none⟩

theorem start_m {vars : List (Nat × List Value × TypeId)} (hv : varsOk P vars = true) {w : World} (hl : Laid vars w) : M (startCtx w vars.length) (startPl w vars.length) (startOf P vars) w := by
  unfold varsOk at hv
  rw [Bool.and_eq_true, List.all_eq_true] at hv
  obtain ⟨h1, h2⟩ := hv
  have h1 : vars.length ≤ P.globals.size := Nat.le_of_ble_eq_true h1
  have hpl : ∀ b z, startPl w vars.length b = some z → b < vars.length ∧ z = (b, widthAt w b, 0) := fun b z h => by
    unfold startPl at h
    split at h
    · rename_i hb
      injection h with h
      exact ⟨hb, h.symm⟩
    · cases h
  refine ⟨⟨rfl, rfl, rfl, Nat.le_refl _, fun _ _ _ => rfl⟩, fun b hb => ?_, ?_, fun g r z hg hp => ?_, fun b x hb => ?_, fun b1 b2 x1 x2 r s1 s2 g1 _ hlive => ?_, fun b1 b2 x1 x2 g1 _ hlive => ?_, fun b1 b2 x1 g1 hm => ?_, ⟨fun _ _ => trivial, fun b x hb => ⟨trivial, fun _ _ => trivial, fun _ _ _ => .inr trivial⟩⟩, Nat.zero_le _, fun b hb => absurd hb (Nat.not_lt_zero b)⟩
  · rw [start_next] at hb
    unfold startPl
    rw [if_neg (by omega)]
  · rw [start_next]; exact h1
  · obtain ⟨_, e⟩ := hpl g _ hp
    exact congrArg Prod.fst e
  · obtain ⟨hbm, v, k1, k2, k3⟩ := start_get vars b x hb
    subst k3
    have h3 := h2 v k1
    rw [Bool.and_eq_true, List.all_eq_true] at h3
    have hlt : v.1 < vars.length := blt h3.1
    have hw := hl v k1
    refine ⟨hbm, b, widthAt w b, .cells v.2.1.toArray v.2.2 (0, 0), ?_, fun h => (by cases h), by rw [← k2]; exact hw, .cells ?_ fun i u hu => ⟨u, by simpa using hu, .flat (h3.2 u (List.mem_of_getElem? hu))⟩⟩
    · unfold startPl
      rw [if_pos (by omega)]; rfl
    · unfold widthAt
      rw [← k2, hw]
  · obtain ⟨_, v, _, _, k3⟩ := start_get vars b1 x1 g1
    subst k3; cases hlive
  · obtain ⟨_, v, _, _, k3⟩ := start_get vars b1 x1 g1
    subst k3; cases hlive
  · obtain ⟨_, v, _, _, k3⟩ := start_get vars b1 x1 g1
    subst k3; cases hm

/-- A call that is handed values without addresses, and hands one back, comes to what its run comes to, and leaves what was there. -/
theorem run_ok (hz : Zeros P) (hmix : P.follows .mixedOrders = true) {orc : Orc} (ho : OrcOk P orc) {vars : List (Nat × List Value × TypeId)} (hv : varsOk P vars = true) {fuel : Nat} {f : FuncId} {args : List Value} (hargs : ∀ v ∈ args, flat v = true)
    {v : Value} {s' : St} (hr : runCall P orc vars fuel f args = some (v, s')) (hfl : flat v = true) (w : World) (hl : Laid vars w) :
    Calls P f args.toArray w fun e w' => e = .returned v ∧ w'.os = w.os ∧ w'.tape = w.tape ∧ w'.output = w.output ∧ w.heap.size ≤ w'.heap.size ∧ ∀ k, k < w.heap.size → w'.heap[k]? = w.heap[k]? := by
  have hex := (exec_ok hz ho (draw_ok hz ho hmix) fuel).1
  have hcall := call_ok hz ho hex vars.length
  have := hcall (startCtx w vars.length) (startPl w vars.length) (startOf P vars) w f args args.toArray v s' none 0 (start_m hv hl) ⟨by simp, fun i x x' h1 h2 => by
    have : x = x' := by simpa [h1] using h2
    subst this
    exact .flat (hargs x (List.mem_of_getElem? h1))⟩ (fun i hi => ⟨(widthAt w i, 0), if_pos hi⟩) hr
  refine (CallsIn.calls this fun k => ?_).mono fun e w' hR => ?_
  · exact room_wide k
  · obtain ⟨q, v', rfl, _, hm, hvr⟩ := hR
    rw [vr_eq hvr hfl]
    exact ⟨rfl, hm.keep.os, hm.keep.tape, hm.keep.output, hm.keep.size, fun k hk => hm.keep.block k hk fun h => h⟩

/-- No function is known without being run. -/
theorem orc_none : OrcOk P (fun _ _ => none) := fun f args v h => by cases h

def isBool (b : Bool) : Option (Value × St) → Bool
  | some (.bool c, _) => c == b
  | _ => false

theorem bool_of {r : Option (Value × St)} {b : Bool} (h : isBool b r = true) : ∃ s', r = some (.bool b, s') := by
  unfold isBool at h
  split at h
  · rename_i c s'
    exact ⟨s', by rw [eq_of_beq h]⟩
  · cases h

end Rn
end Go.Proofs.Ytapidabhdbjnmaa
