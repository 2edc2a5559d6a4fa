/- What every law ends in: run in the kernel. -/
import Derived.Test.YtapidabhdbjnmaaProg
import Derived.Test.YtapidabhdbjnmaaRnrun
import Derived.KernelRfl
import Derived.Below
namespace Go.Proofs.Ytapidabhdbjnmaa
open Go.RowKit

theorem awk_mixed : Try.prog.follows .mixedOrders = true := by kernel_rfl
theorem awk_zeros : Rn.zerosOk Try.prog = true := by kernel_rfl
theorem awk_vars : Rn.varsOk Try.prog [] = true := by kernel_rfl
theorem awk_run : Rn.isBool true (Rn.runCall Try.prog (fun _ _ => none) [] 100000 11 []) = true := by kernel_rfl
theorem awake_is (w : World) : Calls Try.prog 11 #[] w fun x w' => x = .returned (.bool true) ∧ Below w.heap.size w w' := by
  obtain ⟨s', hs⟩ := Rn.bool_of awk_run
  exact (Rn.run_ok (Rn.zeros_of awk_zeros) awk_mixed Rn.orc_none awk_vars (fun v h => by cases h) hs rfl w (fun x h => by cases h)).mono fun e w' h => ⟨h.1, h.2.1, h.2.2.1, h.2.2.2.1, h.2.2.2.2.1, h.2.2.2.2.2⟩

end Go.Proofs.Ytapidabhdbjnmaa
