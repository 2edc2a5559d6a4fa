/- A run of a call that is handed no memory: append, whole. -/
import Derived.Test.YtapidabhdbjnmaaRnl
namespace Go.Proofs.Ytapidabhdbjnmaa
namespace Rn

variable {P : Program} {p : Pl} {c : Ctx} {s s' : St} {w : World}

structure AppI (P : Program) (ts : Array TypeId) (elem : TypeId) (size : Nat) (z : Value) (zeros : Bool) (info : TypeInfo) (st xt : TypeId) (xd : TypeDesc) : Prop where
  t0 : ts[0]? = some st
  t1 : ts[1]? = some xt
  d0 : P.underlying st = some (.slice elem)
  d1 : P.underlying xt = some xd
  inf : P.info? elem = some info
  sz : info.size = size
  pos : 0 < size
  bytes : info.bytes ≤ 65536
  bpos : 0 < info.bytes
  zero : info.zero = some z
  zsize : z.cells.size = size
  kind : appKind xd = some zeros

theorem appInfo_ok {ts : Array TypeId} {elem : TypeId} {size : Nat} {z : Value} {zeros : Bool} (h : appInfo P ts = some (elem, size, z, zeros)) :
    ∃ info st xt xd, AppI P ts elem size z zeros info st xt xd := by
  unfold appInfo at h
  split at h
  · rename_i st xt h0 h1
    split at h
    · rename_i e xd hd0 hd1
      split at h
      · rename_i info hinf
        split at h
        · rename_i z0 hz0
          cases hb : (Nat.beq info.size 0 || Nat.blt maxSmall info.bytes || Nat.beq info.bytes 0 || !(Nat.beq z0.cells.size info.size)) with
          | true => rw [hb] at h; cases h
          | false =>
            rw [hb, cond_false] at h
            split at h
            case h_2 => cases h
            rename_i zeros0 hz1
            injection h with h
            injection h with e1 h
            injection h with e2 h
            injection h with e3 e4
            subst e1; subst e2; subst e3; subst e4
            simp only [Bool.or_eq_false_iff] at hb
            obtain ⟨⟨⟨b1, b2⟩, b3⟩, b4⟩ := hb
            refine ⟨info, st, xt, xd, h0, h1, hd0, hd1, hinf, rfl, ?_, ?_, ?_, hz0, ?_, hz1⟩
            · rcases Nat.eq_zero_or_pos info.size with h | h
              · rw [nbt h] at b1; cases b1
              · exact h
            · rcases Nat.lt_or_ge maxSmall info.bytes with h | h
              · rw [bltt h] at b2; cases b2
              · exact h
            · rcases Nat.eq_zero_or_pos info.bytes with h | h
              · rw [nbt h] at b3; cases b3
              · exact h
            · exact nb (by simpa using b4)
        · cases h
      · cases h
    · cases h
  · cases h

/-- What is appended: its number, its cells. -/
inductive News (P : Program) (w : World) (size : Nat) (z : Value) (zeros : Bool) (x' : Value) (n : Nat) (nw : Array Value) : Prop
  | src (hz : zeros = false) (h1 : (Builtin.lenOf x').run P w = .ok n w) (h2 : (Builtin.firstCells size n x').run P w = .ok nw w)
  | zeros (hz : zeros = true) (hx : x' = .int .i64 (n : Int)) (hn : n ≤ 65536) (hn1 : 0 < n) (hnw : nw = Builtin.zeroCells z.cells n)

theorem zeroV {elem : TypeId} {info : TypeInfo} {z : Value} (h : P.info? elem = some info) (hz : info.zero = some z) (w : World) : (zeroValue elem).run P w = .ok z w := by
  show ((typeInfo elem).bind _).run P w = _
  rw [run_bind_ok _ _ (rt h w)]
  show (match info.zero with | some v => Sem.pure v | none => unsupported _).run P w = _
  rw [hz]; rfl

theorem zeroCells_nil {z : Array Value} {n : Nat} (h : n * z.size = 0) : Builtin.zeroCells z n = #[] := by
  unfold Builtin.zeroCells
  rw [h]
  simp

/-- append's head: the number of what is appended, and the choice. -/
theorem run_append_in {ts : Array TypeId} {ty elem st xt : TypeId} {size : Nat} {z : Value} {zeros : Bool} {info : TypeInfo} {xd : TypeDesc} (hI : AppI P ts elem size z zeros info st xt xd)
    {base : Option Addr} {sLen cap n : Nat} {x' : Value} {nw : Array Value} (hN : News P w size z zeros x' n nw) (hc : sLen + n ≤ cap) {w' : World}
    (hst : ((match base with | some a => storeCells (a.add (sLen * size)) nw.toList | none => Sem.pure ()) : Sem Unit).run P w = .ok () w') :
    (Builtin.append_ ts ty #[.slice base sLen cap, x']).run P w = .ok (.slice base (sLen + n) cap) w' := by
  have hsz := hI.sz
  subst hsz
  cases hN with
  | src hz h1 h2 =>
    subst hz
    have hk := hI.kind
    cases base with
    | none =>
      injection hst with _ hw
      subst hw
      cases xd <;> first | (cases hk; done) | simp [Builtin.append_, hI.t0, hI.t1, ru hI.d0, ru hI.d1, rs hI.inf, h1, hc, h2]
    | some a =>
      have hst : (storeCells (a.add (sLen * info.size)) nw.toList).run P w = .ok () w' := hst
      cases xd <;> first | (cases hk; done) | simp [Builtin.append_, hI.t0, hI.t1, ru hI.d0, ru hI.d1, rs hI.inf, h1, hc, h2, hst]
  | zeros hz hx hn hn1 hnw =>
    subst hz
    have hk := hI.kind
    subst hx
    have hw : IntKind.i64.wrap (n : Int) = n := wrap_small (by omega) (by omega)
    have hneg : ¬ ((n : Int) < 0) := by omega
    have hbytes : ¬ ((281474976710656 : Int) < (n : Int) * (info.bytes : Int)) := by
      have h1 : (n : Int) * info.bytes ≤ 65536 * 65536 := Int.mul_le_mul (by omega) (by have := hI.bytes; omega) (by omega) (by omega)
      omega
    cases xd with
    | int k =>
      have h0 : ¬ n * info.size = 0 := fun h => by
        rcases Nat.mul_eq_zero.1 h with h | h
        · omega
        · have := hI.pos; omega
      cases base with
        | none =>
          injection hst with _ hww
          subst hww
          simp [Builtin.append_, hI.t0, hI.t1, ru hI.d0, ru hI.d1, rs hI.inf, rt hI.inf, asInt, asIntOf, hw, hneg, hbytes, hc, h0, zeroV hI.inf hI.zero]
        | some a =>
          have hst : (storeCells (a.add (sLen * info.size)) nw.toList).run P w = .ok () w' := hst
          rw [hnw] at hst
          simp [Builtin.append_, hI.t0, hI.t1, ru hI.d0, ru hI.d1, rs hI.inf, rt hI.inf, asInt, asIntOf, hw, hneg, hbytes, hc, h0, zeroV hI.inf hI.zero, hst]
    | _ => cases hk

theorem appendCap_ge {need : Nat} (hn : need ≤ 65536) (cap : Nat) (e : TypeId) (t : Nat) : need ≤ (Question.appendCap need cap e).cut t := by
  show need ≤ need + t % (2 ^ 63 - need)
  omega

theorem run_append_out {ts : Array TypeId} {ty elem st xt : TypeId} {size : Nat} {z : Value} {zeros : Bool} {info : TypeInfo} {xd : TypeDesc} (hI : AppI P ts elem size z zeros info st xt xd)
    {base : Option Addr} {sLen cap n : Nat} {x' : Value} {nw nw0 old : Array Value} (hN : News P w size z zeros x' n nw0) (hN' : News P { w with drawn := w.drawn + 1 } size z zeros x' n nw) (hc : ¬ sLen + n ≤ cap) (hs : sLen + n ≤ 65536)
    (ho : (Builtin.firstCells size sLen (.slice base sLen cap)).run P { w with drawn := w.drawn + 1 } = .ok old { w with drawn := w.drawn + 1 }) :
    ∃ newCap, sLen + n ≤ newCap ∧ (Builtin.append_ ts ty #[.slice base sLen cap, x']).run P w =
      .ok (.slice (some ⟨w.heap.size, 0, none⟩) (sLen + n) newCap) { w with drawn := w.drawn + 1, heap := w.heap.push (.cells (old ++ nw ++ Builtin.zeroCells z.cells (newCap - (sLen + n))) elem) } := by
  have hsz := hI.sz
  subst hsz
  refine ⟨(Question.appendCap (sLen + n) cap elem).cut (w.tape w.drawn (Question.appendCap (sLen + n) cap elem)), appendCap_ge hs _ _ _, ?_⟩
  have hcap := cap_le hs (show cap < sLen + n by omega)
  have hnext : ¬ (281474976710656 < Builtin.nextslicecap (sLen + n) cap * info.bytes) := by
    have h1 : Builtin.nextslicecap (sLen + n) cap * info.bytes ≤ 200000 * 65536 := Nat.mul_le_mul hcap hI.bytes
    omega
  have hmax : ¬ (IntKind.i64.max < (sLen : Int) + (n : Int)) := by
    show ¬ ((9223372036854775807 : Int) < _)
    omega
  have hbp : info.bytes ≠ 0 := by have := hI.bpos; omega
  have hroom : ∀ (m : Nat) (w : World), (askRoom m).run P w = .ok () w := fun m w => by
    unfold askRoom
    split <;> rfl
  have hforced : (Question.appendCap (sLen + n) cap elem).forced = false := rfl
  cases hN with
  | src hz h1 h2 =>
    subst hz
    cases hN' with
    | zeros hz' => cases hz'
    | src _ h1' h2' =>
    have hk := hI.kind
    cases xd <;> first | (cases hk; done) | simp [Builtin.append_, hI.t0, hI.t1, ru hI.d0, ru hI.d1, rs hI.inf, rt hI.inf, h1, hc, h2', ho, hnext, hmax, hbp, hroom, hforced, zeroV hI.inf hI.zero, run_newRow]
  | zeros hz hx hn hn1 _ =>
    subst hz
    cases hN' with
    | src hz' => cases hz'
    | zeros _ _ _ _ hnw =>
    have hk := hI.kind
    subst hx
    have hw : IntKind.i64.wrap (n : Int) = n := wrap_small (by omega) (by omega)
    have hneg : ¬ ((n : Int) < 0) := by omega
    have hbytes : ¬ ((281474976710656 : Int) < (n : Int) * (info.bytes : Int)) := by
      have h1 : (n : Int) * info.bytes ≤ 65536 * 65536 := Int.mul_le_mul (by omega) (by have := hI.bytes; omega) (by omega) (by omega)
      omega
    have h0 : ¬ n * info.size = 0 := fun h => by
      rcases Nat.mul_eq_zero.1 h with h | h
      · omega
      · have := hI.pos; omega
    cases xd with
    | int k => simp [Builtin.append_, hI.t0, hI.t1, ru hI.d0, ru hI.d1, rs hI.inf, rt hI.inf, asInt, asIntOf, hw, hneg, hbytes, hc, ho, h0, hnext, hmax, hbp, hroom, hforced, zeroV hI.inf hI.zero, run_newRow, hnw]
    | _ => cases hk

end Rn
end Go.Proofs.Ytapidabhdbjnmaa
