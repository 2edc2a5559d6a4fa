/- A run of a call that is handed no memory: what it computes is computed here, over blocks with names of their own; the definitions. -/
import Derived.RangeFuncLeaves
import Derived.RangeFuncIn
import Derived.LoopNIn
import Derived.OrdersIn
namespace Go.Proofs.Ytapidabhdbjnmaa
namespace Rn
noncomputable section

/-! ### Maps from numbers -/

inductive T (α : Type) where
  | nil
  | node (l : T α) (v : Option α) (r : T α)
  deriving Inhabited

def T.val {α : Type} : T α → Option α
  | .nil => none
  | .node _ v _ => v

/-- 'if', by the rule of Bool itself. -/
def bi {α : Type} (b : Bool) (x y : α) : α := Bool.rec (motive := fun _ => α) y x b
theorem bi_true {α : Type} (x y : α) : bi true x y = x := rfl
theorem bi_false {α : Type} (x y : α) : bi false x y = y := rfl

/-- The way to a number. -/
def path (f : Nat) : Nat → List Bool := Nat.rec (motive := fun _ => Nat → List Bool) (fun _ => []) (fun _ ih i => bi (Nat.beq i 0) [] (Nat.beq (i % 2) 1 :: ih ((i - 1) / 2))) f
def getS {α : Type} (b : Bool) (ih : T α → Option α) (t : T α) : Option α := T.rec (motive := fun _ => Option α) none (fun l _ r _ _ => bi b (ih l) (ih r)) t
def getP {α : Type} (p : List Bool) : T α → Option α := List.rec (motive := fun _ => T α → Option α) (fun t => t.val) (fun b _ ih t => getS b ih t) p
def setE {α : Type} (x : Option α) (t : T α) : T α := T.rec (motive := fun _ => T α) (.node .nil x .nil) (fun l _ r _ _ => .node l x r) t
def setS {α : Type} (b : Bool) (ih : T α → T α) (t : T α) : T α := T.rec (motive := fun _ => T α) (bi b (.node (ih .nil) none .nil) (.node .nil none (ih .nil))) (fun l v r _ _ => bi b (.node (ih l) v r) (.node l v (ih r))) t
def setP {α : Type} (x : Option α) (p : List Bool) : T α → T α := List.rec (motive := fun _ => T α → T α) (setE x) (fun b _ ih t => setS b ih t) p

def most : Nat := 1099511627776
def T.get {α : Type} (t : T α) (i : Nat) : Option α := bi (Nat.blt i most) (getP (path 40 i) t) none
def T.set {α : Type} (x : Option α) (t : T α) (i : Nat) : T α := bi (Nat.blt i most) (setP x (path 40 i) t) t

def nth {α : Type} (l : List α) : Nat → Option α := List.rec (motive := fun _ => Nat → Option α) (fun _ => none) (fun x _ ih i => bi (Nat.beq i 0) (some x) (ih (i - 1))) l

def setAt {α : Type} (x : α) : List α → Nat → List α
  | [], _ => []
  | y :: l, i => bif Nat.beq i 0 then x :: l else y :: setAt x l (i - 1)

/-! ### Values without addresses -/

def flatStep (r : Value → Bool) : Value → Bool
  | .bool _ | .int .. | .float .. | .complex .. | .string _ | .nilFunc | .nilIface => true
  | .pointer a => a.isNone
  | .map a => a.isNone
  | .chan a => a.isNone
  | .slice a l c => a.isNone && Nat.beq l 0 && Nat.beq c 0
  | .func fn first captured => (match fn with | .yield _ => false | _ => true) && first.toList.all r && captured.toList.all r
  | .iface _ v => r v
  | .agg cs => cs.toList.all r
  | .tuple cs => cs.toList.all r
def flatN : Nat → Value → Bool
  | 0, _ => false
  | n + 1, v => flatStep (flatN n) v
def flat (v : Value) : Bool := flatN 5 v

/-! ### The temporaries -/

structure Tm where
  n : Nat
  g : Nat
  t : T Value
  deriving Inhabited

/-- The address of a variable of which nothing is known. -/
def poison : Value := .chan (some 0)

def orUndef (r : Option Value) : Value := Option.rec (motive := fun _ => Value) undef (fun v => v) r
def Tm.get (tm : Tm) (i : Nat) : Value := orUndef (tm.t.get i)
def Tm.putAt (tm : Tm) (i : Nat) (v : Value) : Option Tm :=
  match tm with
  | ⟨n, g, t⟩ => bi (Nat.blt i n) (some ⟨n, g, T.set (some v) t i⟩) none
def Tm.put (tm : Tm) (d : Option Tmp) (v : Value) : Option Tm :=
  match d with
  | none => some tm
  | some i => tm.putAt i v
def Tm.eval (tm : Tm) : Operand → Value
  | .tmp i => tm.get i
  | .const v => v
  | .global g => bi (Nat.blt g tm.g) (.pointer (some ⟨g, 0, none⟩)) poison
  | .func f => .func (.func f) #[] #[]
def Tm.fill : List Value → Tm → Nat → Option Tm
  | [], tm, _ => some tm
  | v :: vs, tm, i => match tm.put (some i) v with
    | some tm' => Tm.fill vs tm' (i + 1)
    | none => none
def Tm.begin (n g : Nat) (args : List Value) : Option Tm := bi (Nat.blt n 1000000) (Tm.fill args ⟨n, g, .nil⟩ 0) none

/-! ### Memory -/

structure LoopA where
  state : LoopState
  pending : Option Code
  tm : Tm
  params : List Tmp
  assign : Code
  body : Code
  defers : Nat

def LoopA.to (r : LoopA) (st : LoopState) (pe : Option Code) : LoopA :=
  match r with
  | ⟨_, _, tm, ps, a, b, d⟩ => ⟨st, pe, tm, ps, a, b, d⟩

inductive Blk where
  | cells (c : List Value) (e : TypeId) (es : Nat) (olds : List Nat) (live : Bool)
  | map (es : List MapEntry) (clock : Nat)
  | str (s : ByteArray) (pos : Nat)
  | loop (l : LoopA)
  | deferred

structure St where
  heap : T Blk
  next : Nat

def St.put (s : St) (b : Nat) (x : Option Blk) : St :=
  match s with
  | ⟨h, n⟩ => ⟨T.set x h b, n⟩
def St.new (s : St) (x : Blk) : St :=
  match s with
  | ⟨h, n⟩ => ⟨T.set (some x) h n, n + 1⟩
def St.drop (s : St) : List Nat → St
  | [] => s
  | b :: l => (s.put b none).drop l

def St.cell (s : St) (a : Addr) : Option Value :=
  match a.spot with
  | some _ => none
  | none => match s.heap.get a.block with
    | some (.cells c _ _ _ _) => nth c a.off
    | _ => none

def St.setCell (s : St) (a : Addr) (v : Value) : Option St :=
  match a.spot with
  | some _ => none
  | none => match s.heap.get a.block with
    | some (.cells c e es olds true) => bif Nat.blt a.off c.length then some ((s.drop olds).put a.block (some (.cells (setAt v c a.off) e es [] true))) else none
    | _ => none

def oneCellB : Value → Bool
  | .agg _ | .tuple _ => false
  | _ => true

/-- An operation's tree, carried out over this memory. -/
def arun {α : Type} (P : Program) : Sem α → St → Option (α × St)
  | .pure a, s => some (a, s)
  | .load _ a k, s => match s.cell a with
    | some v => arun P (k v) s
    | none => none
  | .store _ a v k, s => bif oneCellB v then (match s.setCell a v with
    | some s' => arun P k s'
    | none => none) else none
  | .new (.cells c e fz) k, s => bif Nat.beq fz.1 0 && Nat.beq fz.2 0 then arun P (k s.next) (s.new (.cells c.toList e 0 [] true)) else none
  | .new (.map es clock) k, s => (match es.toList with | [] => arun P (k s.next) (s.new (.map [] clock)) | _ => none)
  | .new (.stringIter b pos) k, s => arun P (k s.next) (s.new (.str b pos))
  | .new _ _, _ => none
  | .getObj r k, s => match s.heap.get r with
    | some (.map es clock) => arun P (k (.map es.toArray clock)) s
    | some (.str b pos) => arun P (k (.stringIter b pos)) s
    | _ => none
  | .setObj r (.map es clock) k, s => match s.heap.get r with
    | some (.map _ _) => arun P k (s.put r (some (.map es.toList clock)))
    | _ => none
  | .setObj r (.stringIter b pos) k, s => match s.heap.get r with
    | some (.str _ _) => arun P k (s.put r (some (.str b pos)))
    | _ => none
  | .setObj _ _ _, _ => none
  | .frozen a k, s => match s.heap.get a.block with
    | some (.cells ..) => arun P (k false) s
    | _ => none
  | .choose q k, s => bif q.forced then arun P (k 0) s else none
  | .program k, s => arun P (k P) s
  | .mark _ k, s => arun P k s
  | .shape _ _, _ | .freeze _ _ _, _ | .sys _ _, _ | .halt _, _ => none

/-- A tree that asks for nothing of memory. -/
def pureRun (P : Program) {α : Type} : Sem α → Option α
  | .pure a => some a
  | .program k => pureRun P (k P)
  | .mark _ k => pureRun P k
  | .choose q k => bif q.forced then pureRun P (k 0) else none
  | _ => none

/-- A tree that only reads. -/
def rrun (P : Program) {α : Type} : Sem α → St → Option α
  | .pure a, _ => some a
  | .load _ a k, s => match s.cell a with
    | some v => rrun P (k v) s
    | none => none
  | .getObj r k, s => match s.heap.get r with
    | some (.map es clock) => rrun P (k (.map es.toArray clock)) s
    | _ => none
  | .choose q k, s => bif q.forced then rrun P (k 0) s else none
  | .program k, s => rrun P (k P) s
  | .mark _ k, s => rrun P k s
  | _, _ => none

/-- A tree that makes one block, and knows nothing of the others. -/
def frun (P : Program) {α : Type} : Sem α → Nat → Option (Blk × α)
  | .new (.cells c e fz) k, id => bif Nat.beq fz.1 0 && Nat.beq fz.2 0 then (match pureRun P (k id) with | some a => some (.cells c.toList e 0 [] true, a) | none => none) else none
  | .new (.map es clock) k, id => (match es.toList, pureRun P (k id) with | [], some a => some (.map [] clock, a) | _, _ => none)
  | .choose q k, id => bif q.forced then frun P (k 0) id else none
  | .program k, id => frun P (k P) id
  | .mark _ k, id => frun P k id
  | _, _ => none

/-! ### Slices whose room is not known: 'K + m': at least m -/

def K : Nat := 4611686018427387904

def consO (v : Option Value) (l : Option (List Value)) : Option (List Value) :=
  match v, l with
  | some v, some l => some (v :: l)
  | _, _ => none
def loadN (s : St) (a : Addr) (i n : Nat) : Option (List Value) :=
  Nat.rec (motive := fun _ => Nat → Option (List Value)) (fun _ => some []) (fun _ ih i => consO (s.cell (a.add i)) (ih (i + 1))) n i
def storeK (r : Option St) (k : St → Option St) : Option St :=
  match r with
  | some s' => k s'
  | none => none
def storeN (s : St) (a : Addr) (l : List Value) (i : Nat) : Option St :=
  List.rec (motive := fun _ => St → Nat → Option St) (fun s _ => some s) (fun v _ ih s i => bi (oneCellB v) (storeK (s.setCell (a.add i) v) fun s' => ih s' (i + 1)) none) l s i

def srcCells (s : St) (size : Nat) : Value → Option (Nat × List Value)
  | .slice (some a) n _ => match loadN s a 0 (n * size) with
    | some l => some (n, l)
    | none => none
  | .slice none n _ => bif Nat.beq n 0 then some (0, []) else none
  | .string b => bif Nat.beq size 1 then some (b.size, ((b.extract 0 b.size).data.map fun x => Value.int .u8 x.toNat).toList) else none
  | _ => none

def maxSmall : Nat := 65536

/-- What may be appended: zeros, or the elements of a slice or a string. -/
def appKind : TypeDesc → Option Bool
  | .int _ => some true
  | .slice _ => some false
  | .string => some false
  | _ => none

/-- The element's type, how many cells it has, its zero, and whether zeros are appended. -/
def appInfo (P : Program) (argTypes : Array TypeId) : Option (TypeId × Nat × Value × Bool) :=
  match argTypes[0]?, argTypes[1]? with
  | some st, some xt => match P.underlying st, P.underlying xt with
    | some (.slice elem), some xd =>
      (match P.info? elem with
      | some info => (match info.zero with
        | some z => bif Nat.beq info.size 0 || Nat.blt maxSmall info.bytes || Nat.beq info.bytes 0 || !(Nat.beq z.cells.size info.size) then none else (match appKind xd with
          | some zeros => some (elem, info.size, z, zeros)
          | none => none)
        | none => none)
      | none => none)
    | _, _ => none
  | _, _ => none

/-- Room enough: the cells behind are written. -/
def appendIn (size : Nat) (base : Option Addr) (sLen sCap need : Nat) (news : List Value) (s : St) : Option (Value × St) :=
  match base with
  | none => bif news.isEmpty then some (.slice none need sCap, s) else none
  | some a => match storeN s (a.add (sLen * size)) news 0 with
    | some s' => some (.slice base need sCap, s')
    | none => none

/-- No room: a new block. -/
def appendNew (elem : TypeId) (size : Nat) (sv : Value) (need : Nat) (news : List Value) (s : St) : Option (Value × St) :=
  match srcCells s size sv with
  | some (_, old) => some (.slice (some ⟨s.next, 0, none⟩) need (K + need), s.new (.cells (old ++ news) elem size [] true))
  | none => none

/-- Room or no room: the old block is only read from now on. -/
def appendMay (elem : TypeId) (size : Nat) (a : Addr) (sLen need : Nat) (news : List Value) (s : St) : Option (Value × St) :=
  match s.heap.get a.block with
  | some (.cells c e es olds true) =>
    bif Nat.beq es size && Nat.beq (sLen * size) c.length && Nat.beq a.off 0 && a.spot.isNone && Nat.beq e elem then
      some (.slice (some ⟨s.next, 0, none⟩) need (K + need), (s.put a.block (some (.cells c e es [] false))).new (.cells (c ++ news) elem size (a.block :: olds) true))
    else none
  | _ => none

def rowZ (z : Array Value) (n : Nat) : Array Value := (Array.range n).map (z[· % z.size]!)

def newsA (s : St) (size : Nat) (z : Value) (zeros : Bool) (xv : Value) : Option (Nat × List Value) :=
  bif zeros then (match xv with
    | .int .i64 n => bif decide (0 < n) && Nat.ble n.toNat maxSmall then some (n.toNat, (rowZ z.cells (n.toNat * z.cells.size)).toList) else none
    | _ => none)
  else srcCells s size xv

def appendA (P : Program) (argTypes : Array TypeId) (sv xv : Value) (s : St) : Option (Value × St) :=
  match appInfo P argTypes with
  | none => none
  | some (elem, size, z, zeros) => match newsA s size z zeros xv with
    | none => none
    | some (n, news) => match sv with
      | .slice base sLen sCap =>
        bif Nat.blt maxSmall (sLen + n) || !(news.all oneCellB) then none
        else bif Nat.blt sCap K then
          (bif Nat.ble (sLen + n) sCap then appendIn size base sLen sCap (sLen + n) news s else appendNew elem size sv (sLen + n) news s)
        else bif Nat.ble (sLen + n) (sCap - K) then appendIn size base sLen sCap (sLen + n) news s
        else match base with
          | some a => appendMay elem size a sLen (sLen + n) news s
          | none => none
      | _ => none

def boundA (v : Value) (y : Nat) : Option Nat :=
  match v with
  | .int _ i => bif decide (0 ≤ i) && Nat.ble i.toNat y then some i.toNat else none
  | _ => none

/-! ### Operations -/

inductive Nx where
  | value (v : Value)
  | enter (f : FuncId) (args : List Value)
  | yield (l : Nat) (args : List Value)

def constOk : Operand → Bool
  | .const v => flat v
  | _ => true
def constsOk (o : Op) : Bool := o.operands.toList.all constOk

def allFlat (tm : Tm) (o : Op) : Bool := o.operands.toList.all fun x => flat (tm.eval x)

def flatOp (P : Program) (o : Oper) (tm : Tm) : Option Value :=
  bif allFlat tm o.op then (match pureRun P (execOp tm.eval o) with
    | some (.value v) => bif flat v then some v else none
    | _ => none) else none

/-- '==' where an operand may bear an address. -/
def eqA (d : TypeDesc) (x y : Value) : Option Bool :=
  match d, x, y with
  | .pointer _, .pointer none, .pointer b => some b.isNone
  | .pointer _, .pointer (some _), .pointer none => some false
  | .interface _, .nilIface, .iface _ _ => some false
  | .interface _, .iface _ _, .nilIface => some false
  | .slice _, .slice none _ _, .slice b _ _ => some b.isNone
  | .slice _, .slice (some _) _ _, .slice none _ _ => some false
  | .map _ _, .map none, .map b => some b.isNone
  | .map _ _, .map (some _), .map none => some false
  | .func _ _ _, .nilFunc, .func _ _ _ => some false
  | .func _ _ _, .func _ _ _, .nilFunc => some false
  | _, _, _ => none

def keysFlat (es : List MapEntry) : Bool := es.all fun e => flat e.key

/-- Where the key lies among the entries. -/
def findA (P : Program) (kt : TypeId) (k : Value) (es : List MapEntry) : Option (Option Nat) :=
  match pureRun P (Instr.findKey kt k (es.map fun e => { e with val := undef })) with
  | some r => some (r.map (·.1))
  | none => none

def entriesA (m : Value) (s : St) : Option (List MapEntry) :=
  match m with
  | .map none => some []
  | .map (some r) => (match s.heap.get r with
    | some (.map es _) => some es
    | _ => none)
  | _ => none

def lookupA (P : Program) (t : TypeId) (m k : Value) (ok : Bool) (s : St) : Option Value :=
  match P.underlying t with
  | some (.map kt et) =>
    (match entriesA m s with
    | none => none
    | some es => bif keysFlat es && flat k then
      (match pureRun P (Instr.checkKey es.isEmpty 10000 kt k), findA P kt k es with
      | some _, some (some i) => (match nth es i with
        | some e => some (bif ok then .tuple #[e.val, .bool true] else e.val)
        | none => none)
      | some _, some none => (match pureRun P (zeroValue et) with
        | some z => some (bif ok then .tuple #[z, .bool false] else z)
        | none => none)
      | _, _ => none) else none)
  | _ => none

def updateA (P : Program) (t : TypeId) (m k v : Value) (s : St) : Option St :=
  match P.underlying t, m with
  | some (.map kt _), .map (some r) => (match s.heap.get r with
    | some (.map es clock) => bif keysFlat es && flat k then
      (match pureRun P (Instr.checkKey false 10000 kt k), findA P kt k es with
      | some _, some (some i) => (match nth es i with
        | some e => (match pureRun P (Instr.keyThatStays e.key k) with
          | some k' => some (s.put r (some (.map (setAt { e with key := k', val := v } es i) clock)))
          | none => none)
        | none => none)
      | some _, some none => some (s.put r (some (.map (es ++ [{ key := k, val := v, born := clock }]) (clock + 1))))
      | _, _ => none) else none
    | _ => none)
  | _, _ => none

/-- What is in front: 0 reads at most; 1 may write; 2 makes one new block. -/
def kindCall : Callee → Nat
  | .builtin .len | .builtin .min | .builtin .max | .builtin .cap => 0
  | _ => 1
def kindConv (P : Program) (d : TypeId) : Nat :=
  match P.underlying d with
  | some (.slice _) => 1
  | _ => 0
def kind (P : Program) : Op → Nat
  | .alloc _ | .box .. | .buildSlice .. | .makeMap .. | .makeSlice .. => 2
  | .store .. | .mapUpdate .. | .insert .. | .range .. | .next .. => 1
  | .convert _ d _ => kindConv P d
  | .call c => kindCall c.callee
  | _ => 0

def isByte (x : Value) : Bool := match x with | .int .u8 _ => true | _ => false

def bytesTree (cs : Array Value) : Sem Value := do
  let mut s := ByteArray.empty
  for c in cs do
    let .int .u8 n := c | stuck "bytesToString: byte expected"
    s := s.push (UInt8.ofNat n.toNat)
  pure (.string s)

def isU8 (P : Program) (t : TypeId) : Bool := match P.underlying t with | some (.int .u8) => true | _ => false

/-- '&x[i]' -/
def indexA (P : Program) (t : TypeId) (x i : Value) : Option Value :=
  match P.underlying t, x, i with
  | some (.slice e), .slice (some a) n _, .int _ j => bif decide (0 ≤ j) && Nat.blt j.toNat n then (match P.info? e with
    | some f => some (.pointer (some (a.add (j.toNat * f.size))))
    | none => none) else none
  | some (.array n e), .pointer (some a), .int _ j => bif decide (0 ≤ j) && Nat.blt j.toNat n then (match P.info? e with
    | some f => some (.pointer (some (a.add (j.toNat * f.size))))
    | none => none) else none
  | _, _, _ => none

/-- The bounds of 'x[lo:hi:mx]': low, high, room. -/
def boundsA (len cap : Nat) (lo hi mx : Option Value) : Option (Nat × Nat × Nat) :=
  match (match mx with | some v => boundA v cap | none => some cap) with
  | none => none
  | some m => match (match hi, mx with | some v, _ => boundA v m | none, none => some len | none, some _ => none) with
    | none => none
    | some h => match (match lo with | some v => boundA v h | none => some 0) with
      | none => none
      | some l => some (l, h, m)

/-- 'x[lo:hi:mx]' of a slice whose room is known, or of an array. -/
def sliceX (P : Program) (t : TypeId) (x : Value) (lo hi mx : Option Value) : Option Value :=
  match P.underlying t, x with
  | some (.slice e), .slice a len cap => (match P.info? e, boundsA len cap lo hi mx with
    | some f, some (l, h, m) => bif Nat.blt m K then some (.slice (bif Nat.beq m l then a else a.map (·.add (l * f.size))) (h - l) (m - l)) else none
    | _, _ => none)
  | some (.array n e), .pointer (some a) => (match P.info? e, boundsA n n lo hi mx with
    | some f, some (l, h, m) => bif Nat.blt m K then some (.slice (some (bif Nat.beq m l then a else a.add (l * f.size))) (h - l) (m - l)) else none
    | _, _ => none)
  | _, _ => none

/-- 'x[lo:hi:mx]' of a slice whose room is not known: it is 'room' at least. -/
def growsBy (s : St) (b : Nat) : Nat :=
  match s.heap.get b with
  | some (.cells _ _ es _ _) => es
  | _ => 0
def sliceA (P : Program) (s : St) (t : TypeId) (a : Addr) (len room : Nat) (lo hi mx : Option Value) : Option Value :=
  match P.underlying t with
  | some (.slice e) => (match P.info? e, boundsA len room lo hi mx with
    | some f, some (l, h, m) => (match mx with
      | some _ => bif Nat.blt m K && Nat.blt 0 room then some (.slice (some (bif Nat.beq m l then a else a.add (l * f.size))) (h - l) (m - l)) else none
      | none => bif Nat.beq (growsBy s a.block) f.size && Nat.blt 0 f.size then some (.slice (some (a.add (l * f.size))) (h - l) (K + (room - l))) else none)
    | _, _ => none)
  | _ => none

/-- A struct or an array, from its parts. -/
def buildA (P : Program) (t : TypeId) (parts : Array (Nat × Value)) : Option Value :=
  match pureRun P (zeroValue t), P.underlying t with
  | some z, some (.struct fields) => (match pureRun P (fields.mapM fun f => do pure (f.offset, ← sizeOf f.type)) with
    | some places => (match Instr.fill (places[·]?) z.cells parts.toList with
      | some cells => some (.agg cells)
      | none => none)
    | none => none)
  | some z, some (.array _ e) => (match P.info? e with
    | some f => (match Instr.fill (fun i => some (i * f.size, f.size)) z.cells parts.toList with
      | some cells => some (.agg cells)
      | none => none)
    | none => none)
  | _, _ => none

def pPick (c a b : Value) : Option Value :=
  match c with
  | .bool t => some (bif t then a else b)
  | _ => none
def pFunc (fn : Fn) (first captured : Array Value) : Option Value :=
  match fn with
  | .func f => some (.func (.func f) first captured)
  | _ => none
def isIfaceB : TypeDesc → Bool
  | .interface _ => true
  | _ => false
def pIface (P : Program) (t : TypeId) (v : Value) : Option Value :=
  match P.underlying t with
  | some d => bif isIfaceB d then none else some (.iface t v)
  | none => none
def pExtract (v : Value) (i : Nat) : Option Value :=
  match v with
  | .tuple vs => nth vs.toList i
  | _ => none
def isAggB : TypeDesc → Bool
  | .struct _ | .array _ _ => true
  | _ => false
/-- '*a' -/
def pLoad (P : Program) (s : St) (t : TypeId) (v : Value) : Option Value :=
  match v with
  | .pointer (some a) => (match P.underlying t with
    | some d => bi (isAggB d) (match P.info? t with
      | some f => (match loadN s a 0 f.size with
        | some l => some (.agg l.toArray)
        | none => none)
      | none => none) (s.cell a)
    | none => none)
  | _ => none
/-- '&x.f' -/
def pFieldAddr (P : Program) (t : TypeId) (v : Value) (i : Nat) : Option Value :=
  match v, P.underlying t with
  | .pointer (some a), some (.struct fields) => (match nth fields.toList i with
    | some f => (match P.info? f.type with
      | some g => bif Nat.beq g.size 0 then none else some (.pointer (some (a.add f.offset)))
      | none => none)
    | none => none)
  | _, _ => none
def partA (P : Program) (t : TypeId) (cs : List Value) (off : Nat) : Option Value :=
  match P.underlying t with
  | some d => bif isAggB d then (match P.info? t with
    | some f => some (.agg ((cs.drop off).take f.size).toArray)
    | none => none) else nth cs off
  | none => none
/-- 'x.f' -/
def pField (P : Program) (t : TypeId) (v : Value) (i : Nat) : Option Value :=
  match v, P.underlying t with
  | .agg cs, some (.struct fields) => (match nth fields.toList i with
    | some f => partA P f.type cs.toList f.offset
    | none => none)
  | _, _ => none
/-- 'x[i]' of an array. -/
def pIndex (P : Program) (t : TypeId) (cs : Array Value) (i : Value) : Option Value :=
  match P.underlying t, i with
  | some (.array n e), .int _ j => bif decide (0 ≤ j) && Nat.blt j.toNat n then (match P.info? e with
    | some f => partA P e cs.toList (j.toNat * f.size)
    | none => none) else none
  | _, _ => none
def pNil (v : Value) : Option Value :=
  match v with
  | .pointer (some a) => some (.pointer (some a))
  | .func (.func f) a c => some (.func (.func f) a c)
  | .slice a n c => some (.slice a n c)
  | .map (some r) => some (.map (some r))
  | .iface t v => some (.iface t v)
  | _ => none
def divI (op : BinOp) (k : IntKind) (a b : Int) : Option Value :=
  bif decide (b = 0) then none else match op with
  | .quo => some (.int k (k.wrap (a.tdiv b)))
  | _ => some (.int k (a.tmod b))
def bitsI (op : BinOp) (k : IntKind) (a b : Int) : Option Value :=
  let x := BitVec.ofInt k.bits a
  let y := BitVec.ofInt k.bits b
  match op with
  | .and => some (.int k (k.wrap (x &&& y).toNat))
  | .or => some (.int k (k.wrap (x ||| y).toNat))
  | .xor => some (.int k (k.wrap (x ^^^ y).toNat))
  | _ => some (.int k (k.wrap (x &&& ~~~y).toNat))
/-- Of integers of one kind. -/
def binI (op : BinOp) (k : IntKind) (a b : Int) : Option Value :=
  match op with
  | .add => some (.int k (k.wrap (a + b)))
  | .sub => some (.int k (k.wrap (a - b)))
  | .mul => some (.int k (k.wrap (a * b)))
  | .eql => some (.bool (a == b))
  | .neq => some (.bool (a != b))
  | .lss => some (.bool (decide (a < b)))
  | .leq => some (.bool (decide (a ≤ b)))
  | .gtr => some (.bool (decide (a > b)))
  | .geq => some (.bool (decide (a ≥ b)))
  | .quo | .rem => divI op k a b
  | .and | .or | .xor | .andNot => bitsI op k a b
  | .shl | .shr => none
def kindNo : IntKind → Nat
  | .i8 => 0 | .i16 => 1 | .i32 => 2 | .i64 => 3 | .u8 => 4 | .u16 => 5 | .u32 => 6 | .u64 => 7
def sameKind (k k' : IntKind) : Bool := Nat.beq (kindNo k) (kindNo k')
def isShift : BinOp → Bool
  | .shl | .shr => true
  | _ => false
def eqOp (P : Program) (op : BinOp) (t : TypeId) (x y : Value) : Option Value :=
  match P.underlying t with
  | none => none
  | some d => (match op with
    | .eql => (match eqA d x y with | some b => some (.bool b) | none => none)
    | .neq => (match eqA d x y with | some b => some (.bool !b) | none => none)
    | _ => none)
def pBin (P : Program) (o : Oper) (tm : Tm) (op : BinOp) (t : TypeId) (x y : Value) : Option Value :=
  match x, y with
  | .int k a, .int k' b => bi (isShift op) (flatOp P o tm) (bi (sameKind k k') (binI op k a b) (flatOp P o tm))
  | _, _ => bif allFlat tm o.op then flatOp P o tm else eqOp P op t x y
def pSlice (P : Program) (o : Oper) (tm : Tm) (s : St) (t : TypeId) (x : Value) (lo hi mx : Option Value) : Option Value :=
  match x with
  | .slice (some a) len cap => bif Nat.blt cap K then sliceX P t x lo hi mx else sliceA P s t a len (cap - K) lo hi mx
  | .pointer _ => sliceX P t x lo hi mx
  | _ => flatOp P o tm
def pConv (P : Program) (s : St) (sr d : TypeId) (x : Value) : Option Value :=
  match P.underlying sr, P.underlying d, x with
  | some (.slice e), some .string, .slice (some a) n _ => bif isU8 P e then (match loadN s a 0 n with
    | some cs => bif cs.all isByte then (match pureRun P (bytesTree cs.toArray) with
      | some v => bif flat v then some v else none
      | none => none) else none
    | none => none) else none
  | _, _, _ => none
def pAssert (P : Program) (t : TypeId) (ok : Bool) (x : Value) : Option Value :=
  match P.underlying t, x with
  | some d, .iface u v => bif !isIfaceB d && Nat.beq u t then some (bif ok then .tuple #[v, .bool true] else v) else none
  | _, _ => none
def lenA (P : Program) (s : St) (t : TypeId) (x : Value) : Option Value :=
  match P.underlying t, x with
  | some (.slice _), .slice _ n _ => some (goInt n)
  | some (.map _ _), .map none => some (goInt 0)
  | some (.map _ _), .map (some r) => (match s.heap.get r with
    | some (.map es _) => some (goInt es.length)
    | _ => none)
  | _, _ => none
def pLen (P : Program) (o : Oper) (tm : Tm) (s : St) (t : TypeId) (x : Value) : Option Value :=
  match lenA P s t x with
  | some v => some v
  | none => flatOp P o tm
def pCap (P : Program) (t : TypeId) (x : Value) : Option Value :=
  match P.underlying t, x with
  | some (.slice _), .slice _ _ c => bif Nat.blt c K then some (goInt c) else none
  | _, _ => none
def pCall (P : Program) (o : Oper) (tm : Tm) (s : St) (c : Call) : Option Value :=
  match c.callee, c.argTypes.toList, c.args.toList with
  | .builtin .len, [t], [x] => pLen P o tm s t (tm.eval x)
  | .builtin .cap, [t], [x] => pCap P t (tm.eval x)
  | _, _, _ => flatOp P o tm

def peekOp (P : Program) (o : Oper) (tm : Tm) (s : St) : Option Value :=
  match o.op with
  | .move x | .assign x => some (tm.eval x)
  | .pick c a b => pPick (tm.eval c) (tm.eval a) (tm.eval b)
  | .makeFunc fn first captured => pFunc fn (first.map tm.eval) (captured.map tm.eval)
  | .makeInterface t x => pIface P t (tm.eval x)
  | .extract t i => pExtract (tm.eval t) i
  | .load t a => pLoad P s t (tm.eval a)
  | .fieldAddr t x f => pFieldAddr P t (tm.eval x) f
  | .indexAddr t x i => indexA P t (tm.eval x) (tm.eval i)
  | .field t x f => pField P t (tm.eval x) f
  | .index t x i => (match tm.eval x with
    | .agg cs => pIndex P t cs (tm.eval i)
    | _ => flatOp P o tm)
  | .build t parts => buildA P t (parts.map fun (i, x) => (i, tm.eval x))
  | .slice t x lo hi mx => pSlice P o tm s t (tm.eval x) (lo.map tm.eval) (hi.map tm.eval) (mx.map tm.eval)
  | .nilCheck x => pNil (tm.eval x)
  | .binOp op t x y _ => pBin P o tm op t (tm.eval x) (tm.eval y)
  | .lookup t m k ok => lookupA P t (tm.eval m) (tm.eval k) ok s
  | .convert sr d x => bif flat (tm.eval x) then flatOp P o tm else pConv P s sr d (tm.eval x)
  | .typeAssert x _ t ok => bif flat (tm.eval x) then flatOp P o tm else pAssert P t ok (tm.eval x)
  | .call c => pCall P o tm s c
  | .select .. => none
  | .defer _ => none
  | _ => flatOp P o tm

def buildSliceA (P : Program) (t : TypeId) (len : Nat) (parts : Array (Nat × Value)) (id : Nat) : Option (Blk × Value) :=
  match P.underlying t with
  | some (.slice e) => (match P.info? e, pureRun P (zeroValue e) with
    | some f, some z => bif Nat.blt maxSmall (len * f.size) || Nat.blt maxSmall len then none else
      (match Instr.fill (fun i => some (i * f.size, f.size)) (rowZ (bif Nat.beq (len * f.size) 0 then #[] else z.cells) (len * f.size)) parts.toList with
      | some cells => some (.cells cells.toList e 0 [] true, .slice (some ⟨id, 0, none⟩) len len)
      | none => none)
    | _, _ => none)
  | _ => none

def makeSliceA (P : Program) (t : TypeId) (l c : Value) (id : Nat) : Option (Blk × Value) :=
  match P.underlying t, l, c with
  | some (.slice e), .int _ n, .int _ m => (match P.info? e, pureRun P (zeroValue e) with
    | some f, some z => bif decide (0 ≤ n) && decide (n ≤ m) && Nat.ble m.toNat maxSmall && Nat.ble f.bytes maxSmall && Nat.ble f.size maxSmall then
      some (.cells (rowZ (bif Nat.beq (m.toNat * f.size) 0 then #[] else z.cells) (m.toNat * f.size)).toList e 0 [] true, .slice (some ⟨id, 0, none⟩) n.toNat m.toNat) else none
    | _, _ => none)
  | _, _, _ => none

def freshOp (P : Program) (o : Oper) (tm : Tm) (id : Nat) : Option (Blk × Value) :=
  match o.op with
  | .alloc t => frun P (Instr.alloc t true (.tuple #[])) id
  | .box t x => frun P (Instr.box t (tm.eval x)) id
  | .buildSlice t n parts => buildSliceA P t n (parts.map fun (i, x) => (i, tm.eval x)) id
  | .makeMap t r => frun P (Instr.makeMap t (r.map tm.eval)) id
  | .makeSlice t l c => makeSliceA P t (tm.eval l) (tm.eval c) id
  | _ => none

def lenS : Value → Option Nat
  | .slice _ m _ => some m
  | .string b => some b.size
  | _ => none
def copyCells (s : St) (size k : Nat) : Value → Option (List Value)
  | .slice (some a) _ _ => loadN s a 0 (k * size)
  | .slice none _ _ => some []
  | .string b => bif Nat.beq size 1 then some ((b.extract 0 k).data.map fun x => Value.int .u8 x.toNat).toList else none
  | _ => none
def copyTo (base : Option Addr) (k : Nat) (cs : List Value) (s : St) : Option (Value × St) :=
  match base with
  | some a => (match storeN s a cs 0 with
    | some s' => some (goInt k, s')
    | none => none)
  | none => bif cs.isEmpty then some (goInt k, s) else none
def copyA (P : Program) (argTypes : Array TypeId) (d x : Value) (s : St) : Option (Value × St) :=
  match argTypes[0]? with
  | some dt => (match P.underlying dt, d, lenS x with
    | some (.slice e), .slice base n _, some m => (match P.info? e with
      | some i => (match copyCells s i.size (Nat.min m n) x with
        | some cs => copyTo base (Nat.min m n) cs s
        | none => none)
      | none => none)
    | _, _, _ => none)
  | none => none

def clearA (P : Program) (argTypes : Array TypeId) (x : Value) (s : St) : Option (Value × St) :=
  match argTypes[0]? with
  | some t => (match P.underlying t, x with
    | some (.slice e), .slice (some a) n _ => (match P.info? e with
      | some i => (match i.zero with
        | some z => bif Nat.ble n maxSmall then (match storeN s a (rowZ z.cells (n * z.cells.size)).toList 0 with
          | some s' => some (.tuple #[], s')
          | none => none) else none
        | none => none)
      | none => none)
    | _, _ => none)
  | none => none

def strBytesA (x : Value) (e : TypeId) (s : St) : Option (Value × St) :=
  match x with
  | .string b => bif Nat.blt maxSmall b.size then none else some (.slice (some ⟨s.next, 0, none⟩) b.size (K + b.size), s.new (.cells (b.data.toList.map fun x => .int .u8 x.toNat) e 1 [] true))
  | _ => none

def valOf (r : Option (Value × St)) : Option (Nx × St) :=
  match r with
  | some (v, s) => some (.value v, s)
  | none => none

def callee (P : Program) (g : FuncId) (args : List Value) (s : St) : Option (Nx × St) :=
  match P.funcs[g]? with
  | some fn => bif fn.name == "runtime.NumGoroutine" || fn.body.isNone then none else some (.enter g args, s)
  | none => none

def storeA (P : Program) (t : TypeId) (a x : Value) (s : St) : Option (Nx × St) :=
  match a, P.info? t with
  | .pointer (some a), some f => (let cs := x.cells.toList
    bif Nat.beq cs.length f.size then (match storeN s a cs 0 with
      | some s' => some (.value undef, s')
      | none => none) else none)
  | _, _ => none
def updateOp (P : Program) (t : TypeId) (m k x : Value) (s : St) : Option (Nx × St) :=
  match updateA P t m k x s with
  | some s' => some (.value undef, s')
  | none => none
def callVal (P : Program) (o : Oper) (tm : Tm) (fv : Value) (args : List Value) (s : St) : Option (Nx × St) :=
  match fv with
  | .func (.yield l) first _ => some (.yield l (first.toList ++ args), s)
  | .func (.func g) first captured => (match P.funcs[g]? with
    | some fn => bif fn.body.isNone then (match flatOp P o tm with
      | some v => some (.value v, s)
      | none => none) else callee P g (first.toList ++ args ++ captured.toList) s
    | none => none)
  | _ => none
def callOp (P : Program) (o : Oper) (tm : Tm) (c : Call) (s : St) : Option (Nx × St) :=
  match c.callee with
  | .value f => callVal P o tm (tm.eval f) (c.args.toList.map tm.eval) s
  | .builtin .append => (match c.args.toList with
    | [x, y] => valOf (appendA P c.argTypes (tm.eval x) (tm.eval y) s)
    | _ => none)
  | .builtin .copy => (match c.args.toList with
    | [x, y] => valOf (copyA P c.argTypes (tm.eval x) (tm.eval y) s)
    | _ => none)
  | .builtin .clear => (match c.args.toList with
    | [x] => valOf (clearA P c.argTypes (tm.eval x) s)
    | _ => none)
  | _ => none

def actOp (P : Program) (o : Oper) (tm : Tm) (s : St) : Option (Nx × St) :=
  match o.op with
  | .store t a x => storeA P t (tm.eval a) (tm.eval x) s
  | .mapUpdate t m k x | .insert t m k x => updateOp P t (tm.eval m) (tm.eval k) (tm.eval x) s
  | .range t x => valOf (arun P (Instr.range t (tm.eval x)) s)
  | .next it str => valOf (arun P (Instr.next (tm.eval it) str o.type) s)
  | .call c => callOp P o tm c s
  | _ => none

def peekStep (P : Program) (o : Oper) (tm : Tm) (s : St) : Option (Nx × St) :=
  match peekOp P o tm s with
  | some v => some (.value v, s)
  | none => none
def freshStep (P : Program) (o : Oper) (tm : Tm) (s : St) : Option (Nx × St) :=
  match freshOp P o tm s.next with
  | some (x, v) => some (.value v, s.new x)
  | none => none

def stepKind (P : Program) (o : Oper) (tm : Tm) (s : St) (k : Nat) : Option (Nx × St) :=
  match k with
  | 0 => peekStep P o tm s
  | 1 => actOp P o tm s
  | _ => freshStep P o tm s
def stepOp (P : Program) (o : Oper) (tm : Tm) (s : St) : Option (Nx × St) := bi (constsOk o.op) (stepKind P o tm s (kind P o.op)) none

/-! ### Code -/

inductive Ex where
  | normal
  | exit (id : Nat)
  | ret
  deriving DecidableEq

structure Out where
  e : Ex
  tm : Tm
  ds : List Nat
  st : St

abbrev CallF := FuncId → List Value → St → Option (Value × St)
abbrev RoundF := Nat → List Value → St → Option (Value × St)

def wantedA (ops : Array Oper) (o : Oper) (tm : Tm) : Bool :=
  match o.guard with
  | none => true
  | some (j, want) => match (ops[j]?).bind (·.dst) with
    | some t => (match tm.t.get t with
      | some (.bool b) => b == want
      | _ => false)
    | none => false

def goOn (call : CallF) (round : RoundF) (r : Option (Nx × St)) : Option (Value × St) :=
  match r with
  | some (.value v, s') => some (v, s')
  | some (.enter f args, s') => call f args s'
  | some (.yield l args, s') => round l args s'
  | none => none
def doOp (P : Program) (call : CallF) (round : RoundF) (ops : Array Oper) (o : Oper) (tm : Tm) (s : St) : Option (Value × St) :=
  bi (wantedA ops o tm) (goOn call round (stepOp P o tm s)) (some (undef, s))

def putNext (d : Option Tmp) (tm : Tm) (k : Tm → St → Option (Tm × St)) (r : Option (Value × St)) : Option (Tm × St) :=
  match r with
  | none => none
  | some (v, s') => match tm.put d v with
    | none => none
    | some tm' => k tm' s'
def runOps (P : Program) (call : CallF) (round : RoundF) (ops : Array Oper) (l : List Oper) : Tm → St → Option (Tm × St) :=
  List.rec (motive := fun _ => Tm → St → Option (Tm × St)) (fun tm s => some (tm, s)) (fun o _ ih tm s => putNext o.dst tm ih (doOp P call round ops o tm s)) l

structure Pend where
  i : Nat
  id : Nat
  x : Blk

/-- What an operation of a region did: nothing; it read, behind so many that write; it wrote, from one memory to the next; it made a block. -/
inductive Role where
  | skip
  | peek (k : Nat)
  | act (s0 s1 : St)
  | fresh (id : Nat) (x : Blk)

structure Ent where
  i : Nat
  o : Oper
  tm : Tm
  v : Value
  r : Role

def waits (b : Array Nat) (j i : Nat) : Bool := Nat.testBit (b.getD j 0) i

/-- The new blocks that operation 'i' waits for are known from now on. -/
def joinFor (b : Array Nat) (i : Nat) : List Pend → St → St × List Pend
  | [], s => (s, [])
  | q :: l, s => bif waits b i q.i then joinFor b i l (s.put q.id (some q.x)) else (let r := joinFor b i l s; (r.1, q :: r.2))
def joinAll : List Pend → St → St
  | [], s => s
  | q :: l, s => joinAll l (s.put q.id (some q.x))

def okLast (b : Array Nat) (i : Nat) : List Nat → Bool
  | [] => true
  | l :: _ => waits b i l

structure Pass where
  tm : Tm
  s : St
  ps : List Pend
  ws : List Nat
  hs : List St
  es : List Ent

/-- One operation of a region, in the order of its text. 'ws', 'hs', 'es': the newest first. -/
def passPeek (o : Oper) (i : Nat) (a : Pass) (r : Option Value) : Option Pass :=
  match r, a with
  | some v, ⟨tm, s, ps, ws, hs, es⟩ => (match tm.put o.dst v with
    | some tm' => some ⟨tm', s, ps, ws, hs, ⟨i, o, tm, v, .peek ws.length⟩ :: es⟩
    | none => none)
  | none, _ => none
def passAct2 (o : Oper) (i : Nat) (a : Pass) (s0 : St) (ps0 : List Pend) (r : Option (Value × St)) : Option Pass :=
  match r, a with
  | some (v, s'), ⟨tm, _, _, ws, hs, es⟩ => (match tm.put o.dst v with
    | some tm' => some ⟨tm', s', ps0, i :: ws, s' :: hs, ⟨i, o, tm, v, .act s0 s'⟩ :: es⟩
    | none => none)
  | none, _ => none
def passAct (P : Program) (call : CallF) (round : RoundF) (ops : Array Oper) (b : Array Nat) (o : Oper) (i : Nat) (a : Pass) : Option Pass :=
  bi (okLast b i a.ws) (match joinFor b i a.ps a.s with
    | (s0, ps0) => passAct2 o i a s0 ps0 (doOp P call round ops o a.tm s0)) none
def passFresh (o : Oper) (i id : Nat) (a : Pass) (r : Option (Blk × Value)) : Option Pass :=
  match r, a with
  | some (x, v), ⟨tm, s, ps, ws, hs, es⟩ => (match tm.put o.dst v with
    | some tm' => some ⟨tm', s, ⟨i, id, x⟩ :: ps, ws, hs, ⟨i, o, tm, v, .fresh id x⟩ :: es⟩
    | none => none)
  | none, _ => none
def passSkip (o : Oper) (i : Nat) (a : Pass) : Option Pass :=
  match a with
  | ⟨tm, s, ps, ws, hs, es⟩ => (match tm.put o.dst undef with
    | some tm' => some ⟨tm', s, ps, ws, hs, ⟨i, o, tm, undef, .skip⟩ :: es⟩
    | none => none)
def passKind (P : Program) (call : CallF) (round : RoundF) (ops : Array Oper) (b : Array Nat) (base : Nat) (o : Oper) (i : Nat) (a : Pass) (k : Nat) : Option Pass :=
  match k with
  | 0 => passPeek o i a (peekOp P o a.tm a.s)
  | 1 => passAct P call round ops b o i a
  | _ => passFresh o i (base + i) a (freshOp P o a.tm (base + i))
def passOp (P : Program) (call : CallF) (round : RoundF) (ops : Array Oper) (b : Array Nat) (base : Nat) (o : Oper) (i : Nat) (a : Pass) : Option Pass :=
  bi (wantedA ops o a.tm) (bi (constsOk o.op) (passKind P call round ops b base o i a (kind P o.op)) none) (passSkip o i a)

def pass (P : Program) (call : CallF) (round : RoundF) (ops : Array Oper) (b : Array Nat) (base : Nat) : List Oper → Nat → Pass → Option Pass
  | [], _, a => some a
  | o :: rest, i, a => match passOp P call round ops b base o i a with
    | some a' => pass P call round ops b base rest (i + 1) a'
    | none => none

/-- Whether the order of these operations does not matter: every operation that writes waits for the one before; whoever reads or writes a temporary that another one writes waits for it. -/
def namesOf (ops : Array Oper) (o : Oper) : List Tmp := o.dst.toList ++ o.looksAt ops
def pairOk (ops : Array Oper) (b : Array Nat) (i : Nat) (oi : Oper) (j : Nat) (oj : Oper) : Bool :=
  !(Nat.blt i j) || waits b j i || ((match oi.dst with | some d => !(namesOf ops oj).contains d | none => true) && (match oj.dst with | some d => !(namesOf ops oi).contains d | none => true))
def directOk (b : Array Nat) (n : Nat) (j : Nat) (o : Oper) : Bool :=
  (o.after.toList.all fun e => !(Region.binds .any e) || (Nat.blt e.on j && waits b j e.on)) &&
  (List.range n).all fun i => !(waits b j i) || (Nat.blt i j && o.after.toList.any fun e => Region.binds .any e && (Nat.beq e.on i || waits b e.on i))
def orderOk (ops : Array Oper) : Bool :=
  let b := Region.before ops
  let l := (List.range ops.size).zip ops.toList
  (l.all fun (j, oj) => directOk b ops.size j oj) && (l.all fun (i, oi) => l.all fun (j, oj) => pairOk ops b i oi j oj)

/-- How many of the operations that write come before 'i' at least; and at most. -/
def lowOf (b : Array Nat) (ws : List Nat) (i : Nat) : Nat := (ws.filter fun w => waits b i w).length
def highOf (b : Array Nat) (ws : List Nat) (i : Nat) : Nat := (ws.filter fun w => !(waits b w i)).length

/-- What a value is, for the test that it is the same (false where in doubt). -/
def sameAddrB (a b : Addr) : Bool := Nat.beq a.block b.block && Nat.beq a.off b.off && a.spot.isNone && b.spot.isNone
def sameVN : Nat → Value → Value → Bool
  | 0, _, _ => false
  | n + 1, x, y => match x, y with
    | .bool a, .bool b => a == b
    | .int k a, .int k' b => k == k' && a == b
    | .string a, .string b => a.data.toList == b.data.toList
    | .pointer none, .pointer none => true
    | .pointer (some a), .pointer (some b) => sameAddrB a b
    | .slice none l c, .slice none l' c' => Nat.beq l l' && Nat.beq c c'
    | .slice (some a) l c, .slice (some b) l' c' => sameAddrB a b && Nat.beq l l' && Nat.beq c c'
    | .map none, .map none => true
    | .map (some a), .map (some b) => Nat.beq a b
    | .nilFunc, .nilFunc => true
    | .nilIface, .nilIface => true
    | .iface t v, .iface u w => Nat.beq t u && sameVN n v w
    | .agg a, .agg b => Nat.beq a.size b.size && (a.toList.zip b.toList).all fun (x, y) => sameVN n x y
    | .tuple a, .tuple b => Nat.beq a.size b.size && (a.toList.zip b.toList).all fun (x, y) => sameVN n x y
    | .func f a c, .func g b d => (match f, g with | .func i, .func j => Nat.beq i j | _, _ => false) && Nat.beq a.size b.size && ((a.toList.zip b.toList).all fun (x, y) => sameVN n x y)
        && Nat.beq c.size d.size && ((c.toList.zip d.toList).all fun (x, y) => sameVN n x y)
    | _, _ => false
def sameV (x y : Value) : Bool := sameVN 5 x y

/-- An operation that writes nothing yields its value in each of the memories in which it may come up. -/
def entOk (P : Program) (b : Array Nat) (ws : List Nat) (hs : List St) (e : Ent) : Bool :=
  match e.r with
  | .peek k0 => (List.range (highOf b ws e.i + 1)).all fun k => Nat.blt k (lowOf b ws e.i) || Nat.beq k k0 || (match nth hs k with
    | some s => (match peekOp P e.o e.tm s with | some v => sameV v e.v | none => false)
    | none => false)
  | _ => true

def quietAll (P : Program) (ops : Array Oper) : Bool := ops.toList.all fun o => Nat.beq (kind P o.op) 0

def drawRegion (P : Program) (call : CallF) (round : RoundF) (ops : Array Oper) (tm : Tm) (s : St) : Option (Tm × St) :=
  bif orderOk ops then
    bif quietAll P ops then runOps P call round ops ops.toList tm s else
    let b := Region.before ops
    let s0 : St := { s with next := s.next + ops.size }
    match pass P call round ops b s.next ops.toList 0 ⟨tm, s0, [], [], [s0], []⟩ with
    | none => none
    | some a => let hs := a.hs.reverse
      bif a.es.all (entOk P b a.ws hs) then some (a.tm, joinAll a.ps a.s) else none
  else none

abbrev ExF := Option Nat → Code → Tm → St → Option Out

def takeAll (s : St) : List Nat → Option St
  | [] => some s
  | d :: ds => match s.heap.get d with
    | some .deferred => takeAll (s.put d none) ds
    | _ => none

def resVals (P : Program) (tm : Tm) (s : St) : List ResultVar → Option (List Value)
  | [] => some []
  | .tmp t :: rest => match resVals P tm s rest with
    | some vs => some (tm.get t :: vs)
    | none => none
  | .cell a t :: rest => match pLoad P s t (tm.get a), resVals P tm s rest with
    | some v, some vs => some (v :: vs)
    | _, _ => none

def packed : List Value → Value
  | [v] => v
  | vs => .tuple vs.toArray

/-- What is known of functions without being run: of arguments without addresses the value. -/
abbrev Orc := FuncId → List Value → Option Value

def askOrc (orc : Orc) (f : FuncId) (args : List Value) : Option Value :=
  match orc f args with
  | some v => bif args.all flat && flat v then some v else none
  | none => none

def finish (P : Program) (fn : Func) (r : Option Out) : Option (Value × St) :=
  match r with
  | some ⟨.exit _, _, _, _⟩ => none
  | some ⟨_, tm, ds, s1⟩ => (match takeAll s1 ds with
    | none => none
    | some s2 => match resVals P tm s2 fn.results.toList with
      | some vs => some (packed vs, s2)
      | none => none)
  | none => none

def callBody (P : Program) (g : Nat) (ex : ExF) (fn : Func) (args : List Value) (s : St) : Option (Value × St) :=
  match fn.body, Tm.begin fn.ntmps g args with
  | some c, some tm0 => finish P fn (ex none c tm0 s)
  | _, _ => none

def callF (P : Program) (orc : Orc) (g : Nat) (ex : ExF) : CallF := fun f args s =>
  match askOrc orc f args with
  | some v => some (v, s)
  | none => match P.funcs[f]? with
    | none => none
    | some fn => callBody P g ex fn args s

def exCode : Ex → Option Code
  | .normal => none
  | .exit id => some (.exit id)
  | .ret => some .ret

def putAll (tm : Tm) : List (Tmp × Value) → Option Tm
  | [] => some tm
  | (t, v) :: l => match tm.put (some t) v with
    | some tm' => putAll tm' l
    | none => none

def stateOf : Ex → LoopState
  | .normal => .ready
  | _ => .done

def roundEnd (l : Nat) (r : Option Out) : Option (Value × St) :=
  match r with
  | some ⟨e, _, [], s2⟩ => (match s2.heap.get l with
    | some (.loop r2) => some (.bool (exCode e).isNone, s2.put l (some (.loop (r2.to (stateOf e) (exCode e)))))
    | _ => none)
  | _ => none
def roundBody (ex : ExF) (l : Nat) (body : Code) (r : Option Out) : Option (Value × St) :=
  match r with
  | some ⟨.normal, tm1, [], s1⟩ => (match s1.heap.get l with
    | some (.loop r1) => (match r1.state with
      | .ready => roundEnd l (ex (some l) body tm1 (s1.put l (some (.loop (r1.to .busy r1.pending)))))
      | _ => none)
    | _ => none)
  | _ => none
def roundF (ex : ExF) : RoundF := fun l args s =>
  match s.heap.get l with
  | some (.loop r) => bif Nat.beq r.params.length args.length then
    (match putAll r.tm (r.params.zip args) with
    | none => none
    | some tm => roundBody ex l r.body (ex (some l) r.assign tm s))
    else none
  | _ => none

/-- On behind code that ended normally. -/
def andThen (r : Option Out) (k : Tm → St → Option Out) : Option Out :=
  match r with
  | some ⟨.normal, tm1, ds1, s1⟩ => (match k tm1 s1 with
    | some ⟨e, tm2, ds2, s2⟩ => some ⟨e, tm2, ds2 ++ ds1, s2⟩
    | none => none)
  | r => r
def exCond (ex : ExF) (ro : Option Nat) (c : Value) (x y : Code) (tm : Tm) (s : St) : Option Out :=
  match c with
  | .bool b => bif b then ex ro x tm s else ex ro y tm s
  | _ => none
def exBlock (id : Nat) (r : Option Out) : Option Out :=
  match r with
  | some ⟨.exit i, tm1, ds1, s1⟩ => bif Nat.beq i id then some ⟨.normal, tm1, ds1, s1⟩ else some ⟨.exit i, tm1, ds1, s1⟩
  | r => r
def exRegion (r : Option (Tm × St)) : Option Out :=
  match r with
  | some (tm', s') => some ⟨.normal, tm', [], s'⟩
  | none => none
def enterA (ro : Option Nat) (s : St) : Option (Nat × List Nat × St) :=
  match ro with
  | none => some (s.next, [s.next], s.new .deferred)
  | some l => (match s.heap.get l with
    | some (.loop r) => some (r.defers, [], s)
    | _ => none)
def addDs (mark : List Nat) (r : Option Out) : Option Out :=
  match r with
  | some ⟨e, tm6, ds6, s6⟩ => some ⟨e, tm6, ds6 ++ mark, s6⟩
  | none => none
def rangeEnd (ex : ExF) (ro : Option Nat) (tm : Tm) (l : Nat) (mark : List Nat) (r : Option (Value × St)) : Option Out :=
  match r with
  | some (_, s4) => (match s4.heap.get l with
    | some (.loop r) => (match r.state with
      | .busy => none
      | _ => let s5 := s4.put l (some (.loop (r.to .exhausted r.pending)))
        match r.pending with
        | none => some ⟨.normal, tm, mark, s5⟩
        | some c => addDs mark (ex ro c tm s5))
    | _ => none)
  | none => none
def rangeBody (P : Program) (orc : Orc) (ex : ExF) (ro : Option Nat) (g : Operand) (ps : Array Tmp) (assign body : Code) (tm : Tm) (D : Nat) (mark : List Nat) (s1 : St) : Option Out :=
  let l := s1.next
  let s2 := s1.new (.loop { state := .ready, pending := none, tm, params := ps.toList, assign, body, defers := D })
  match tm.eval g with
  | .func (.func gf) first captured => (match callee P gf (first.toList ++ [.func (.yield l) #[] #[]] ++ captured.toList) s2 with
    | some (.enter f args, s3) => rangeEnd ex ro tm l mark (callF P orc tm.g ex f args s3)
    | _ => none)
  | _ => none
def exRange (P : Program) (orc : Orc) (ex : ExF) (ro : Option Nat) (g : Operand) (ps : Array Tmp) (assign body : Code) (tm : Tm) (s : St) : Option Out :=
  match enterA ro s with
  | some (D, mark, s1) => rangeBody P orc ex ro g ps assign body tm D mark s1
  | none => none

def execStep (P : Program) (orc : Orc) (ex : ExF) : ExF := fun ro c tm s =>
  match c with
  | .skip | .label _ => some ⟨.normal, tm, [], s⟩
  | .seq a b => andThen (ex ro a tm s) (ex ro b)
  | .cond c x y => exCond ex ro (tm.eval c) x y tm s
  | .block id c => exBlock id (ex ro c tm s)
  | .loop c => andThen (ex ro c tm s) (ex ro (.loop c))
  | .scope c => ex ro c tm s
  | .exit id => some ⟨.exit id, tm, [], s⟩
  | .ret => some ⟨.ret, tm, [], s⟩
  | .region _ ops dr => bif dr then exRegion (drawRegion P (callF P orc tm.g ex) (roundF ex) ops tm s) else exRegion (runOps P (callF P orc tm.g ex) (roundF ex) ops ops.toList tm s)
  | .rangeFunc g ps assign body => bi (constOk g) (exRange P orc ex ro g ps assign body tm s) none
  | _ => none

def noEx : ExF := fun _ _ _ _ => none
def exec (P : Program) (orc : Orc) (fuel : Nat) : ExF := Nat.rec noEx (fun _ ex => execStep P orc ex) fuel

/-- The program's variables that are known: their number, cells and type. -/
def startOf (P : Program) : List (Nat × List Value × TypeId) → St
  | [] => ⟨.nil, P.globals.size⟩
  | (g, c, e) :: l => (startOf P l).put g (some (.cells c e 0 [] false))

/-- A call that is handed nothing. -/
def runCall (P : Program) (orc : Orc) (vars : List (Nat × List Value × TypeId)) (fuel : Nat) (f : FuncId) (args : List Value) : Option (Value × St) := callF P orc vars.length (exec P orc fuel) f args (startOf P vars)

end
end Rn
end Go.Proofs.Ytapidabhdbjnmaa
