/- The evaluator: a machine of our own that runs the program's code upon values whose blocks bear numbers of its own; it refuses ('none') whatever it is not sure of. -/
import Derived.CallsIn
import Derived.RangeFuncLeaves
namespace Go.Ev

/-- One behind the other. -/
def obind {α β : Type} (o : Option α) (f : α → Option β) : Option β := Option.casesOn (motive := fun _ => Option β) o none f
/-- On, if so. -/
def only {β : Type} (b : Bool) (r : Option β) : Option β := Bool.casesOn (motive := fun _ => Option β) b none r
def pbind {α β γ : Type} (o : Option (α × β)) (f : α → β → Option γ) : Option γ := Option.casesOn (motive := fun _ => Option γ) o none fun p => Prod.casesOn (motive := fun _ => Option γ) p f

/-- A finite map from numbers. -/
inductive Tr (α : Type) where
  | nil
  | node (v : Option α) (l r : Tr α)
namespace Tr
variable {α : Type}
def getN (v : Option α) (l r : Nat → Option α) (i : Nat) : Option α :=
  Nat.casesOn (motive := fun _ => Option α) i v fun k => Bool.casesOn (motive := fun _ => Option α) (Nat.beq (Nat.mod k 2) 0) (r (Nat.div k 2)) (l (Nat.div k 2))
def get (t : Tr α) : Nat → Option α :=
  Tr.casesOn (motive := fun _ => Nat → Option α) t (fun _ => none) fun v l r => getN v l.get r.get
termination_by structural t
def oneN (f : Nat → α → Tr α) (i : Nat) (x : α) : Tr α :=
  Nat.casesOn (motive := fun _ => Tr α) i (.node (some x) .nil .nil) fun k =>
    Bool.casesOn (motive := fun _ => Tr α) (Nat.beq (Nat.mod k 2) 0) (.node none .nil (f (Nat.div k 2) x)) (.node none (f (Nat.div k 2) x) .nil)
def one (n : Nat) : Nat → α → Tr α :=
  Nat.casesOn (motive := fun _ => Nat → α → Tr α) n (fun _ _ => .nil) fun f => oneN (one f)
termination_by structural n
def setN (v : Option α) (l r : Tr α) (sl sr : Nat → α → Tr α) (i : Nat) (x : α) : Tr α :=
  Nat.casesOn (motive := fun _ => Tr α) i (.node (some x) l r) fun k =>
    Bool.casesOn (motive := fun _ => Tr α) (Nat.beq (Nat.mod k 2) 0) (.node v l (sr (Nat.div k 2) x)) (.node v (sl (Nat.div k 2) x) r)
def set (t : Tr α) : Nat → α → Tr α :=
  Tr.casesOn (motive := fun _ => Nat → α → Tr α) t (fun i x => one (Nat.succ i) i x) fun v l r => setN v l r l.set r.set
termination_by structural t
end Tr
/-- What lies in a block. 'cells': how many, what, of which type, the frozen range, and (for a row that append has made) its family and its place in it. -/
inductive Blk where
  | cells (n : Nat) (t : Tr Value) (elem : TypeId) (fro : Nat × Nat) (fam : Option (Nat × Nat))
  | map (es : List (Value × Value × Nat)) (clock : Nat)
  | strIter (s : ByteArray) (pos : Nat)
  | loop (t : Tr Value) (nt : Nat) (params : List Tmp) (assign body : Code) (state : LoopState) (pending : Option Code) (defs : Nat)
  | defs
  | fam (ids : List (Nat × Nat))
  | dead

/-- Memory. 'wr': the blocks below 'mark' that have been written. -/
structure AS where
  heap : Tr Blk
  next : Nat
  mark : Nat
  wr : List Nat

/-- What is run upon: functions, types; how many package variables there are; calls that are told by themselves. -/
structure Env where
  fn : Nat → Option Func
  ty : Nat → Option TypeInfo
  ng : Nat
  prim : Nat → Option (List Value → AS → Option (Value × AS))
  calm : Nat → Bool
  isLaid : Nat → Bool
  laidP : Nat → Obj → Prop

def Env.und (E : Env) (t : TypeId) : Option TypeDesc :=
  match E.ty t with
  | some i => match i.desc with
    | .named _ u => (E.ty u).map (·.desc)
    | d => some d
  | none => none
def Env.size (E : Env) (t : TypeId) : Option Nat := obind (E.ty t) fun i => some i.size
def Env.zero (E : Env) (t : TypeId) : Option Value := obind (E.ty t) fun i => i.zero

/-- No block is named in it. -/
def plain : Nat → Value → Bool
  | 0, _ => false
  | n + 1, v => match v with
    | .bool _ | .int .. | .string _ | .pointer none | .slice none _ _ | .map none | .nilFunc | .nilIface => true
    | .func (.func _) f c => f.isEmpty && c.isEmpty
    | .iface _ v => plain n v
    | .agg cs => cs.toList.all (plain n)
    | .tuple cs => cs.toList.all (plain n)
    | _ => false

abbrev Fr := Tr Value
abbrev Got := Option (Option Value × AS)

def AS.alloc (s : AS) (b : Blk) : AS := ⟨s.heap.set s.next b, Nat.succ s.next, s.mark, s.wr⟩
def AS.put (s : AS) (i : Nat) (b : Blk) : AS := ⟨s.heap.set i b, s.next, s.mark, bif Nat.ble (Nat.succ i) s.mark then i :: s.wr else s.wr⟩

def ofList : List Value → Nat → Tr Value → Tr Value
  | [] => fun _ t => t
  | v :: l => fun i t => ofList l (Nat.succ i) (t.set i v)

def globalAt (E : Env) (g : Nat) : Option Value := only (Nat.ble (Nat.succ g) E.ng && !E.isLaid g) (some (.pointer (some ⟨g, 0, none⟩)))
def aval (E : Env) (t : Fr) (x : Operand) : Option Value :=
  Operand.casesOn (motive := fun _ => Option Value) x t.get (fun v => only (plain 6 v) (some v)) (globalAt E) (fun f => some (.func (.func f) #[] #[]))
def avals (E : Env) (t : Fr) (l : List Operand) : Option (List Value) :=
  List.casesOn (motive := fun _ => Option (List Value)) l (some []) fun x l => obind (aval E t x) fun v => obind (avals E t l) fun vs => some (v :: vs)
termination_by structural l

/-! Memory. -/
def inCells {β : Type} (b : Option Blk) (f : Nat → Tr Value → TypeId → Nat × Nat → Option (Nat × Nat) → Option β) : Option β :=
  match b with
  | some (.cells n t e fro fam) => f n t e fro fam
  | _ => none
def cell (s : AS) (id off : Nat) : Option Value := inCells (s.heap.get id) fun n t _ _ _ => only (Nat.ble (Nat.succ off) n) (t.get off)
def cellsGo (t : Tr Value) : Nat → Nat → Option (List Value)
  | 0 => fun _ => some []
  | k + 1 => fun off => obind (t.get off) fun v => obind (cellsGo t k (Nat.succ off)) fun l => some (v :: l)
def cells (s : AS) (id off k : Nat) : Option (List Value) :=
  Nat.casesOn (motive := fun _ => Option (List Value)) k (some []) fun _ => inCells (s.heap.get id) fun n t _ _ _ => only (Nat.ble (Nat.add off k) n) (cellsGo t k off)
def oneCell : Value → Bool
  | .agg _ | .tuple _ => false
  | _ => true
def allOne : List Value → Bool
  | [] => true
  | v :: l => oneCell v && allOne l
def outside (fro : Nat × Nat) (off k : Nat) : Bool := Nat.ble fro.2 off || Nat.ble (Nat.add off k) fro.1 || Nat.ble fro.2 fro.1
def kill (s : AS) (j : Nat) : AS :=
  match s.heap.get j with
  | some (.cells ..) => s.put j .dead
  | _ => s
def killAll (id : Nat) : List (Nat × Nat) → AS → AS
  | [], s => s
  | x :: l, s => killAll id l (bif Nat.beq x.1 id then s else kill s x.1)
def storeAs (s : AS) (id off : Nat) (vs : List Value) (n : Nat) (t : Tr Value) (e : TypeId) (fro : Nat × Nat) : Option (Nat × Nat) → Option AS
  | none => some (s.put id (.cells n (ofList vs off t) e fro none))
  | some (f, rel) => match s.heap.get f with
    | some (.fam ids) => some (((killAll id ids s).put f (.fam [(id, rel + n)])).put id (.cells n (ofList vs off t) e fro (some (f, rel))))
    | _ => none
def store (s : AS) (id off : Nat) (vs : List Value) : Option AS :=
  List.casesOn (motive := fun _ => Option AS) vs (some s) fun _ _ => inCells (s.heap.get id) fun n t e fro fam =>
    only (Nat.ble (Nat.add off vs.length) n && outside fro off vs.length && allOne vs) (storeAs s id off vs n t e fro fam)
def parts (v : Value) : List Value := match v with | .agg cs => cs.toList | v => [v]
def isAgg (d : TypeDesc) : Bool := match d with | .struct _ | .array _ _ => true | _ => false
/-- Is a type a struct or an array; how many cells has it? -/
def Env.shape (E : Env) (t : TypeId) : Option (Bool × Nat) := obind (E.und t) fun d => obind (E.size t) fun n => some (isAgg d, n)
def loadVar (E : Env) (s : AS) (t : TypeId) (a : Addr) : Option Value :=
  only a.spot.isNone (pbind (E.shape t) fun ag n => bif ag then obind (cells s a.block a.off n) fun l => some (.agg l.toArray) else cell s a.block a.off)
def storeVar (E : Env) (s : AS) (t : TypeId) (a : Addr) (v : Value) : Option AS :=
  only a.spot.isNone (obind (E.size t) fun n => only (Nat.beq (parts v).length n) (store s a.block a.off (parts v)))
def rowAt (s : AS) (t : TypeId) (vs : List Value) : AS := s.alloc (.cells vs.length (ofList vs 0 .nil) t (0, 0) none)
def newVar (s : AS) (t : TypeId) (vs : List Value) : Got := only (allOne vs) (some (some (.pointer (some ⟨s.next, 0, none⟩)), rowAt s t vs))

/-! Operations on values. -/
def fill (place : Nat → Option (Nat × Nat)) (len : Nat) : List (Nat × Value) → Tr Value → Option (Tr Value)
  | [], c => some c
  | (i, v) :: rest, c => pbind (place i) fun off size =>
      only (Nat.beq (parts v).length size && Nat.ble (Nat.add off size) len && allOne (parts v)) (fill place len rest (ofList (parts v) off c))
def zeros (z : List Value) : Nat → List Value
  | 0 => []
  | n + 1 => z ++ zeros z n
/-- Where the parts of a struct, an array lie. -/
inductive Places where
  | str (l : List (Nat × Nat))
  | arr (z : Nat)
def sizes (E : Env) : List Field → Option (List (Nat × Nat))
  | [] => some []
  | f :: l => obind (E.size f.type) fun n => obind (sizes E l) fun r => some ((f.offset, n) :: r)
def placesOf (E : Env) (d : TypeDesc) : Option Places :=
  match d with
  | .struct fs => obind (sizes E fs.toList) fun l => some (.str l)
  | .array _ e => obind (E.size e) fun z => some (.arr z)
  | _ => none
def Env.places (E : Env) (t : TypeId) : Option Places := obind (E.und t) (placesOf E)
def placeAt (p : Places) (i : Nat) : Option (Nat × Nat) := Places.casesOn (motive := fun _ => Option (Nat × Nat)) p (fun l => l[i]?) (fun z => some (Nat.mul i z, z))
def zeroOk (zv : Value) : Bool := plain 6 zv && allOne (parts zv)
def buildFrom (zs : List Value) (p : Places) (ps : List (Nat × Value)) : Option Value :=
  obind (fill (placeAt p) zs.length ps (ofList zs 0 .nil)) fun c => obind (cellsGo c zs.length 0) fun l => some (.agg l.toArray)
def build (E : Env) (t : TypeId) (ps : List (Nat × Value)) : Option Value :=
  obind (E.places t) fun p => obind (E.zero t) fun z => only (zeroOk z) (buildFrom (parts z) p ps)
def part (E : Env) (t : TypeId) (cs : List Value) (off : Nat) : Option Value :=
  pbind (E.shape t) fun ag n => bif ag then only (Nat.ble (Nat.add off n) cs.length) (some (.agg ((cs.drop off).take n).toArray)) else cs[off]?
def Env.fieldOf (E : Env) (t : TypeId) (i : Nat) : Option Field :=
  match E.und t with
  | some (.struct fs) => fs.toList[i]?
  | _ => none
def field (E : Env) (t : TypeId) (v : Value) (i : Nat) : Option Value :=
  obind (E.fieldOf t i) fun f => match v with
    | .agg cs => part E f.type cs.toList f.offset
    | _ => none
/-- Where a field lies, if it takes a cell. -/
def Env.offOf (E : Env) (t : TypeId) (i : Nat) : Option Nat :=
  obind (E.fieldOf t i) fun f => obind (E.size f.type) fun n => only (Nat.ble 1 n) (some f.offset)
def ptr {β : Type} (v : Value) (f : Nat → Nat → Option β) : Option β :=
  match v with
  | .pointer (some ⟨b, o, none⟩) => f b o
  | _ => none
def at_ (b o : Nat) : Value := .pointer (some ⟨b, o, none⟩)
def fieldAddr (E : Env) (t : TypeId) (v : Value) (i : Nat) : Option Value :=
  obind (E.offOf t i) fun n => ptr v fun b o => some (at_ b (Nat.add o n))
def nat (v : Value) : Option Nat :=
  match v with
  | .int _ (.ofNat i) => some i
  | _ => none
def idx (v : Value) (n : Nat) : Option Nat := obind (nat v) fun i => only (Nat.ble (Nat.succ i) n) (some i)
def Env.elemOf (E : Env) (t : TypeId) : Option (Option Nat × Nat) :=
  match E.und t with
  | some (.array n e) => obind (E.size e) fun z => some (some n, z)
  | some (.slice e) => obind (E.size e) fun z => some (none, z)
  | _ => none
def inSlice {β : Type} (v : Value) (f : Nat → Nat → Nat → Nat → Option β) : Option β :=
  match v with
  | .slice (some ⟨b, o, none⟩) n c => f b o n c
  | _ => none
def indexAddr (E : Env) (t : TypeId) (x i : Value) : Option Value :=
  pbind (E.elemOf t) fun n z => Option.casesOn (motive := fun _ => Option Value) n
    (inSlice x fun b o len _ => obind (idx i len) fun k => some (at_ b (Nat.add o (Nat.mul k z))))
    (fun n => ptr x fun b o => obind (idx i n) fun k => some (at_ b (Nat.add o (Nat.mul k z))))
def index (E : Env) (t : TypeId) (x i : Value) : Option Value :=
  match E.und t, x with
  | some (.array n e), .agg cs => obind (idx i n) fun k => obind (E.size e) fun z => part E e cs.toList (k * z)
  | some .string, .string s => obind (idx i s.size) fun k => obind (s.data.toList[k]?) fun b => some (.int .u8 (.ofNat b.toNat))
  | _, _ => none
/-- Is the row at this block's end of append's making (its capacity is not known)? -/
def grown (s : AS) (id : Nat) : Option Bool := inCells (s.heap.get id) fun _ _ _ _ fam => some fam.isSome
def bound (v : Option Value) (d top : Nat) : Option Nat :=
  match v with
  | none => some d
  | some v => obind (nat v) fun i => only (Nat.ble i top) (some i)
/-- Low, high, top of a slice of a slice. -/
def bounds (lo hi mx : Option Value) (len cap : Nat) : Option (Nat × Nat × Nat) :=
  only (!(hi.isNone && mx.isSome)) (obind (bound mx cap cap) fun m => obind (bound hi len m) fun h => obind (bound lo 0 h) fun l => only (Nat.ble h m && Nat.ble l h) (some (l, h, m)))
def sliceOf (s : AS) (e : TypeId) (z b o l h m : Nat) : Option Value := inCells (s.heap.get b) fun _ _ e' _ fam =>
  Option.casesOn (motive := fun _ => Option Value) fam (some (.slice (some ⟨b, bif Nat.beq m l then o else Nat.add o (Nat.mul l z), none⟩) (Nat.sub h l) (Nat.sub m l)))
    fun _ => only (Nat.beq e e') (some (.slice (some ⟨b, Nat.add o (Nat.mul l z), none⟩) (Nat.sub h l) (Nat.sub m l)))
def sliceArr (s : AS) (z b o l h m : Nat) : Option Value := inCells (s.heap.get b) fun _ _ _ _ fam =>
  only fam.isNone (some (.slice (some ⟨b, bif Nat.beq m l then o else Nat.add o (Nat.mul l z), none⟩) (Nat.sub h l) (Nat.sub m l)))
def sliceS (s : AS) (e : TypeId) (z : Nat) (x : Value) (lo hi mx : Option Value) : Option Value :=
  match x with
  | .slice none len cap => pbind (bounds lo hi mx len cap) fun l p => some (.slice none (Nat.sub p.1 l) (Nat.sub p.2 l))
  | .slice (some ⟨b, o, none⟩) len cap => pbind (bounds lo hi mx len cap) fun l p => sliceOf s e z b o l p.1 p.2
  | _ => none
def sliceStr (x : Value) (lo hi mx : Option Value) : Option Value :=
  match x with
  | .string b => only mx.isNone (pbind (bounds lo hi none b.size b.size) fun l p => some (.string (b.extract l p.1)))
  | _ => none
def slice (E : Env) (s : AS) (t : TypeId) (x : Value) (lo hi mx : Option Value) : Option Value :=
  match E.und t with
  | some .string => sliceStr x lo hi mx
  | some (.slice e) => obind (E.size e) fun z => sliceS s e z x lo hi mx
  | some (.array n e) => obind (E.size e) fun z => pbind (bounds lo hi mx n n) fun l p => ptr x fun b o => sliceArr s z b o l p.1 p.2
  | _ => none

/-! Whole numbers, fast where they are small. -/
def kno : IntKind → Nat
  | .i8 => 0 | .i16 => 1 | .i32 => 2 | .i64 => 3 | .u8 => 4 | .u16 => 5 | .u32 => 6 | .u64 => 7
def most : IntKind → Nat
  | .i8 => 128 | .i16 => 32768 | .i32 => 2147483648 | .i64 => 9223372036854775808
  | .u8 => 256 | .u16 => 65536 | .u32 => 4294967296 | .u64 => 18446744073709551616
def isU (k : IntKind) : Bool := Nat.ble 4 (kno k)
def wr (k : IntKind) (n : Int) : Int :=
  Int.casesOn (motive := fun _ => Int) n
    (fun m => bif Nat.ble (Nat.succ m) (most k) then .ofNat m else bif isU k then .ofNat (Nat.mod m (most k)) else k.wrap (.ofNat m))
    (fun m => bif Nat.ble (Nat.succ m) (most k) && !isU k then .negSucc m else k.wrap (.negSucc m))
def ieq (x y : Int) : Bool := Int.casesOn (motive := fun _ => Bool) x (fun m => Int.casesOn (motive := fun _ => Bool) y (Nat.beq m) (fun _ => false)) (fun m => Int.casesOn (motive := fun _ => Bool) y (fun _ => false) (Nat.beq m))
def ilt (x y : Int) : Bool := Int.casesOn (motive := fun _ => Bool) x (fun m => Int.casesOn (motive := fun _ => Bool) y (Nat.ble (Nat.succ m)) (fun _ => false)) (fun m => Int.casesOn (motive := fun _ => Bool) y (fun _ => true) (fun n => Nat.ble (Nat.succ n) m))
def iadd (x y : Int) : Int := Int.casesOn (motive := fun _ => Int) x (fun m => Int.casesOn (motive := fun _ => Int) y (fun n => .ofNat (Nat.add m n)) (fun _ => Int.add x y)) (fun _ => Int.add x y)
def isub (x y : Int) : Int := Int.casesOn (motive := fun _ => Int) x (fun m => Int.casesOn (motive := fun _ => Int) y (fun n => bif Nat.ble n m then .ofNat (Nat.sub m n) else Int.sub x y) (fun _ => Int.sub x y)) (fun _ => Int.sub x y)
def imul (x y : Int) : Int := Int.casesOn (motive := fun _ => Int) x (fun m => Int.casesOn (motive := fun _ => Int) y (fun n => .ofNat (Nat.mul m n)) (fun _ => Int.mul x y)) (fun _ => Int.mul x y)
def ofSem {α : Type} : Sem α → Option α
  | .pure a => some a
  | _ => none
def small2 (x y : Int) (k : IntKind) (f : Nat → Nat → Option Value) (r : Option Value) : Option Value :=
  Int.casesOn (motive := fun _ => Option Value) x (fun m => Int.casesOn (motive := fun _ => Option Value) y (fun n => bif Nat.ble (Nat.succ m) (most k) && Nat.ble (Nat.succ n) (most k) then f m n else r) (fun _ => r)) (fun _ => r)
def int2 (op : BinOp) (k : IntKind) (x y : Int) : Option Value :=
  match op with
  | .add => some (.int k (wr k (iadd x y)))
  | .sub => some (.int k (wr k (isub x y)))
  | .mul => some (.int k (wr k (imul x y)))
  | .quo => small2 x y k (fun m n => only (Nat.ble 1 n) (some (.int k (.ofNat (Nat.div m n))))) (ofSem (Op.intDiv .quo k x y))
  | .rem => small2 x y k (fun m n => only (Nat.ble 1 n) (some (.int k (.ofNat (Nat.mod m n))))) (ofSem (Op.intDiv .rem k x y))
  | .and => small2 x y k (fun m n => some (.int k (.ofNat (Nat.land m n)))) (ofSem (Op.intBits .and k x y))
  | .or => small2 x y k (fun m n => some (.int k (.ofNat (Nat.lor m n)))) (ofSem (Op.intBits .or k x y))
  | .xor => small2 x y k (fun m n => some (.int k (.ofNat (Nat.xor m n)))) (ofSem (Op.intBits .xor k x y))
  | .andNot => ofSem (Op.intBits .andNot k x y)
  | .eql => some (.bool (ieq x y))
  | .neq => some (.bool (!ieq x y))
  | .lss => some (.bool (ilt x y))
  | .leq => some (.bool (!ilt y x))
  | .gtr => some (.bool (ilt y x))
  | .geq => some (.bool (!ilt x y))
  | .shl => none
  | .shr => none
def bitsOf : IntKind → Nat
  | .i8 => 8 | .i16 => 16 | .i32 => 32 | .i64 => 64 | .u8 => 8 | .u16 => 16 | .u32 => 32 | .u64 => 64
def shl (k : IntKind) (x y : Int) (k' : IntKind) : Option Value :=
  Int.casesOn (motive := fun _ => Option Value) x (fun m => Int.casesOn (motive := fun _ => Option Value) y
    (fun n => some (.int k (wr k (.ofNat (Nat.mul m (Nat.pow 2 (bif Nat.ble n (bitsOf k) then n else bitsOf k))))))) (fun _ => none)) (fun _ => ofSem (Op.shift .shl k x k' y))
def shr (k : IntKind) (x y : Int) (k' : IntKind) : Option Value :=
  Int.casesOn (motive := fun _ => Option Value) x (fun m => Int.casesOn (motive := fun _ => Option Value) y
    (fun n => some (.int k (.ofNat (Nat.div m (Nat.pow 2 (bif Nat.ble n (bitsOf k) then n else bitsOf k)))))) (fun _ => none)) (fun _ => ofSem (Op.shift .shr k x k' y))
def intOp (op : BinOp) (k : IntKind) (x : Int) (k' : IntKind) (y : Int) : Option Value :=
  match op with
  | .shl => shl k x y k'
  | .shr => shr k x y k'
  | op => only (Nat.beq (kno k) (kno k')) (int2 op k x y)
def equal (E : Env) (x y : Operand) (t : TypeId) (a b : Value) : Option Bool :=
  match E.und t, a, b with
  | some .bool, .bool p, .bool q => some (p == q)
  | some (.pointer _), .pointer none, .pointer q => some q.isNone
  | some (.pointer _), .pointer p, .pointer none => some p.isNone
  | some (.slice _), .slice none _ _, .slice q _ _ => some q.isNone
  | some (.slice _), .slice p _ _, .slice none _ _ => some p.isNone
  | some (.map ..), .map none, .map q => some q.isNone
  | some (.map ..), .map p, .map none => some p.isNone
  | some (.func ..), .nilFunc, .nilFunc => some true
  | some (.func ..), .nilFunc, .func .. => some false
  | some (.func ..), .func .., .nilFunc => some false
  | some (.interface _), .nilIface, .nilIface => match x, y with
    | .const _, _ => some true
    | _, .const _ => some true
    | _, _ => none
  | some (.interface _), .nilIface, .iface .. => some false
  | some (.interface _), .iface .., .nilIface => some false
  | _, _, _ => none
def bytesEq : List UInt8 → List UInt8 → Bool
  | [], [] => true
  | a :: x, b :: y => bif Nat.beq a.toNat b.toNat then bytesEq x y else false
  | _, _ => false
def strOp (op : BinOp) (m n : ByteArray) : Option Value :=
  match op with
  | .eql => some (.bool (bytesEq m.data.toList n.data.toList))
  | .neq => some (.bool (!bytesEq m.data.toList n.data.toList))
  | .add => only (Nat.ble (Nat.add m.size n.size) (2 ^ 40)) (some (.string (m ++ n)))
  | .lss => some (.bool (Op.bytesLess m.data.toList n.data.toList))
  | .leq => some (.bool (Op.bytesLess m.data.toList n.data.toList || bytesEq m.data.toList n.data.toList))
  | .gtr => some (.bool (!(Op.bytesLess m.data.toList n.data.toList || bytesEq m.data.toList n.data.toList)))
  | .geq => some (.bool (!Op.bytesLess m.data.toList n.data.toList))
  | _ => none
/-- Are two structs of plain parts alike? -/
def fieldsEq (eq : TypeId → Value → Value → Option Bool) (E : Env) (xs ys : List Value) : List Field → Option Bool
  | [] => some true
  | f :: l => only (f.name != "_") (obind (part E f.type xs f.offset) fun a => obind (part E f.type ys f.offset) fun b => obind (eq f.type a b) fun r => bif r then fieldsEq eq E xs ys l else some false)
def eqAt (E : Env) : Nat → TypeId → Value → Value → Option Bool
  | 0 => fun _ _ _ => none
  | d + 1 => fun t a b => match E.und t, a, b with
    | some .bool, .bool p, .bool q => some (p == q)
    | some (.int _), .int k m, .int k' n => only (Nat.beq (kno k) (kno k')) (some (ieq m n))
    | some .string, .string p, .string q => some (bytesEq p.data.toList q.data.toList)
    | some (.struct fs), .agg xs, .agg ys => only (E.calm t) (fieldsEq (eqAt E d) E xs.toList ys.toList fs.toList)
    | _, _, _ => none
def equal2 (E : Env) (x y : Operand) (t : TypeId) (a b : Value) : Option Bool :=
  match a, b with
  | .agg xs, .agg ys => only (E.calm t) (eqAt E 8 t (.agg xs) (.agg ys))
  | a, b => equal E x y t a b
def otherOp (E : Env) (op : BinOp) (t : TypeId) (x y : Operand) (a b : Value) : Option Value :=
  match op with
  | .eql => obind (equal2 E x y t a b) fun b => some (.bool b)
  | .neq => obind (equal2 E x y t a b) fun b => some (.bool !b)
  | _ => none
def binOp (E : Env) (op : BinOp) (t : TypeId) (x y : Operand) (a b : Value) : Option Value :=
  match a, b with
  | .int k m, .int k' n => intOp op k m k' n
  | .string m, .string n => strOp op m n
  | a, b => otherOp E op t x y a b
def convert (E : Env) (src dst : TypeId) (x : Value) : Option Value :=
  match E.und src, E.und dst, x with
  | some _, some (.int k), .int _ n => some (.int k (wr k n))
  | some .string, some .string, .string s => some (.string s)
  | _, _, _ => none
def bytesOf (s : ByteArray) : List Value := s.data.toList.map fun b => .int .u8 (.ofNat b.toNat)
def toBytes : List Value → ByteArray → Option ByteArray
  | [], b => some b
  | .int .u8 n :: l, b => toBytes l (b.push (UInt8.ofNat n.toNat))
  | _, _ => none

/-! append -/
def sliceElem (E : Env) (ty : TypeId) : Option TypeId := match E.und ty with | some (.slice e) => some e | _ => none
def killAbove (top : Nat) : List (Nat × Nat) → AS → List (Nat × Nat) × AS
  | [], s => ([], s)
  | x :: l, s => bif Nat.ble x.2 top then (x :: l, s) else killAbove top l (kill s x.1)
/-- A row of its own, or one behind a row that append has made (it may lie in that row's room). -/
def newRow (s : AS) (elem : TypeId) (t : Tr Value) (n len cap : Nat) : Value × AS :=
  let s1 := s.alloc (.fam [(s.next + 1, n)])
  (.slice (some ⟨s.next + 1, 0, none⟩) len cap, s1.alloc (.cells n t elem (0, 0) (some (s.next, 0))))
/-- Behind a row that append has made: it may lie in that row's room. -/
def behind (s : AS) (t : Tr Value) (n : Nat) (e : TypeId) (fro : Nat × Nat) (o mid f rel len : Nat) : Option (Value × AS) :=
  match s.heap.get f with
  | some (.fam ids) =>
    let r := killAbove (rel + o + mid) ids s
    some (.slice (some ⟨(r.2.put f (.fam ((r.2.next, rel + o + n) :: r.1))).next, 0, none⟩) len len,
      (r.2.put f (.fam ((r.2.next, rel + o + n) :: r.1))).alloc (.cells n t e (fro.1 - o, fro.2 - o) (some (f, rel + o))))
  | _ => none
/-- Into a row's room, or behind it. -/
def appendTo (s : AS) (e : TypeId) (z b o len cap k : Nat) (new : List Value) : Option (Value × AS) :=
  bif Nat.ble (len + k) cap then obind (store s b (o + len * z) new) fun s' => some (.slice (some ⟨b, o, none⟩) (len + k) cap, s')
  else obind (cells s b o (len * z)) fun old => inCells (s.heap.get b) fun _ t e' fro fam =>
    match fam with
    | none => some (newRow s e (ofList (old ++ new) 0 .nil) ((len + k) * z) (len + k) (len + k))
    | some (f, rel) => only (Nat.beq e e' && Nat.ble fro.2 (o + len * z))
        (behind s (bif Nat.beq o 0 then ofList new (len * z) t else ofList (old ++ new) 0 .nil) ((len + k) * z) e fro o (len * z) f rel (len + k))
def append (E : Env) (s : AS) (sType : TypeId) (x : Value) (new : List Value) (k : Nat) : Option (Value × AS) :=
  match x with
  | .slice base len cap => obind (sliceElem E sType) fun e => obind (E.ty e) fun i =>
      only (Nat.beq new.length (k * i.size) && allOne new && Nat.ble ((len + k) * (i.bytes + 1)) (2 ^ 36))
        (obind i.zero fun zv => only (Nat.beq (parts zv).length i.size) (match base with
        | none => bif Nat.ble (len + k) cap then only (Nat.beq cap 0) (some (.slice none (len + k) cap, s)) else only (Nat.beq len 0 && Nat.beq cap 0) (some (newRow s e (ofList new 0 .nil) ((len + k) * i.size) (len + k) (len + k)))
        | some ⟨b, o, none⟩ => appendTo s e i.size b o len cap k new
        | _ => none))
  | _ => none

def firstCells (s : AS) (z n : Nat) : Value → Option (List Value)
  | .slice (some ⟨b, o, none⟩) _ _ => cells s b o (n * z)
  | .slice none _ _ => some []
  | .string b => some ((bytesOf b).take n)
  | _ => none
def lenOf : Value → Option Nat
  | .slice _ n _ => some n
  | .string s => some s.size
  | _ => none

/-! Maps. -/
def sameKey (d : TypeDesc) (a b : Value) : Option Bool :=
  match d, a, b with
  | .int _, .int k m, .int k' n => only (Nat.beq (kno k) (kno k')) (some (ieq m n))
  | .string, .string m, .string n => some (bytesEq m.data.toList n.data.toList)
  | .bool, .bool m, .bool n => some (m == n)
  | _, _, _ => none
def findKey (d : TypeDesc) (k : Value) : List (Value × Value × Nat) → Option (Option Value)
  | [] => some none
  | (k', v, _) :: l => match sameKey d k k' with
    | some true => some (some v)
    | some false => findKey d k l
    | none => none
def setKey (d : TypeDesc) (k v : Value) (clock : Nat) : List (Value × Value × Nat) → Option (List (Value × Value × Nat) × Nat)
  | [] => some ([(k, v, clock)], clock + 1)
  | (k', v', b) :: l => match sameKey d k k' with
    | some true => some ((k, v, b) :: l, clock)
    | some false => match setKey d k v clock l with
      | some (l', c) => some ((k', v', b) :: l', c)
      | none => none
    | none => none
def keyKind (E : Env) (t : TypeId) : Option (TypeDesc × TypeId) :=
  match E.und t with
  | some (.map k e) => match E.und k with
    | some (.int i) => some (.int i, e)
    | some .string => some (.string, e)
    | some .bool => some (.bool, e)
    | _ => none
  | _ => none
def entriesOf (s : AS) (x : Value) : Option (List (Value × Value × Nat)) :=
  match x with
  | .map none => some []
  | .map (some m) => match s.heap.get m with
    | some (.map es _) => some es
    | _ => none
  | _ => none
def found (E : Env) (e : TypeId) (ok : Bool) (r : Option Value) : Option Value :=
  Option.casesOn (motive := fun _ => Option Value) r (obind (E.zero e) fun z => only (plain 6 z) (some (bif ok then .tuple #[z, .bool false] else z))) fun v => some (bif ok then .tuple #[v, .bool true] else v)
def lookup (E : Env) (s : AS) (t : TypeId) (x k : Value) (ok : Bool) : Option Value :=
  pbind (keyKind E t) fun d e => obind (entriesOf s x) fun es => obind (findKey d k es) (found E e ok)
def mapUpdate (E : Env) (s : AS) (t : TypeId) (x k v : Value) : Option AS :=
  match keyKind E t, x with
  | some (d, _), .map (some m) => match s.heap.get m with
    | some (.map es c) => match setKey d k v c es with
      | some (es', c') => some (s.put m (.map es' c'))
      | none => none
    | _ => none
  | _, _ => none

/-! Types. -/
def missing (want : List (String × TypeId)) (got : List Method) : Bool :=
  want.any fun w => !got.any fun m => m.name == w.1 && m.sig == w.2
def holdsA (ok : Bool) (v : Value) : Option Value := some (bif ok then .tuple #[v, .bool true] else v)
def failsA (E : Env) (u : TypeId) (ok : Bool) : Option Value := only ok (obind (E.zero u) fun z => only (plain 6 z) (some (.tuple #[z, .bool false])))
def isIface (d : TypeDesc) : Option (List (String × TypeId)) := match d with | .interface w => some w.toList | _ => none
def assertI (E : Env) (w : List (String × TypeId)) (u : TypeId) (ok : Bool) (x : Value) : Option Value :=
  match x with
  | .nilIface => failsA E u ok
  | .iface t v => obind (E.ty t) fun i => bif missing w i.methods.toList then failsA E u ok else holdsA ok (.iface t v)
  | _ => none
def assertC (E : Env) (u : TypeId) (ok : Bool) (x : Value) : Option Value :=
  match x with
  | .nilIface => failsA E u ok
  | .iface t v => bif Nat.beq t u then holdsA ok v else failsA E u ok
  | _ => none
def typeAssert (E : Env) (x : Value) (u : TypeId) (ok : Bool) : Option Value :=
  obind (E.und u) fun d => Option.casesOn (motive := fun _ => Option Value) (isIface d) (assertC E u ok x) fun w => assertI E w u ok x

/-! Control. -/
inductive AExit where
  | normal
  | exit (id : Nat)
  | ret

structure Hand where
  call : FuncId → List Value → AS → Option (Value × AS)
  round : Nat → List Value → AS → Option (Value × AS)
  fuel : Nat

def invoke (H : Hand) (f : Value) (args : List Value) (s : AS) : Option (Value × AS) :=
  match f with
  | .func (.func g) first captured => H.call g (first.toList ++ args ++ captured.toList) s
  | .func (.yield l) first _ => H.round l (first.toList ++ args) s
  | _ => none

def pairsOf (E : Env) (t : Fr) : List (Nat × Operand) → Option (List (Nat × Value))
  | [] => some []
  | x :: l => obind (aval E t x.2) fun v => obind (pairsOf E t l) fun vs => some ((x.1, v) :: vs)
def opt (E : Env) (t : Fr) (x : Option Operand) : Option (Option Value) :=
  match x with
  | none => some none
  | some x => obind (aval E t x) fun v => some (some v)
def val (v : Option Value) (s : AS) : Got := obind v fun v => some (some v, s)
def vals (r : Option (Value × AS)) : Got := pbind r fun v s => some (some v, s)
def nothing (r : Option AS) : Got := obind r fun s => some (none, s)
def goInt (n : Nat) : Value := .int .i64 (.ofNat n)
def lenB (E : Env) (s : AS) (t : TypeId) (x : Value) : Option Value :=
  match E.und t, x with
  | some .string, .string b => some (goInt b.size)
  | some (.array n _), _ => some (goInt n)
  | some (.slice _), .slice _ n _ => some (goInt n)
  | some (.map ..), .map none => some (goInt 0)
  | some (.map ..), .map (some m) => match s.heap.get m with
    | some (.map es _) => some (goInt es.length)
    | _ => none
  | _, _ => none
def capB (E : Env) (s : AS) (t : TypeId) (x : Value) : Option Value :=
  match E.und t, x with
  | some (.slice _), .slice (some a) _ c => match grown s a.block with
    | some false => some (goInt c)
    | _ => none
  | some (.slice _), .slice none _ c => some (goInt c)
  | _, _ => none
def isInt (d : TypeDesc) : Bool := match d with | .int _ => true | _ => false
/-- Is the second argument of an append a number of zeros? -/
def ofZeros (E : Env) : List TypeId → Option Bool
  | [] => some false
  | u :: _ => obind (E.und u) fun d => some (isInt d)
def appendZ (E : Env) (s : AS) (t e : TypeId) (x y : Value) : Option (Value × AS) :=
  obind (nat y) fun n => only (Nat.ble n (2 ^ 30)) (obind (E.ty e) fun i => obind i.zero fun z =>
    only (plain 6 z && Nat.ble (n * i.bytes) (2 ^ 40) && (Nat.beq (n * i.size) 0 || Nat.beq (parts z).length i.size)) (append E s t x (bif Nat.beq (n * i.size) 0 then [] else zeros (parts z) n) n))
def appendV (E : Env) (s : AS) (t e : TypeId) (x y : Value) : Option (Value × AS) :=
  obind (lenOf y) fun n => obind (E.size e) fun z => obind (firstCells s z n y) fun new => append E s t x new n
def appendB (E : Env) (s : AS) (t : TypeId) (us : List TypeId) (x y : Value) : Option (Value × AS) :=
  obind (sliceElem E t) fun e => obind (ofZeros E us) fun z => bif z then appendZ E s t e x y else appendV E s t e x y
def copyB (E : Env) (s : AS) (t : TypeId) (x y : Value) : Got :=
  match E.und t, x with
  | some (.slice e), .slice base len _ => obind (E.size e) fun z => obind (lenOf y) fun m =>
      obind (firstCells s z (min m len) y) fun new =>
        match new, base with
        | [], _ => some (some (goInt (min m len)), s)
        | new, some ⟨b, o, none⟩ => obind (store s b o new) fun s => some (some (goInt (min m len)), s)
        | _, _ => none
  | _, _ => none
def builtin (E : Env) (b : Builtin) (ts : List TypeId) (args : List Value) (s : AS) : Got :=
  match b, ts, args with
  | .len, t :: _, [x] => val (lenB E s t x) s
  | .cap, t :: _, [x] => val (capB E s t x) s
  | .append, t :: us, [x, y] => vals (appendB E s t us x y)
  | .copy, t :: _, [x, y] => copyB E s t x y
  | .min, _, [.int k x, .int k' y] => only (Nat.beq (kno k) (kno k')) (val (some (.int k (bif ilt y x then y else x))) s)
  | .max, _, [.int k x, .int k' y] => only (Nat.beq (kno k) (kno k')) (val (some (.int k (bif ilt x y then y else x))) s)
  | _, _, _ => none

/-! The operations. -/
abbrev Run := Env → Hand → Fr → AS → Got
def oMove (x : Operand) : Run := fun E _ t s => val (aval E t x) s
def oPick (c a b : Operand) : Run := fun E _ t s => match aval E t c, aval E t a, aval E t b with
  | some (.bool c), some a, some b => some (some (bif c then a else b), s)
  | _, _, _ => none
def oAlloc (e : TypeId) : Run := fun E _ _ s => obind (E.zero e) fun z => only (plain 6 z) (newVar s e (parts z))
def oBox (e : TypeId) (x : Operand) : Run := fun E _ t s => obind (aval E t x) fun v => newVar s e (parts v)
def oBuild (ty : TypeId) (ps : Array (Nat × Operand)) : Run := fun E _ t s => obind (pairsOf E t ps.toList) fun vs => val (build E ty vs) s
/-- The zeros of a row of a slice's elements. -/
def zeroRow (E : Env) (e : TypeId) (n : Nat) : Option (Tr Value × Nat) :=
  obind (E.size e) fun z => obind (E.zero e) fun zv => only (Nat.ble (n * z) (2 ^ 24) && plain 6 zv && Nat.beq (parts zv).length z && allOne (parts zv)) (some (ofList (zeros (parts zv) n) 0 .nil, n * z))
def oBuildSlice (ty : TypeId) (len : Nat) (ps : Array (Nat × Operand)) : Run := fun E _ t s =>
  obind (pairsOf E t ps.toList) fun vs => obind (sliceElem E ty) fun e => pbind (zeroRow E e len) fun z n =>
    obind (E.size e) fun sz => obind (fill (placeAt (.arr sz)) n vs z) fun c => some (some (.slice (some ⟨s.next, 0, none⟩) len len), s.alloc (.cells n c e (0, 0) none))
def addr {β : Type} (v : Value) (f : Addr → Option β) : Option β := match v with | .pointer (some a) => f a | _ => none
def oLoad (ty : TypeId) (x : Operand) : Run := fun E _ t s => obind (aval E t x) fun v => addr v fun a => val (loadVar E s ty a) s
def oStore (ty : TypeId) (x y : Operand) : Run := fun E _ t s => obind (aval E t x) fun v => addr v fun a => obind (aval E t y) fun u => nothing (storeVar E s ty a u)
def oNilCheck (x : Operand) : Run := fun E _ t s => match aval E t x with
  | some (.pointer none) | some .nilIface | some .nilFunc | some (.func (.method _) _ _) => none
  | some v => some (some v, s)
  | none => none
def oBin (op : BinOp) (ty : TypeId) (x y : Operand) : Run := fun E _ t s => obind (aval E t x) fun a => obind (aval E t y) fun b => val (binOp E op ty x y a b) s
def oUn (op : UnOp) (x : Operand) : Run := fun E _ t s => match aval E t x with
  | some (.int k n) => val (ofSem (Op.unary op (.int k n))) s
  | some (.bool b) => val (ofSem (Op.unary op (.bool b))) s
  | _ => none
def toStr (E : Env) (s : AS) (src : TypeId) (base : Option Addr) (len : Nat) : Option Value :=
  obind (sliceElem E src) fun e => match E.und e, base with
    | some (.int .u8), none => some (.string .empty)
    | some (.int .u8), some ⟨b, o, none⟩ => obind (cells s b o len) fun l => obind (toBytes l .empty) fun b => some (.string b)
    | _, _ => none
/-- The row's capacity is not known: a row of append's making. -/
def ofStr (E : Env) (s : AS) (dst : TypeId) (b : ByteArray) : Option (Value × AS) :=
  obind (sliceElem E dst) fun e => match E.und e with
    | some (.int .u8) => obind (E.size e) fun z => only (Nat.ble b.size (2 ^ 30) && Nat.beq z 1) (some (newRow s e (ofList (bytesOf b) 0 .nil) b.size b.size b.size))
    | _ => none
def oConvert (src dst : TypeId) (x : Operand) : Run := fun E _ t s => obind (aval E t x) fun v =>
  match E.und src, E.und dst, v with
  | some (.slice _), some .string, .slice base len _ => val (toStr E s src base len) s
  | some .string, some (.slice _), .string b => vals (ofStr E s dst b)
  | _, _, v => val (convert E src dst v) s
def oIface (ty : TypeId) (x : Operand) : Run := fun E _ t s => match aval E t x, E.und ty with
  | some _, some (.interface _) => none
  | some v, some _ => some (some (.iface ty v), s)
  | _, _ => none
def oFunc (fn : Fn) (first captured : Array Operand) : Run := fun E _ t s => match fn with
  | .func f => obind (avals E t first.toList) fun a => obind (avals E t captured.toList) fun b => some (some (.func (.func f) a.toArray b.toArray), s)
  | _ => none
def isMapT (E : Env) (ty : TypeId) : Bool := match E.und ty with | some (.map ..) => true | _ => false
def isIntC (x : Operand) : Bool := match x with | .const (.int _ _) => true | _ => false
def mapOk (E : Env) (ty : TypeId) (r : Option Operand) : Bool := match r with | none => true | some x => isMapT E ty && isIntC x
def oMap (ty : TypeId) (r : Option Operand) : Run := fun E _ _ s => only (mapOk E ty r) (some (some (.map (some s.next)), s.alloc (.map [] 0)))
def makeRow (E : Env) (s : AS) (e : TypeId) (len cap : Nat) : Got :=
  obind (E.ty e) fun i => only (Nat.ble len cap && Nat.ble ((cap + 1) * (i.bytes + i.size + 1)) (2 ^ 40)) (pbind (zeroRow E e cap) fun z n =>
    some (some (.slice (some ⟨s.next, 0, none⟩) len cap), s.alloc (.cells n z e (0, 0) none)))
def oMakeSlice (ty : TypeId) (l c : Operand) : Run := fun E _ t s => obind (aval E t l) fun l => obind (nat l) fun len => obind (aval E t c) fun c => obind (nat c) fun cap =>
  obind (sliceElem E ty) fun e => makeRow E s e len cap
def oSlice (ty : TypeId) (x : Operand) (lo hi mx : Option Operand) : Run := fun E _ t s =>
  obind (aval E t x) fun v => obind (opt E t lo) fun lo => obind (opt E t hi) fun hi => obind (opt E t mx) fun mx => val (slice E s ty v lo hi mx) s
def oFieldAddr (ty : TypeId) (x : Operand) (f : Nat) : Run := fun E _ t s => obind (aval E t x) fun v => val (fieldAddr E ty v f) s
def oField (ty : TypeId) (x : Operand) (f : Nat) : Run := fun E _ t s => obind (aval E t x) fun v => val (field E ty v f) s
def oIndexAddr (ty : TypeId) (x i : Operand) : Run := fun E _ t s => obind (aval E t x) fun v => obind (aval E t i) fun i => val (indexAddr E ty v i) s
def oIndex (ty : TypeId) (x i : Operand) : Run := fun E _ t s => obind (aval E t x) fun v => obind (aval E t i) fun i => val (index E ty v i) s
def oLookup (ty : TypeId) (x k : Operand) (ok : Bool) : Run := fun E _ t s => obind (aval E t x) fun v => obind (aval E t k) fun k => val (lookup E s ty v k ok) s
def oMapUpdate (ty : TypeId) (m k x : Operand) : Run := fun E _ t s => obind (aval E t m) fun m => obind (aval E t k) fun k => obind (aval E t x) fun v => nothing (mapUpdate E s ty m k v)
def oRange (ty : TypeId) (x : Operand) : Run := fun E _ t s => match E.und ty, aval E t x with
  | some .string, some (.string b) => some (some (at_ s.next 0), s.alloc (.strIter b 0))
  | _, _ => none
def nextStr (s : AS) (r : Nat) (b : ByteArray) (pos : Nat) : Got :=
  bif Nat.ble (Nat.succ pos) b.size then
    some (some (.tuple #[.bool true, goInt pos, .int .i32 (.ofNat (Utf8.decode b pos).1)]), s.put r (.strIter b (pos + (Utf8.decode b pos).2)))
  else some (some (.tuple #[.bool false]), s)
def oNext (it : Operand) (str : Bool) : Run := fun E _ t s => only str (match aval E t it with
  | some (.pointer (some ⟨r, 0, none⟩)) => match s.heap.get r with
    | some (.strIter b pos) => nextStr s r b pos
    | _ => none
  | _ => none)
def oAssert (x : Operand) (u : TypeId) (ok : Bool) : Run := fun E _ t s => obind (aval E t x) fun v => val (typeAssert E v u ok) s
def oExtract (x : Operand) (i : Nat) : Run := fun E _ t s => match aval E t x with
  | some (.tuple vs) => val (vs.toList[i]?) s
  | _ => none
def callOf (c : Callee) (ts : List TypeId) (args : List Value) : Run := fun E H t s =>
  match c with
  | .value f => obind (aval E t f) fun f => vals (invoke H f args s)
  | .builtin b => builtin E b ts args s
  | .invoke .. => none
def oCall (c : Call) : Run := fun E H t s => obind (avals E t c.args.toList) fun args => callOf c.callee c.argTypes.toList args E H t s
def aop (o : Op) : Run :=
  match o with
  | .move x => oMove x
  | .assign x => oMove x
  | .pick c a b => oPick c a b
  | .alloc e => oAlloc e
  | .box e x => oBox e x
  | .build ty ps => oBuild ty ps
  | .buildSlice ty len ps => oBuildSlice ty len ps
  | .insert ty m k x => oMapUpdate ty m k x
  | .load ty x => oLoad ty x
  | .store ty x y => oStore ty x y
  | .nilCheck x => oNilCheck x
  | .binOp op ty x y _ => oBin op ty x y
  | .unOp op _ x => oUn op x
  | .convert src dst x => oConvert src dst x
  | .makeInterface ty x => oIface ty x
  | .makeFunc fn first captured => oFunc fn first captured
  | .makeMap ty r => oMap ty r
  | .makeSlice ty l c => oMakeSlice ty l c
  | .slice ty x lo hi mx => oSlice ty x lo hi mx
  | .fieldAddr ty x f => oFieldAddr ty x f
  | .field ty x f => oField ty x f
  | .indexAddr ty x i => oIndexAddr ty x i
  | .index ty x i => oIndex ty x i
  | .lookup ty x k ok => oLookup ty x k ok
  | .mapUpdate ty m k x => oMapUpdate ty m k x
  | .range ty x => oRange ty x
  | .next it str => oNext it str
  | .typeAssert x _ u ok => oAssert x u ok
  | .extract x i => oExtract x i
  | .call c => oCall c
  | _ => fun _ _ _ _ => none

def putDst (nt : Nat) (t : Fr) (dst : Option Tmp) (v : Option Value) : Option Fr :=
  Option.casesOn (motive := fun _ => Option Fr) dst (some t) fun d => only (Nat.ble (Nat.succ d) nt) (some (t.set d (Option.casesOn (motive := fun _ => Value) v (.tuple #[]) fun v => v)))

def yieldedAt (all : List Oper) (t : Fr) (j : Nat) (want : Bool) : Option Bool :=
  match all[j]? with
  | some p => match p.dst with
    | some d => match t.get d with
      | some (.bool b) => some (b == want)
      | some (.tuple _) => some false
      | _ => none
    | none => none
  | none => none
def wanted (all : Array Oper) (t : Fr) (g : Option (Nat × Bool)) : Option Bool :=
  Option.casesOn (motive := fun _ => Option Bool) g (some true) fun p => yieldedAt all.toList t p.1 p.2

/-- What memory an operation looks at: none; this one block; we don't say. -/
inductive Foot where
  | none
  | one (b : Nat)
  | any
def footOf (v : Option Value) : Foot :=
  match v with
  | some (.pointer (some a)) => .one a.block
  | some (.slice (some a) _ _) => .one a.block
  | some (.map (some m)) => .one m
  | some (.string _) | some (.slice none _ _) | some (.map none) => .none
  | _ => .any
def footCall (E : Env) (t : Fr) (c : Call) : Foot :=
  match c.callee, c.args.toList with
  | .builtin .len, [x] => footOf (aval E t x)
  | _, _ => .any
def foot (E : Env) (t : Fr) (o : Op) : Foot :=
  match o with
  | .move _ => .none
  | .assign _ => .none
  | .pick .. => .none
  | .build .. => .none
  | .nilCheck _ => .none
  | .binOp .. => .none
  | .unOp .. => .none
  | .makeInterface .. => .none
  | .makeFunc .. => .none
  | .fieldAddr .. => .none
  | .field .. => .none
  | .indexAddr .. => .none
  | .index .. => .none
  | .typeAssert .. => .none
  | .extract .. => .none
  | .load _ x => footOf (aval E t x)
  | .lookup _ x _ _ => footOf (aval E t x)
  | .slice _ x _ _ _ => footOf (aval E t x)
  | .call c => footCall E t c
  | _ => .any

/-- What has been done ahead in a region that draws its order: what wrote older memory (and where), what looked at a block, what did we don't say what. -/
structure Past where
  mods : List (Nat × List Nat)
  reads : List (Nat × Nat)
  loud : List Nat
def has (l : List Nat) (b : Nat) : Bool := match l with | [] => false | x :: l => Nat.beq x b || has l b
def readOk (bits b : Nat) : List (Nat × List Nat) → Bool
  | [] => true
  | (m, w) :: l => (bits.testBit m || !has w b) && readOk bits b l
def modsIn (bits : Nat) : List (Nat × List Nat) → Bool
  | [] => true
  | (m, _) :: l => bits.testBit m && modsIn bits l
def loudIn (bits : Nat) : List Nat → Bool
  | [] => true
  | m :: l => bits.testBit m && loudIn bits l
def readsOk (bits : Nat) (w : List Nat) : List (Nat × Nat) → Bool
  | [] => true
  | (j, b) :: l => (bits.testBit j || !has w b) && readsOk bits w l
/-- An operation that may write (with what it wrote) behind all that is past: is it ordered against what it may disturb? -/
def loudOk (bits : Nat) (w : List Nat) (p : Past) : Bool :=
  modsIn bits p.mods && (w.isEmpty || (loudIn bits p.loud && readsOk bits w p.reads))
def Past.then (p : Past) (i bits : Nat) (w : List Nat) : Foot → Option Past
  | .none => only w.isEmpty (some p)
  | .one b => only (w.isEmpty && readOk bits b p.mods) (some { p with reads := (i, b) :: p.reads })
  | .any => only (loudOk bits w p) (some { p with mods := bif w.isEmpty then p.mods else (i, w) :: p.mods, loud := i :: p.loud })

def aops (E : Env) (H : Hand) (nt : Nat) (all : Array Oper) (l : List Oper) : Fr → AS → Option (Fr × AS) :=
  List.casesOn (motive := fun _ => Fr → AS → Option (Fr × AS)) l (fun t s => some (t, s)) fun o l t s => obind (wanted all t o.guard) fun w =>
    Bool.casesOn (motive := fun _ => Option (Fr × AS)) w (obind (putDst nt t o.dst none) fun t' => aops E H nt all l t' s)
      (pbind (aop o.op E H t s) fun v s' => obind (putDst nt t o.dst v) fun t' => aops E H nt all l t' s')
termination_by structural l

def keepBelow (m : Nat) : List Nat → List Nat → List Nat
  | [], w => w
  | i :: l, w => bif Nat.ble (Nat.succ i) m then i :: keepBelow m l w else keepBelow m l w
def aopsD (E : Env) (H : Hand) (nt : Nat) (all : Array Oper) : List Oper → List Nat → Nat → Past → Fr → AS → Option (Fr × AS)
  | [], _, _, _, t, s => some (t, s)
  | _ :: _, [], _, _, _, _ => none
  | o :: l, b :: bs, i, p, t, s => obind (wanted all t o.guard) fun w =>
      bif w then pbind (aop o.op E H t ⟨s.heap, s.next, s.next, []⟩) fun v s' => obind (putDst nt t o.dst v) fun t' =>
        obind (p.then i b s'.wr (foot E t o.op)) fun p' => aopsD E H nt all l bs (Nat.succ i) p' t' ⟨s'.heap, s'.next, s.mark, keepBelow s.mark s'.wr s.wr⟩
      else obind (putDst nt t o.dst none) fun t' => aopsD E H nt all l bs (Nat.succ i) p t' s

abbrev Out := Option (AExit × Fr × List Nat × AS)
abbrev Act' := Fr → List Nat → AS → Out
def after (r : Out) (k : Act') (e : AExit → Act') : Out :=
  Option.casesOn (motive := fun _ => Out) r none fun p => AExit.casesOn (motive := fun _ => Out) p.1 (k p.2.1 p.2.2.1 p.2.2.2) (fun id => e (.exit id) p.2.1 p.2.2.1 p.2.2.2) (e .ret p.2.1 p.2.2.1 p.2.2.2)
def out (e : AExit) : Act' := fun t d s => some (e, t, d, s)
def loopN (f : Act') : Nat → Act'
  | 0 => fun _ _ _ => none
  | n + 1 => fun t d s => after (f t d s) (loopN f n) out
def region (E : Env) (H : Hand) (nt : Nat) (ops : Array Oper) (draw : Bool) : Act' := fun t d s =>
  pbind (bif draw then aopsD E H nt ops ops.toList (Region.before ops).toList 0 ⟨[], [], []⟩ t s else aops E H nt ops ops.toList t s) fun t' s' => some (.normal, t', d, s')
def branch (E : Env) (c : Operand) (a b : Act') : Act' := fun t d s => match aval E t c with
  | some (.bool c) => bif c then a t d s else b t d s
  | _ => none
def inBlock (id : Nat) : AExit → Act'
  | .exit j => fun t d s => some (bif Nat.beq j id then .normal else .exit j, t, d, s)
  | e => out e
def overAt (l : Nat) (dl : List Nat) : Act' := fun t d s =>
  match s.heap.get l with
  | some (.loop t1 nt1 ps as bd st pend dd) =>
    match st, pend with
    | .busy, _ => none
    | _, none => some (.normal, t, dl ++ d, s.put l (.loop t1 nt1 ps as bd .exhausted pend dd))
    | _, some .ret => some (.ret, t, dl ++ d, s.put l (.loop t1 nt1 ps as bd .exhausted pend dd))
    | _, some (.exit id) => some (.exit id, t, dl ++ d, s.put l (.loop t1 nt1 ps as bd .exhausted pend dd))
    | _, _ => none
  | _ => none
/-- The block for deferred calls that a record of a range over a function names (made ahead of an outermost one). -/
def defsOf (rnd : Option Nat) (s : AS) : Option (Nat × List Nat × AS) :=
  match rnd with
  | none => some (s.next, [s.next], s.alloc .defs)
  | some l => match s.heap.get l with
    | some (.loop _ _ _ _ _ _ _ dd) => some (dd, [], s)
    | _ => none
/-- A call of a function's value (no yield). -/
def invokeF (H : Hand) (f : Value) (args : List Value) (s : AS) : Option (Value × AS) :=
  match f with
  | .func (.func g) first captured => H.call g (first.toList ++ args ++ captured.toList) s
  | _ => none
def rangeOver (E : Env) (H : Hand) (nt : Nat) (rnd : Option Nat) (f : Operand) (params : List Tmp) (assign body : Code) : Act' := fun t d s =>
  obind (aval E t f) fun fv => pbind (defsOf rnd s) fun dd q =>
    pbind (invokeF H fv [.func (.yield q.2.next) #[] #[]] (q.2.alloc (.loop t nt params assign body .ready none dd))) fun _ s2 => overAt q.2.next q.1 t d s2
def acode (E : Env) (H : Hand) (nt : Nat) (rnd : Option Nat) : Code → Act'
  | .skip => out .normal
  | .label _ => out .normal
  | .region _ ops draw => region E H nt ops draw
  | .seq a b => fun t d s => after (acode E H nt rnd a t d s) (acode E H nt rnd b) out
  | .cond c a b => branch E c (acode E H nt rnd a) (acode E H nt rnd b)
  | .block id c => fun t d s => after (acode E H nt rnd c t d s) (out .normal) (inBlock id)
  | .loop c => loopN (acode E H nt rnd c) H.fuel
  | .exit id => out (.exit id)
  | .ret => out .ret
  | .rangeFunc f params assign body => rangeOver E H nt rnd f params.toList assign body
  | _ => fun _ _ _ => none

def takeAll : List Nat → AS → Option AS
  | [], s => some s
  | r :: l, s => match s.heap.get r with
    | some .defs => takeAll l (s.put r .dead)
    | _ => none
def resultOf (E : Env) (s : AS) (t : Fr) : ResultVar → Option Value
  | .tmp i => t.get i
  | .cell a ty => obind (t.get a) fun v => addr v fun ad => loadVar E s ty ad
def resultsOf (E : Env) (s : AS) (t : Fr) : List ResultVar → Option (List Value)
  | [] => some []
  | r :: l => obind (resultOf E s t r) fun v => obind (resultsOf E s t l) fun vs => some (v :: vs)
def oneOf (vs : List Value) : Value := match vs with | [v] => v | vs => .tuple vs.toArray
def leave (E : Env) (rs : List ResultVar) : Act' → Fr → List Nat → AS → Option (Value × AS) := fun _ t d s =>
  obind (takeAll d s) fun s' => obind (resultsOf E s' t rs) fun vs => some (oneOf vs, s')
def ended (E : Env) (rs : List ResultVar) (r : Out) : Option (Value × AS) :=
  Option.casesOn (motive := fun _ => Option (Value × AS)) r none fun p => AExit.casesOn (motive := fun _ => Option (Value × AS)) p.1 (leave E rs (out .ret) p.2.1 p.2.2.1 p.2.2.2) (fun _ => none) (leave E rs (out .ret) p.2.1 p.2.2.1 p.2.2.2)
def acallF (E : Env) (H : Hand) (f : FuncId) (args : List Value) (s : AS) : Option (Value × AS) :=
  obind (E.fn f) fun fn => obind fn.body fun c => ended E fn.results.toList (acode E H (Nat.add args.length (Nat.sub fn.ntmps args.length)) none c (ofList args 0 .nil) [] s)
def acall (E : Env) (H : Hand) (f : FuncId) (args : List Value) (s : AS) : Option (Value × AS) :=
  Option.casesOn (motive := fun _ => Option (Value × AS)) (E.prim f) (acallF E H f args s) fun p => p args s

def setParams (nt : Nat) : List Tmp → List Value → Fr → Option Fr
  | [], [], t => some t
  | p :: ps, v :: vs, t => only (Nat.ble (Nat.succ p) nt) (setParams nt ps vs (t.set p v))
  | _, _, _ => none
def endRound (l : Nat) (e : AExit) (s : AS) : Option (Value × AS) :=
  match s.heap.get l with
  | some (.loop t nt ps as bd _ _ dd) =>
    match e with
    | .normal => some (.bool true, s.put l (.loop t nt ps as bd .ready none dd))
    | .ret => some (.bool false, s.put l (.loop t nt ps as bd .done (some .ret) dd))
    | .exit id => some (.bool false, s.put l (.loop t nt ps as bd .done (some (.exit id)) dd))
  | _ => none
def bodyOf (E : Env) (H : Hand) (l nt : Nat) (bd : Code) (t : Fr) (s : AS) : Option (Value × AS) :=
  match s.heap.get l with
  | some (.loop t0 nt0 ps as bd0 .ready pend dd) =>
    match acode E H nt (some l) bd t [] (s.put l (.loop t0 nt0 ps as bd0 .busy pend dd)) with
    | some (e, _, [], s') => endRound l e s'
    | _ => none
  | _ => none
def around (E : Env) (H : Hand) (l : Nat) (args : List Value) (s : AS) : Option (Value × AS) :=
  match s.heap.get l with
  | some (.loop t nt ps as bd _ _ _) => obind (setParams nt ps args t) fun t1 =>
    match acode E H nt (some l) as t1 [] s with
    | some (.normal, t2, [], s2) => bodyOf E H l nt bd t2 s2
    | _ => none
  | _ => none

/-- The machine, by fuel. -/
def hand (E : Env) : Nat → Hand
  | 0 => ⟨fun _ _ _ => none, fun _ _ _ => none, 0⟩
  | n + 1 => ⟨acall E (hand E n), around E (hand E n), n⟩

def start (n : Nat) : AS := ⟨.nil, n, n, []⟩

end Go.Ev
