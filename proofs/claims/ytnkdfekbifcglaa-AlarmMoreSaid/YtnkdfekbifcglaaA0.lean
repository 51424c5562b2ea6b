/-
  A part of the proofs over this seat.
  (The texts Ab1 Ab2 Ab3 Ab4 Ac1 Ac2 Ac3 Ac4 Ac5, one behind the other.)
-/
import GoSem.Core.Code
import GoSem.Core.View
import GoSem.Core.World
import GoSem.Op.String
import GoSem.Core.Region
import GoSem.Core.Layout
import GoSem.Op.Equal
import Derived.Tactics
set_option linter.unusedSimpArgs false
set_option linter.unusedVariables false
set_option linter.unusedSectionVars false
section
/-
  The abstract machine: values without addresses, and how code runs on them.
-/
namespace Go.Ab

/-- Who may append behind a slice's elements: unk: nobody knows; tight: there is no room behind; at t: the token t tells how far the row is in use. -/
inductive Tk where
  | unk | tight | at (t : Nat)

inductive AV where
  | undef
  | bool (b : Bool)
  | int (k : IntKind) (n : Int)
  | str (s : ByteArray)
  | agg (cs : List AV)
  | tup (vs : List AV)
  | sl (es : List AV) (tk : Tk)
  | ref (id off len : Nat)
  | ptr (id ix off : Nat)
  | pv (e : AV) (off : Nat)
  | fn (f : FuncId) (first cap : List AV)
  | yld (id : Nat)
  | nilf
  | nilp
  | mp (id : Nat)
  | nilm
  | itr (id : Nat)
  /-- A slice of so many cells of an array in the memory. -/
  | aps (id ix off n : Nat)

inductive Src where
  | t (n : Nat)
  | c (v : AV)

/-- How a callee is given its arguments: v: by value, its result is a value; o: by value, its result is new memory; r: it shares the memory. -/
inductive Md where
  | v | o | r

/-- What kind of values are compared. -/
inductive EK where
  | b | i | s
  /-- A struct of so many integers (a map's key). -/
  | n (m : Nat)

inductive AOp where
  | mov (x : Src)
  | pick (c a b : Src)
  | new (z : AV) (sz : Nat)
  | box (x : Src) (sz : Nat)
  | boxf (x : Src) (sz : Nat)
  | aslc (x : Src) (lo hi : Option Src) (n : Nat)
  | aps (x : Src) (n : Nat)
  | build (z : List AV) (parts : List (Nat × Nat × Src))
  | lit (own : Bool) (T sz : Nat) (parts : List Src)
  | load (p : Src) (sz : Option Nat)
  | store (p v : Src) (sz : Nat)
  | bin (op : BinOp) (x y : Src)
  | eqv (neg ag : Bool) (tags : List EK) (x y : Src)
  | not (x : Src)
  | neg (x : Src)
  | cmpl (x : Src)
  | conv (k : IntKind) (x : Src)
  | clo (f : FuncId) (first cap : List Src)
  | make (z : AV) (T sz bytes : Nat) (len cap : Src)
  | slice (x : Src) (lo hi : Option Src) (sz : Nat)
  | addr (x : Src) (off : Nat)
  | idx (x i : Src) (sz : Nat)
  | aidx (x i : Src) (n sz : Nat)
  | fld (x : Src) (off : Nat) (sz : Option Nat)
  | vidx (x i : Src) (n sz : Nat) (ld : Option Nat)
  | sidx (x i : Src)
  | ext (x : Src) (i : Nat)
  | len (x : Src)
  | slen (x : Src)
  | sslice (x : Src) (lo hi : Option Src)
  | app (own : Bool) (s x : Src) (T sz bytes : Nat)
  | app0 (s x : Src) (T sz bytes : Nat)
  | cpy (d x : Src) (sz : Nat)
  | mnx (mx : Bool) (x y : Src)
  | mnl (mx : Bool) (x : Src) (xs : List Src)
  | call (f : FuncId) (args : List Src)
  | callv (f : Src) (args : List Src)
  | callf (f : FuncId) (args : List Src)
  | callz (f : Src) (args : List Src)
  | mkmap (ek : EK)
  | mget (ek : EK) (z : AV) (ok : Bool) (x key : Src)
  | mput (ek : EK) (x key v : Src)
  | mdel (ek : EK) (x key : Src)
  | mlen (x : Src)
  | cap (x : Src)
  | clr (x : Src) (z : AV) (sz : Nat)
  | appz (s x : Src) (z : AV) (T sz bytes : Nat)
  | mnil (x : Src)
  | bad

structure AI where
  dst : Option Nat
  gd : Option (Nat × Bool)
  op : AOp

inductive ACode where
  | skip
  | region (ops : List AI)
  | regionD (ops : List AI) (chks : List (Nat × Nat))
  | seq (a b : ACode)
  | cond (c : Src) (a b : ACode)
  | block (id : Nat) (b : ACode)
  | loop (b : ACode)
  | exit (id : Nat)
  | ret
  | range (f : Src) (ps : List Nat) (asg body : ACode)
  | frz
  | rngm (x : Src) (it nx ok en : Nat) (pre post : List AI) (B Cc : Nat) (tail : ACode) (fg : List Nat)
  | nilq (pre : List AI) (x : Src) (t : Nat) (c : ACode) (fg : List Nat)
  | frzs (t : Nat)

inductive Ex where
  | nxt | out (id : Nat) | ret

inductive Blk where
  | live (es : List AV) (sz : Nat)
  | dead
  | lp (env : Nat → AV) (ps : List Nat) (asg body : ACode) (ready : Bool) (pend : Option Ex)
  | mp (kvs : List (AV × AV)) (ek : EK)

structure Mem where
  blks : List Blk
  toks : List (Nat × Nat)

structure St where
  env : Nat → AV
  mem : Mem

inductive Res where
  | t (n : Nat)
  | cell (n : Nat) (sz : Option Nat)

structure AFn where
  params : Nat
  body : ACode
  res : List Res
  md : Md

def Mem.nil : Mem := ⟨[], []⟩

def upd (env : Nat → AV) (t : Nat) (v : AV) : Nat → AV := fun n => if n = t then v else env n
theorem upd_same (env : Nat → AV) (t : Nat) (v : AV) : upd env t v t = v := by simp [upd]
theorem upd_ne (env : Nat → AV) (t n : Nat) (v : AV) (h : (n = t) = False) : upd env t v n = env n := by simp [upd, h]

def St.ev (s : St) : Src → AV
  | .t n => s.env n
  | .c v => v
def St.put (s : St) (d : Option Nat) (v : AV) : St :=
  match d with
  | some t => { s with env := upd s.env t v }
  | none => s
def St.setMem (s : St) (m : Mem) : St := { s with mem := m }

def AV.cells : AV → List AV
  | .agg cs => cs
  | v => [v]
def readCells (cs : List AV) (off : Nat) : Option Nat → Option AV
  | none => cs[off]?
  | some n => if off + n ≤ cs.length then some (.agg ((cs.drop off).take n)) else none
def writeCells (e : AV) (off : Nat) (new : List AV) : Option AV :=
  match e with
  | .agg cs => if off + new.length ≤ cs.length then some (.agg (cs.take off ++ new ++ cs.drop (off + new.length))) else none
  | _ => match off, new with
    | 0, [v] => some v
    | _, _ => none
/-- A value that a cell can hold. -/
def AV.solid : AV → Bool
  | .agg _ | .tup _ | .undef | .aps .. => false
  | _ => true
def AV.isAgg' : AV → Bool
  | .agg _ => true
  | _ => false
def AV.solids (v : AV) : Bool := v.cells.all AV.solid

def limit : Nat := 1099511627776

def binI (op : BinOp) (k : IntKind) (x y : Int) : Option AV :=
  match op with
  | .add => some (.int k (k.wrap (x + y)))
  | .sub => some (.int k (k.wrap (x - y)))
  | .mul => some (.int k (k.wrap (x * y)))
  | .quo => if y = 0 then none else some (.int k (k.wrap (x.tdiv y)))
  | .rem => if y = 0 then none else some (.int k (x.tmod y))
  | .and => some (.int k (k.wrap (BitVec.ofInt k.bits x &&& BitVec.ofInt k.bits y).toNat))
  | .or => some (.int k (k.wrap (BitVec.ofInt k.bits x ||| BitVec.ofInt k.bits y).toNat))
  | .xor => some (.int k (k.wrap (BitVec.ofInt k.bits x ^^^ BitVec.ofInt k.bits y).toNat))
  | .andNot => some (.int k (k.wrap (BitVec.ofInt k.bits x &&& ~~~(BitVec.ofInt k.bits y)).toNat))
  | .eql => some (.bool (x == y))
  | .neq => some (.bool (x != y))
  | .lss => some (.bool (decide (x < y)))
  | .leq => some (.bool (decide (x ≤ y)))
  | .gtr => some (.bool (decide (x > y)))
  | .geq => some (.bool (decide (x ≥ y)))
  | _ => none
def binOp (op : BinOp) (a b : AV) : Option AV :=
  match op, a, b with
  | .shl, .int k x, .int _ y => if y < 0 then none else some (.int k (k.wrap (x * 2 ^ (min y.toNat k.bits))))
  | .shr, .int k x, .int _ y => if y < 0 then none else some (.int k (x.fdiv (2 ^ (min y.toNat k.bits))))
  | op, .int k x, .int k' y => if k = k' then binI op k x y else none
  | .add, .str x, .str y => if x.size + y.size ≤ limit then some (.str (x ++ y)) else none
  | .eql, .str x, .str y => some (.bool (x.toList == y.toList))
  | .neq, .str x, .str y => some (.bool !(x.toList == y.toList))
  | .lss, .str x, .str y => some (.bool (Op.bytesLess x.toList y.toList))
  | .leq, .str x, .str y => some (.bool (Op.bytesLess x.toList y.toList || x.toList == y.toList))
  | .gtr, .str x, .str y => some (.bool !(Op.bytesLess x.toList y.toList || x.toList == y.toList))
  | .geq, .str x, .str y => some (.bool !(Op.bytesLess x.toList y.toList))
  | _, _, _ => none
/-- Equal values of scalars, one by one. -/
def eq1 : EK → AV → AV → Option Bool
  | .b, .bool a, .bool b => some (a == b)
  | .i, .int k a, .int k' b => if k = k' then some (a == b) else none
  | .s, .str a, .str b => some (a.toList == b.toList)
  | _, _, _ => none
def eqs : List EK → List AV → List AV → Option Bool
  | [], [], [] => some true
  | t :: ts, a :: r, b :: q => (eq1 t a b).bind fun x => (eqs ts r q).map (x && ·)
  | _, _, _ => none
/-- Two keys of a map. -/
def keq (ek : EK) (a b : AV) : Option Bool := match ek with
  | .n m => (match a, b with
    | .agg a, .agg b => eqs (List.replicate m .i) a b
    | _, _ => none)
  | ek => eq1 ek a b
def eqAV (ag : Bool) (ts : List EK) (x y : AV) : Option Bool :=
  if ag then (match x, y with
    | .agg a, .agg b => eqs ts a b
    | _, _ => none)
  else eqs ts [x] [y]

def fillParts (cs : List AV) : List (Nat × Nat × AV) → Option (List AV)
  | [] => some cs
  | (off, sz, v) :: r =>
    if (v.cells.length = sz ∧ v.solids = true) ∧ off + sz ≤ cs.length then fillParts (cs.take off ++ v.cells ++ cs.drop (off + sz)) r else none

/-- The elements of a slice. -/
def Mem.elems (m : Mem) : AV → Option (List AV)
  | .sl es _ => some es
  | .ref id off len => match m.blks[id]? with
    | some (.live es _) => if off + len ≤ es.length then some ((es.drop off).take len) else none
    | _ => none
  | _ => none

def loadAt (m : Mem) (p : AV) (sz : Option Nat) : Option AV :=
  match p with
  | .ptr id ix off => match m.blks[id]? with
    | some (.live es _) => match es[ix]? with
      | some e => readCells e.cells off sz
      | none => none
    | _ => none
  | .pv e off => readCells e.cells off sz
  | _ => none
def storeAt (m : Mem) (p v : AV) (sz : Nat) : Option Mem :=
  match p with
  | .ptr id ix off => match m.blks[id]? with
    | some (.live es n) => match es[ix]? with
      | some e => if v.cells.length = sz ∧ v.solids = true then (writeCells e off v.cells).map fun e' => { m with blks := m.blks.set id (.live (es.set ix e') n) } else none
      | none => none
    | _ => none
  | _ => none
def newBlk (m : Mem) (es : List AV) (sz : Nat) : Mem := { m with blks := m.blks ++ [.live es sz] }
/-- The size of a live block's elements. -/
def lsz (m : Mem) (id : Nat) : Option Nat := match m.blks[id]? with | some (.live _ n) => some n | _ => none
def idxAt (m : Mem) (x i : AV) (sz : Nat) : Option AV :=
  match x, i with
  | .sl es _, .int _ n => if 0 ≤ n then (es[n.toNat]?).bind fun e => if e.cells.length = sz then some (.pv e 0) else none else none
  | .ref id off len, .int _ n => if (0 ≤ n ∧ n < (len : Int)) ∧ lsz m id = some sz then some (.ptr id (off + n.toNat) 0) else none
  | _, _ => none
/-- The elements' size, as far as a first one tells. -/
def hdSz (es : List AV) (sz : Nat) : Bool := match es with | [] => true | e :: _ => e.cells.length == sz
def aidxAt (m : Mem) (x i : AV) (n sz : Nat) : Option AV :=
  match x, i with
  | .ptr id ix off, .int _ k => if (0 ≤ k ∧ k < (n : Int)) ∧ (lsz m id).isSome = true then some (.ptr id ix (off + k.toNat * sz)) else none
  | .pv e off, .int _ k => if 0 ≤ k ∧ k < (n : Int) then some (.pv e (off + k.toNat * sz)) else none
  | _, _ => none
def addrAt (m : Mem) (x : AV) (off : Nat) : Option AV :=
  match x with
  | .ptr id ix o => if (lsz m id).isSome = true then some (.ptr id ix (o + off)) else none
  | .pv e o => some (.pv e (o + off))
  | _ => none
def asInt : AV → Option Int
  | .int _ n => some n
  | _ => none
def bounds (len : Nat) (lo hi : Option AV) : Option (Nat × Nat) :=
  match (match hi with | some v => asInt v | none => some (len : Int)), (match lo with | some v => asInt v | none => some 0) with
  | some h, some l => if 0 ≤ l ∧ l ≤ h ∧ h ≤ (len : Int) then some (l.toNat, h.toNat) else none
  | _, _ => none
/-- A part of nothing has no room behind it either. -/
def sltk : List AV → Tk → Tk
  | [], .tight => .tight
  | _, _ => .unk
def sliceAt (m : Mem) (x : AV) (lo hi : Option AV) (sz : Nat) : Option AV :=
  match x with
  | .sl es tk => if hdSz es sz then (bounds es.length lo hi).map fun p => .sl ((es.drop p.1).take (p.2 - p.1)) (sltk es tk) else none
  | .ref id off len => if lsz m id = some sz then (bounds len lo hi).map fun p => if p.1 = p.2 ∧ p.1 ≠ 0 then .sl [] .unk else .ref id (off + p.1) (p.2 - p.1) else none
  | _ => none
/-- A slice of an array that nobody changes. -/
def asliceAt (x : AV) (lo hi : Option AV) (n : Nat) : Option AV :=
  match x with
  | .pv e off => if (off + n ≤ e.cells.length ∧ n ≤ 1024) ∧ e.solids = true then (bounds n lo hi).map fun p => .sl ((e.cells.drop (off + p.1)).take (p.2 - p.1)) .unk else none
  | _ => none
/-- A slice of an array in the memory. -/
def apsAt (m : Mem) (x : AV) (n : Nat) : Option AV :=
  match x with
  | .ptr id ix off => if (lsz m id).isSome = true then some (.aps id ix off n) else none
  | _ => none
def ssliceAt (x : AV) (lo hi : Option AV) : Option AV :=
  match x with
  | .str s => (bounds s.size lo hi).map fun p => .str (s.extract p.1 p.2)
  | _ => none
def slenAt : AV → Option AV
  | .str s => some (.int .i64 s.size)
  | _ => none
def lenAt (m : Mem) : AV → Option AV
  | .sl es _ => some (.int .i64 es.length)
  | .ref id _ len => if (lsz m id).isSome = true then some (.int .i64 len) else none
  | _ => none
/-- Which token comes of an append of n elements behind len ones, and what the tokens are then. -/
def appTk (toks : List (Nat × Nat)) (T : Nat) (tk : Tk) (len n : Nat) : Option (Tk × List (Nat × Nat)) :=
  if n = 0 then some (tk, toks) else
  match tk with
  | .unk => none
  | .tight => some (.at toks.length, toks ++ [(len + n, T)])
  | .at t => if toks[t]? = some (len, T) ∧ len ≠ 0 then some (.at t, toks.set t (len + n, T)) else none
def appendAt (m : Mem) (own : Bool) (s x : AV) (T sz bytes : Nat) : Option (AV × Mem) :=
  match m.elems x with
  | none => none
  | some ys =>
    if hdSz ys sz = false then none else
    match s with
    | .sl es tk =>
      if (es.length + ys.length) * (bytes + 1) ≤ limit ∧ hdSz es sz = true then
        if own then (match es, tk with
          | [], .tight => if ys = [] then some (.sl [] .tight, m) else some (.ref m.blks.length 0 ys.length, newBlk m ys sz)
          | _, _ => none)
        else (appTk m.toks T tk es.length ys.length).map fun (tk', toks') => (.sl (es ++ ys) tk', { m with toks := toks' })
      else none
    | .ref id off len => match m.blks[id]? with
      | some (.live es n) =>
        if n ≠ sz then none else
        if off = 0 ∧ len + ys.length ≤ es.length then
          some (.ref id 0 (len + ys.length), { m with blks := m.blks.set id (.live (es.take len ++ ys ++ es.drop (len + ys.length)) n) })
        else if (off = 0 ∧ len = es.length) ∧ (es.length + ys.length) * (bytes + 1) ≤ limit then
          some (.ref m.blks.length 0 (len + ys.length), { m with blks := m.blks.set id .dead ++ [.live (es ++ ys) n] })
        else none
      | _ => none
    | _ => none
def makeAt (m : Mem) (z : AV) (sz bytes : Nat) (l c : AV) : Option (AV × Mem) :=
  match asInt l, asInt c with
  | some l, some c => if (0 ≤ l ∧ l = c) ∧ l.toNat * (bytes + 1) ≤ limit ∧ z.cells.length = sz ∧ z.solids = true then some (.ref m.blks.length 0 l.toNat, newBlk m (List.replicate l.toNat z) sz) else none
  | _, _ => none
/-- An append onto nothing, into memory of its own. -/
def append0 (m : Mem) (s x : AV) (sz bytes : Nat) : Option (AV × Mem) :=
  match s, m.elems x with
  | .sl [] .tight, some ys => if (ys.length * (bytes + 1) ≤ limit ∧ hdSz ys sz = true) ∧ ys ≠ [] then some (.ref m.blks.length 0 ys.length, newBlk m ys sz)
    else if ys = [] then some (.sl [] .tight, m) else none
  | _, _ => none
/-- An append of so many zeros onto nothing. -/
def appendZ (m : Mem) (s x z : AV) (sz bytes : Nat) : Option (AV × Mem) :=
  match s, asInt x with
  | .sl [] .tight, some n => if (0 < n ∧ n.toNat * (bytes + 1) ≤ limit) ∧ z.cells.length = sz ∧ z.solids = true then some (.ref m.blks.length 0 n.toNat, newBlk m (List.replicate n.toNat z) sz) else none
  | _, _ => none
/-- The built-in clear, of a slice. -/
def clearAt (m : Mem) (x z : AV) (sz : Nat) : Option Mem :=
  match x with
  | .sl [] _ => some m
  | .ref id off len => match m.blks[id]? with
    | some (.live es n) => if ((off + len ≤ es.length ∧ 0 < len) ∧ n = sz) ∧ z.cells.length = sz ∧ z.solids = true then some { m with blks := m.blks.set id (.live (es.take off ++ List.replicate len z ++ es.drop (off + len)) n) } else none
    | _ => none
  | _ => none
/-- Is it no map? -/
def mnilAt : AV → Option AV
  | .nilm => some (.bool true)
  | .mp _ => some (.bool false)
  | _ => none
/-- The built-in copy, into an array. -/
def copyArr (m : Mem) (id ix off n : Nat) (ys : List AV) (sz : Nat) : Option (AV × Mem) :=
  match m.blks[id]? with
  | some (.live es k) => match es[ix]? with
    | some e => if (hdSz ys sz = true ∧ sz = 1) ∧ ys.all AV.solid = true then (writeCells e off (ys.take (min ys.length n))).map fun e' => (.int .i64 (min ys.length n : Nat), { m with blks := m.blks.set id (.live (es.set ix e') k) }) else none
    | none => none
  | _ => none
/-- The built-in copy. -/
def copyAt (m : Mem) (d x : AV) (sz : Nat) : Option (AV × Mem) :=
  match d, m.elems x with
  | .aps id ix off n, some ys => copyArr m id ix off n ys sz
  | .ref id off len, some ys => match m.blks[id]? with
    | some (.live es n) => if (off + len ≤ es.length ∧ hdSz ys sz = true) ∧ n = sz then
        some (.int .i64 (min ys.length len : Nat), { m with blks := m.blks.set id (.live (es.take off ++ ys.take (min ys.length len) ++ es.drop (off + min ys.length len)) n) })
      else none
    | _ => none
  | _, _ => none
def mnx (mx : Bool) : AV → AV → Option AV
  | .int k x, .int k' y => if k = k' then some (.int k (if mx then (if y > x then y else x) else (if y < x then y else x))) else none
  | _, _ => none

/-- The least or the greatest of some. -/
def mnl (mx : Bool) : AV → List AV → Option AV
  | x, [] => some x
  | x, y :: r => (mnx mx x y).bind fun v => mnl mx v r

/-- Where the entries' order is the machine's own: no other key is equal. -/
def EK.alone (key : AV) (r : List (AV × AV)) : EK → Bool
  | .n m => r.all fun q => keq (.n m) key q.1 == some false
  | _ => true
/-- Where a key stands in a map, and what it leads to. -/
def mfind (ek : EK) (key : AV) : List (AV × AV) → Nat → Option (Option (Nat × AV))
  | [], _ => some none
  | p :: r, i => match keq ek key p.1 with
    | some true => if ek.alone key r = true then some (some (i, p.2)) else none
    | some false => mfind ek key r (i + 1)
    | none => none
def isI : AV → Bool
  | .int .. => true
  | _ => false
def isKey : EK → AV → Bool
  | .b, .bool _ | .i, .int .. | .s, .str _ => true
  | .n m, .agg a => a.length == m && a.all isI
  | _, _ => false
def EK.same : EK → EK → Bool
  | .b, .b | .i, .i | .s, .s => true
  | .n p, .n q => p == q
  | _, _ => false
def mgetL (ek : EK) (z : AV) (ok : Bool) (kvs : List (AV × AV)) (key : AV) : Option AV :=
  (mfind ek key kvs 0).map fun r => match r with
    | some (_, v) => if ok then .tup [v, .bool true] else v
    | none => if ok then .tup [z, .bool false] else z
def mgetAt (m : Mem) (ek : EK) (z : AV) (ok : Bool) (x key : AV) : Option AV :=
  match x with
  | .mp id => match m.blks[id]? with
    | some (.mp kvs ek') => if EK.same ek ek' = true ∧ isKey ek key = true then mgetL ek z ok kvs key else none
    | _ => none
  | .nilm => if isKey ek key = true then some (if ok then .tup [z, .bool false] else z) else none
  | _ => none
/-- The order of keys of integers. -/
def kltL : List AV → List AV → Bool
  | .int _ a :: r, .int _ b :: q => decide (a < b) || (a == b && kltL r q)
  | _, _ => false
def klt : AV → AV → Bool
  | .agg a, .agg b => kltL a b
  | _, _ => false
/-- A new entry: where keys are integers, in their order, so that a map does not tell when an entry came. -/
def mins (key v : AV) : List (AV × AV) → List (AV × AV)
  | [] => [(key, v)]
  | p :: r => if klt key p.1 = true then (key, v) :: p :: r else p :: mins key v r
def EK.ins (key v : AV) (kvs : List (AV × AV)) : EK → List (AV × AV)
  | .n _ => mins key v kvs
  | _ => kvs ++ [(key, v)]
def mputL (ek : EK) (kvs : List (AV × AV)) (key v : AV) : Option (List (AV × AV)) :=
  (mfind ek key kvs 0).map fun r => match r with
    | some (i, _) => kvs.set i (key, v)
    | none => ek.ins key v kvs
def mputAt (m : Mem) (ek : EK) (x key v : AV) : Option Mem :=
  match x with
  | .mp id => match m.blks[id]? with
    | some (.mp kvs ek') => if EK.same ek ek' = true ∧ isKey ek key = true then (mputL ek kvs key v).map fun kvs' => { m with blks := m.blks.set id (.mp kvs' ek') } else none
    | _ => none
  | _ => none
/-- The built-in delete. -/
def mdelL (ek : EK) (kvs : List (AV × AV)) (key : AV) : Option (List (AV × AV)) :=
  (mfind ek key kvs 0).map fun r => match r with
    | some (i, _) => kvs.eraseIdx i
    | none => kvs
def mdelAt (m : Mem) (ek : EK) (x key : AV) : Option Mem :=
  match x with
  | .mp id => match m.blks[id]? with
    | some (.mp kvs ek') => if EK.same ek ek' = true ∧ isKey ek key = true then (mdelL ek kvs key).map fun kvs' => { m with blks := m.blks.set id (.mp kvs' ek') } else none
    | _ => none
  | _ => none
def mlenAt (m : Mem) : AV → Option AV
  | .mp id => match m.blks[id]? with
    | some (.mp kvs _) => some (.int .i64 kvs.length)
    | _ => none
  | .nilm => some (.int .i64 0)
  | _ => none
def capAt : AV → Option AV
  | .sl es .tight => some (.int .i64 es.length)
  | _ => none

/-- An element of an array that is a value. -/
def vidxAt (x i : AV) (n sz : Nat) (ld : Option Nat) : Option AV := match x, i with
  | .agg cs, .int _ q => if 0 ≤ q ∧ q < n then readCells cs (q.toNat * sz) ld else none
  | _, _ => none

/-- What an operation that calls nothing gives. -/
def op1 (s : St) : AOp → Option (AV × Mem)
  | .mov x => some (s.ev x, s.mem)
  | .pick c a b => match s.ev c with
    | .bool t => some (if t then s.ev a else s.ev b, s.mem)
    | _ => none
  | .new z sz => if z.cells.length = sz ∧ z.solids = true then some (.ptr s.mem.blks.length 0 0, newBlk s.mem [z] sz) else none
  | .box x sz => if (s.ev x).cells.length = sz ∧ (s.ev x).solids = true then some (.ptr s.mem.blks.length 0 0, newBlk s.mem [s.ev x] sz) else none
  | .boxf x sz => if (s.ev x).cells.length = sz ∧ (s.ev x).solids = true then some (.pv (s.ev x) 0, s.mem) else none
  | .aps x n => (apsAt s.mem (s.ev x) n).map (·, s.mem)
  | .aslc x lo hi n => (asliceAt (s.ev x) (lo.map s.ev) (hi.map s.ev) n).map (·, s.mem)
  | .build z parts => (fillParts z (parts.map fun p => (p.1, p.2.1, s.ev p.2.2))).map fun cs => (.agg cs, s.mem)
  | .lit own _ sz parts =>
    if (parts.all fun x => (s.ev x).cells.length == sz && (s.ev x).solids) then
      (if own then some (.ref s.mem.blks.length 0 parts.length, newBlk s.mem (parts.map s.ev) sz)
      else some (.sl (parts.map s.ev) .tight, s.mem))
    else none
  | .load p sz => (loadAt s.mem (s.ev p) sz).map (·, s.mem)
  | .store p v sz => (storeAt s.mem (s.ev p) (s.ev v) sz).map (.undef, ·)
  | .bin op x y => (binOp op (s.ev x) (s.ev y)).map (·, s.mem)
  | .eqv ng ag ts x y => (eqAV ag ts (s.ev x) (s.ev y)).map fun b => (.bool (if ng then !b else b), s.mem)
  | .not x => match s.ev x with
    | .bool b => some (.bool !b, s.mem)
    | _ => none
  | .neg x => match s.ev x with
    | .int k n => some (.int k (k.wrap (0 - n)), s.mem)
    | _ => none
  | .cmpl x => match s.ev x with
    | .int k n => some (.int k (k.wrap (BitVec.ofInt k.bits (if k.signed then -1 else k.max) ^^^ BitVec.ofInt k.bits n).toNat), s.mem)
    | _ => none
  | .conv k x => match s.ev x with
    | .int _ n => some (.int k (k.wrap n), s.mem)
    | _ => none
  | .clo f first cap => some (.fn f (first.map s.ev) (cap.map s.ev), s.mem)
  | .make z _ sz bytes l c => makeAt s.mem z sz bytes (s.ev l) (s.ev c)
  | .slice x lo hi sz => (sliceAt s.mem (s.ev x) (lo.map s.ev) (hi.map s.ev) sz).map (·, s.mem)
  | .addr x off => (addrAt s.mem (s.ev x) off).map (·, s.mem)
  | .idx x i sz => (idxAt s.mem (s.ev x) (s.ev i) sz).map (·, s.mem)
  | .aidx x i n sz => (aidxAt s.mem (s.ev x) (s.ev i) n sz).map (·, s.mem)
  | .fld x off sz => match s.ev x with
    | .agg cs => (readCells cs off sz).map (·, s.mem)
    | _ => none
  | .vidx x i n sz ld => (vidxAt (s.ev x) (s.ev i) n sz ld).map (·, s.mem)
  | .sidx x i => match s.ev x, s.ev i with
    | .str b, .int _ n => if 0 ≤ n then (b[n.toNat]?).map fun c => (.int .u8 c.toNat, s.mem) else none
    | _, _ => none
  | .ext x i => match s.ev x with
    | .tup vs => (vs[i]?).map (·, s.mem)
    | _ => none
  | .len x => (lenAt s.mem (s.ev x)).map (·, s.mem)
  | .slen x => (slenAt (s.ev x)).map (·, s.mem)
  | .sslice x lo hi => (ssliceAt (s.ev x) (lo.map s.ev) (hi.map s.ev)).map (·, s.mem)
  | .app own x y T sz bytes => appendAt s.mem own (s.ev x) (s.ev y) T sz bytes
  | .app0 x y _ sz bytes => append0 s.mem (s.ev x) (s.ev y) sz bytes
  | .cpy d x sz => copyAt s.mem (s.ev d) (s.ev x) sz
  | .mnx mx x y => (mnx mx (s.ev x) (s.ev y)).map (·, s.mem)
  | .mnl mx x xs => (mnl mx (s.ev x) (xs.map s.ev)).map (·, s.mem)
  | .mkmap ek => some (.mp s.mem.blks.length, { s.mem with blks := s.mem.blks ++ [.mp [] ek] })
  | .mget ek z ok x key => (mgetAt s.mem ek z ok (s.ev x) (s.ev key)).map (·, s.mem)
  | .mput ek x key v => (mputAt s.mem ek (s.ev x) (s.ev key) (s.ev v)).map (.undef, ·)
  | .mdel ek x key => (mdelAt s.mem ek (s.ev x) (s.ev key)).map (.undef, ·)
  | .mlen x => (mlenAt s.mem (s.ev x)).map (·, s.mem)
  | .cap x => (capAt (s.ev x)).map (·, s.mem)
  | .clr x z sz => (clearAt s.mem (s.ev x) z sz).map (.undef, ·)
  | .appz x y z _ sz bytes => appendZ s.mem (s.ev x) (s.ev y) z sz bytes
  | .mnil x => (mnilAt (s.ev x)).map (·, s.mem)
  | .bad => none
  | .call .. | .callv .. | .callf .. | .callz .. => none

/-- A value as it stands: nothing of it can change any more. -/
def undefd : AV → AV
  | .agg cs => .agg (cs.map fun _ => .undef)
  | _ => .undef
def snap (m : Mem) : Nat → AV → AV
  | 0, v => undefd v
  | k + 1, v => match v with
    | .agg cs => .agg (cs.map (snap m k))
    | .tup vs => .tup (vs.map (snap m k))
    | .sl es _ => .sl (es.map (snap m k)) .unk
    | .ref id off len => match m.elems (.ref id off len) with
      | some es => .sl (es.map (snap m k)) .unk
      | none => .undef
    | .ptr id ix off => match m.blks[id]? with
      | some (.live es _) => match es[ix]? with
        | some e => .pv (snap m k e) off
        | none => .undef
      | _ => .undef
    | .pv e off => .pv (snap m k e) off
    | .fn f first cap => .fn f (first.map (snap m k)) (cap.map (snap m k))
    | .yld _ | .mp _ | .itr _ | .aps .. => .undef
    | v => v
/-- Does a value lead to memory that can change? -/
def hot : Nat → AV → Bool
  | 0, _ => true
  | k + 1, v => match v with
    | .agg cs => cs.any (hot k)
    | .tup vs => vs.any (hot k)
    | .sl es _ => es.any (hot k)
    | .ref .. | .ptr .. | .yld _ | .mp _ | .itr _ | .aps .. => true
    | .pv e _ => hot k e
    | .fn _ first cap => first.any (hot k) || cap.any (hot k)
    | _ => false
/-- A value of a callee's own memory, behind db blocks and dt tokens. -/
def shift (db dt : Nat) : Nat → AV → AV
  | 0, v => undefd v
  | k + 1, v => match v with
    | .agg cs => .agg (cs.map (shift db dt k))
    | .tup vs => .tup (vs.map (shift db dt k))
    | .sl es (.at t) => .sl (es.map (shift db dt k)) (.at (dt + t))
    | .sl es tk => .sl (es.map (shift db dt k)) tk
    | .ref id off len => .ref (db + id) off len
    | .ptr id ix off => .ptr (db + id) ix off
    | .pv e off => .pv (shift db dt k e) off
    | .fn f first cap => .fn f (first.map (shift db dt k)) (cap.map (shift db dt k))
    | .yld _ | .mp _ | .itr _ | .aps .. => .undef
    | v => v
def shiftB (db dt k : Nat) : Blk → Blk
  | .live es sz => .live (es.map (shift db dt k)) sz
  | _ => .dead
/-- A value that leads to no memory at all. -/
def plain : Nat → AV → Bool
  | 0, _ => false
  | k + 1, v => match v with
    | .agg cs => cs.all (plain k)
    | .tup vs => vs.all (plain k)
    | .bool _ | .int .. | .str _ | .undef => true
    | _ => false
/-- A value whose memory is all its own. -/
def ownly : Nat → AV → Bool
  | 0, _ => false
  | k + 1, v => match v with
    | .agg cs => cs.all (ownly k)
    | .tup vs => vs.all (ownly k)
    | .sl [] .tight => true
    | .bool _ | .int .. | .str _ | .undef | .ref .. | .ptr .. | .nilf | .nilp | .nilm => true
    | _ => false
def Blk.ownly : Blk → Bool
  | .live es _ => es.all (Ab.ownly 11)
  | _ => true
def dep : Nat := 12

inductive Tg where
  | f (f : FuncId) | y (id : Nat)

abbrev Run := Tg → List AV → Mem → Option (AV × Mem)

def callV (R : Run) (f : FuncId) (args : List AV) : Option AV := (R (.f f) args .nil).map fun p => snap p.2 dep p.1
def joinMem (m m' : Mem) (k : Nat) : Mem := ⟨m.blks ++ m'.blks.map (shiftB m.blks.length m.toks.length k), m.toks ++ m'.toks⟩
def callBy (ft : FuncId → Option AFn) (R : Run) (f : FuncId) (args : List AV) (s : St) : Option (AV × St) :=
  match ft f with
  | none => none
  | some fn => match fn.md with
    | .v => (callV R f (args.map (snap s.mem dep))).bind fun v => if args.all (fun a => !hot dep a) || plain dep v then some (v, s) else none
    | .o => (R (.f f) (args.map (snap s.mem dep)) .nil).bind fun p => if args.all (fun a => !hot dep a) || (ownly dep p.1 && p.2.blks.all Blk.ownly) then
        some (shift s.mem.blks.length s.mem.toks.length dep p.1, s.setMem (joinMem s.mem p.2 dep)) else none
    | .r => (R (.f f) args s.mem).map fun p => (p.1, s.setMem p.2)
/-- A call by value, whatever the callee's mode: what it gives is frozen. -/
def callFz (ft : FuncId → Option AFn) (R : Run) (f : FuncId) (args : List AV) (s : St) : Option (AV × St) :=
  match ft f with
  | none => none
  | some _ => (callV R f (args.map (snap s.mem dep))).bind fun v => if args.all (fun a => !hot dep a) || plain dep v then some (v, s) else none
def callAny (ft : FuncId → Option AFn) (R : Run) (f : AV) (args : List AV) (s : St) : Option (AV × St) :=
  match f with
  | .fn g first cap => callBy ft R g (first ++ args ++ cap) s
  | .yld id => (R (.y id) args s.mem).map fun p => (p.1, s.setMem p.2)
  | _ => none

/-- A call of a function value, by value. -/
def callZ (ft : FuncId → Option AFn) (R : Run) (f : AV) (args : List AV) (s : St) : Option (AV × St) :=
  match f with
  | .fn g first cap => callFz ft R g (first ++ args ++ cap) s
  | _ => none

def exec1 (ft : FuncId → Option AFn) (R : Run) (s : St) : AOp → Option (AV × St)
  | .call f args => callBy ft R f (args.map s.ev) s
  | .callv f args => callAny ft R (s.ev f) (args.map s.ev) s
  | .callf f args => callFz ft R f (args.map s.ev) s
  | .callz f args => callZ ft R (s.ev f) (args.map s.ev) s
  | o => (op1 s o).map fun p => (p.1, s.setMem p.2)

def execI (ft : FuncId → Option AFn) (R : Run) (i : AI) (s : St) : Option St :=
  match i.gd with
  | none => (exec1 ft R s i.op).map fun p => p.2.put i.dst p.1
  | some (t, b) => match s.env t with
    | .bool b' => if b' = b then (exec1 ft R s i.op).map fun p => p.2.put i.dst p.1 else some (s.put i.dst (.tup []))
    | .tup [] => some (s.put i.dst (.tup []))
    | _ => none
def execOps (ft : FuncId → Option AFn) (R : Run) : List AI → St → Option St
  | [], s => some s
  | i :: r, s => (execI ft R i s).bind (execOps ft R r)

def loopN (b : St → Option (Ex × St)) : Nat → St → Option (Ex × St)
  | 0, _ => none
  | n + 1, s => match b s with
    | some (.nxt, s') => loopN b n s'
    | r => r

/-- A load's address leads elsewhere than a store's. -/
def apart : AV → AV → Bool
  | .ptr a _ _, .ptr b _ _ => a != b
  | .pv _ _, .ptr _ _ _ => true
  | .pv _ _, .pv _ _ => true
  | .ptr a _ _, .ref b _ _ => a != b
  | .ptr _ _ _, .sl _ _ => true
  | .pv _ _, .ref _ _ _ => true
  | .pv _ _, .sl _ _ => true
  | .tup [], .tup [] => true
  | _, _ => false
def chkAll (chks : List (Nat × Nat)) (env : Nat → AV) : Bool := chks.all fun p => apart (env p.1) (env p.2)

/-- From here on nobody changes any memory: all values become what they show. -/
def St.frz (s : St) : St := ⟨fun n => snap s.mem dep (s.env n), ⟨s.mem.blks.map fun _ => .dead, s.mem.toks⟩⟩

/-- From here on nobody changes the block that a slot's pointer leads to: the slot becomes what it shows. -/
def frzsAt (m : Mem) : AV → Option (AV × Mem)
  | .ptr id ix off => match m.blks[id]? with
    | some (.live es _) => match es[ix]? with
      | some e => some (.pv e off, ⟨m.blks.set id .dead, m.toks⟩)
      | none => none
    | _ => none
  | .sl es tk => some (.sl es tk, m)
  | .pv e off => some (.pv e off, m)
  | .ref id off len => match m.blks[id]? with
    | some (.live es _) => if off + len ≤ es.length then some (.sl ((es.drop off).take len) .unk, ⟨m.blks.set id .dead, m.toks⟩) else none
    | _ => none
  | _ => none
/-- A loop over a map begins: the map is away, an iterator is there. -/
def St.rngIn (s : St) (mid it nx ok en : Nat) : St :=
  ⟨fun t => if t = it then .itr s.mem.blks.length else if [nx, ok, en].contains t = true then .undef else s.env t, ⟨s.mem.blks.set mid .dead ++ [.dead], s.mem.toks⟩⟩
/-- It ends: the map is back, what the loop made is away, some slots are forgotten. -/
def St.clean (s : St) (n0 mid : Nat) (b : Blk) (fg : List Nat) : St :=
  ⟨fun t => if fg.contains t = true then .undef else s.env t, ⟨(s.mem.blks.take n0).set mid b ++ (s.mem.blks.drop n0).map fun _ => .dead, s.mem.toks⟩⟩
def isItr (i0 : Nat) : AV → Bool
  | .itr i => i == i0
  | _ => false
/-- Its rounds, one for each of some entries. -/
def rounds (post : St → Option St) (tail : St → Option (Ex × St)) (it nx ok i0 en B Cc : Nat) : List (AV × AV) → St → Option (Ex × St)
  | [], s => if isItr i0 (s.env it) = true then some (.nxt, s) else none
  | p :: r, s => if isItr i0 (s.env it) = true then
      (post (((s.put (some nx) .undef).put (some ok) .undef).put (some en) (.tup [p.1, p.2]))).bind fun s1 => (tail s1).bind fun q => match q with
        | (.nxt, s2) => rounds post tail it nx ok i0 en B Cc r s2
        | (.out j, s2) => if j = Cc then rounds post tail it nx ok i0 en B Cc r s2 else some (if j = B then .nxt else .out j, s2)
        | (.ret, s2) => some (.ret, s2)
    else none
open Classical in
/-- What comes of the entries in every order. -/
noncomputable def allSame (f : List (AV × AV) → Option (Ex × St)) (kvs : List (AV × AV)) : Option (Ex × St) := if ∀ π, π.Perm kvs → f π = f kvs then f kvs else none

/-- Some slots are forgotten. -/
def St.forget (s : St) (fg : List Nat) : St := ⟨fun t => if fg.contains t = true then .undef else s.env t, s.mem⟩
open Classical in
/-- What comes of two ways that end alike. -/
noncomputable def both (a b : Option (Ex × St)) : Option (Ex × St) := if a = b then a else none

noncomputable def exec (ft : FuncId → Option AFn) (R : Run) (n : Nat) : ACode → St → Option (Ex × St)
  | .skip, s => some (.nxt, s)
  | .region ops, s => (execOps ft R ops s).map (.nxt, ·)
  | .regionD ops chks, s => (execOps ft R ops s).bind fun s' => if chkAll chks s'.env = true then some (.nxt, s') else none
  | .seq a b, s => match exec ft R n a s with
    | some (.nxt, s') => exec ft R n b s'
    | r => r
  | .cond c a b, s => match s.ev c with
    | .bool true => exec ft R n a s
    | .bool false => exec ft R n b s
    | _ => none
  | .block id b, s => match exec ft R n b s with
    | some (.out j, s') => if j = id then some (.nxt, s') else some (.out j, s')
    | r => r
  | .loop b, s => loopN (exec ft R n b) n s
  | .exit id, s => some (.out id, s)
  | .ret, s => some (.ret, s)
  | .frz, s => some (.nxt, s.frz)
  | .frzs t, s => (frzsAt s.mem (s.env t)).map fun p => (.nxt, ⟨upd s.env t p.1, p.2⟩)
  | .rngm x it nx ok en pre post B Cc tail fg, s => (execOps ft R pre s).bind fun s0 => match s0.ev x with
    | .mp mid => match s0.mem.blks[mid]? with
      | some (.mp kvs ek) => allSame (fun π => (rounds (execOps ft R post) (exec ft R n tail) it nx ok s0.mem.blks.length en B Cc π (s0.rngIn mid it nx ok en)).map fun p => (p.1, p.2.clean s0.mem.blks.length mid (.mp kvs ek) (it :: nx :: ok :: en :: fg))) kvs
      | _ => none
    | .nilm => some (.nxt, ⟨fun t => if [it, nx, ok, en].contains t = true then .undef else s0.env t, s0.mem⟩)
    | _ => none
  | .nilq pre x t c fg, s => (execOps ft R pre s).bind fun s0 => match s0.ev x with
    | .sl [] _ => both ((exec ft R n c (s0.put (some t) (.bool true))).map fun p => (p.1, p.2.forget fg)) ((exec ft R n c (s0.put (some t) (.bool false))).map fun p => (p.1, p.2.forget fg))
    | .sl (_ :: _) _ => (exec ft R n c (s0.put (some t) (.bool false))).map fun p => (p.1, p.2.forget fg)
    | .ref id _ _ => if (lsz s0.mem id).isSome = true then (exec ft R n c (s0.put (some t) (.bool false))).map fun p => (p.1, p.2.forget fg) else none
    | _ => none
  | .range f ps asg body, s => match s.ev f with
    | .fn g first cap =>
      match R (.f g) (first ++ [.yld s.mem.blks.length] ++ cap) { s.mem with blks := s.mem.blks ++ [.lp s.env ps asg body true none] } with
      | some (_, m) => match m.blks[s.mem.blks.length]? with
        | some (.lp _ _ _ _ rdy pend) => if (rdy || pend.isSome) = true then some (pend.getD .nxt, s.setMem { m with blks := m.blks.set s.mem.blks.length .dead }) else none
        | _ => none
      | none => none
    | _ => none

def entry (args : List AV) : Nat → AV := fun n => (args[n]?).getD .undef
def resOne (s : St) : Res → Option AV
  | .t n => some (s.env n)
  | .cell n sz => loadAt s.mem (s.env n) sz
def resAll (s : St) : List Res → Option (List AV)
  | [] => some []
  | r :: rs => (resOne s r).bind fun v => (resAll s rs).map (v :: ·)
def resOf (s : St) (rs : List Res) : Option AV :=
  (resAll s rs).map fun vs => match vs with | [v] => v | vs => .tup vs
def puts (env : Nat → AV) : List Nat → List AV → Nat → AV
  | t :: ts, v :: vs => puts (upd env t v) ts vs
  | _, _ => env

def fin (fn : AFn) : Ex × St → Option (AV × Mem)
  | (.out _, _) => none
  | (_, s) => (resOf s fn.res).map (·, s.mem)
def yfin (id : Nat) (e : Ex) (s : St) : Option (AV × Mem) :=
  match s.mem.blks[id]? with
  | some (.lp env ps asg body _ _) => match e with
    | .nxt => some (.bool true, { s.mem with blks := s.mem.blks.set id (.lp env ps asg body true none) })
    | e => some (.bool false, { s.mem with blks := s.mem.blks.set id (.lp env ps asg body false (some e)) })
  | _ => none

/-- A round's body begins. -/
def busy (id : Nat) (s : St) : Option St :=
  match s.mem.blks[id]? with
  | some (.lp env ps asg body true none) => some (s.setMem { s.mem with blks := s.mem.blks.set id (.lp env ps asg body false none) })
  | _ => none

noncomputable def run (ft : FuncId → Option AFn) : Nat → Run
  | 0, _, _, _ => none
  | n + 1, .f f, args, m => match ft f with
    | some fn => if args.length = fn.params then (exec ft (run ft n) n fn.body ⟨entry args, m⟩).bind (fin fn) else none
    | none => none
  | n + 1, .y id, args, m => match m.blks[id]? with
    | some (.lp env ps asg body true none) => if args.length = ps.length then
        match exec ft (run ft n) n asg ⟨puts env ps args, m⟩ with
        | some (.nxt, s) => (busy id s).bind fun s => (exec ft (run ft n) n body s).bind fun p => yfin id p.1 p.2
        | _ => none
      else none
    | _ => none

end Go.Ab
end

section
/-
  The abstract machine's rules: what is asked of a run, without a count of steps.
-/
namespace Go.Ab
variable {ft : FuncId → Option AFn}

def Run.le (R R' : Run) : Prop := ∀ t as m r, R t as m = some r → R' t as m = some r
theorem Run.le_refl (R : Run) : R.le R := fun _ _ _ _ h => h

theorem callV_mono {R R' : Run} (h : R.le R') {f : FuncId} {as : List AV} {v : AV} (e : callV R f as = some v) : callV R' f as = some v := by
  unfold callV at *
  cases hr : R (.f f) as .nil with
  | none => simp [hr] at e
  | some p => rw [h _ _ _ _ hr]; rw [hr] at e; exact e
theorem callBy_mono {R R' : Run} (h : R.le R') {f : FuncId} {as : List AV} {s : St} {p : AV × St} (e : callBy ft R f as s = some p) : callBy ft R' f as s = some p := by
  unfold callBy at *
  cases hf : ft f with
  | none => simp [hf] at e
  | some fn =>
    simp only [hf] at e ⊢
    cases hm : fn.md with
    | v =>
      simp only [hm] at e ⊢
      cases hv : callV R f (as.map (snap s.mem dep)) with
      | none => simp [hv] at e
      | some v => rw [callV_mono h hv]; rw [hv] at e; exact e
    | o =>
      simp only [hm] at e ⊢
      cases hr : R (.f f) (as.map (snap s.mem dep)) .nil with
      | none => simp [hr] at e
      | some p => rw [h _ _ _ _ hr]; rw [hr] at e; exact e
    | r =>
      simp only [hm] at e ⊢
      cases hr : R (.f f) as s.mem with
      | none => simp [hr] at e
      | some p => rw [h _ _ _ _ hr]; rw [hr] at e; exact e
theorem callFz_mono {R R' : Run} (h : R.le R') {f : FuncId} {as : List AV} {s : St} {p : AV × St} (e : callFz ft R f as s = some p) : callFz ft R' f as s = some p := by
  unfold callFz at *
  cases hf : ft f with
  | none => simp [hf] at e
  | some fn =>
    simp only [hf] at e ⊢
    cases hv : callV R f (as.map (snap s.mem dep)) with
    | none => simp [hv] at e
    | some v => rw [callV_mono h hv]; rw [hv] at e; exact e
theorem callAny_mono {R R' : Run} (h : R.le R') {f : AV} {as : List AV} {s : St} {p : AV × St} (e : callAny ft R f as s = some p) : callAny ft R' f as s = some p := by
  unfold callAny at *
  split at e
  · exact callBy_mono h e
  · rename_i id
    cases hr : R (.y id) as s.mem with
    | none => simp [hr] at e
    | some p => rw [h _ _ _ _ hr]; rw [hr] at e; exact e
  · cases e
theorem callZ_mono {R R' : Run} (h : R.le R') {f : AV} {as : List AV} {s : St} {p : AV × St} (e : callZ ft R f as s = some p) : callZ ft R' f as s = some p := by
  unfold callZ at *
  split at e
  · exact callFz_mono h e
  · cases e
theorem exec1_mono {R R' : Run} (h : R.le R') {s : St} {o : AOp} {p : AV × St} (e : exec1 ft R s o = some p) : exec1 ft R' s o = some p := by
  cases o <;> first
    | exact callBy_mono h e
    | exact callAny_mono h e
    | exact callFz_mono h e
    | exact callZ_mono h e
    | exact e
theorem execI_mono {R R' : Run} (h : R.le R') {s s' : St} {i : AI} (e : execI ft R i s = some s') : execI ft R' i s = some s' := by
  have key : ∀ {q}, (exec1 ft R s i.op).map (fun p => p.2.put i.dst p.1) = some q → (exec1 ft R' s i.op).map (fun p => p.2.put i.dst p.1) = some q := by
    intro q e
    cases hr : exec1 ft R s i.op with
    | none => simp [hr] at e
    | some p => rw [exec1_mono h hr]; rw [hr] at e; exact e
  obtain ⟨d, gd, op⟩ := i
  cases gd with
  | none => exact key e
  | some tb =>
    obtain ⟨t, b⟩ := tb
    simp only [execI] at e ⊢
    split at e
    · rename_i b' hb
      by_cases hc : b' = b
      · simp only [hc, if_true] at e ⊢; exact key e
      · simp only [hc, if_false] at e ⊢; exact e
    · exact e
    · cases e
theorem execOps_mono {R R' : Run} (h : R.le R') : ∀ {ops : List AI} {s s' : St}, execOps ft R ops s = some s' → execOps ft R' ops s = some s'
  | [], _, _, e => e
  | i :: r, s, s', e => by
    simp only [execOps] at *
    cases hi : execI ft R i s with
    | none => simp [hi] at e
    | some s1 =>
      rw [execI_mono h hi]
      rw [hi] at e
      exact execOps_mono h e
theorem loopN_mono {b b' : St → Option (Ex × St)} (h : ∀ s r, b s = some r → b' s = some r) : ∀ {n n' : Nat}, n ≤ n' → ∀ {s r}, loopN b n s = some r → loopN b' n' s = some r
  | 0, _, _, _, _, e => by cases e
  | n + 1, 0, hn, _, _, _ => by omega
  | n + 1, n' + 1, hn, s, r, e => by
    simp only [loopN] at *
    cases hb : b s with
    | none => simp [hb] at e
    | some p =>
      rw [h _ _ hb]
      rw [hb] at e
      obtain ⟨x, s1⟩ := p
      cases x with
      | nxt => exact loopN_mono h (by omega) e
      | out id => exact e
      | ret => exact e
theorem rounds_mono {p p' : St → Option St} {t t' : St → Option (Ex × St)} (hp : ∀ s r, p s = some r → p' s = some r) (ht : ∀ s r, t s = some r → t' s = some r) {it nx ok i0 en B Cc : Nat} : ∀ (π : List (AV × AV)) (s : St) (r : Ex × St), rounds p t it nx ok i0 en B Cc π s = some r → rounds p' t' it nx ok i0 en B Cc π s = some r
  | [], s, r, e => e
  | q :: π, s, r, e => by
    simp only [rounds] at *
    split at e
    · rename_i hi
      rw [if_pos hi]
      obtain ⟨s1, h1, e⟩ := Option.bind_eq_some_iff.1 e
      obtain ⟨⟨x, s2⟩, h2, e⟩ := Option.bind_eq_some_iff.1 e
      rw [hp _ _ h1, Option.bind_some, ht _ _ h2, Option.bind_some]
      cases x with
      | nxt => exact rounds_mono hp ht π s2 r e
      | out j =>
        dsimp only at e ⊢
        split at e
        · rename_i hj; rw [if_pos hj]; exact rounds_mono hp ht π s2 r e
        · rename_i hj; rw [if_neg hj]; exact e
      | ret => exact e
    · cases e
theorem both_eq {a b : Option (Ex × St)} {r : Ex × St} : both a b = some r ↔ a = some r ∧ b = some r := by
  unfold both
  constructor
  · intro h
    split at h
    · rename_i h1; exact ⟨h, h1 ▸ h⟩
    · cases h
  · rintro ⟨rfl, rfl⟩
    simp
theorem allSame_eq {f : List (AV × AV) → Option (Ex × St)} {kvs : List (AV × AV)} {r : Ex × St} : allSame f kvs = some r ↔ ∀ π, π.Perm kvs → f π = some r := by
  unfold allSame
  constructor
  · intro h π hp
    split at h
    · rename_i h1; rw [h1 π hp]; exact h
    · cases h
  · intro h
    rw [if_pos fun π hp => by rw [h π hp, h kvs (List.Perm.refl _)]]
    exact h kvs (List.Perm.refl _)
theorem exec_mono {R R' : Run} (h : R.le R') {n n' : Nat} (hn : n ≤ n') : ∀ {c : ACode} {s : St} {r : Ex × St}, exec ft R n c s = some r → exec ft R' n' c s = some r
  | .skip, _, _, e => e
  | .region ops, s, r, e => by
    simp only [exec] at *
    cases ho : execOps ft R ops s with
    | none => simp [ho] at e
    | some s1 => rw [execOps_mono h ho]; rw [ho] at e; exact e
  | .regionD ops chks, s, r, e => by
    simp only [exec] at *
    cases ho : execOps ft R ops s with
    | none => simp [ho] at e
    | some s1 => rw [execOps_mono h ho]; rw [ho] at e; exact e
  | .seq a b, s, r, e => by
    simp only [exec] at *
    cases ha : exec ft R n a s with
    | none => simp [ha] at e
    | some p =>
      rw [exec_mono h hn ha]
      rw [ha] at e
      obtain ⟨x, s1⟩ := p
      cases x with
      | nxt => exact exec_mono h hn e
      | out id => exact e
      | ret => exact e
  | .cond c a b, s, r, e => by
    simp only [exec] at *
    split at e
    · exact exec_mono h hn e
    · exact exec_mono h hn e
    · cases e
  | .block id b, s, r, e => by
    simp only [exec] at *
    cases hb : exec ft R n b s with
    | none => simp [hb] at e
    | some p => rw [exec_mono h hn hb]; rw [hb] at e; exact e
  | .loop b, s, r, e => by
    simp only [exec] at *
    exact loopN_mono (fun s r e => exec_mono h hn e) hn e
  | .exit id, _, _, e => e
  | .ret, _, _, e => e
  | .frz, _, _, e => e
  | .frzs _, _, _, e => e
  | .rngm x it nx ok en pre post B Cc tail fg, s, r, e => by
    simp only [exec] at *
    obtain ⟨s0, h1, e⟩ := Option.bind_eq_some_iff.1 e
    rw [execOps_mono h h1, Option.bind_some]
    split at e
    · rename_i mid hx
      split at e
      · rename_i kvs ek hb
        rw [allSame_eq] at e ⊢
        intro π hp
        obtain ⟨q, h2, h3⟩ := Option.map_eq_some_iff.1 (e π hp)
        rw [rounds_mono (fun _ _ h4 => execOps_mono h h4) (fun _ _ h4 => exec_mono h hn h4) π _ _ h2, Option.map_some, h3]
      · cases e
    · exact e
    · cases e
  | .nilq pre x t c fg, s, r, e => by
    simp only [exec] at *
    obtain ⟨s0, h1, e⟩ := Option.bind_eq_some_iff.1 e
    rw [execOps_mono h h1, Option.bind_some]
    have go : ∀ {b : Bool} {r}, (exec ft R n c (s0.put (some t) (.bool b))).map (fun p => (p.1, p.2.forget fg)) = some r → (exec ft R' n' c (s0.put (some t) (.bool b))).map (fun p => (p.1, p.2.forget fg)) = some r := fun e => by
      obtain ⟨q, h2, h3⟩ := Option.map_eq_some_iff.1 e
      rw [exec_mono h hn h2, Option.map_some, h3]
    split at e
    · obtain ⟨e1, e2⟩ := both_eq.1 e
      exact both_eq.2 ⟨go e1, go e2⟩
    · exact go e
    · split at e
      · rename_i hl
        rw [if_pos hl]; exact go e
      · cases e
    · cases e
  | .range f ps asg body, s, r, e => by
    simp only [exec] at *
    split at e
    · rename_i g first cap hf
      cases hr : R (.f g) (first ++ [AV.yld s.mem.blks.length] ++ cap) { s.mem with blks := s.mem.blks ++ [.lp s.env ps asg body true none] } with
      | none => rw [hr] at e; cases e
      | some p => rw [h _ _ _ _ hr]; rw [hr] at e; exact e
    · cases e
theorem run_mono : ∀ {n n' : Nat}, n ≤ n' → (run ft n).le (run ft n')
  | 0, _, _ => fun _ _ _ _ e => by simp [run] at e
  | n + 1, 0, hn => by omega
  | n + 1, n' + 1, hn => fun t as m r e => by
    have ih : (run ft n).le (run ft n') := run_mono (show n ≤ n' by omega)
    cases t with
    | f f =>
      simp only [run] at *
      cases hf : ft f with
      | none => simp [hf] at e
      | some fn =>
        simp only [hf] at e ⊢
        by_cases hl : as.length = fn.params
        · simp only [hl, if_true] at e ⊢
          cases he : exec ft (run ft n) n fn.body ⟨entry as, m⟩ with
          | none => simp [he] at e
          | some p => rw [exec_mono ih (by omega) he]; rw [he] at e; exact e
        · simp [hl] at e
    | y id =>
      simp only [run] at *
      split at e
      · rename_i env ps asg body hb
        by_cases hl : as.length = ps.length
        · simp only [hl, if_true] at e ⊢
          cases he : exec ft (run ft n) n asg ⟨puts env ps as, m⟩ with
          | none => simp [he] at e
          | some p =>
            rw [exec_mono ih (by omega) he]
            rw [he] at e
            obtain ⟨x, s1⟩ := p
            cases x with
            | nxt =>
              simp only at e ⊢
              cases hbz : busy id s1 with
              | none => simp [hbz] at e
              | some s2 =>
                simp only [hbz, Option.bind_some] at e ⊢
                cases hx : exec ft (run ft n) n body s2 with
                | none => simp [hx] at e
                | some q => rw [exec_mono ih (by omega) hx]; rw [hx] at e; exact e
            | out id => cases e
            | ret => cases e
        · simp [hl] at e
      · cases e

/-! ### What is asked -/
def W (ft : FuncId → Option AFn) (c : ACode) (s : St) (Q : Ex → St → Prop) : Prop := ∃ n r, exec ft (run ft n) n c s = some r ∧ Q r.1 r.2
def Wo (ft : FuncId → Option AFn) (ops : List AI) (s : St) (K : St → Prop) : Prop := ∃ n s', execOps ft (run ft n) ops s = some s' ∧ K s'
def Wi (ft : FuncId → Option AFn) (i : AI) (s : St) (K : St → Prop) : Prop := ∃ n s', execI ft (run ft n) i s = some s' ∧ K s'
def W1 (ft : FuncId → Option AFn) (o : AOp) (s : St) (K : AV → St → Prop) : Prop := ∃ n p, exec1 ft (run ft n) s o = some p ∧ K p.1 p.2
def WV (ft : FuncId → Option AFn) (f : FuncId) (as : List AV) (K : AV → Prop) : Prop := ∃ n v, callV (run ft n) f as = some v ∧ K v
def WR (ft : FuncId → Option AFn) (t : Tg) (as : List AV) (m : Mem) (K : AV → Mem → Prop) : Prop := ∃ n p, run ft n t as m = some p ∧ K p.1 p.2
def WB (ft : FuncId → Option AFn) (f : FuncId) (as : List AV) (s : St) (K : AV → St → Prop) : Prop := ∃ n p, callBy ft (run ft n) f as s = some p ∧ K p.1 p.2
def WA (ft : FuncId → Option AFn) (f : AV) (as : List AV) (s : St) (K : AV → St → Prop) : Prop := ∃ n p, callAny ft (run ft n) f as s = some p ∧ K p.1 p.2
/-- A value that is there. -/
def Opt {α : Type} (o : Option α) (K : α → Prop) : Prop := match o with | some a => K a | none => False
theorem Opt_some {α : Type} (a : α) (K : α → Prop) : Opt (some a) K = K a := rfl
theorem Opt_none {α : Type} (K : α → Prop) : Opt none K = False := rfl
theorem Opt_congr {α : Type} {o o' : Option α} (h : o = o') (K : α → Prop) : Opt o K = Opt o' K := by rw [h]
theorem Opt_map {α β : Type} (o : Option α) (f : α → β) (K : β → Prop) : Opt (o.map f) K = Opt o fun a => K (f a) := by cases o <;> rfl
theorem Opt_ite {α : Type} (c : Prop) [Decidable c] (a b : Option α) (K : α → Prop) : Opt (if c then a else b) K = if c then Opt a K else Opt b K := by split <;> rfl

theorem W_mono {c : ACode} {s : St} {Q Q' : Ex → St → Prop} (h : W ft c s Q) (hq : ∀ e s, Q e s → Q' e s) : W ft c s Q' :=
  let ⟨n, r, e, q⟩ := h; ⟨n, r, e, hq _ _ q⟩
theorem W_skip (s : St) (Q : Ex → St → Prop) : W ft .skip s Q = Q .nxt s :=
  propext ⟨fun ⟨_, _, e, q⟩ => by cases e; exact q, fun q => ⟨0, _, rfl, q⟩⟩
theorem W_exit (id : Nat) (s : St) (Q : Ex → St → Prop) : W ft (.exit id) s Q = Q (.out id) s :=
  propext ⟨fun ⟨_, _, e, q⟩ => by cases e; exact q, fun q => ⟨0, _, rfl, q⟩⟩
theorem W_ret (s : St) (Q : Ex → St → Prop) : W ft .ret s Q = Q .ret s :=
  propext ⟨fun ⟨_, _, e, q⟩ => by cases e; exact q, fun q => ⟨0, _, rfl, q⟩⟩
theorem W_frz (s : St) (Q : Ex → St → Prop) : W ft .frz s Q = Q .nxt s.frz :=
  propext ⟨fun ⟨_, _, e, q⟩ => by cases e; exact q, fun q => ⟨0, _, rfl, q⟩⟩
theorem W_region (ops : List AI) (s : St) (Q : Ex → St → Prop) : W ft (.region ops) s Q = Wo ft ops s (Q .nxt) := by
  refine propext ⟨fun ⟨n, r, e, q⟩ => ?_, fun ⟨n, s', e, q⟩ => ⟨n, (.nxt, s'), by simp [exec, e], q⟩⟩
  simp only [exec] at e
  cases ho : execOps ft (run ft n) ops s with
  | none => simp [ho] at e
  | some s1 => simp [ho] at e; subst e; exact ⟨n, s1, ho, q⟩
theorem W_regionD' (ops : List AI) (chks : List (Nat × Nat)) (s : St) (Q : Ex → St → Prop) : W ft (.regionD ops chks) s Q = Wo ft ops s fun s' => if chkAll chks s'.env = true then Q .nxt s' else False := by
  refine propext ⟨fun ⟨n, r, e, q⟩ => ?_, fun ⟨n, s', e, q⟩ => ?_⟩
  · simp only [exec] at e
    cases ho : execOps ft (run ft n) ops s with
    | none => simp [ho] at e
    | some s1 =>
      simp only [ho, Option.bind_some] at e
      split at e
      · rename_i hc; cases e; exact ⟨n, s1, ho, by show (if _ then _ else _); rw [if_pos hc]; exact q⟩
      · cases e
  · dsimp only at q
    split at q
    · rename_i hc; exact ⟨n, (.nxt, s'), by simp only [exec, e, Option.bind_some, if_pos hc], q⟩
    · exact q.elim
/-- How a run goes on behind its end. -/
def Then (K : St → Prop) (Q : Ex → St → Prop) : Ex → St → Prop
  | .nxt, s => K s
  | e, s => Q e s
theorem Then_nxt (K : St → Prop) (Q : Ex → St → Prop) (s : St) : Then K Q .nxt s = K s := rfl
theorem Then_ret (K : St → Prop) (Q : Ex → St → Prop) (s : St) : Then K Q .ret s = Q .ret s := rfl
theorem Then_out (K : St → Prop) (Q : Ex → St → Prop) (id : Nat) (s : St) : Then K Q (.out id) s = Q (.out id) s := rfl
theorem W_seq (a b : ACode) (s : St) (Q : Ex → St → Prop) : W ft (.seq a b) s Q = W ft a s (Then (fun s => W ft b s Q) Q) := by
  refine propext ⟨fun ⟨n, r, e, q⟩ => ?_, fun ⟨n, r, e, q⟩ => ?_⟩
  · simp only [exec] at e
    cases ha : exec ft (run ft n) n a s with
    | none => simp [ha] at e
    | some p =>
      obtain ⟨x, s1⟩ := p
      rw [ha] at e
      refine ⟨n, (x, s1), ha, ?_⟩
      cases x with
      | nxt => exact ⟨n, r, e, q⟩
      | out id => cases e; exact q
      | ret => cases e; exact q
  · obtain ⟨x, s1⟩ := r
    cases x with
    | nxt =>
      obtain ⟨n', r', e', q'⟩ := q
      refine ⟨max n n', r', ?_, q'⟩
      simp only [exec]
      rw [exec_mono (run_mono (Nat.le_max_left n n')) (Nat.le_max_left n n') e]
      exact exec_mono (run_mono (Nat.le_max_right n n')) (Nat.le_max_right n n') e'
    | out id => exact ⟨n, (.out id, s1), by simp [exec, e], q⟩
    | ret => exact ⟨n, (.ret, s1), by simp [exec, e], q⟩
/-- A test. -/
def If (v : AV) (A B : Prop) : Prop := match v with | .bool true => A | .bool false => B | _ => False
theorem If_true (A B : Prop) : If (.bool true) A B = A := rfl
theorem If_false (A B : Prop) : If (.bool false) A B = B := rfl
theorem If_bool (b : Bool) (A B : Prop) : If (.bool b) A B = if b = true then A else B := by cases b <;> simp [If]
theorem If_congr {v v' : AV} (h : v = v') (A B : Prop) : If v A B = If v' A B := by rw [h]
theorem W_cond (c : Src) (a b : ACode) (s : St) (Q : Ex → St → Prop) : W ft (.cond c a b) s Q = If (s.ev c) (W ft a s Q) (W ft b s Q) := by
  refine propext ⟨fun ⟨n, r, e, q⟩ => ?_, fun h => ?_⟩
  · simp only [exec] at e
    split at e
    · rename_i hc; rw [hc]; exact ⟨n, r, e, q⟩
    · rename_i hc; rw [hc]; exact ⟨n, r, e, q⟩
    · cases e
  · unfold If at h
    split at h
    · rename_i hc; obtain ⟨n, r, e, q⟩ := h; exact ⟨n, r, by simp [exec, hc, e], q⟩
    · rename_i hc; obtain ⟨n, r, e, q⟩ := h; exact ⟨n, r, by simp [exec, hc, e], q⟩
    · exact h.elim
def InBlk (id : Nat) (Q : Ex → St → Prop) : Ex → St → Prop
  | .out j, s => if j = id then Q .nxt s else Q (.out j) s
  | e, s => Q e s
theorem InBlk_nxt (id : Nat) (Q : Ex → St → Prop) (s : St) : InBlk id Q .nxt s = Q .nxt s := rfl
theorem InBlk_ret (id : Nat) (Q : Ex → St → Prop) (s : St) : InBlk id Q .ret s = Q .ret s := rfl
theorem InBlk_out (id j : Nat) (Q : Ex → St → Prop) (s : St) : InBlk id Q (.out j) s = if j = id then Q .nxt s else Q (.out j) s := rfl
theorem W_block (id : Nat) (b : ACode) (s : St) (Q : Ex → St → Prop) : W ft (.block id b) s Q = W ft b s (InBlk id Q) := by
  refine propext ⟨fun ⟨n, r, e, q⟩ => ?_, fun ⟨n, r, e, q⟩ => ?_⟩
  · simp only [exec] at e
    cases hb : exec ft (run ft n) n b s with
    | none => simp [hb] at e
    | some p =>
      obtain ⟨x, s1⟩ := p
      refine ⟨n, (x, s1), hb, ?_⟩
      rw [hb] at e
      cases x with
      | nxt => cases e; exact q
      | ret => cases e; exact q
      | out j =>
        simp only [InBlk]
        by_cases hj : j = id
        · simp only [hj, if_true] at e ⊢; cases e; exact q
        · simp only [hj, if_false] at e ⊢; cases e; exact q
  · obtain ⟨x, s1⟩ := r
    cases x with
    | nxt => exact ⟨n, (.nxt, s1), by simp [exec, e], q⟩
    | ret => exact ⟨n, (.ret, s1), by simp [exec, e], q⟩
    | out j =>
      simp only [InBlk] at q
      by_cases hj : j = id
      · simp only [hj, if_true] at q; exact ⟨n, (.nxt, s1), by simp [exec, e, hj], q⟩
      · simp only [hj, if_false] at q; exact ⟨n, (.out j, s1), by simp [exec, e, hj], q⟩

theorem Wo_nil (s : St) (K : St → Prop) : Wo ft [] s K = K s := propext ⟨fun ⟨_, _, e, q⟩ => by cases e; exact q, fun q => ⟨0, _, rfl, q⟩⟩
theorem Wo_cons (i : AI) (r : List AI) (s : St) (K : St → Prop) : Wo ft (i :: r) s K = Wi ft i s fun s => Wo ft r s K := by
  refine propext ⟨fun ⟨n, s', e, q⟩ => ?_, fun ⟨n, s1, e, n', s', e', q⟩ => ?_⟩
  · simp only [execOps] at e
    cases hi : execI ft (run ft n) i s with
    | none => simp [hi] at e
    | some s1 => rw [hi] at e; exact ⟨n, s1, hi, n, s', e, q⟩
  · refine ⟨max n n', s', ?_, q⟩
    simp only [execOps]
    rw [execI_mono (run_mono (Nat.le_max_left n n')) e]
    exact execOps_mono (run_mono (Nat.le_max_right n n')) e'
theorem Wi_plain (d : Option Nat) (o : AOp) (s : St) (K : St → Prop) : Wi ft ⟨d, none, o⟩ s K = W1 ft o s fun v s => K (s.put d v) := by
  refine propext ⟨fun ⟨n, s', e, q⟩ => ?_, fun ⟨n, p, e, q⟩ => ⟨n, p.2.put d p.1, by simp [execI, e], q⟩⟩
  simp only [execI] at e
  cases hr : exec1 ft (run ft n) s o with
  | none => simp [hr] at e
  | some p => simp [hr] at e; subst e; exact ⟨n, p, hr, q⟩
/-- A guard. -/
def Gd (v : AV) (b : Bool) (A B : Prop) : Prop := match v with | .bool b' => if b' = b then A else B | .tup [] => B | _ => False
theorem Gd_tup (b : Bool) (A B : Prop) : Gd (.tup []) b A B = B := rfl
theorem Gd_bool (b' b : Bool) (A B : Prop) : Gd (.bool b') b A B = if b' = b then A else B := rfl
theorem Gd_congr {v v' : AV} (h : v = v') (b : Bool) (A B : Prop) : Gd v b A B = Gd v' b A B := by rw [h]
theorem Wi_guard (d : Option Nat) (t : Nat) (b : Bool) (o : AOp) (s : St) (K : St → Prop) :
    Wi ft ⟨d, some (t, b), o⟩ s K = Gd (s.env t) b (W1 ft o s fun v s => K (s.put d v)) (K (s.put d (.tup []))) := by
  refine propext ⟨fun ⟨n, s', e, q⟩ => ?_, fun h => ?_⟩
  · simp only [execI] at e
    unfold Gd
    split at e
    · rename_i b' hb
      try rw [hb]
      by_cases hc : b' = b
      · simp only [hc, if_true] at e ⊢
        cases hr : exec1 ft (run ft n) s o with
        | none => simp [hr] at e
        | some p => simp [hr] at e; subst e; exact ⟨n, p, hr, q⟩
      · simp only [hc, if_false] at e ⊢; cases e; exact q
    · rename_i hb; try rw [hb]
      cases e; exact q
    · cases e
  · unfold Gd at h
    split at h
    · rename_i b' hb
      by_cases hc : b' = b
      · simp only [hc, if_true] at h
        obtain ⟨n, p, e, q⟩ := h
        exact ⟨n, _, by simp [execI, hb, hc, e], q⟩
      · simp only [hc, if_false] at h
        exact ⟨0, _, by simp [execI, hb, hc], h⟩
    · rename_i hb; exact ⟨0, _, by simp [execI, hb], h⟩
    · exact h.elim

def AOp.calls : AOp → Bool
  | .call .. | .callv .. | .callf .. | .callz .. => true
  | _ => false
theorem W1_op {o : AOp} (s : St) (K : AV → St → Prop) (h : o.calls = false) : W1 ft o s K = Opt (op1 s o) fun p => K p.1 (s.setMem p.2) := by
  have he : ∀ n, exec1 ft (run ft n) s o = (op1 s o).map fun p => (p.1, s.setMem p.2) := by intro n; cases o <;> first | rfl | cases h
  refine propext ⟨fun ⟨n, p, e, q⟩ => ?_, fun h => ?_⟩
  · rw [he] at e
    cases ho : op1 s o with
    | none => simp [ho] at e
    | some x => simp [ho] at e; subst e; exact q
  · cases ho : op1 s o with
    | none => rw [ho] at h; exact h.elim
    | some x => rw [ho] at h; exact ⟨0, (x.1, s.setMem x.2), by rw [he, ho]; rfl, h⟩
theorem W1_call (f : FuncId) (args : List Src) (s : St) (K : AV → St → Prop) : W1 ft (.call f args) s K = WB ft f (args.map s.ev) s K := rfl
theorem W1_callv (f : Src) (args : List Src) (s : St) (K : AV → St → Prop) : W1 ft (.callv f args) s K = WA ft (s.ev f) (args.map s.ev) s K := rfl
theorem WA_fn (g : FuncId) (first cap args : List AV) (s : St) (K : AV → St → Prop) : WA ft (.fn g first cap) args s K = WB ft g (first ++ args ++ cap) s K := rfl
theorem WA_yld (id : Nat) (args : List AV) (s : St) (K : AV → St → Prop) : WA ft (.yld id) args s K = WR ft (.y id) args s.mem fun v m => K v (s.setMem m) := by
  refine propext ⟨fun ⟨n, p, e, q⟩ => ?_, fun ⟨n, p, e, q⟩ => ⟨n, (p.1, s.setMem p.2), by simp [callAny, e], q⟩⟩
  simp only [callAny] at e
  cases hr : run ft n (.y id) args s.mem with
  | none => simp [hr] at e
  | some p => simp [hr] at e; subst e; exact ⟨n, p, hr, q⟩
theorem WA_congr {f f' : AV} (h : f = f') (args : List AV) (s : St) (K : AV → St → Prop) : WA ft f args s K = WA ft f' args s K := by rw [h]
def WF (ft : FuncId → Option AFn) (f : FuncId) (as : List AV) (s : St) (K : AV → St → Prop) : Prop := ∃ n p, callFz ft (run ft n) f as s = some p ∧ K p.1 p.2
/-- A call of a function value by value. -/
def WZ (ft : FuncId → Option AFn) (f : AV) (as : List AV) (s : St) (K : AV → St → Prop) : Prop := ∃ n p, callZ ft (run ft n) f as s = some p ∧ K p.1 p.2
theorem W1_callz (f : Src) (args : List Src) (s : St) (K : AV → St → Prop) : W1 ft (.callz f args) s K = WZ ft (s.ev f) (args.map s.ev) s K := rfl
theorem WZ_fn (g : FuncId) (first cap args : List AV) (s : St) (K : AV → St → Prop) : WZ ft (.fn g first cap) args s K = WF ft g (first ++ args ++ cap) s K := rfl
theorem W1_callf (f : FuncId) (args : List Src) (s : St) (K : AV → St → Prop) : W1 ft (.callf f args) s K = WF ft f (args.map s.ev) s K := rfl
theorem WF_v {f : FuncId} {fn : AFn} (hf : ft f = some fn) (args : List AV) (s : St) (K : AV → St → Prop) :
    WF ft f args s K = WV ft f (args.map (snap s.mem dep)) fun v => (args.all (fun a => !hot dep a) || plain dep v) = true ∧ K v s := by
  refine propext ⟨fun ⟨n, p, e, q⟩ => ?_, fun ⟨n, v, e, hc, q⟩ => ⟨n, (v, s), by simp only [callFz, hf, e, Option.bind_some]; rw [if_pos hc], q⟩⟩
  simp only [callFz, hf] at e
  cases hr : callV (run ft n) f (args.map (snap s.mem dep)) with
  | none => simp [hr] at e
  | some v =>
    simp only [hr, Option.bind_some] at e
    split at e
    · rename_i hc; cases e; exact ⟨n, v, hr, hc, q⟩
    · cases e
theorem WB_r {f : FuncId} {fn : AFn} (hf : ft f = some fn) (hm : fn.md = .r) (args : List AV) (s : St) (K : AV → St → Prop) :
    WB ft f args s K = WR ft (.f f) args s.mem fun v m => K v (s.setMem m) := by
  refine propext ⟨fun ⟨n, p, e, q⟩ => ?_, fun ⟨n, p, e, q⟩ => ⟨n, (p.1, s.setMem p.2), by simp [callBy, hf, hm, e], q⟩⟩
  simp only [callBy, hf, hm] at e
  cases hr : run ft n (.f f) args s.mem with
  | none => simp [hr] at e
  | some p => simp [hr] at e; subst e; exact ⟨n, p, hr, q⟩
theorem WB_v {f : FuncId} {fn : AFn} (hf : ft f = some fn) (hm : fn.md = .v) (args : List AV) (s : St) (K : AV → St → Prop) :
    WB ft f args s K = WV ft f (args.map (snap s.mem dep)) fun v => (args.all (fun a => !hot dep a) || plain dep v) = true ∧ K v s := by
  refine propext ⟨fun ⟨n, p, e, q⟩ => ?_, fun ⟨n, v, e, hc, q⟩ => ⟨n, (v, s), by simp only [callBy, hf, hm, e, Option.bind_some]; rw [if_pos hc], q⟩⟩
  simp only [callBy, hf, hm] at e
  cases hr : callV (run ft n) f (args.map (snap s.mem dep)) with
  | none => simp [hr] at e
  | some v =>
    simp only [hr, Option.bind_some] at e
    split at e
    · rename_i hc; cases e; exact ⟨n, v, hr, hc, q⟩
    · cases e

theorem WB_o {f : FuncId} {fn : AFn} (hf : ft f = some fn) (hm : fn.md = .o) (args : List AV) (s : St) (K : AV → St → Prop) :
    WB ft f args s K = WR ft (.f f) (args.map (snap s.mem dep)) .nil fun v m => (args.all (fun a => !hot dep a) || (ownly dep v && m.blks.all Blk.ownly)) = true ∧
      K (shift s.mem.blks.length s.mem.toks.length dep v) (s.setMem (joinMem s.mem m dep)) := by
  refine propext ⟨fun ⟨n, p, e, q⟩ => ?_, fun ⟨n, p, e, hc, q⟩ => ⟨n, (shift s.mem.blks.length s.mem.toks.length dep p.1, s.setMem (joinMem s.mem p.2 dep)), by simp only [callBy, hf, hm, e, Option.bind_some]; rw [if_pos hc], q⟩⟩
  simp only [callBy, hf, hm] at e
  cases hr : run ft n (.f f) (args.map (snap s.mem dep)) .nil with
  | none => simp [hr] at e
  | some p =>
    simp only [hr, Option.bind_some] at e
    split at e
    · rename_i hc; cases e; exact ⟨n, p, hr, hc, q⟩
    · cases e

/-! ### A function's contract -/
/-- By value: the call gives just this. -/
def RV (ft : FuncId → Option AFn) (f : FuncId) (as : List AV) (v : AV) : Prop := ∃ n, callV (run ft n) f as = some v
theorem WV_eq {f : FuncId} {as : List AV} {v : AV} (h : RV ft f as v) (K : AV → Prop) : WV ft f as K = K v := by
  obtain ⟨n, e⟩ := h
  refine propext ⟨fun ⟨n', v', e', q⟩ => ?_, fun q => ⟨n, v, e, q⟩⟩
  have h1 := callV_mono (run_mono (ft := ft) (Nat.le_max_left n n')) e
  have h2 := callV_mono (run_mono (ft := ft) (Nat.le_max_right n n')) e'
  rw [h1] at h2
  cases h2
  exact q
/-- What stands at a function's end. -/
def Fin (rs : List Res) (K : AV → Mem → Prop) : Ex → St → Prop
  | .out _, _ => False
  | _, s => Opt (resOf s rs) fun v => K v s.mem
theorem Fin_nxt (rs : List Res) (K : AV → Mem → Prop) (s : St) : Fin rs K .nxt s = Opt (resOf s rs) fun v => K v s.mem := rfl
theorem Fin_ret (rs : List Res) (K : AV → Mem → Prop) (s : St) : Fin rs K .ret s = Opt (resOf s rs) fun v => K v s.mem := rfl
theorem WR_f {f : FuncId} {np : Nat} {c : ACode} {rs : List Res} {md : Md} (hf : ft f = some ⟨np, c, rs, md⟩) {as : List AV} (hl : as.length = np) (m : Mem) (K : AV → Mem → Prop) :
    WR ft (.f f) as m K = W ft c ⟨entry as, m⟩ (Fin rs K) := by
  refine propext ⟨fun ⟨n, p, e, q⟩ => ?_, fun ⟨n, r, e, q⟩ => ?_⟩
  · cases n with
    | zero => cases e
    | succ n =>
      simp only [run, hf, hl, if_true] at e
      cases hx : exec ft (run ft n) n c ⟨entry as, m⟩ with
      | none => simp [hx] at e
      | some r =>
        obtain ⟨x, s⟩ := r
        simp only [hx, Option.bind_some] at e
        refine ⟨n, (x, s), hx, ?_⟩
        cases x with
        | out id => cases e
        | nxt =>
          simp only [fin] at e
          cases hr : resOf s rs with
          | none => simp [hr] at e
          | some v => simp [hr] at e; subst e; simp only [Fin, hr]; exact q
        | ret =>
          simp only [fin] at e
          cases hr : resOf s rs with
          | none => simp [hr] at e
          | some v => simp [hr] at e; subst e; simp only [Fin, hr]; exact q
  · obtain ⟨x, s⟩ := r
    cases x with
    | out id => exact q.elim
    | nxt =>
      simp only [Fin] at q
      cases hr : resOf s rs with
      | none => rw [hr] at q; exact q.elim
      | some v => rw [hr] at q; exact ⟨n + 1, (v, s.mem), by simp [run, hf, hl, e, fin, hr], q⟩
    | ret =>
      simp only [Fin] at q
      cases hr : resOf s rs with
      | none => rw [hr] at q; exact q.elim
      | some v => rw [hr] at q; exact ⟨n + 1, (v, s.mem), by simp [run, hf, hl, e, fin, hr], q⟩
theorem RV_of {f : FuncId} {np : Nat} {c : ACode} {rs : List Res} {md : Md} (hf : ft f = some ⟨np, c, rs, md⟩) {as : List AV} {v : AV} (hl : as.length = np)
    (h : W ft c ⟨entry as, .nil⟩ (Fin rs fun u m => snap m dep u = v)) : RV ft f as v := by
  rw [← WR_f hf hl] at h
  obtain ⟨n, p, e, q⟩ := h
  exact ⟨n, by simp [callV, e, q]⟩
theorem WR_mono {t : Tg} {as : List AV} {m : Mem} {K K' : AV → Mem → Prop} (h : WR ft t as m K) (hk : ∀ v m, K v m → K' v m) : WR ft t as m K' :=
  let ⟨n, p, e, q⟩ := h; ⟨n, p, e, hk _ _ q⟩

/-! ### Loops -/
theorem W_loop_once (b : ACode) (s : St) (Q : Ex → St → Prop) (h : W ft b s (Then (fun s => W ft (.loop b) s Q) Q)) : W ft (.loop b) s Q := by
  obtain ⟨n, r, e, q⟩ := h
  obtain ⟨x, s1⟩ := r
  cases x with
  | nxt =>
    obtain ⟨n', r', e', q'⟩ := q
    refine ⟨max n n' + 1, r', ?_, q'⟩
    simp only [exec, loopN]
    rw [exec_mono (run_mono (show n ≤ max n n' + 1 by omega)) (show n ≤ max n n' + 1 by omega) e]
    simp only [exec] at e'
    exact loopN_mono (fun s r h => exec_mono (run_mono (show n' ≤ max n n' + 1 by omega)) (show n' ≤ max n n' + 1 by omega) h) (show n' ≤ max n n' by omega) e'
  | out id =>
    refine ⟨n + 1, (.out id, s1), ?_, q⟩
    simp only [exec, loopN]
    rw [exec_mono (run_mono (Nat.le_succ n)) (Nat.le_succ n) e]
  | ret =>
    refine ⟨n + 1, (.ret, s1), ?_, q⟩
    simp only [exec, loopN]
    rw [exec_mono (run_mono (Nat.le_succ n)) (Nat.le_succ n) e]
/-- A loop by what holds at each round's head and a number that each round lowers. -/
theorem W_loop {b : ACode} {Q : Ex → St → Prop} (I : Nat → St → Prop)
    (h : ∀ k s, I k s → W ft b s (Then (fun s' => ∃ k', k' < k ∧ I k' s') Q)) : ∀ k s, I k s → W ft (.loop b) s Q := by
  intro k
  induction k using Nat.strongRecOn with
  | _ k ih =>
    intro s hs
    refine W_loop_once b s Q (W_mono (h k s hs) fun e s' q => ?_)
    cases e with
    | nxt => obtain ⟨k', hk, hi⟩ := q; exact ih k' hk s' hi
    | out id => exact q
    | ret => exact q
/-- A loop that counts up to N. -/
theorem W_count {b : ACode} {Q : Ex → St → Prop} (N : Nat) (I : Nat → St → Prop)
    (hstep : ∀ k s, k < N → I k s → W ft b s (Then (fun s' => I (k + 1) s') Q))
    (hend : ∀ s, I N s → W ft b s (Then (fun _ => False) Q)) : ∀ s, ∀ k, k ≤ N → I k s → W ft (.loop b) s Q := by
  intro s k hk hi
  refine W_loop (ft := ft) (b := b) (Q := Q) (fun j s => ∃ k, k ≤ N ∧ j = N - k ∧ I k s) ?_ (N - k) s ⟨k, hk, rfl, hi⟩
  rintro j s ⟨k, hk, rfl, hi⟩
  by_cases hlt : k < N
  · refine W_mono (hstep k s hlt hi) fun e s' q => ?_
    cases e with
    | nxt => exact ⟨N - (k + 1), by omega, k + 1, by omega, rfl, q⟩
    | out id => exact q
    | ret => exact q
  · obtain rfl : k = N := by omega
    refine W_mono (hend s hi) fun e s' q => ?_
    cases e with
    | nxt => exact q.elim
    | out id => exact q
    | ret => exact q
end Go.Ab
end

section
/-
  A loaded function's code, turned into the abstract machine's: types are looked up here, once.
-/
namespace Go.Ab

def trVal : Value → Option AV
  | .bool b => some (.bool b)
  | .int k n => some (.int k n)
  | .string s => some (.str s)
  | .slice none 0 0 => some (.sl [] .tight)
  | .nilFunc => some .nilf
  | .pointer none => some .nilp
  | .map none => some .nilm
  | .agg cs => (cs.toList.mapM fun (v : Value) => match v with
    | .bool b => some (AV.bool b)
    | .int k n => some (.int k n)
    | .string s => some (.str s)
    | .slice none 0 0 => some (.sl [] .tight)
    | .nilFunc => some .nilf
    | .pointer none => some .nilp
    | .map none => some .nilm
    | _ => none).map .agg
  | _ => none

/-- Does a function's code make memory of its own; which calls of it are by value; before which of its regions the memory is frozen; which slots a loop over a map may forget. -/
structure Ow where
  own : Bool
  fz : List Nat
  fr : List Nat
  fg : List Nat

/-- Only an append onto an empty literal makes memory of its own. -/
def Ow.f0 (o : Ow) : Bool := o.fz.contains 5000000
section
variable (P : Program) (G : Nat → Option AV) (own : Ow)

def trX : Operand → Option Src
  | .tmp t => some (.t t)
  | .const v => (trVal v).map .c
  | .global g => (G g).map fun e => .c (.pv e 0)
  | .func f => some (.c (.fn f [] []))
def sizeT (t : TypeId) : Option Nat := (P.info? t).map (·.size)
def isAggT (t : TypeId) : Bool := match P.underlying t with
  | some (.struct _) | some (.array _ _) => true
  | _ => false
/-- How much a load of a type reads: one cell, or an aggregate's. -/
def loadT (t : TypeId) : Option (Option Nat) :=
  match P.underlying t with
  | some (.struct _) | some (.array _ _) => (sizeT P t).map some
  | some _ => if sizeT P t = some 1 then some none else none
  | none => none
def zeroT (t : TypeId) : Option AV := (P.info? t).bind fun i => i.zero.bind trVal
/-- A type whose values are compared cell by cell: the kinds of its cells. -/
def flatEq : Nat → TypeId → Option (List EK)
  | 0, _ => none
  | d + 1, t => match P.underlying t with
    | some .bool => if sizeT P t = some 1 then some [.b] else none
    | some (.int _) => if sizeT P t = some 1 then some [.i] else none
    | some .string => if sizeT P t = some 1 then some [.s] else none
    | some (.struct fs) =>
      if P.stoodInHeld t then none else
      (fs.toList.foldr (fun f r => fun (off : Nat) => if f.name ≠ "_" ∧ f.offset = off then (flatEq d f.type).bind fun a => (r (off + a.length)).map (a ++ ·) else none) (fun _ => some []) 0).bind fun l => if sizeT P t = some l.length then some l else none
    | some (.array n e) => match flatEq d e with
      | some [k] => if sizeT P t = some n then some (List.replicate n k) else none
      | _ => none
    | _ => none
def isStruct (t : TypeId) : Bool := match P.underlying t with | some (.struct _) | some (.array _ _) => true | _ => false

def isEi : EK → Bool
  | .i => true
  | _ => false
def intF (f : Field) : Bool := match P.underlying f.type with
  | some (.int _) => true
  | _ => false
/-- A map's kind of key, and its values' type. -/
def mapT (t : TypeId) : Option (EK × TypeId) :=
  match P.underlying t with
  | some (.map k e) => match P.underlying k with
    | some (.int _) => some (.i, e)
    | some .string => some (.s, e)
    | some .bool => some (.b, e)
    | some (.struct fs) => match flatEq P 6 k with
      | some ts => if (ts.all isEi = true ∧ P.eqGuardType P.depth k = false) ∧ fs.toList.all (intF P) = true then some (.n ts.length, e) else none
      | none => none
    | some (.array _ u) => match flatEq P 6 k, P.underlying u with
      | some ts, some (.int _) => if ts.all isEi = true ∧ P.eqGuardType P.depth k = false then some (.n ts.length, e) else none
      | _, _ => none
    | _ => none
  | _ => none
def fieldOff (t : TypeId) (i : Nat) : Option (Nat × TypeId) :=
  match P.underlying t with
  | some (.struct fs) => (fs[i]?).map fun f => (f.offset, f.type)
  | _ => none

def trParts (t : TypeId) (parts : List (Nat × Operand)) : Option (List (Nat × Nat × Src)) :=
  match P.underlying t with
  | some (.struct fs) => if (fs.all fun f => (sizeT P f.type).isSome) = true then parts.mapM fun p => do
    let f ← fs[p.1]?
    pure (f.offset, ← sizeT P f.type, ← trX G p.2) else none
  | some (.array _ e) => do
    let n ← sizeT P e
    parts.mapM fun p => do pure (p.1 * n, n, ← trX G p.2)
  | _ => none

/-- A slot whose function value is called by value. -/
def zslot : Src → Nat
  | .t n => 3000000 + n
  | .c _ => 1000000
def trOp : Op → Option AOp
  | .move x | .assign x => (trX G x).map .mov
  | .pick c a b => do pure (.pick (← trX G c) (← trX G a) (← trX G b))
  | .alloc e => do pure (.new (← zeroT P e) (← sizeT P e))
  | .box e x => do
    let sx ← trX G x
    let n ← sizeT P e
    pure (if own.fz.contains 2000000 then .boxf sx n else .box sx n)
  | .build t parts => do
    let z ← zeroT P t
    if z.solids = true then pure (.build z.cells (← trParts P G t parts.toList)) else none
  | .buildSlice t n parts => match P.underlying t with
    | some (.slice e) => do
      let sz ← sizeT P e
      let _ ← zeroT P e
      if parts.toList.map (·.1) = List.range n ∧ sz ≠ 0 ∧ n * sz ≤ 16777216 then pure (.lit (own.own && n != 0) e sz (← parts.toList.mapM fun p => trX G p.2)) else none
    | _ => none
  | .load t a => do pure (.load (← trX G a) (← loadT P t))
  | .store t a v => do pure (.store (← trX G a) (← trX G v) (← sizeT P t))
  | .binOp op t x y _ => match op, P.underlying t with
    | .eql, some .bool | .eql, some (.struct _) | .eql, some (.array _ _) => if P.eqGuardType P.depth t = false then do pure (.eqv false (isStruct P t) (← flatEq P 6 t) (← trX G x) (← trX G y)) else none
    | .neq, some .bool | .neq, some (.struct _) | .neq, some (.array _ _) => if P.eqGuardType P.depth t = false then do pure (.eqv true (isStruct P t) (← flatEq P 6 t) (← trX G x) (← trX G y)) else none
    | _, some (.int _) | _, some .string => do pure (.bin op (← trX G x) (← trX G y))
    | .eql, some (.map _ _) => match y with
      | .const (.map none) => (trX G x).map .mnil
      | _ => none
    | _, _ => none
  | .unOp op _ x => match op with
    | .not => (trX G x).map .not
    | .neg => (trX G x).map .neg
    | .xor => (trX G x).map .cmpl
    | _ => none
  | .convert src dst x => match P.underlying src, P.underlying dst with
    | some (.int _), some (.int k) => (trX G x).map (.conv k)
    | _, _ => none
  | .makeFunc (.func f) first cap => do pure (.clo f (← first.toList.mapM (trX G)) (← cap.toList.mapM (trX G)))
  | .makeSlice t l c => match P.underlying t with
    | some (.slice e) => do
      let i ← P.info? e
      if i.size = 0 then none else pure (.make (← zeroT P e) e i.size i.bytes (← trX G l) (← trX G c))
    | _ => none
  | .slice t x lo hi none => match P.underlying t with
    | some (.slice e) => do
      let l ← (match lo with | some o => (trX G o).map some | none => some none)
      let h ← (match hi with | some o => (trX G o).map some | none => some none)
      pure (.slice (← trX G x) l h (← sizeT P e))
    | some .string => do
      let l ← (match lo with | some o => (trX G o).map some | none => some none)
      let h ← (match hi with | some o => (trX G o).map some | none => some none)
      pure (.sslice (← trX G x) l h)
    | some (.array n e) => do
      let l ← (match lo with | some o => (trX G o).map some | none => some none)
      let h ← (match hi with | some o => (trX G o).map some | none => some none)
      let sx ← trX G x
      if sizeT P e = some 1 then pure (if (own.fz.contains 4000000 && l.isNone && h.isNone) = true then .aps sx n else .aslc sx l h n) else none
    | _ => none
  | .fieldAddr s x f => do
    let (off, t) ← fieldOff P s f
    let n ← sizeT P t
    if n = 0 then none else pure (.addr (← trX G x) off)
  | .field s x f => do
    let (off, t) ← fieldOff P s f
    pure (.fld (← trX G x) off (← loadT P t))
  | .indexAddr t x i => match P.underlying t with
    | some (.slice e) => do pure (.idx (← trX G x) (← trX G i) (← sizeT P e))
    | some (.array n e) => do pure (.aidx (← trX G x) (← trX G i) n (← sizeT P e))
    | _ => none
  | .index t x i => match P.underlying t with
    | some .string => do pure (.sidx (← trX G x) (← trX G i))
    | some (.array n e) => do pure (.vidx (← trX G x) (← trX G i) n (← sizeT P e) (← loadT P e))
    | _ => none
  | .extract x i => do pure (.ext (← trX G x) i)
  | .nilCheck x => (trX G x).map (.addr · 0)
  | .panic _ | .makeInterface _ _ => some .bad
  | .makeMap t none => do
    let (ek, _) ← mapT P t
    pure (.mkmap ek)
  | .lookup t x key ok => do
    let (ek, e) ← mapT P t
    pure (.mget ek (← zeroT P e) ok (← trX G x) (← trX G key))
  | .mapUpdate t x key v | .insert t x key v => do
    let (ek, _) ← mapT P t
    pure (.mput ek (← trX G x) (← trX G key) (← trX G v))
  | .call c => match c.callee, c.args.toList, c.argTypes.toList with
    | .builtin .len, [x], [t] => match P.underlying t with
      | some (.slice _) => (trX G x).map .len
      | some .string => (trX G x).map .slen
      | some (.map _ _) => (trX G x).map .mlen
      | _ => none
    | .builtin .cap, [x], [t] => match P.underlying t with
      | some (.slice _) => (trX G x).map .cap
      | _ => none
    | .builtin .append, [s, x], [t, u] => match P.underlying t with
      | some (.slice e) => do
        let i ← P.info? e
        if i.size = 0 then none else
        let z ← zeroT P e
        if z.cells.length ≠ i.size ∨ z.solids = false then none else
        if t = u then do pure (.app own.own (← trX G s) (← trX G x) e i.size i.bytes) else
        match P.underlying u with
        | some (.int _) => do pure (.appz (← trX G s) (← trX G x) z e i.size i.bytes)
        | _ => none
      | _ => none
    | .builtin .copy, [d, x], [t, u] => match P.underlying t, P.underlying u with
      | some (.slice e), some (.slice _) => do pure (.cpy (← trX G d) (← trX G x) (← sizeT P e))
      | _, _ => none
    | .builtin .clear, [x], [t] => match P.underlying t with
      | some (.slice e) => do pure (.clr (← trX G x) (← zeroT P e) (← sizeT P e))
      | _ => none
    | .builtin .delete, [x, y], [t, u] => do
      let (ek, _) ← mapT P t
      pure (.mdel ek (← trX G x) (← trX G y))
    | .builtin .min, [x, y], _ => do pure (.mnx false (← trX G x) (← trX G y))
    | .builtin .max, [x, y], _ => do pure (.mnx true (← trX G x) (← trX G y))
    | .builtin .min, x :: y :: xs, _ => do pure (.mnl false (← trX G x) (← (y :: xs).mapM (trX G)))
    | .builtin .max, x :: y :: xs, _ => do pure (.mnl true (← trX G x) (← (y :: xs).mapM (trX G)))
    | .value (.func f), args, _ => do
      let xs ← args.mapM (trX G)
      pure (if own.fz.contains f then .callf f xs else .call f xs)
    | .value f, args, _ => do
      let g ← trX G f
      let xs ← args.mapM (trX G)
      pure (if (own.fz.contains 1000000 || own.fz.contains (zslot g)) = true then .callz g xs else .callv g xs)
    | _, _, _ => none
  | _ => none

/-- What an operation does to the memory: 0: it doesn't look · 1: it reads · 2: it makes memory · 3: it may change it. -/
def kind (md : FuncId → Md) : AOp → Nat
  | .load .. | .slice .. | .addr .. | .idx .. | .aidx .. | .len .. | .mget .. | .mlen .. => 1
  | .new .. | .box .. | .make .. | .mkmap .. => 2
  | .lit own .. => if own then 2 else 0
  | .app0 .. | .appz .. => 2
  | .store .. | .app .. | .callv .. | .cpy .. | .mput .. | .mdel .. | .clr .. | .aps .. | .bad => 3
  | .call f _ => match md f with | .v => 1 | .o => 2 | .r => 3
  | .callf .. | .callz .. => 1
  | _ => 0
def calls : AOp → Bool
  | .call .. | .callv .. | .callf .. | .callz .. => true
  | _ => false
def Src.tmps : Src → List Nat
  | .t n => [n]
  | .c _ => []
def AOp.srcs : AOp → List Src
  | .mov x | .box x _ | .boxf x _ | .load x _ | .not x | .neg x | .cmpl x | .conv _ x | .addr x _ | .fld x _ _ | .ext x _ | .len x | .slen x | .mlen x | .cap x | .clr x _ _ | .mnil x | .aps x _ => [x]
  | .pick a b c => [a, b, c]
  | .new .. | .mkmap _ | .bad => []
  | .mget _ _ _ x y | .mdel _ x y => [x, y]
  | .mput _ x y v => [x, y, v]
  | .build _ ps => ps.map (·.2.2)
  | .lit _ _ _ xs => xs
  | .store x y _ | .bin _ x y | .eqv _ _ _ x y | .make _ _ _ _ x y | .idx x y _ | .aidx x y _ _ | .vidx x y _ _ _ | .sidx x y | .app _ x y _ _ _ | .app0 x y _ _ _ | .appz x y _ _ _ _ | .cpy x y _ | .mnx _ x y => [x, y]
  | .clo _ a b => a ++ b
  | .slice x lo hi _ | .sslice x lo hi | .aslc x lo hi _ => x :: (lo.toList ++ hi.toList)
  | .call _ xs | .callf _ xs => xs
  | .callv f xs | .callz f xs => f :: xs
  | .mnl _ x xs => x :: xs
/-- The slots that an operation looks at. -/
def AI.names (i : AI) : List Nat := i.op.srcs.flatMap Src.tmps ++ (match i.gd with | some (t, _) => [t] | none => [])
/-- What must come before an operation, whatever the order. -/
def preds (o : Oper) : List Nat := o.after.toList.filterMap fun e => if Region.binds .any e then some e.on else none
def anc1 (acc : List Nat) (ps : List Nat) : Nat := ps.foldr (fun p s => (s ||| 2 ^ p) ||| acc.getD p 0) 0
def ancs : List (List Nat) → List Nat → List Nat
  | [], acc => acc
  | p :: r, acc => ancs r (acc ++ [anc1 acc p])
/-- The order of two operations is given, and it is the text's. -/
def ordered (b : List Nat) (i j : Nat) : Bool := if i < j then (b.getD j 0).testBit i else (b.getD i 0).testBit j
def dfltI : AI := ⟨none, none, .mov (.c .undef)⟩
/-- An operation that looks at the memory's shape alone. -/
def still : AOp → Bool
  | .slice .. | .addr .. | .idx .. | .aidx .. | .len .. => true
  | _ => false
/-- From an operation on nobody writes a slot. -/
def keeps (as : List AI) (i t : Nat) : Bool := as.zipIdx.all fun p => decide (p.2 < i) || p.1.dst != some t
/-- A store that may come before an operation that stands before it in the text. -/
def opens (as : List AI) (chks : List (Nat × Nat)) (i j : Nat) (x y : AI) : Bool := match y.op with
  | .store q _ _ => still x.op || (match x.op, q with
    | .load (.t a) _, .t b => chks.contains (a, b) && (keeps as i a && keeps as j b)
    | _, _ => false)
  | .app _ (.t b) _ _ _ _ => (match x.op with
    | .addr (.t a) _ | .load (.t a) _ => chks.contains (a, b) && (keeps as i a && keeps as j b)
    | _ => false)
  | .call _ _ => (match x.op with
    | .load (.t a) _ | .addr (.t a) _ => chks.contains (a, a) && keeps as i a
    | _ => false)
  | _ => false
def okPair (md : FuncId → Md) (as : List AI) (chks : List (Nat × Nat)) (b : List Nat) (i j : Nat) (x y : AI) : Bool :=
  (match x.dst, y.dst with | some s, some t => s != t | _, _ => true) &&
  (match y.dst with | some t => !x.names.contains t || ordered b i j | none => true) &&
  (match kind md x.op, kind md y.op with
    | 0, _ | _, 0 | 1, 1 => true
    | 1, 2 => ordered b i j || (decide (i < j) && !calls x.op)
    | 2, 1 => ordered b i j || (decide (j < i) && !calls y.op)
    | 1, 3 => ordered b i j || (decide (i < j) && opens as chks i j x y)
    | 3, 1 => ordered b i j || (decide (j < i) && opens as chks j i y x)
    | _, _ => ordered b i j)
/-- The loads and the stores behind them whose order is open: their addresses' slots. -/
def chksOf (ps : List (List Nat)) (as : List AI) : List (Nat × Nat) :=
  let b := ancs ps []
  as.zipIdx.flatMap fun x => as.zipIdx.filterMap fun y => match x.1.op, y.1.op with
    | .load (.t a) _, .store (.t q) _ _ => if x.2 < y.2 ∧ ordered b x.2 y.2 = false then some (a, q) else none
    | _, _ => none
/-- The same, with appends. -/
def chksA (ps : List (List Nat)) (as : List AI) : List (Nat × Nat) :=
  let b := ancs ps []
  as.zipIdx.flatMap fun x => as.zipIdx.filterMap fun y => match x.1.op, y.1.op with
    | .load (.t a) _, .store (.t q) _ _ | .load (.t a) _, .app _ (.t q) _ _ _ _ | .addr (.t a) _, .app _ (.t q) _ _ _ _ => if x.2 < y.2 ∧ ordered b x.2 y.2 = false then some (a, q) else none
    | _, _ => none
/-- The same, with loads of frozen memory beside calls that may write. -/
def chksR (md : FuncId → Md) (ps : List (List Nat)) (as : List AI) : List (Nat × Nat) :=
  let b := ancs ps []
  chksA ps as ++ as.zipIdx.flatMap fun x => as.zipIdx.filterMap fun y => match x.1.op, y.1.op with
    | .load (.t a) _, .call _ _ | .addr (.t a) _, .call _ _ => if x.2 < y.2 ∧ ordered b x.2 y.2 = false ∧ kind md y.1.op = 3 then some (a, a) else none
    | _, _ => none
def okDraw (md : FuncId → Md) (chks : List (Nat × Nat)) (ps : List (List Nat)) (as : List AI) : Bool :=
  let b := ancs ps []
  (ps.zipIdx.all fun p => p.1.all fun q => decide (q < p.2)) &&
  (as.zipIdx.all fun x => as.zipIdx.all fun y => x.2 == y.2 || okPair md as chks b x.2 y.2 x.1 y.1)
/-- In a function that makes memory of its own, an append onto an empty literal. -/
def onto0 (f : Bool) (ops : Array Oper) : AOp → AOp
  | .app false (.t t) x T sz by' => if f && ops.any (fun o => o.dst == some t && (match o.op with | .buildSlice _ 0 _ => true | _ => false)) then .app0 (.t t) x T sz by' else .app false (.t t) x T sz by'
  | .app true (.t t) x T sz by' => if ops.any (fun o => o.dst == some t && (match o.op with | .buildSlice _ 0 _ => true | _ => false)) then .app0 (.t t) x T sz by' else .app true (.t t) x T sz by'
  | o => o
def trOper (nt : Nat) (ops : Array Oper) (o : Oper) : Option AI := do
  if (match o.dst with | some t => decide (nt ≤ t) | none => false) = true then none else
  let op ← (trOp P G own o.op).map (onto0 own.f0 ops)
  let gd ← (match o.guard with
    | none => some none
    | some (j, b) => do
      let o' ← ops[j]?
      let t ← o'.dst
      pure (some (t, b)))
  pure ⟨o.dst, gd, op⟩
/-- An alloc and the store behind it in one region: they may become one. Their places, the slot, the type. -/
structure Lp where
  i : Nat
  j : Nat
  t : Nat
  T : TypeId
def latePairs (ops : Array Oper) : List Lp :=
  ops.toList.zipIdx.filterMap fun p => match p.1.op, p.1.guard, p.1.dst with
    | .alloc T, none, some t => ops.toList.zipIdx.findSome? fun q => match q.1.op, q.1.guard, q.1.dst with
      | .store T' (.tmp t') _, none, none => if T' = T ∧ t' = t then some ⟨p.2, q.2, t, T⟩ else none
      | _, _, _ => none
    | _, _, _ => none
def trLate (nt : Nat) (ops : Array Oper) (lp : List Lp) (i : Nat) (o : Oper) : Option AI :=
  match lp.find? (fun p => p.i == i) with
  | some _ => some ⟨none, none, .mov (.c .undef)⟩
  | none => match lp.find? (fun p => p.j == i) with
    | some _ => (trOper P G own nt ops o).bind fun a => match a.op with
      | .store (.t t) x n => some ⟨some t, none, .box x n⟩
      | _ => none
    | none => trOper P G own nt ops o
/-- What the pairs must keep: the order of operations pm, what they are there. -/
def lateOK (nt : Nat) (ops : Array Oper) (lp : List Lp) (pm : List Nat) (as : List AI) : Bool :=
  (lp.all fun p => (match ops[p.j]? with | some o => (preds o).contains p.i | none => false) && decide (p.t < nt) &&
    (match zeroT P p.T, sizeT P p.T with | some z, some n => z.isAgg' && z.solids && z.cells.length == n && decide (2 ≤ n) | _, _ => false) &&
    (as.zipIdx.all fun a => decide (pm.idxOf p.j < a.2) || !a.1.names.contains p.t)) &&
  (lp.all fun p => lp.all fun q => p.t != q.t || (p.i == q.i && p.j == q.j))
def permOK (n : Nat) (pm : List Nat) : Bool := pm.length == n && ((List.range n).all fun k => decide (pm.getD k n < n) && pm.idxOf (pm.getD k n) == k) && (List.range n).all fun i => pm.getD (pm.idxOf i) n == i && decide (pm.idxOf i < n)
/-- An order in which what makes or changes memory comes late. -/
def sched (n : Nat) (ps : List (List Nat)) (early : List Bool) : Nat → List Nat → List Nat
  | 0, d => d
  | f + 1, d =>
    let ok := fun i => !d.contains i && (ps.getD i []).all d.contains
    match (List.range n).find? (fun i => ok i && early.getD i false) with
    | some i => sched n ps early f (d ++ [i])
    | none => match (List.range n).find? ok with
      | some i => sched n ps early f (d ++ [i])
      | none => d
/-- The same, in an order of its own. -/
def trPerm (ck : List (List Nat) → List AI → List (Nat × Nat)) (md : FuncId → Md) (nt : Nat) (ops : Array Oper) : Option ACode :=
  let n := ops.size
  let lp := latePairs ops
  let at' := fun i => (ops[i]?).bind (trLate P G own nt ops lp i)
  let pm := sched n (ops.toList.map preds) ((List.range n).map fun i => match at' i with | some a => decide (kind md a.op ≤ 1) && !calls a.op | none => false) n []
  let ps := pm.map fun i => (((ops[i]?).map preds).getD []).map fun q => pm.idxOf q
  (pm.mapM at').bind fun as =>
    let chks := ck ps as
    if permOK n pm = true ∧ okDraw md chks ps as = true ∧ lateOK P nt ops lp pm as = true then some (if chks.isEmpty then .region as else .regionD as chks) else none
def trRegW (ck : List (List Nat) → List AI → List (Nat × Nat)) (md : FuncId → Md) (nt : Nat) (ops : Array Oper) (draw : Bool) : Option ACode :=
    if draw = true then
      (match ops.toList.mapM (trOper P G own nt ops) with
      | some as =>
        let chks := ck (ops.toList.map preds) as
        if okDraw md chks (ops.toList.map preds) as = true then some (if chks.isEmpty then .region as else .regionD as chks) else trPerm P G own ck md nt ops
      | none => none)
    else (ops.toList.mapM (trOper P G own nt ops)).map .region
/-- An entry of a map that is changed in place: where it is made sure of, where its value is written, and the slots. -/
structure Tri where
  i : Nat
  k : Nat
  t1 : Nat
  t2 : Nat
  tx : Nat
  tk : Nat
  T : TypeId
  v : Operand
def entOf (o : Oper) : Option (TypeId × Nat × Nat × Nat) := match o.op, o.guard, o.dst with
  | .mapEntry T (.tmp tx) (.tmp tk), none, some t1 => some (T, tx, tk, t1)
  | _, _, _ => none
def extOf (o : Oper) (t1 : Nat) : Option Nat := match o.op, o.guard, o.dst with
  | .extract (.tmp t) 1, none, some t2 => if t = t1 then some t2 else none
  | _, _, _ => none
def putOf (o : Oper) (T tx t2 : Nat) : Option Operand := match o.op, o.guard, o.dst with
  | .entryStore T' (.tmp x) (.tmp s) v, none, none => if T' = T ∧ x = tx ∧ s = t2 then some v else none
  | _, _, _ => none
def triOf (ops : Array Oper) : Option Tri := do
  let i ← (List.range ops.size).find? fun n => match ops[n]? with | some o => (entOf o).isSome | none => false
  let (T, tx, tk, t1) ← (ops[i]?).bind entOf
  let t2 ← (ops[i + 1]?).bind (extOf · t1)
  let v ← (ops[ops.size - 1]?).bind (putOf · T tx t2)
  pure ⟨i, ops.size - 1, t1, t2, tx, tk, T, v⟩
def isI' : AV → Bool
  | .int .. => true
  | _ => false
def trTriOp (nt : Nat) (ops : Array Oper) (q : Tri) (n : Nat) (o : Oper) : Option AI :=
  if n = q.i then some ⟨some q.t1, none, .mov (.c .undef)⟩
  else if n = q.i + 1 then some ⟨some q.t2, none, .mov (.c .undef)⟩
  else if n = q.k then (mapT P q.T).bind fun p => (zeroT P p.2).bind fun z => if isI' z = true then (trX G q.v).map fun sv => ⟨none, none, .mput p.1 (.t q.tx) (.t q.tk) sv⟩ else none
  else trOper P G own nt ops o
/-- What may come between the two. -/
def isMid (q : Tri) (o : Oper) : Bool := (o.guard.isNone && o.dst.isSome && o.dst != some q.tx && o.dst != some q.tk) && match o.op with
  | .lookup T (.tmp x) (.tmp k) false => T == q.T && x == q.tx && k == q.tk
  | .binOp _ _ _ _ _ => true
  | _ => false
def isBin : AOp → Bool
  | .bin .. | .mget .. => true
  | _ => false
def triOK (nt : Nat) (ops : Array Oper) (q : Tri) (as : List AI) : Bool :=
  let b := ancs (ops.toList.map preds) []
  (decide (q.t1 < nt) && decide (q.t2 < nt) && q.t1 != q.t2 && decide (q.i + 1 < q.k) && decide (q.k < ops.size)) &&
  (as.zipIdx.all fun a => a.2 == q.i || a.2 == q.i + 1 || a.2 == q.k || (decide (a.2 < q.i) && (b.getD q.i 0).testBit a.2) || ((match ops[a.2]? with | some o => isMid q o | none => false) && isBin a.1.op)) &&
  (as.zipIdx.all fun a => (!a.1.names.contains q.t1 && !a.1.names.contains q.t2) && (a.2 == q.k || (decide (a.2 < q.k) && (b.getD q.k 0).testBit a.2))) &&
  (b.getD (q.i + 1) 0).testBit q.i
def trTri (md : FuncId → Md) (nt : Nat) (ops : Array Oper) (draw : Bool) : Option ACode :=
  (triOf ops).bind fun q => (ops.toList.zipIdx.mapM fun p => trTriOp P G own nt ops q p.2 p.1).bind fun as =>
    let chks := chksOf (ops.toList.map preds) as
    if draw = true ∧ okDraw md chks (ops.toList.map preds) as = true ∧ triOK nt ops q as = true then some (if chks.isEmpty then .region as else .regionD as chks) else none
/-- Memory that may be made early. -/
def lzy (a : AI) : Bool := a.gd.isNone && a.dst.isSome && (match a.op with | .make .. | .new .. => true | _ => false)
def okPairZ (md : FuncId → Md) (b : List Nat) (i j : Nat) (x y : AI) : Bool :=
  (match x.dst, y.dst with | some s, some t => s != t | _, _ => true) &&
  (match y.dst with | some t => !x.names.contains t || ordered b i j | none => true) &&
  (match kind md x.op, kind md y.op with
    | 0, _ | _, 0 | 1, 1 => true
    | 1, 2 => ordered b i j || (decide (i < j) && !calls x.op)
    | 2, 1 => ordered b i j || (decide (j < i) && !calls y.op)
    | 1, 3 | 3, 1 => ordered b i j
    | _, _ => ordered b i j || (if i < j then lzy y else lzy x))
def okLazy (md : FuncId → Md) (ps : List (List Nat)) (as : List AI) : Bool :=
  let b := ancs ps []
  (ps.zipIdx.all fun p => p.1.all fun q => decide (q < p.2)) &&
  (as.zipIdx.all fun x => as.zipIdx.all fun y => x.2 == y.2 || okPairZ md b x.2 y.2 x.1 y.1) &&
  (as.zipIdx.all fun y => !lzy y.1 || as.zipIdx.all fun u => !decide (y.2 < u.2) || !(kind md u.1.op == 1 || (match y.1.dst with | some t => u.1.names.contains t | none => false)) ||
    (as.zipIdx.all fun x => !decide (x.2 ≤ y.2) || !decide (2 ≤ kind md x.1.op) || (b.getD u.2 0).testBit x.2)) &&
  (as.zipIdx.all fun y => !lzy y.1 || as.zipIdx.all fun u => !decide (y.2 < u.2) || (match u.1.dst with | some t => !y.1.names.contains t | none => true))
def isMk : Op → Bool
  | .makeSlice .. | .alloc _ => true
  | _ => false
def trLazy (md : FuncId → Md) (nt : Nat) (ops : Array Oper) (draw : Bool) : Option ACode :=
  (ops.toList.mapM (trOper P G own nt ops)).bind fun as => if (draw = true ∧ (as.zipIdx.all fun a => !lzy a.1 || (match ops[a.2]? with | some o => isMk o.op | none => false)) = true) ∧ okLazy md (ops.toList.map preds) as = true then some (.region as) else none
def trReg (md : FuncId → Md) (nt : Nat) (ops : Array Oper) (draw : Bool) : Option ACode :=
  match trRegW P G own chksOf md nt ops draw with
  | some c => some c
  | none => match trRegW P G own chksA md nt ops draw with
    | some c => some c
    | none => match trRegW P G own (chksR md) md nt ops draw with
      | some c => some c
      | none => match trTri P G own md nt ops draw with
        | some c => some c
        | none => trLazy P G own md nt ops draw
def tr (md : FuncId → Md) (nt : Nat) : Code → Option ACode
  | .skip => some .skip
  | .region id ops draw => if own.fr.contains id = true then (trReg P G own md nt ops draw).map (.seq .frz) else
    match own.fr.find? (fun x => decide (1000000 ≤ x) && x % 1000000 == id) with
    | some x => (trReg P G own md nt ops draw).map (.seq (.frzs (x / 1000000 - 1)))
    | none => trReg P G own md nt ops draw
  | .seq a b => do pure (.seq (← tr md nt a) (← tr md nt b))
  | .cond c a b => do pure (.cond (← trX G c) (← tr md nt a) (← tr md nt b))
  | .block id b => do pure (.block id (← tr md nt b))
  | .scope b => tr md nt b
  | .label _ => some .skip
  | .loop b => do pure (.loop (← tr md nt b))
  | .exit id => some (.exit id)
  | .ret => some .ret
  | .rangeFunc f ps a b => if ps.any (fun t => decide (nt ≤ t)) = true then none else do pure (.range (← trX G f) ps.toList (← tr md nt a) (← tr md nt b))
  | _ => none
/-- A loop over a map. -/
def trRng (md : FuncId → Md) (nt : Nat) : Code → Code → Option ACode
  | .region _ ops0 false, .block B (.loop (.seq (.region _ ops1 false) (.seq (.cond (.tmp c) .skip (.exit B')) (.block Cc (.seq (.region _ ops2 false) tail))))) =>
    match ops0.toList.getLast?, ops1.toList, ops2.toList with
    | some ⟨some it, .range T x, _, _, _, none⟩, [⟨some nx, .next (.tmp it1) false, _, _, _, none⟩, ⟨some ok, .extract (.tmp nx1) 0, _, _, _, none⟩], ⟨some en, .entry (.tmp it3), _, _, _, none⟩ :: post => do
      if (it1 = it ∧ it3 = it ∧ nx1 = nx ∧ c = ok ∧ B' = B) ∧ (it < nt ∧ nx < nt ∧ ok < nt ∧ en < nt) ∧ (it ≠ nx ∧ it ≠ ok ∧ it ≠ en ∧ nx ≠ ok) ∧ (mapT P T).isSome = true then
        pure (.rngm (← trX G x) it nx ok en (← ops0.toList.dropLast.mapM (trOper P G own nt ops0)) (← post.mapM (trOper P G own nt ops2)) B Cc (← tr P G own md nt tail) own.fg)
      else none
    | _, _, _ => none
  | _, _ => none
/-- The question whether a slice is nil, and what comes behind it. -/
def trNil (md : FuncId → Md) (nt : Nat) : Code → Code → Option ACode
  | .seq (.region _ ops false) b, c =>
    match ops.toList.getLast? with
    | some ⟨some t, .binOp .eql T x (.const (.slice none 0 0)) _, _, _, _, none⟩ => match P.underlying T with
      | some (.slice _) => if t < nt then do
          pure (.nilq (← ops.toList.dropLast.mapM (trOper P G own nt ops)) (← trX G x) t (.seq (← tr P G own md nt b) (← tr P G own md nt c)) own.fg)
        else none
      | _ => none
    | _ => none
  | _, _ => none
def trTop (md : FuncId → Md) (nt : Nat) : Code → Option ACode
  | .seq a b => match trRng P G own md nt a b, trNil P G own md nt a b with
    | some c, _ => some c
    | none, some c => some c
    | none, none => (trTop md nt a).bind fun x => (trTop md nt b).map fun y => .seq x y
  | c => tr P G own md nt c
def trRes : ResultVar → Option Res
  | .tmp t => some (.t t)
  | .cell a t => do pure (.cell a (← loadT P t))
end
def trFn (P : Program) (G : Nat → Option AV) (md : FuncId → Md) (own : FuncId → Ow) (f : FuncId) : Option AFn := do
  let fn ← P.funcs[f]?
  let c ← fn.body
  if fn.params.size + fn.nfree > fn.ntmps then none else
  pure ⟨fn.params.size + fn.nfree, ← trTop P G (own f) md fn.ntmps c, ← fn.results.toList.mapM (trRes P), md f⟩
end Go.Ab
end

section
/-
  The rules by which 'simp only [go_sem]' runs the abstract machine.
-/
namespace Go.Ab
variable {ft : FuncId → Option AFn}
theorem entry_zero (a : AV) (l : List AV) : entry (a :: l) 0 = a := rfl
theorem entry_succ (a : AV) (l : List AV) (n : Nat) : entry (a :: l) (n + 1) = entry l n := rfl
theorem entry_nil (n : Nat) : entry [] n = .undef := rfl
theorem upd_eq (env : Nat → AV) (t : Nat) (v : AV) (n : Nat) : upd env t v n = if n = t then v else env n := rfl
theorem put_some (e : Nat → AV) (m : Mem) (t : Nat) (v : AV) : (St.mk e m).put (some t) v = ⟨upd e t v, m⟩ := rfl
theorem put_none (s : St) (v : AV) : s.put none v = s := rfl
theorem ev_t (e : Nat → AV) (m : Mem) (n : Nat) : (St.mk e m).ev (.t n) = e n := rfl
theorem ev_c (s : St) (v : AV) : s.ev (.c v) = v := rfl
theorem setMem_mk (e : Nat → AV) (m m' : Mem) : (St.mk e m).setMem m' = ⟨e, m'⟩ := rfl
theorem mem_mk (e : Nat → AV) (m : Mem) : (St.mk e m).mem = m := rfl
theorem env_mk (e : Nat → AV) (m : Mem) : (St.mk e m).env = e := rfl

section
variable (s : St) (K : AV → St → Prop)
theorem W1_mov (x : Src) : W1 ft (.mov x) s K = K (s.ev x) s := W1_op s K rfl
theorem W1_pick (c a b : Src) : W1 ft (.pick c a b) s K = If (s.ev c) (K (s.ev a) s) (K (s.ev b) s) := by
  rw [W1_op s K rfl]; simp only [op1]; unfold If
  cases s.ev c <;> try rfl
  rename_i b; cases b <;> rfl
theorem W1_new (z : AV) (sz : Nat) : W1 ft (.new z sz) s K = Opt (if z.cells.length = sz ∧ z.solids = true then some () else none) fun _ => K (.ptr s.mem.blks.length 0 0) (s.setMem (newBlk s.mem [z] sz)) := by
  rw [W1_op s K rfl]; simp only [op1]; split <;> rfl
theorem W1_box (x : Src) (sz : Nat) : W1 ft (.box x sz) s K = Opt (if (s.ev x).cells.length = sz ∧ (s.ev x).solids = true then some () else none) fun _ => K (.ptr s.mem.blks.length 0 0) (s.setMem (newBlk s.mem [s.ev x] sz)) := by
  rw [W1_op s K rfl]; simp only [op1]; split <;> rfl
theorem W1_boxf (x : Src) (sz : Nat) : W1 ft (.boxf x sz) s K = Opt (if (s.ev x).cells.length = sz ∧ (s.ev x).solids = true then some () else none) fun _ => K (.pv (s.ev x) 0) s := by
  rw [W1_op s K rfl]; simp only [op1]; split <;> rfl
theorem W1_aps (x : Src) (n : Nat) : W1 ft (.aps x n) s K = Opt (apsAt s.mem (s.ev x) n) fun v => K v s := by
  rw [W1_op s K rfl]; simp only [op1, Opt_map]; rfl
theorem W1_aslc (x : Src) (lo hi : Option Src) (n : Nat) : W1 ft (.aslc x lo hi n) s K = Opt (asliceAt (s.ev x) (lo.map s.ev) (hi.map s.ev) n) fun v => K v s := by
  rw [W1_op s K rfl]; simp only [op1, Opt_map]; rfl
theorem W1_build (z : List AV) (parts : List (Nat × Nat × Src)) : W1 ft (.build z parts) s K = Opt (fillParts z (parts.map fun p => (p.1, p.2.1, s.ev p.2.2))) fun cs => K (.agg cs) s := by
  rw [W1_op s K rfl]; simp only [op1, Opt_map]; rfl
theorem W1_lit (T sz : Nat) (parts : List Src) : W1 ft (.lit false T sz parts) s K = Opt (if (parts.all fun x => (s.ev x).cells.length == sz && (s.ev x).solids) = true then some () else none) fun _ => K (.sl (parts.map s.ev) .tight) s := by
  rw [W1_op s K rfl]; simp only [op1]; split <;> rfl
theorem W1_lit_own (T sz : Nat) (parts : List Src) : W1 ft (.lit true T sz parts) s K = Opt (if (parts.all fun x => (s.ev x).cells.length == sz && (s.ev x).solids) = true then some () else none) fun _ => K (.ref s.mem.blks.length 0 parts.length) (s.setMem (newBlk s.mem (parts.map s.ev) sz)) := by
  rw [W1_op s K rfl]; simp only [op1]; split <;> rfl
theorem W1_load (p : Src) (sz : Option Nat) : W1 ft (.load p sz) s K = Opt (loadAt s.mem (s.ev p) sz) fun v => K v s := by
  rw [W1_op s K rfl]; simp only [op1, Opt_map]; rfl
theorem W1_store (p v : Src) (sz : Nat) : W1 ft (.store p v sz) s K = Opt (storeAt s.mem (s.ev p) (s.ev v) sz) fun m => K .undef (s.setMem m) := by
  rw [W1_op s K rfl]; simp only [op1, Opt_map]
theorem W1_bin (op : BinOp) (x y : Src) : W1 ft (.bin op x y) s K = Opt (binOp op (s.ev x) (s.ev y)) fun v => K v s := by
  rw [W1_op s K rfl]; simp only [op1, Opt_map]; rfl
theorem W1_eqv (ng ag : Bool) (ts : List EK) (x y : Src) : W1 ft (.eqv ng ag ts x y) s K = Opt (eqAV ag ts (s.ev x) (s.ev y)) fun b => K (.bool (if ng then !b else b)) s := by
  rw [W1_op s K rfl]; simp only [op1, Opt_map]; rfl
/-- A Bool's value. -/
def OptB (v : AV) (K : Bool → Prop) : Prop := match v with | .bool b => K b | _ => False
theorem OptB_bool (b : Bool) (K : Bool → Prop) : OptB (.bool b) K = K b := rfl
theorem W1_not (x : Src) : W1 ft (.not x) s K = OptB (s.ev x) fun b => K (.bool !b) s := by
  rw [W1_op s K rfl]; simp only [op1]; unfold OptB
  cases s.ev x <;> rfl
/-- An integer's value. -/
def OptI (v : AV) (K : IntKind → Int → Prop) : Prop := match v with | .int k n => K k n | _ => False
theorem OptI_int (k : IntKind) (n : Int) (K : IntKind → Int → Prop) : OptI (.int k n) K = K k n := rfl
theorem W1_neg (x : Src) : W1 ft (.neg x) s K = OptI (s.ev x) fun k n => K (.int k (k.wrap (0 - n))) s := by
  rw [W1_op s K rfl]; simp only [op1]; unfold OptI
  cases s.ev x <;> rfl
/-- The complement. -/
def cmplI (k : IntKind) (n : Int) : Int := k.wrap (BitVec.ofInt k.bits (if k.signed then -1 else k.max) ^^^ BitVec.ofInt k.bits n).toNat
theorem W1_cmpl (x : Src) : W1 ft (.cmpl x) s K = OptI (s.ev x) fun k n => K (.int k (cmplI k n)) s := by
  rw [W1_op s K rfl]; simp only [op1]; unfold OptI
  cases s.ev x <;> rfl
theorem W1_conv (k : IntKind) (x : Src) : W1 ft (.conv k x) s K = OptI (s.ev x) fun _ n => K (.int k (k.wrap n)) s := by
  rw [W1_op s K rfl]; simp only [op1]; unfold OptI
  cases s.ev x <;> rfl
theorem W1_clo (f : FuncId) (first cap : List Src) : W1 ft (.clo f first cap) s K = K (.fn f (first.map s.ev) (cap.map s.ev)) s := W1_op s K rfl
theorem W1_make (z : AV) (T sz bytes : Nat) (l c : Src) : W1 ft (.make z T sz bytes l c) s K = Opt (makeAt s.mem z sz bytes (s.ev l) (s.ev c)) fun p => K p.1 (s.setMem p.2) := W1_op s K rfl
theorem W1_slice (x : Src) (lo hi : Option Src) (sz : Nat) : W1 ft (.slice x lo hi sz) s K = Opt (sliceAt s.mem (s.ev x) (lo.map s.ev) (hi.map s.ev) sz) fun v => K v s := by
  rw [W1_op s K rfl]; simp only [op1, Opt_map]; rfl
theorem W1_addr (x : Src) (off : Nat) : W1 ft (.addr x off) s K = Opt (addrAt s.mem (s.ev x) off) fun v => K v s := by
  rw [W1_op s K rfl]; simp only [op1, Opt_map]; rfl
theorem W1_idx (x i : Src) (sz : Nat) : W1 ft (.idx x i sz) s K = Opt (idxAt s.mem (s.ev x) (s.ev i) sz) fun v => K v s := by
  rw [W1_op s K rfl]; simp only [op1, Opt_map]; rfl
theorem W1_aidx (x i : Src) (n sz : Nat) : W1 ft (.aidx x i n sz) s K = Opt (aidxAt s.mem (s.ev x) (s.ev i) n sz) fun v => K v s := by
  rw [W1_op s K rfl]; simp only [op1, Opt_map]; rfl
theorem W1_vidx (x i : Src) (n sz : Nat) (ld : Option Nat) : W1 ft (.vidx x i n sz ld) s K = Opt (vidxAt (s.ev x) (s.ev i) n sz ld) fun v => K v s := by
  rw [W1_op s K rfl]; simp only [op1, Opt_map]; rfl
/-- An aggregate's part. -/
def fldAt (v : AV) (off : Nat) (sz : Option Nat) : Option AV := match v with | .agg cs => readCells cs off sz | _ => none
theorem W1_fld (x : Src) (off : Nat) (sz : Option Nat) : W1 ft (.fld x off sz) s K = Opt (fldAt (s.ev x) off sz) fun v => K v s := by
  rw [W1_op s K rfl]; simp only [op1]; unfold fldAt
  cases s.ev x <;> try rfl
  simp only [Opt_map]; rfl
def extAt (v : AV) (i : Nat) : Option AV := match v with | .tup vs => vs[i]? | _ => none
theorem W1_ext (x : Src) (i : Nat) : W1 ft (.ext x i) s K = Opt (extAt (s.ev x) i) fun v => K v s := by
  rw [W1_op s K rfl]; simp only [op1]; unfold extAt
  cases s.ev x <;> try rfl
  simp only [Opt_map]; rfl
def sidxAt (x i : AV) : Option AV := match x, i with
  | .str b, .int _ n => if 0 ≤ n then (b[n.toNat]?).map fun c => .int .u8 c.toNat else none
  | _, _ => none
theorem W1_sidx (x i : Src) : W1 ft (.sidx x i) s K = Opt (sidxAt (s.ev x) (s.ev i)) fun v => K v s := by
  rw [W1_op s K rfl]; simp only [op1]; unfold sidxAt
  cases s.ev x <;> try rfl
  cases s.ev i <;> try rfl
  simp only [Opt_ite, Opt_map]; rfl
theorem W1_slen (x : Src) : W1 ft (.slen x) s K = Opt (slenAt (s.ev x)) fun v => K v s := by
  rw [W1_op s K rfl]; simp only [op1, Opt_map]; rfl
theorem W1_sslice (x : Src) (lo hi : Option Src) : W1 ft (.sslice x lo hi) s K = Opt (ssliceAt (s.ev x) (lo.map s.ev) (hi.map s.ev)) fun v => K v s := by
  rw [W1_op s K rfl]; simp only [op1, Opt_map]; rfl
theorem W1_len (x : Src) : W1 ft (.len x) s K = Opt (lenAt s.mem (s.ev x)) fun v => K v s := by
  rw [W1_op s K rfl]; simp only [op1, Opt_map]; rfl
theorem W1_app (own : Bool) (x y : Src) (T sz bytes : Nat) : W1 ft (.app own x y T sz bytes) s K = Opt (appendAt s.mem own (s.ev x) (s.ev y) T sz bytes) fun p => K p.1 (s.setMem p.2) := W1_op s K rfl
theorem W1_app0 (x y : Src) (T sz bytes : Nat) : W1 ft (.app0 x y T sz bytes) s K = Opt (append0 s.mem (s.ev x) (s.ev y) sz bytes) fun p => K p.1 (s.setMem p.2) := W1_op s K rfl
theorem W1_cpy (d x : Src) (sz : Nat) : W1 ft (.cpy d x sz) s K = Opt (copyAt s.mem (s.ev d) (s.ev x) sz) fun p => K p.1 (s.setMem p.2) := W1_op s K rfl
theorem W1_mkmap (ek : EK) : W1 ft (.mkmap ek) s K = K (.mp s.mem.blks.length) (s.setMem { s.mem with blks := s.mem.blks ++ [.mp [] ek] }) := W1_op s K rfl
theorem W1_mget (ek : EK) (z : AV) (ok : Bool) (x key : Src) : W1 ft (.mget ek z ok x key) s K = Opt (mgetAt s.mem ek z ok (s.ev x) (s.ev key)) fun v => K v s := by
  rw [W1_op s K rfl]; simp only [op1, Opt_map]; rfl
theorem W1_mdel (ek : EK) (x key : Src) : W1 ft (.mdel ek x key) s K = Opt (mdelAt s.mem ek (s.ev x) (s.ev key)) fun m => K .undef (s.setMem m) := by
  rw [W1_op s K rfl]; simp only [op1, Opt_map]
theorem W1_mput (ek : EK) (x key v : Src) : W1 ft (.mput ek x key v) s K = Opt (mputAt s.mem ek (s.ev x) (s.ev key) (s.ev v)) fun m => K .undef (s.setMem m) := by
  rw [W1_op s K rfl]; simp only [op1, Opt_map]
theorem W1_clr (x : Src) (z : AV) (sz : Nat) : W1 ft (.clr x z sz) s K = Opt (clearAt s.mem (s.ev x) z sz) fun m => K .undef (s.setMem m) := by
  rw [W1_op s K rfl]; simp only [op1, Opt_map]
theorem W1_appz (x y : Src) (z : AV) (T sz bytes : Nat) : W1 ft (.appz x y z T sz bytes) s K = Opt (appendZ s.mem (s.ev x) (s.ev y) z sz bytes) fun p => K p.1 (s.setMem p.2) := W1_op s K rfl
theorem W1_mnil (x : Src) : W1 ft (.mnil x) s K = Opt (mnilAt (s.ev x)) fun v => K v s := by
  rw [W1_op s K rfl]; simp only [op1, Opt_map]; rfl
theorem W1_mlen (x : Src) : W1 ft (.mlen x) s K = Opt (mlenAt s.mem (s.ev x)) fun v => K v s := by
  rw [W1_op s K rfl]; simp only [op1, Opt_map]; rfl
theorem W1_cap (x : Src) : W1 ft (.cap x) s K = Opt (capAt (s.ev x)) fun v => K v s := by
  rw [W1_op s K rfl]; simp only [op1, Opt_map]; rfl
theorem W1_mnl (mx : Bool) (x : Src) (xs : List Src) : W1 ft (.mnl mx x xs) s K = Opt (mnl mx (s.ev x) (xs.map s.ev)) fun v => K v s := by
  rw [W1_op s K rfl]; simp only [op1, Opt_map]; rfl
theorem W1_mnx (mx : Bool) (x y : Src) : W1 ft (.mnx mx x y) s K = Opt (mnx mx (s.ev x) (s.ev y)) fun v => K v s := by
  rw [W1_op s K rfl]; simp only [op1, Opt_map]; rfl
end
/-! ### What comes next, hidden from the simplifier (it does not look into instances) -/
class Two where
  fst : Prop
  snd : Prop
class Kt (α : Type) where
  k : α → Prop
class Ki where
  k : IntKind → Int → Prop
class Kv where
  k : AV → St → Prop
class Km where
  k : AV → Mem → Prop
class Kq where
  k : Ex → St → Prop
/-- A way that parts. -/
def Cs (b : Bool) [t : Two] : Prop := if b = true then t.fst else t.snd
theorem Cs_true (A B : Prop) : @Cs true ⟨A, B⟩ = A := rfl
theorem Cs_false (A B : Prop) : @Cs false ⟨A, B⟩ = B := rfl
theorem Cs_not (b : Bool) (A B : Prop) : @Cs (!b) ⟨A, B⟩ = @Cs b ⟨B, A⟩ := by cases b <;> rfl
theorem Cs_of {b : Bool} {A B : Prop} (ha : b = true → A) (hb : b = false → B) : @Cs b ⟨A, B⟩ := by
  cases b
  · exact hb rfl
  · exact ha rfl
theorem Cs_yes {p : Prop} [Decidable p] {A B : Prop} (h : p) (ha : A) : @Cs (decide p) ⟨A, B⟩ := by
  rw [decide_eq_true h]; exact ha
theorem Cs_no {p : Prop} [Decidable p] {A B : Prop} (h : ¬p) (hb : B) : @Cs (decide p) ⟨A, B⟩ := by
  rw [decide_eq_false h]; exact hb
def IfH (v : AV) [t : Two] : Prop := If v t.fst t.snd
theorem If_H (v : AV) (A B : Prop) : If v A B = @IfH v ⟨A, B⟩ := rfl
theorem IfH_bool (b : Bool) (A B : Prop) : @IfH (.bool b) ⟨A, B⟩ = @Cs b ⟨A, B⟩ := by cases b <;> rfl
def GdH (v : AV) (b : Bool) [t : Two] : Prop := Gd v b t.fst t.snd
theorem Gd_H (v : AV) (b : Bool) (A B : Prop) : Gd v b A B = @GdH v b ⟨A, B⟩ := rfl
theorem GdH_true (b : Bool) (A B : Prop) : @GdH (.bool b) true ⟨A, B⟩ = @Cs b ⟨A, B⟩ := rfl
theorem GdH_tup (b : Bool) (A B : Prop) : @GdH (.tup []) b ⟨A, B⟩ = B := rfl
theorem GdH_false (b : Bool) (A B : Prop) : @GdH (.bool b) false ⟨A, B⟩ = @Cs b ⟨B, A⟩ := by cases b <;> rfl
def OptH {α : Type} (o : Option α) [t : Kt α] : Prop := Opt o t.k
theorem Opt_H {α : Type} (o : Option α) (K : α → Prop) : Opt o K = @OptH α o ⟨K⟩ := rfl
theorem OptH_some {α : Type} (a : α) (K : α → Prop) : @OptH α (some a) ⟨K⟩ = K a := rfl
theorem OptH_none {α : Type} (K : α → Prop) : @OptH α none ⟨K⟩ = False := rfl
theorem OptH_map {α β : Type} (o : Option α) (f : α → β) (K : β → Prop) : @OptH β (o.map f) ⟨K⟩ = @OptH α o ⟨fun a => K (f a)⟩ := Opt_map o f K
theorem OptH_ite {α : Type} (c : Prop) [Decidable c] (a b : Option α) (K : α → Prop) : @OptH α (if c then a else b) ⟨K⟩ = @Cs (decide c) ⟨@OptH α a ⟨K⟩, @OptH α b ⟨K⟩⟩ := by
  unfold Cs; by_cases h : c <;> simp [h]
def OptBH (v : AV) [t : Kt Bool] : Prop := OptB v t.k
theorem OptB_H (v : AV) (K : Bool → Prop) : OptB v K = @OptBH v ⟨K⟩ := rfl
theorem OptBH_bool (b : Bool) (K : Bool → Prop) : @OptBH (.bool b) ⟨K⟩ = K b := rfl
def OptIH (v : AV) [t : Ki] : Prop := OptI v t.k
theorem OptI_H (v : AV) (K : IntKind → Int → Prop) : OptI v K = @OptIH v ⟨K⟩ := rfl
theorem OptIH_int (k : IntKind) (n : Int) (K : IntKind → Int → Prop) : @OptIH (.int k n) ⟨K⟩ = K k n := rfl
def WVH (ft : FuncId → Option AFn) (f : FuncId) (as : List AV) [t : Kt AV] : Prop := WV ft f as t.k
theorem WV_H (f : FuncId) (as : List AV) (K : AV → Prop) : WV ft f as K = @WVH ft f as ⟨K⟩ := rfl
theorem WVH_eq {f : FuncId} {as : List AV} {v : AV} (h : RV ft f as v) (K : AV → Prop) : @WVH ft f as ⟨K⟩ = K v := WV_eq h K
def WRH (ft : FuncId → Option AFn) (g : Tg) (as : List AV) (m : Mem) [t : Km] : Prop := WR ft g as m t.k
theorem WR_H (g : Tg) (as : List AV) (m : Mem) (K : AV → Mem → Prop) : WR ft g as m K = @WRH ft g as m ⟨K⟩ := rfl
def WAH (ft : FuncId → Option AFn) (f : AV) (as : List AV) (s : St) [t : Kv] : Prop := WA ft f as s t.k
theorem WA_H (f : AV) (as : List AV) (s : St) (K : AV → St → Prop) : WA ft f as s K = @WAH ft f as s ⟨K⟩ := rfl
theorem WAH_fn (g : FuncId) (first cap args : List AV) (s : St) (K : AV → St → Prop) : @WAH ft (.fn g first cap) args s ⟨K⟩ = WB ft g (first ++ args ++ cap) s K := rfl
def WZH (ft : FuncId → Option AFn) (f : AV) (as : List AV) (s : St) [t : Kv] : Prop := WZ ft f as s t.k
theorem WZ_H (f : AV) (as : List AV) (s : St) (K : AV → St → Prop) : WZ ft f as s K = @WZH ft f as s ⟨K⟩ := rfl
theorem WZH_fn (g : FuncId) (first cap args : List AV) (s : St) (K : AV → St → Prop) : @WZH ft (.fn g first cap) args s ⟨K⟩ = WF ft g (first ++ args ++ cap) s K := rfl
theorem WFH_eq {f : FuncId} {fn : AFn} (hf : ft f = some fn) (args : List AV) (s : St) (K : AV → St → Prop) : WF ft f args s K = WV ft f (args.map (snap s.mem dep)) fun v => (args.all (fun a => !hot dep a) || plain dep v) = true ∧ K v s := WF_v hf args s K
theorem WAH_yld (id : Nat) (args : List AV) (s : St) (K : AV → St → Prop) : @WAH ft (.yld id) args s ⟨K⟩ = WR ft (.y id) args s.mem fun v m => K v (s.setMem m) := WA_yld id args s K
/-- A loop, and a range over a function, stand till they are told what holds. -/
def WL (ft : FuncId → Option AFn) (c : ACode) (s : St) [t : Kq] : Prop := W ft c s t.k
theorem WL_loop (b : ACode) (s : St) (Q : Ex → St → Prop) : W ft (.loop b) s Q = @WL ft (.loop b) s ⟨Q⟩ := rfl
theorem WL_range (f : Src) (ps : List Nat) (a b : ACode) (s : St) (Q : Ex → St → Prop) : W ft (.range f ps a b) s Q = @WL ft (.range f ps a b) s ⟨Q⟩ := rfl
/-- What stands at the end. -/
def Done (p : Prop) : Prop := p
/-! ### What the operations give -/
theorem solids_eq (v : AV) : v.solids = v.cells.all AV.solid := rfl
theorem solid_int (k : IntKind) (n : Int) : (AV.int k n).solid = true := rfl
theorem solid_bool (b : Bool) : (AV.bool b).solid = true := rfl
theorem solid_str (b : ByteArray) : (AV.str b).solid = true := rfl
theorem solid_sl (es : List AV) (tk : Tk) : (AV.sl es tk).solid = true := rfl
theorem solid_ref (a b c : Nat) : (AV.ref a b c).solid = true := rfl
theorem solid_ptr (a b c : Nat) : (AV.ptr a b c).solid = true := rfl
theorem solid_pv (e : AV) (o : Nat) : (AV.pv e o).solid = true := rfl
theorem solid_fn (f : FuncId) (a b : List AV) : (AV.fn f a b).solid = true := rfl
theorem solid_yld (n : Nat) : (AV.yld n).solid = true := rfl
theorem solid_nilf : AV.nilf.solid = true := rfl
theorem solid_nilp : AV.nilp.solid = true := rfl
def AV.isAgg : AV → Bool | .agg _ => true | _ => false
theorem cells_agg (cs : List AV) : (AV.agg cs).cells = cs := rfl
theorem cells_int (k : IntKind) (n : Int) : (AV.int k n).cells = [.int k n] := rfl
theorem cells_bool (b : Bool) : (AV.bool b).cells = [.bool b] := rfl
theorem cells_str (b : ByteArray) : (AV.str b).cells = [.str b] := rfl
theorem cells_sl (es : List AV) (tk : Tk) : (AV.sl es tk).cells = [.sl es tk] := rfl
theorem cells_ref (a b c : Nat) : (AV.ref a b c).cells = [.ref a b c] := rfl
theorem cells_ptr (a b c : Nat) : (AV.ptr a b c).cells = [.ptr a b c] := rfl
theorem cells_pv (e : AV) (o : Nat) : (AV.pv e o).cells = [.pv e o] := rfl
theorem cells_fn (f : FuncId) (a b : List AV) : (AV.fn f a b).cells = [.fn f a b] := rfl
theorem cells_yld (n : Nat) : (AV.yld n).cells = [.yld n] := rfl
theorem cells_nilf : AV.nilf.cells = [.nilf] := rfl
theorem cells_nilp : AV.nilp.cells = [.nilp] := rfl
theorem readCells_none (cs : List AV) (off : Nat) : readCells cs off none = cs[off]? := rfl
theorem readCells_some (cs : List AV) (off n : Nat) : readCells cs off (some n) = if off + n ≤ cs.length then some (.agg ((cs.drop off).take n)) else none := rfl
def ldEl (e : Option AV) (off : Nat) (sz : Option Nat) : Option AV := match e with | some e => readCells e.cells off sz | none => none
def ldBlk (b : Option Blk) (ix off : Nat) (sz : Option Nat) : Option AV := match b with | some (.live es _) => ldEl es[ix]? off sz | _ => none
theorem ldEl_some (e : AV) (off : Nat) (sz : Option Nat) : ldEl (some e) off sz = readCells e.cells off sz := rfl
theorem ldBlk_live (es : List AV) (n ix off : Nat) (sz : Option Nat) : ldBlk (some (.live es n)) ix off sz = ldEl es[ix]? off sz := rfl
theorem loadAt_ptr (m : Mem) (id ix off : Nat) (sz : Option Nat) : loadAt m (.ptr id ix off) sz = ldBlk m.blks[id]? ix off sz := by
  cases h : m.blks[id]? with
  | none => simp [loadAt, ldBlk, h]
  | some b => cases b with
    | live es n => simp only [loadAt, ldBlk, ldEl, h]; try (cases es[ix]? <;> rfl)
    | dead => simp [loadAt, ldBlk, h]
    | lp a b c d e f => simp [loadAt, ldBlk, h]
    | mp c d => simp [loadAt, ldBlk, h]
theorem loadAt_pv (m : Mem) (e : AV) (off : Nat) (sz : Option Nat) : loadAt m (.pv e off) sz = readCells e.cells off sz := rfl
theorem addrAt_ptr (m : Mem) (id ix o off : Nat) : addrAt m (.ptr id ix o) off = if (lsz m id).isSome = true then some (.ptr id ix (o + off)) else none := rfl
theorem addrAt_pv (m : Mem) (e : AV) (o off : Nat) : addrAt m (.pv e o) off = some (.pv e (o + off)) := rfl
theorem binOp_add (k : IntKind) (x y : Int) : binOp .add (.int k x) (.int k y) = some (.int k (k.wrap (x + y))) := by simp [binOp, binI]
theorem binOp_sub (k : IntKind) (x y : Int) : binOp .sub (.int k x) (.int k y) = some (.int k (k.wrap (x - y))) := by simp [binOp, binI]
theorem binOp_mul (k : IntKind) (x y : Int) : binOp .mul (.int k x) (.int k y) = some (.int k (k.wrap (x * y))) := by simp [binOp, binI]
theorem binOp_quo (k : IntKind) (x y : Int) : binOp .quo (.int k x) (.int k y) = if y = 0 then none else some (.int k (k.wrap (x.tdiv y))) := by simp [binOp, binI]
theorem binOp_rem (k : IntKind) (x y : Int) : binOp .rem (.int k x) (.int k y) = if y = 0 then none else some (.int k (x.tmod y)) := by simp [binOp, binI]
/-- The integer operation 'and'. -/
def andI (k : IntKind) (x y : Int) : Int := k.wrap (BitVec.ofInt k.bits x &&& BitVec.ofInt k.bits y).toNat
theorem binOp_and (k : IntKind) (x y : Int) : binOp .and (.int k x) (.int k y) = some (.int k (andI k x y)) := by simp [binOp, binI, andI]
/-- The integer operation 'or'. -/
def orI (k : IntKind) (x y : Int) : Int := k.wrap (BitVec.ofInt k.bits x ||| BitVec.ofInt k.bits y).toNat
theorem binOp_or (k : IntKind) (x y : Int) : binOp .or (.int k x) (.int k y) = some (.int k (orI k x y)) := by simp [binOp, binI, orI]
/-- The integer operation 'xor'. -/
def xorI (k : IntKind) (x y : Int) : Int := k.wrap (BitVec.ofInt k.bits x ^^^ BitVec.ofInt k.bits y).toNat
theorem binOp_xor (k : IntKind) (x y : Int) : binOp .xor (.int k x) (.int k y) = some (.int k (xorI k x y)) := by simp [binOp, binI, xorI]
/-- The integer operation 'andNot'. -/
def andNotI (k : IntKind) (x y : Int) : Int := k.wrap (BitVec.ofInt k.bits x &&& ~~~(BitVec.ofInt k.bits y)).toNat
theorem binOp_andNot (k : IntKind) (x y : Int) : binOp .andNot (.int k x) (.int k y) = some (.int k (andNotI k x y)) := by simp [binOp, binI, andNotI]
theorem binOp_eql (k : IntKind) (x y : Int) : binOp .eql (.int k x) (.int k y) = some (.bool (x == y)) := by simp [binOp, binI]
theorem binOp_neq (k : IntKind) (x y : Int) : binOp .neq (.int k x) (.int k y) = some (.bool (x != y)) := by simp [binOp, binI]
theorem binOp_lss (k : IntKind) (x y : Int) : binOp .lss (.int k x) (.int k y) = some (.bool (decide (x < y))) := by simp [binOp, binI]
theorem binOp_leq (k : IntKind) (x y : Int) : binOp .leq (.int k x) (.int k y) = some (.bool (decide (x ≤ y))) := by simp [binOp, binI]
theorem binOp_gtr (k : IntKind) (x y : Int) : binOp .gtr (.int k x) (.int k y) = some (.bool (decide (y < x))) := by simp [binOp, binI]
theorem binOp_geq (k : IntKind) (x y : Int) : binOp .geq (.int k x) (.int k y) = some (.bool (decide (y ≤ x))) := by simp [binOp, binI]
theorem binOp_shl (k j : IntKind) (x y : Int) : binOp .shl (.int k x) (.int j y) = if y < 0 then none else some (.int k (k.wrap (x * 2 ^ (min y.toNat k.bits)))) := rfl
theorem binOp_shr (k j : IntKind) (x y : Int) : binOp .shr (.int k x) (.int j y) = if y < 0 then none else some (.int k (x.fdiv (2 ^ (min y.toNat k.bits)))) := rfl
theorem lenAt_sl (m : Mem) (es : List AV) (tk : Tk) : lenAt m (.sl es tk) = some (.int .i64 es.length) := rfl
theorem lenAt_ref (m : Mem) (id off len : Nat) : lenAt m (.ref id off len) = if (lsz m id).isSome = true then some (.int .i64 len) else none := rfl
theorem slenAt_str (s : ByteArray) : slenAt (.str s) = some (.int .i64 s.size) := rfl
def idxEl (e : Option AV) (sz : Nat) : Option AV := e.bind fun e => if e.cells.length = sz then some (.pv e 0) else none
theorem idxEl_some (e : AV) (sz : Nat) : idxEl (some e) sz = if e.cells.length = sz then some (.pv e 0) else none := rfl
theorem idxAt_sl (m : Mem) (es : List AV) (tk : Tk) (k : IntKind) (n : Int) (sz : Nat) : idxAt m (.sl es tk) (.int k n) sz = if 0 ≤ n then idxEl es[n.toNat]? sz else none := rfl
theorem idxAt_ref (m : Mem) (id off len : Nat) (k : IntKind) (n : Int) (sz : Nat) : idxAt m (.ref id off len) (.int k n) sz = if (0 ≤ n ∧ n < (len : Int)) ∧ lsz m id = some sz then some (.ptr id (off + n.toNat) 0) else none := rfl
def szB (b : Option Blk) : Option Nat := match b with | some (.live _ n) => some n | _ => none
theorem lsz_eq (m : Mem) (id : Nat) : lsz m id = szB m.blks[id]? := by
  unfold lsz szB
  cases m.blks[id]? with
  | none => rfl
  | some b => cases b <;> rfl
theorem szB_live (es : List AV) (n : Nat) : szB (some (.live es n)) = some n := rfl
theorem isSome_eq {α : Type} (a : α) : (some a).isSome = true := rfl
theorem some_inj' (a b : Nat) : (some a = some b) = (a = b) := by simp
theorem hdSz_nil (sz : Nat) : hdSz [] sz = true := rfl
theorem hdSz_cons (e : AV) (r : List AV) (sz : Nat) : hdSz (e :: r) sz = (e.cells.length == sz) := rfl
theorem hdSz_map {α : Type} (f : α → AV) (l : List α) (sz : Nat) (h : ∀ x, (f x).cells.length = sz) : hdSz (l.map f) sz = true := by
  cases l <;> simp [hdSz, h]
theorem aidxAt_pv (m : Mem) (e : AV) (off : Nat) (k : IntKind) (i : Int) (n sz : Nat) : aidxAt m (.pv e off) (.int k i) n sz = if 0 ≤ i ∧ i < (n : Int) then some (.pv e (off + i.toNat * sz)) else none := rfl
theorem aidxAt_ptr (m : Mem) (id ix off : Nat) (k : IntKind) (i : Int) (n sz : Nat) : aidxAt m (.ptr id ix off) (.int k i) n sz = if (0 ≤ i ∧ i < (n : Int)) ∧ (lsz m id).isSome = true then some (.ptr id ix (off + i.toNat * sz)) else none := rfl
theorem extAt_tup (vs : List AV) (i : Nat) : extAt (.tup vs) i = vs[i]? := rfl
theorem vidxAt_agg (cs : List AV) (k : IntKind) (q : Int) (n sz : Nat) (ld : Option Nat) : vidxAt (.agg cs) (.int k q) n sz ld = if 0 ≤ q ∧ q < n then readCells cs (q.toNat * sz) ld else none := rfl
theorem fldAt_agg (cs : List AV) (off : Nat) (sz : Option Nat) : fldAt (.agg cs) off sz = readCells cs off sz := rfl
theorem eqAV_agg (ts : List EK) (a b : List AV) : eqAV true ts (.agg a) (.agg b) = eqs ts a b := rfl
theorem eqAV_one (ts : List EK) (a b : AV) : eqAV false ts a b = eqs ts [a] [b] := rfl
theorem eqs_nil : eqs [] [] [] = some true := rfl
theorem eqs_b (ts : List EK) (a b : Bool) (r q : List AV) : eqs (.b :: ts) (.bool a :: r) (.bool b :: q) = (eqs ts r q).map ((a == b) && ·) := rfl
theorem eqs_i (ts : List EK) (k : IntKind) (a b : Int) (r q : List AV) : eqs (.i :: ts) (.int k a :: r) (.int k b :: q) = (eqs ts r q).map ((a == b) && ·) := by simp [eqs, eq1]
theorem eqs_s (ts : List EK) (a b : ByteArray) (r q : List AV) : eqs (.s :: ts) (.str a :: r) (.str b :: q) = (eqs ts r q).map ((a.toList == b.toList) && ·) := rfl
theorem resOf_nil (s : St) : resOf s [] = some (.tup []) := rfl
theorem resOf_t (s : St) (n : Nat) : resOf s [.t n] = some (s.env n) := rfl
theorem resOf_tt (s : St) (n m : Nat) : resOf s [.t n, .t m] = some (.tup [s.env n, s.env m]) := rfl
theorem resOf_c (s : St) (n : Nat) (sz : Option Nat) : resOf s [.cell n sz] = loadAt s.mem (s.env n) sz := by
  simp only [resOf, resAll, resOne, Option.map_some]; cases loadAt s.mem (s.env n) sz <;> rfl
theorem resOf_ct (s : St) (n m : Nat) (sz : Option Nat) : resOf s [.cell n sz, .t m] = (loadAt s.mem (s.env n) sz).map fun v => .tup [v, s.env m] := by
  simp only [resOf, resAll, resOne, Option.map_some]; cases loadAt s.mem (s.env n) sz <;> rfl
theorem resOf_tc (s : St) (n m : Nat) (sz : Option Nat) : resOf s [.t n, .cell m sz] = (loadAt s.mem (s.env m) sz).map fun v => .tup [s.env n, v] := by
  simp only [resOf, resAll, resOne, Option.map_some]; cases loadAt s.mem (s.env m) sz <;> rfl
theorem newBlk_mk (b : List Blk) (t : List (Nat × Nat)) (es : List AV) (sz : Nat) : newBlk ⟨b, t⟩ es sz = ⟨b ++ [.live es sz], t⟩ := rfl
theorem blks_mk (b : List Blk) (t : List (Nat × Nat)) : (Mem.mk b t).blks = b := rfl
theorem toks_mk (b : List Blk) (t : List (Nat × Nat)) : (Mem.mk b t).toks = t := rfl
theorem nil_mk : Mem.nil = ⟨[], []⟩ := rfl
def stEl (e : Option AV) (m : Mem) (id ix off : Nat) (es : List AV) (n : Nat) (v : AV) (sz : Nat) : Option Mem := match e with
  | some e => if v.cells.length = sz ∧ v.solids = true then (writeCells e off v.cells).map fun e' => { m with blks := m.blks.set id (.live (es.set ix e') n) } else none
  | none => none
def stBlk (b : Option Blk) (m : Mem) (id ix off : Nat) (v : AV) (sz : Nat) : Option Mem := match b with | some (.live es n) => stEl es[ix]? m id ix off es n v sz | _ => none
theorem stEl_some (e : AV) (m : Mem) (id ix off : Nat) (es : List AV) (n : Nat) (v : AV) (sz : Nat) : stEl (some e) m id ix off es n v sz =
    if v.cells.length = sz ∧ v.solids = true then (writeCells e off v.cells).map fun e' => { m with blks := m.blks.set id (.live (es.set ix e') n) } else none := rfl
theorem stBlk_live (es : List AV) (n : Nat) (m : Mem) (id ix off : Nat) (v : AV) (sz : Nat) : stBlk (some (.live es n)) m id ix off v sz = stEl es[ix]? m id ix off es n v sz := rfl
theorem storeAt_ptr (m : Mem) (id ix off : Nat) (v : AV) (sz : Nat) : storeAt m (.ptr id ix off) v sz = stBlk m.blks[id]? m id ix off v sz := by
  cases h : m.blks[id]? with
  | none => simp [storeAt, stBlk, h]
  | some b => cases b with
    | live es n => simp only [storeAt, stBlk, stEl, h]; try (cases es[ix]? <;> rfl)
    | dead => simp [storeAt, stBlk, h]
    | lp a b c d e f => simp [storeAt, stBlk, h]
    | mp c d => simp [storeAt, stBlk, h]
theorem writeCells_agg (cs : List AV) (off : Nat) (new : List AV) : writeCells (.agg cs) off new = if off + new.length ≤ cs.length then some (.agg (cs.take off ++ new ++ cs.drop (off + new.length))) else none := rfl
theorem writeCells_one (e v : AV) (h : e.isAgg = false) : writeCells e 0 [v] = some v := by cases e <;> first | rfl | cases h
theorem isAgg_int (k : IntKind) (n : Int) : (AV.int k n).isAgg = false := rfl
theorem isAgg_bool (b : Bool) : (AV.bool b).isAgg = false := rfl
theorem isAgg_str (b : ByteArray) : (AV.str b).isAgg = false := rfl
theorem isAgg_sl (es : List AV) (tk : Tk) : (AV.sl es tk).isAgg = false := rfl
theorem isAgg_ref (a b c : Nat) : (AV.ref a b c).isAgg = false := rfl
theorem isAgg_ptr (a b c : Nat) : (AV.ptr a b c).isAgg = false := rfl
theorem isAgg_pv (e : AV) (o : Nat) : (AV.pv e o).isAgg = false := rfl
theorem isAgg_fn (f : FuncId) (a b : List AV) : (AV.fn f a b).isAgg = false := rfl
theorem isAgg_nilf : AV.nilf.isAgg = false := rfl
theorem isAgg_nilp : AV.nilp.isAgg = false := rfl
section
variable (m : Mem) (k : Nat)
theorem snap_undef : snap m (k + 1) .undef = .undef := rfl
theorem snap_bool (b : Bool) : snap m (k + 1) (.bool b) = .bool b := rfl
theorem snap_int (q : IntKind) (n : Int) : snap m (k + 1) (.int q n) = .int q n := rfl
theorem snap_str (s : ByteArray) : snap m (k + 1) (.str s) = .str s := rfl
theorem snap_nilf : snap m (k + 1) .nilf = .nilf := rfl
theorem snap_nilp : snap m (k + 1) .nilp = .nilp := rfl
theorem snap_agg (cs : List AV) : snap m (k + 1) (.agg cs) = .agg (cs.map (snap m k)) := rfl
theorem snap_tup (cs : List AV) : snap m (k + 1) (.tup cs) = .tup (cs.map (snap m k)) := rfl
theorem snap_sl (es : List AV) (tk : Tk) : snap m (k + 1) (.sl es tk) = .sl (es.map (snap m k)) .unk := rfl
theorem snap_pv (e : AV) (off : Nat) : snap m (k + 1) (.pv e off) = .pv (snap m k e) off := rfl
theorem snap_fn (f : FuncId) (a b : List AV) : snap m (k + 1) (.fn f a b) = .fn f (a.map (snap m k)) (b.map (snap m k)) := rfl
def snEs (m : Mem) (k : Nat) (es : Option (List AV)) : AV := match es with | some es => .sl (es.map (snap m k)) .unk | none => .undef
theorem snEs_some (es : List AV) : snEs m k (some es) = .sl (es.map (snap m k)) .unk := rfl
def snEl (m : Mem) (k off : Nat) (e : Option AV) : AV := match e with | some e => .pv (snap m k e) off | none => .undef
theorem snEl_some (off : Nat) (e : AV) : snEl m k off (some e) = .pv (snap m k e) off := rfl
def snBl (m : Mem) (k ix off : Nat) (b : Option Blk) : AV := match b with | some (.live es _) => snEl m k off es[ix]? | _ => .undef
theorem snBl_live (ix off : Nat) (es : List AV) (n : Nat) : snBl m k ix off (some (.live es n)) = snEl m k off es[ix]? := rfl
theorem snap_ref (id off len : Nat) : snap m (k + 1) (.ref id off len) = snEs m k (m.elems (.ref id off len)) := by
  cases h : m.elems (.ref id off len) <;> simp [snap, snEs, h]
theorem snap_ptr (id ix off : Nat) : snap m (k + 1) (.ptr id ix off) = snBl m k ix off m.blks[id]? := by
  cases h : m.blks[id]? with
  | none => simp [snap, snBl, h]
  | some b => cases b with
    | live es n => simp only [snap, snBl, snEl, h]; try (cases es[ix]? <;> rfl)
    | dead => simp [snap, snBl, h]
    | lp a b c d e f => simp [snap, snBl, h]
    | mp c d => simp [snap, snBl, h]
def elBlk (b : Option Blk) (off len : Nat) : Option (List AV) := match b with | some (.live es _) => if off + len ≤ es.length then some ((es.drop off).take len) else none | _ => none
theorem elBlk_live (es : List AV) (n off len : Nat) : elBlk (some (.live es n)) off len = if off + len ≤ es.length then some ((es.drop off).take len) else none := rfl
theorem elems_ref (id off len : Nat) : m.elems (.ref id off len) = elBlk m.blks[id]? off len := by
  cases h : m.blks[id]? with
  | none => simp [Mem.elems, elBlk, h]
  | some b => cases b <;> simp [Mem.elems, elBlk, h]
theorem elems_sl (es : List AV) (tk : Tk) : m.elems (.sl es tk) = some es := rfl
theorem dep_eq : dep = 12 := rfl
theorem hot_bool (b : Bool) : hot (k + 1) (.bool b) = false := rfl
theorem hot_int (q : IntKind) (n : Int) : hot (k + 1) (.int q n) = false := rfl
theorem hot_str (s : ByteArray) : hot (k + 1) (.str s) = false := rfl
theorem hot_undef : hot (k + 1) .undef = false := rfl
theorem hot_nilf : hot (k + 1) .nilf = false := rfl
theorem hot_nilp : hot (k + 1) .nilp = false := rfl
theorem hot_agg (cs : List AV) : hot (k + 1) (.agg cs) = cs.any (hot k) := rfl
theorem hot_tup (cs : List AV) : hot (k + 1) (.tup cs) = cs.any (hot k) := rfl
theorem hot_sl (es : List AV) (tk : Tk) : hot (k + 1) (.sl es tk) = es.any (hot k) := rfl
theorem hot_pv (e : AV) (off : Nat) : hot (k + 1) (.pv e off) = hot k e := rfl
theorem hot_fn (f : FuncId) (a b : List AV) : hot (k + 1) (.fn f a b) = (a.any (hot k) || b.any (hot k)) := rfl
theorem hot_ref (a b c : Nat) : hot (k + 1) (.ref a b c) = true := rfl
theorem hot_ptr (a b c : Nat) : hot (k + 1) (.ptr a b c) = true := rfl
theorem plain_bool (b : Bool) : plain (k + 1) (.bool b) = true := rfl
theorem plain_int (q : IntKind) (n : Int) : plain (k + 1) (.int q n) = true := rfl
theorem plain_str (s : ByteArray) : plain (k + 1) (.str s) = true := rfl
theorem plain_undef : plain (k + 1) .undef = true := rfl
theorem plain_agg (cs : List AV) : plain (k + 1) (.agg cs) = cs.all (plain k) := rfl
theorem plain_tup (cs : List AV) : plain (k + 1) (.tup cs) = cs.all (plain k) := rfl
end
theorem W_regionD (ops : List AI) (chks : List (Nat × Nat)) (s : St) (Q : Ex → St → Prop) : W ft (.regionD ops chks) s Q = Wo ft ops s fun s' => @Cs (chkAll chks s'.env) ⟨Q .nxt s', False⟩ := W_regionD' ops chks s Q
theorem chkAll_nil (env : Nat → AV) : chkAll [] env = true := rfl
theorem chkAll_cons (a b : Nat) (l : List (Nat × Nat)) (env : Nat → AV) : chkAll ((a, b) :: l) env = (apart (env a) (env b) && chkAll l env) := rfl
theorem apart_pp (a b c d e f : Nat) : apart (.ptr a b c) (.ptr d e f) = (a != d) := rfl
theorem apart_pvpv (v v2 : AV) (o o2 : Nat) : apart (.pv v o) (.pv v2 o2) = true := rfl
theorem apart_pvp (v : AV) (o d e f : Nat) : apart (.pv v o) (.ptr d e f) = true := rfl
def mgBlk (b : Option Blk) (ek : EK) (z : AV) (ok : Bool) (key : AV) : Option AV := match b with
  | some (.mp kvs ek') => if EK.same ek ek' = true ∧ isKey ek key = true then mgetL ek z ok kvs key else none
  | _ => none
theorem mgBlk_mp (kvs : List (AV × AV)) (ek' ek : EK) (z : AV) (ok : Bool) (key : AV) : mgBlk (some (.mp kvs ek')) ek z ok key = if EK.same ek ek' = true ∧ isKey ek key = true then mgetL ek z ok kvs key else none := rfl
theorem mgetAt_mp (m : Mem) (ek : EK) (z : AV) (ok : Bool) (id : Nat) (key : AV) : mgetAt m ek z ok (.mp id) key = mgBlk m.blks[id]? ek z ok key := by
  cases h : m.blks[id]? with
  | none => simp [mgetAt, mgBlk, h]
  | some q => cases q <;> simp [mgetAt, mgBlk, h]
def mpBlk (b : Option Blk) (m : Mem) (id : Nat) (ek : EK) (key v : AV) : Option Mem := match b with
  | some (.mp kvs ek') => if EK.same ek ek' = true ∧ isKey ek key = true then (mputL ek kvs key v).map fun kvs' => { m with blks := m.blks.set id (.mp kvs' ek') } else none
  | _ => none
theorem mpBlk_mp (kvs : List (AV × AV)) (ek' ek : EK) (m : Mem) (id : Nat) (key v : AV) : mpBlk (some (.mp kvs ek')) m id ek key v = if EK.same ek ek' = true ∧ isKey ek key = true then (mputL ek kvs key v).map fun kvs' => { m with blks := m.blks.set id (.mp kvs' ek') } else none := rfl
theorem mputAt_mp (m : Mem) (ek : EK) (id : Nat) (key v : AV) : mputAt m ek (.mp id) key v = mpBlk m.blks[id]? m id ek key v := by
  cases h : m.blks[id]? with
  | none => simp [mputAt, mpBlk, h]
  | some q => cases q <;> simp [mputAt, mpBlk, h]
def mlBlk (b : Option Blk) : Option AV := match b with | some (.mp kvs _) => some (.int .i64 kvs.length) | _ => none
theorem mlBlk_mp (kvs : List (AV × AV)) (ek : EK) : mlBlk (some (.mp kvs ek)) = some (.int .i64 kvs.length) := rfl
theorem mlenAt_mp (m : Mem) (id : Nat) : mlenAt m (.mp id) = mlBlk m.blks[id]? := by
  cases h : m.blks[id]? with
  | none => simp [mlenAt, mlBlk, h]
  | some q => cases q <;> simp [mlenAt, mlBlk, h]
theorem same_ii : EK.same .i .i = true := rfl
theorem same_ss : EK.same .s .s = true := rfl
theorem same_bb : EK.same .b .b = true := rfl
theorem same_nn (m : Nat) : EK.same (.n m) (.n m) = true := by simp [EK.same]
theorem isKey_n (m : Nat) (a : List AV) : isKey (.n m) (.agg a) = (a.length == m && a.all isI) := rfl
theorem isI_int (k : IntKind) (n : Int) : isI (.int k n) = true := rfl
theorem isKey_i (k : IntKind) (n : Int) : isKey .i (.int k n) = true := rfl
theorem isKey_s (q : ByteArray) : isKey .s (.str q) = true := rfl
theorem isKey_b (q : Bool) : isKey .b (.bool q) = true := rfl
theorem solid_mp (n : Nat) : (AV.mp n).solid = true := rfl
theorem cells_mp (n : Nat) : (AV.mp n).cells = [.mp n] := rfl
theorem isAgg_mp (n : Nat) : (AV.mp n).isAgg = false := rfl
theorem hot_mp (k n : Nat) : hot (k + 1) (.mp n) = true := rfl
theorem snap_mp (m : Mem) (k n : Nat) : snap m (k + 1) (.mp n) = .undef := rfl
theorem capAt_tight (es : List AV) : capAt (.sl es .tight) = some (.int .i64 es.length) := rfl
theorem mgetAt_nilm (m : Mem) (ek : EK) (z : AV) (ok : Bool) (key : AV) : mgetAt m ek z ok .nilm key = if isKey ek key = true then some (if ok then .tup [z, .bool false] else z) else none := rfl
theorem mlenAt_nilm (m : Mem) : mlenAt m .nilm = some (.int .i64 0) := rfl
theorem solid_nilm : AV.nilm.solid = true := rfl
theorem cells_nilm : AV.nilm.cells = [.nilm] := rfl
theorem isAgg_nilm : AV.nilm.isAgg = false := rfl
theorem hot_nilm (k : Nat) : hot (k + 1) .nilm = false := rfl
theorem snap_nilm (m : Mem) (k : Nat) : snap m (k + 1) .nilm = .nilm := rfl
attribute [go_sem] capAt_tight mgetAt_nilm mlenAt_nilm solid_nilm cells_nilm isAgg_nilm hot_nilm snap_nilm
attribute [go_sem ↓] W1_mkmap W1_mget W1_mput W1_mlen W1_cap
attribute [go_sem] isAgg_mp mgBlk_mp mgetAt_mp mpBlk_mp mputAt_mp mlBlk_mp mlenAt_mp same_ii same_ss same_bb isKey_i isKey_s isKey_b same_nn isKey_n isI_int solid_mp cells_mp hot_mp snap_mp
attribute [go_sem] chkAll_nil chkAll_cons apart_pp apart_pvpv apart_pvp
attribute [go_sem ↓] W1_mdel W_seq W_region W_regionD W_ret W_frz W_skip W_exit W_cond W_block WL_loop WL_range Wo_cons Wo_nil Wi_plain Wi_guard W1_mov W1_pick W1_new W1_box W1_boxf W1_aps W1_aslc W1_build W1_lit W1_lit_own W1_load W1_store W1_bin W1_eqv W1_not W1_neg W1_cmpl W1_conv W1_clo W1_make W1_slice W1_addr W1_idx W1_aidx W1_vidx W1_fld W1_ext W1_sidx W1_len W1_slen W1_sslice W1_app W1_app0 W1_cpy W1_mnx W1_mnl W1_call W1_callv W1_callf W1_callz
attribute [go_sem ↓] If_H Gd_H Opt_H OptB_H OptI_H WV_H WR_H WA_H WZ_H Then_nxt Then_ret Then_out InBlk_nxt InBlk_ret InBlk_out Fin_nxt Fin_ret
attribute [go_sem] WZH_fn IfH_bool GdH_true GdH_false GdH_tup OptH_some OptH_none OptH_map OptH_ite OptBH_bool OptIH_int WAH_fn WAH_yld Cs_true Cs_false Cs_not
def fzEl (e : Option AV) (m : Mem) (id off : Nat) : Option (AV × Mem) := match e with | some e => some (.pv e off, ⟨m.blks.set id .dead, m.toks⟩) | none => none
theorem fzEl_some (e : AV) (m : Mem) (id off : Nat) : fzEl (some e) m id off = some (.pv e off, ⟨m.blks.set id .dead, m.toks⟩) := rfl
def fzBlk (b : Option Blk) (m : Mem) (id ix off : Nat) : Option (AV × Mem) := match b with | some (.live es _) => fzEl es[ix]? m id off | _ => none
theorem fzBlk_live (es : List AV) (n : Nat) (m : Mem) (id ix off : Nat) : fzBlk (some (.live es n)) m id ix off = fzEl es[ix]? m id off := rfl
theorem frzsAt_ptr (m : Mem) (id ix off : Nat) : frzsAt m (.ptr id ix off) = fzBlk m.blks[id]? m id ix off := by
  cases h : m.blks[id]? with
  | none => simp [frzsAt, fzBlk, h]
  | some q => cases q with
    | live es n => simp only [frzsAt, fzBlk, fzEl, h] <;> (cases es[ix]? <;> rfl)
    | _ => simp [frzsAt, fzBlk, h]
theorem W_frzs (t : Nat) (s : St) (Q : Ex → St → Prop) : W ft (.frzs t) s Q = Opt (frzsAt s.mem (s.env t)) fun p => Q .nxt ⟨upd s.env t p.1, p.2⟩ := by
  apply propext
  constructor
  · rintro ⟨n, r, h, q⟩
    simp only [exec] at h
    obtain ⟨p, h1, h2⟩ := Option.map_eq_some_iff.1 h
    cases h2
    rw [h1]; exact q
  · intro h
    cases hp : frzsAt s.mem (s.env t) with
    | none => rw [hp] at h; exact h.elim
    | some p => rw [hp] at h; exact ⟨0, (.nxt, ⟨upd s.env t p.1, p.2⟩), by simp only [exec, hp, Option.map_some], h⟩
def fzRef (b : Option Blk) (m : Mem) (id off len : Nat) : Option (AV × Mem) := match b with | some (.live es _) => if off + len ≤ es.length then some (.sl ((es.drop off).take len) .unk, ⟨m.blks.set id .dead, m.toks⟩) else none | _ => none
theorem fzRef_live (es : List AV) (n : Nat) (m : Mem) (id off len : Nat) : fzRef (some (.live es n)) m id off len = if off + len ≤ es.length then some (.sl ((es.drop off).take len) .unk, ⟨m.blks.set id .dead, m.toks⟩) else none := rfl
theorem frzsAt_ref (m : Mem) (id off len : Nat) : frzsAt m (.ref id off len) = fzRef m.blks[id]? m id off len := by
  cases h : m.blks[id]? with
  | none => simp [frzsAt, fzRef, h]
  | some q => cases q <;> simp [frzsAt, fzRef, h]
theorem frzsAt_sl (m : Mem) (es : List AV) (tk : Tk) : frzsAt m (.sl es tk) = some (.sl es tk, m) := rfl
theorem frzsAt_pv (m : Mem) (e : AV) (off : Nat) : frzsAt m (.pv e off) = some (.pv e off, m) := rfl
attribute [go_sem ↓] W_frzs
attribute [go_sem] fzEl_some fzBlk_live frzsAt_ptr fzRef_live frzsAt_ref frzsAt_sl frzsAt_pv
theorem mnilAt_nilm : mnilAt .nilm = some (.bool true) := rfl
theorem mnilAt_mp (n : Nat) : mnilAt (.mp n) = some (.bool false) := rfl
theorem sltk_unk (es : List AV) : sltk es .unk = .unk := by cases es <;> rfl
theorem sltk_at (es : List AV) (n : Nat) : sltk es (.at n) = .unk := by cases es <;> rfl
theorem sltk_cons (e : AV) (es : List AV) (tk : Tk) : sltk (e :: es) tk = .unk := rfl
theorem sltk_nil : sltk [] .tight = .tight := rfl
theorem clearAt_nil (m : Mem) (tk : Tk) (z : AV) (sz : Nat) : clearAt m (.sl [] tk) z sz = some m := rfl
attribute [go_sem ↓] W1_clr W1_appz W1_mnil
attribute [go_sem] mnilAt_nilm mnilAt_mp sltk_unk sltk_at sltk_cons sltk_nil clearAt_nil
theorem fillParts_nil (cs : List AV) : fillParts cs [] = some cs := rfl
theorem fillParts_cons (cs : List AV) (off sz : Nat) (v : AV) (r : List (Nat × Nat × AV)) : fillParts cs ((off, sz, v) :: r) = if (v.cells.length = sz ∧ v.solids = true) ∧ off + sz ≤ cs.length then fillParts (cs.take off ++ v.cells ++ cs.drop (off + sz)) r else none := rfl
attribute [go_sem] fillParts_nil fillParts_cons solids_eq solid_int solid_bool solid_str solid_sl solid_ref solid_ptr solid_pv solid_fn solid_yld solid_nilf solid_nilp
attribute [go_sem] entry_zero entry_succ entry_nil upd_eq put_some put_none ev_t ev_c setMem_mk mem_mk env_mk cells_agg cells_int cells_bool cells_str cells_sl cells_ref cells_ptr cells_pv cells_fn cells_yld cells_nilf cells_nilp readCells_none readCells_some loadAt_ptr loadAt_pv addrAt_ptr addrAt_pv binOp_add binOp_sub binOp_mul binOp_quo binOp_rem binOp_and binOp_or binOp_xor binOp_andNot binOp_eql binOp_neq binOp_lss binOp_leq binOp_gtr binOp_geq binOp_shl binOp_shr lenAt_sl lenAt_ref slenAt_str idxAt_sl idxAt_ref aidxAt_pv aidxAt_ptr extAt_tup fldAt_agg vidxAt_agg eqAV_agg eqAV_one eqs_nil eqs_b eqs_i eqs_s idxEl_some lsz_eq szB_live isSome_eq some_inj' hdSz_nil hdSz_cons resOf_nil resOf_t resOf_tt resOf_c resOf_ct resOf_tc newBlk_mk blks_mk toks_mk nil_mk ldEl_some ldBlk_live stEl_some stBlk_live storeAt_ptr writeCells_agg writeCells_one isAgg_int isAgg_bool isAgg_str isAgg_sl isAgg_ref isAgg_ptr isAgg_pv isAgg_fn isAgg_nilf isAgg_nilp snEs_some snEl_some snBl_live elBlk_live elems_ref elems_sl
attribute [go_sem] snap_undef snap_bool snap_int snap_str snap_nilf snap_nilp snap_agg snap_tup snap_sl snap_pv snap_fn snap_ref snap_ptr dep_eq hot_bool hot_int hot_str hot_undef hot_nilf hot_nilp hot_agg hot_tup hot_sl hot_pv hot_fn hot_ref hot_ptr plain_bool plain_int plain_str plain_undef plain_agg plain_tup
attribute [go_sem] List.map_cons List.map_nil List.append_nil List.nil_append List.cons_append List.length_cons List.length_nil List.getElem?_cons_zero List.getElem?_cons_succ List.all_cons List.all_nil List.any_cons List.any_nil List.drop_zero List.drop_succ_cons List.take_zero List.take_succ_cons List.take_nil List.drop_nil List.set_cons_zero List.set_cons_succ Option.map_some Option.map_none Bool.true_and Bool.false_and Bool.and_true Bool.and_false Bool.true_or Bool.false_or Bool.or_true Bool.or_false Bool.not_true Bool.not_false Bool.and_self Bool.or_self
abbrev Ob (d : Nat) (x : AOp) : AI := ⟨some d, none, x⟩
abbrev Og (d t : Nat) (b : Bool) (x : AOp) : AI := ⟨some d, some (t, b), x⟩
abbrev On (x : AOp) : AI := ⟨none, none, x⟩
abbrev Ci (n : Int) : Src := .c (.int .i64 n)
attribute [go_sem] and_self decide_true decide_false beq_self_eq_true
end Go.Ab
end

section
/-
  Loops of the abstract machine, for proofs by invariants.
-/
namespace Go.Ab
variable {ft : FuncId → Option AFn}
abbrev I64 (n : Int) : AV := .int .i64 n
class Inv (α : Type) where
  J : α → (Nat → AV) → Mem → Prop
  lt : α → Prop
/-- The next round's head (hidden from the simplifier). -/
def Nx (α : Type) [i : Inv α] (e : Nat → AV) (m : Mem) : Prop := ∃ a : α, i.lt a ∧ i.J a e m
theorem Nx_of {α : Type} {J : α → (Nat → AV) → Mem → Prop} {lt : α → Prop} {e : Nat → AV} {m : Mem} (a : α) (h1 : lt a) (h2 : J a e m) : @Nx α ⟨J, lt⟩ e m := ⟨a, h1, h2⟩
/-- A loop by an invariant over its variables, and a number that each round lowers. -/
theorem WL_inv {α : Type} {b : ACode} {e : Nat → AV} {m : Mem} {Q : Ex → St → Prop} (J : α → (Nat → AV) → Mem → Prop) (μ : α → Nat) (a0 : α) (h0 : J a0 e m)
    (step : ∀ a e m, J a e m → W ft b ⟨e, m⟩ (Then (fun s' => @Nx α ⟨J, fun a' => μ a' < μ a⟩ s'.env s'.mem) Q)) : @WL ft (.loop b) ⟨e, m⟩ ⟨Q⟩ :=
  W_loop (fun k s => ∃ a, μ a = k ∧ J a s.env s.mem) (fun k s ⟨a, ha, hj⟩ => by
    refine W_mono (step a s.env s.mem hj) fun x s' q => ?_
    cases x with
    | nxt => obtain ⟨a', h1, h2⟩ := q; exact ⟨μ a', by have : μ a' < μ a := h1; omega, a', rfl, h2⟩
    | out id => exact q
    | ret => exact q) (μ a0) ⟨e, m⟩ ⟨a0, rfl, h0⟩
theorem wrap_i8 (n : Int) (h : -128 ≤ n) (h' : n < 128) : IntKind.i8.wrap n = n := by
  simp only [IntKind.wrap, IntKind.bits, IntKind.signed, Bool.true_and, Int.reducePow, Nat.reduceSub]; split <;> rename_i h1 <;> simp only [ge_iff_le, decide_eq_true_eq] at h1 <;> omega
theorem wrap_i16 (n : Int) (h : -32768 ≤ n) (h' : n < 32768) : IntKind.i16.wrap n = n := by
  simp only [IntKind.wrap, IntKind.bits, IntKind.signed, Bool.true_and, Int.reducePow, Nat.reduceSub]; split <;> rename_i h1 <;> simp only [ge_iff_le, decide_eq_true_eq] at h1 <;> omega
theorem wrap_i32 (n : Int) (h : -2147483648 ≤ n) (h' : n < 2147483648) : IntKind.i32.wrap n = n := by
  simp only [IntKind.wrap, IntKind.bits, IntKind.signed, Bool.true_and, Int.reducePow, Nat.reduceSub]; split <;> rename_i h1 <;> simp only [ge_iff_le, decide_eq_true_eq] at h1 <;> omega
theorem wrap_i64 (n : Int) (h : -9223372036854775808 ≤ n) (h' : n < 9223372036854775808) : IntKind.i64.wrap n = n := by
  simp only [IntKind.wrap, IntKind.bits, IntKind.signed, Bool.true_and, Int.reducePow, Nat.reduceSub]; split <;> rename_i h1 <;> simp only [ge_iff_le, decide_eq_true_eq] at h1 <;> omega
theorem wrap_u8 (n : Int) (h : 0 ≤ n) (h' : n < 256) : IntKind.u8.wrap n = n := by
  simp only [IntKind.wrap, IntKind.bits, IntKind.signed, Bool.false_and, Int.reducePow, Bool.false_eq_true, if_false]; omega
theorem wrap_u16 (n : Int) (h : 0 ≤ n) (h' : n < 65536) : IntKind.u16.wrap n = n := by
  simp only [IntKind.wrap, IntKind.bits, IntKind.signed, Bool.false_and, Int.reducePow, Bool.false_eq_true, if_false]; omega
theorem wrap_u32 (n : Int) (h : 0 ≤ n) (h' : n < 4294967296) : IntKind.u32.wrap n = n := by
  simp only [IntKind.wrap, IntKind.bits, IntKind.signed, Bool.false_and, Int.reducePow, Bool.false_eq_true, if_false]; omega
theorem wrap_u64 (n : Int) (h : 0 ≤ n) (h' : n < 18446744073709551616) : IntKind.u64.wrap n = n := by
  simp only [IntKind.wrap, IntKind.bits, IntKind.signed, Bool.false_and, Int.reducePow, Bool.false_eq_true, if_false]; omega
theorem Cs_dec {p : Prop} [Decidable p] {A B : Prop} (ha : p → A) (hb : ¬p → B) : @Cs (decide p) ⟨A, B⟩ :=
  Cs_of (fun h => ha (of_decide_eq_true h)) (fun h => hb (of_decide_eq_false h))
theorem and1 (n : Nat) : andI .i64 (n : Int) 1 = ((n % 2 : Nat) : Int) := by
  have h : (BitVec.ofInt 64 (n : Int) &&& BitVec.ofInt 64 1).toNat = n % 2 := by
    rw [show (1 : Int) = ((1 : Nat) : Int) from rfl, BitVec.ofInt_natCast, BitVec.ofInt_natCast, BitVec.toNat_and, BitVec.toNat_ofNat, BitVec.toNat_ofNat]
    rw [show 1 % 2 ^ 64 = 1 from rfl, Nat.and_one_is_mod]; omega
  show IntKind.i64.wrap ((BitVec.ofInt 64 (n : Int) &&& BitVec.ofInt 64 1).toNat : Int) = ((n % 2 : Nat) : Int)
  rw [h, wrap_i64 _ (by omega) (by omega)]
theorem andI_nat64 (n m : Nat) (hn : n < 9223372036854775808) (hm : m < 9223372036854775808) : andI .i64 (n : Int) (m : Int) = ((n &&& m : Nat) : Int) := by
  have h : (BitVec.ofInt 64 (n : Int) &&& BitVec.ofInt 64 (m : Int)).toNat = n &&& m := by
    rw [BitVec.ofInt_natCast, BitVec.ofInt_natCast, BitVec.toNat_and, BitVec.toNat_ofNat, BitVec.toNat_ofNat, Nat.mod_eq_of_lt (by omega), Nat.mod_eq_of_lt (by omega)]
  show IntKind.i64.wrap ((BitVec.ofInt 64 (n : Int) &&& BitVec.ofInt 64 (m : Int)).toNat : Int) = ((n &&& m : Nat) : Int)
  have := Nat.and_le_left (n := n) (m := m)
  rw [h, wrap_i64 _ (by omega) (by omega)]
theorem or_lt (n m k : Nat) (hn : n < 2 ^ k) (hm : m < 2 ^ k) : n ||| m < 2 ^ k := Nat.or_lt_two_pow hn hm
theorem orI_nat64 (n m : Nat) (hn : n < 9223372036854775808) (hm : m < 9223372036854775808) : orI .i64 (n : Int) (m : Int) = ((n ||| m : Nat) : Int) := by
  have h : (BitVec.ofInt 64 (n : Int) ||| BitVec.ofInt 64 (m : Int)).toNat = n ||| m := by
    rw [BitVec.ofInt_natCast, BitVec.ofInt_natCast, BitVec.toNat_or, BitVec.toNat_ofNat, BitVec.toNat_ofNat, Nat.mod_eq_of_lt (by omega), Nat.mod_eq_of_lt (by omega)]
  show IntKind.i64.wrap ((BitVec.ofInt 64 (n : Int) ||| BitVec.ofInt 64 (m : Int)).toNat : Int) = ((n ||| m : Nat) : Int)
  have := or_lt n m 63 (by simpa using hn) (by simpa using hm)
  rw [h, wrap_i64 _ (by omega) (by omega)]
theorem andI_u64 (n m : Nat) (hn : n < 18446744073709551616) (hm : m < 18446744073709551616) : andI .u64 (n : Int) (m : Int) = ((n &&& m : Nat) : Int) := by
  have h : (BitVec.ofInt 64 (n : Int) &&& BitVec.ofInt 64 (m : Int)).toNat = n &&& m := by
    rw [BitVec.ofInt_natCast, BitVec.ofInt_natCast, BitVec.toNat_and, BitVec.toNat_ofNat, BitVec.toNat_ofNat, Nat.mod_eq_of_lt (by omega), Nat.mod_eq_of_lt (by omega)]
  show IntKind.u64.wrap ((BitVec.ofInt 64 (n : Int) &&& BitVec.ofInt 64 (m : Int)).toNat : Int) = ((n &&& m : Nat) : Int)
  have := Nat.and_le_left (n := n) (m := m)
  rw [h, wrap_u64 _ (by omega) (by omega)]
theorem orI_u64 (n m : Nat) (hn : n < 18446744073709551616) (hm : m < 18446744073709551616) : orI .u64 (n : Int) (m : Int) = ((n ||| m : Nat) : Int) := by
  have h : (BitVec.ofInt 64 (n : Int) ||| BitVec.ofInt 64 (m : Int)).toNat = n ||| m := by
    rw [BitVec.ofInt_natCast, BitVec.ofInt_natCast, BitVec.toNat_or, BitVec.toNat_ofNat, BitVec.toNat_ofNat, Nat.mod_eq_of_lt (by omega), Nat.mod_eq_of_lt (by omega)]
  show IntKind.u64.wrap ((BitVec.ofInt 64 (n : Int) ||| BitVec.ofInt 64 (m : Int)).toNat : Int) = ((n ||| m : Nat) : Int)
  have := or_lt n m 64 (by simpa using hn) (by simpa using hm)
  rw [h, wrap_u64 _ (by omega) (by omega)]
theorem andI_u16 (n m : Nat) (hn : n < 65536) (hm : m < 65536) : andI .u16 (n : Int) (m : Int) = ((n &&& m : Nat) : Int) := by
  have h : (BitVec.ofInt 16 (n : Int) &&& BitVec.ofInt 16 (m : Int)).toNat = n &&& m := by
    rw [BitVec.ofInt_natCast, BitVec.ofInt_natCast, BitVec.toNat_and, BitVec.toNat_ofNat, BitVec.toNat_ofNat, Nat.mod_eq_of_lt (by omega), Nat.mod_eq_of_lt (by omega)]
  show IntKind.u16.wrap ((BitVec.ofInt 16 (n : Int) &&& BitVec.ofInt 16 (m : Int)).toNat : Int) = ((n &&& m : Nat) : Int)
  have := Nat.and_le_left (n := n) (m := m)
  rw [h, wrap_u16 _ (by omega) (by omega)]
theorem orI_u16 (n m : Nat) (hn : n < 65536) (hm : m < 65536) : orI .u16 (n : Int) (m : Int) = ((n ||| m : Nat) : Int) := by
  have h : (BitVec.ofInt 16 (n : Int) ||| BitVec.ofInt 16 (m : Int)).toNat = n ||| m := by
    rw [BitVec.ofInt_natCast, BitVec.ofInt_natCast, BitVec.toNat_or, BitVec.toNat_ofNat, BitVec.toNat_ofNat, Nat.mod_eq_of_lt (by omega), Nat.mod_eq_of_lt (by omega)]
  show IntKind.u16.wrap ((BitVec.ofInt 16 (n : Int) ||| BitVec.ofInt 16 (m : Int)).toNat : Int) = ((n ||| m : Nat) : Int)
  have := or_lt n m 16 (by simpa using hn) (by simpa using hm)
  rw [h, wrap_u16 _ (by omega) (by omega)]
theorem shr_nat (s i : Nat) : Int.fdiv (s : Int) (2 ^ i) = ((s >>> i : Nat) : Int) := by
  rw [Nat.shiftRight_eq_div_pow, Int.fdiv_eq_ediv_of_nonneg _ (Int.pow_nonneg (by decide))]; simp
theorem shl_nat (s i : Nat) : ((s : Int) * 2 ^ i) = ((s <<< i : Nat) : Int) := by
  rw [Nat.shiftLeft_eq]; simp
theorem testBit_mod (s i : Nat) : decide (s >>> i % 2 = 1) = s.testBit i := by
  rw [Nat.testBit_eq_decide_div_mod_eq, Nat.shiftRight_eq_div_pow]
/-! ### More of what operations give -/
theorem mnx_max (k : IntKind) (x y : Int) : mnx true (.int k x) (.int k y) = some (.int k (max x y)) := by
  simp only [mnx, if_true]
  rw [show (if y > x then y else x) = max x y by split <;> omega]
theorem mnx_min (k : IntKind) (x y : Int) : mnx false (.int k x) (.int k y) = some (.int k (min x y)) := by
  simp only [mnx, if_true, Bool.false_eq_true, if_false]
  rw [show (if y < x then y else x) = min x y by split <;> omega]
theorem makeAt_int (m : Mem) (z : AV) (sz bytes : Nat) (k k' : IntKind) (l c : Int) : makeAt m z sz bytes (.int k l) (.int k' c) =
    if (0 ≤ l ∧ l = c) ∧ l.toNat * (bytes + 1) ≤ limit ∧ z.cells.length = sz ∧ z.solids = true then some (.ref m.blks.length 0 l.toNat, newBlk m (List.replicate l.toNat z) sz) else none := rfl
theorem bounds_ss (len : Nat) (k k' : IntKind) (l h : Int) : bounds len (some (.int k l)) (some (.int k' h)) = if 0 ≤ l ∧ l ≤ h ∧ h ≤ (len : Int) then some (l.toNat, h.toNat) else none := rfl
theorem bounds_sn (len : Nat) (k : IntKind) (l : Int) : bounds len (some (.int k l)) none = if 0 ≤ l ∧ l ≤ (len : Int) ∧ (len : Int) ≤ (len : Int) then some (l.toNat, len) else none := rfl
theorem bounds_ns (len : Nat) (k : IntKind) (h : Int) : bounds len none (some (.int k h)) = if (0 : Int) ≤ 0 ∧ 0 ≤ h ∧ h ≤ (len : Int) then some (0, h.toNat) else none := rfl
theorem sliceAt_sl (m : Mem) (es : List AV) (tk : Tk) (lo hi : Option AV) (sz : Nat) : sliceAt m (.sl es tk) lo hi sz = if hdSz es sz then (bounds es.length lo hi).map fun p => .sl ((es.drop p.1).take (p.2 - p.1)) (sltk es tk) else none := rfl
theorem hdSz_map' {α : Type} (f : α → AV) (n : Nat) (l : List α) (h : ∀ x, (f x).cells.length = n) : hdSz (l.map f) n = true := by
  cases l <;> simp [hdSz, h]
theorem writeCells_int (k : IntKind) (n : Int) (v : AV) : writeCells (.int k n) 0 [v] = some v := rfl
theorem writeCells_bool (b : Bool) (v : AV) : writeCells (.bool b) 0 [v] = some v := rfl
theorem writeCells_str (b : ByteArray) (v : AV) : writeCells (.str b) 0 [v] = some v := rfl
theorem writeCells_sl (es : List AV) (tk : Tk) (v : AV) : writeCells (.sl es tk) 0 [v] = some v := rfl
theorem writeCells_ref (a b c : Nat) (v : AV) : writeCells (.ref a b c) 0 [v] = some v := rfl
theorem writeCells_ptr (a b c : Nat) (v : AV) : writeCells (.ptr a b c) 0 [v] = some v := rfl
theorem writeCells_pv (e : AV) (o : Nat) (v : AV) : writeCells (.pv e o) 0 [v] = some v := rfl
theorem writeCells_fn (f : FuncId) (a b : List AV) (v : AV) : writeCells (.fn f a b) 0 [v] = some v := rfl
theorem writeCells_nilf  (v : AV) : writeCells (.nilf) 0 [v] = some v := rfl
theorem writeCells_nilp  (v : AV) : writeCells (.nilp) 0 [v] = some v := rfl
attribute [go_sem] writeCells_int writeCells_bool writeCells_str writeCells_sl writeCells_ref writeCells_ptr writeCells_pv writeCells_fn writeCells_nilf writeCells_nilp
theorem get_last {α : Type} (l : List α) (a : α) : (l ++ [a])[l.length]? = some a := by simp
theorem set_last {α : Type} (l : List α) (a b : α) : (l ++ [a]).set l.length b = l ++ [b] := by simp
attribute [go_sem] get_last set_last mnx_max mnx_min makeAt_int bounds_ss bounds_sn bounds_ns sliceAt_sl Option.map_some Option.map_none
theorem drop_cons {α : Type} {l : List α} {k : Nat} {x : α} {r : List α} (h : l.drop k = x :: r) : l[k]? = some x ∧ l.drop (k + 1) = r ∧ k < l.length := by
  have h1 : l[k]? = some x := by
    have := List.getElem?_drop (xs := l) (i := k) (j := 0)
    rw [h] at this; simpa using this.symm
  refine ⟨h1, ?_, ?_⟩
  · rw [← List.drop_drop, h]; rfl
  · rw [List.getElem?_eq_some_iff] at h1; exact h1.1
theorem drop_nil {α : Type} {l : List α} {k : Nat} (h : l.drop k = []) : l.length ≤ k := by
  simpa using h
theorem dec_lt {a b : Nat} (h : a < b) : decide ((a : Int) < (b : Int)) = true := decide_eq_true (by omega)
theorem dec_ge {a b : Nat} (h : b ≤ a) : decide ((a : Int) < (b : Int)) = false := decide_eq_false (by omega)
theorem dec_nn (a : Nat) : decide ((0 : Int) ≤ (a : Int)) = true := decide_eq_true (by omega)
/-- A function value that gives p of what f makes of its one argument. -/
def IsP {α : Type} (ft : FuncId → Option AFn) (enc : α → AV) (f : AV) (p : α → AV) : Prop := ∀ x s (K : AV → St → Prop), @WAH ft f [enc x] s ⟨K⟩ = K (p x) s
/-- A slice that is built by appending alone, in a function that builds no other. -/
def Acc (T : Nat) (es : List AV) (v : AV) (toks : List (Nat × Nat)) : Prop := (es = [] ∧ v = .sl [] .tight ∧ toks = []) ∨ (es ≠ [] ∧ v = .sl es (.at 0) ∧ toks = [(es.length, T)])
theorem Acc_nil (T : Nat) : Acc T [] (.sl [] .tight) [] := Or.inl ⟨rfl, rfl, rfl⟩
theorem Acc.app {T : Nat} {es : List AV} {v : AV} {toks : List (Nat × Nat)} (h : Acc T es v toks) {y : AV} {tk : Tk} {sz bytes : Nat} {blks : List Blk} {K : AV × Mem → Prop}
    (hs : ∀ e ∈ es, e.cells.length = sz) (hy : y.cells.length = sz) (hl : (es.length + 1) * (bytes + 1) ≤ limit)
    (hk : ∀ v' toks', Acc T (es ++ [y]) v' toks' → K (v', ⟨blks, toks'⟩)) : @OptH _ (appendAt ⟨blks, toks⟩ false v (.sl [y] tk) T sz bytes) ⟨K⟩ := by
  have h1 : hdSz [y] sz = true := by simp [hdSz, hy]
  have h2 : hdSz es sz = true := by
    cases es with
    | nil => rfl
    | cons e r => simp [hdSz, hs e (by simp)]
  rcases h with ⟨rfl, rfl, rfl⟩ | ⟨hne, rfl, rfl⟩
  · simp only [appendAt, Mem.elems, h1, h2, OptH, List.length_cons, List.length_nil, List.nil_append, appTk]
    simp only [List.length_nil] at hl
    rw [if_neg (by simp), if_pos ⟨by simpa using hl, trivial⟩]
    exact hk _ _ (Or.inr ⟨by simp, rfl, by simp⟩)
  · simp only [appendAt, Mem.elems, h1, h2, OptH, List.length_cons, List.length_nil, appTk]
    rw [if_neg (by simp), if_pos ⟨by simpa using hl, trivial⟩]
    have : es.length ≠ 0 := by simpa using hne
    simp only [Bool.false_eq_true, if_false, Nat.zero_add, Nat.succ_ne_zero, List.getElem?_cons_zero, List.set_cons_zero]
    rw [if_pos ⟨trivial, this⟩]
    exact hk _ _ (Or.inr ⟨by simp, rfl, by simp⟩)
theorem Acc.snap {T : Nat} {es : List AV} {v : AV} {toks : List (Nat × Nat)} (h : Acc T es v toks) (m : Mem) (k : Nat) : snap m (k + 1) v = .sl (es.map (snap m k)) .unk := by
  rcases h with ⟨rfl, rfl, _⟩ | ⟨_, rfl, _⟩ <;> rfl
theorem Acc.cells {T : Nat} {es : List AV} {v : AV} {toks : List (Nat × Nat)} (h : Acc T es v toks) : v.cells = [v] ∧ v.solid = true ∧ v.isAgg = false := by
  rcases h with ⟨rfl, rfl, _⟩ | ⟨_, rfl, _⟩ <;> exact ⟨rfl, rfl, rfl⟩
end Go.Ab
end

section
/-
  A range over a function: its rules.
-/
namespace Go.Ab
variable {ft : FuncId → Option AFn}
/-- What a range over a function does with the memory that its function leaves. -/
def RgEnd (n : Nat) (e : Nat → AV) (Q : Ex → St → Prop) (m : Mem) : Prop :=
  match m.blks[n]? with
  | some (.lp _ _ _ _ rdy pend) => (rdy || pend.isSome) = true ∧ Q (pend.getD .nxt) ⟨e, { m with blks := m.blks.set n .dead }⟩
  | _ => False
theorem WL_range_of {f : Src} {ps : List Nat} {asg body : ACode} {e : Nat → AV} {m : Mem} {Q : Ex → St → Prop} {g : FuncId} {first cap : List AV} (hf : (St.mk e m).ev f = .fn g first cap)
    (h : WR ft (.f g) (first ++ [.yld m.blks.length] ++ cap) { m with blks := m.blks ++ [.lp e ps asg body true none] } fun _ m' => RgEnd m.blks.length e Q m') :
    @WL ft (.range f ps asg body) ⟨e, m⟩ ⟨Q⟩ := by
  obtain ⟨n, ⟨v, m'⟩, h1, h2⟩ := h
  unfold RgEnd at h2
  split at h2
  · rename_i a b c d rdy pend hb
    obtain ⟨h3, h4⟩ := h2
    refine ⟨n, (pend.getD .nxt, ⟨e, { m' with blks := m'.blks.set m.blks.length .dead }⟩), ?_, h4⟩
    simp only [exec, hf, h1, hb, h3, if_true]
    rfl
  · exact h2.elim
/-- What a round leaves: the loop goes on. -/
def YEnd (id : Nat) (K : AV → Mem → Prop) : Ex → St → Prop := fun x s =>
  match s.mem.blks[id]? with
  | some (.lp env ps asg body _ _) => match x with
    | .nxt => K (.bool true) { s.mem with blks := s.mem.blks.set id (.lp env ps asg body true none) }
    | x => K (.bool false) { s.mem with blks := s.mem.blks.set id (.lp env ps asg body false (some x)) }
  | _ => False
def YBegin (ft : FuncId → Option AFn) (id : Nat) (body : ACode) (K : AV → Mem → Prop) : Ex → St → Prop := fun x s =>
  x = .nxt ∧ match s.mem.blks[id]? with
  | some (.lp env ps asg body' true none) => W ft body ⟨s.env, { s.mem with blks := s.mem.blks.set id (.lp env ps asg body' false none) }⟩ (YEnd id K)
  | _ => False
theorem WR_yld {id : Nat} {as : List AV} {m : Mem} {K : AV → Mem → Prop} {env : Nat → AV} {ps : List Nat} {asg body : ACode} (hb : m.blks[id]? = some (.lp env ps asg body true none)) (hl : as.length = ps.length)
    (h : W ft asg ⟨puts env ps as, m⟩ (YBegin ft id body K)) : WR ft (.y id) as m K := by
  obtain ⟨n, ⟨x, s⟩, h1, h2, h3⟩ := h
  cases h2
  split at h3
  · rename_i env' ps' asg' body' hb'
    obtain ⟨n', ⟨x', s'⟩, h4, h5⟩ := h3
    unfold YEnd at h5
    split at h5
    · rename_i a b c d e f hc
      have hm1 := run_mono (ft := ft) (Nat.le_max_left n n')
      have hm2 := run_mono (ft := ft) (Nat.le_max_right n n')
      have e1 := exec_mono hm1 (Nat.le_max_left n n') h1
      have e2 := exec_mono hm2 (Nat.le_max_right n n') h4
      have hbz : busy id s = some (s.setMem { s.mem with blks := s.mem.blks.set id (.lp env' ps' asg' body' false none) }) := by
        simp only [busy, hb']
      have e2' : exec ft (run ft (max n n')) (max n n') body (s.setMem { s.mem with blks := s.mem.blks.set id (.lp env' ps' asg' body' false none) }) = some (x', s') := e2
      cases x' with
      | nxt =>
        refine ⟨max n n' + 1, (.bool true, { s'.mem with blks := s'.mem.blks.set id (.lp a b c d true none) }), ?_, h5⟩
        simp only [run, hb, hl, if_true, e1, hbz, Option.bind_some, e2', yfin, hc]
      | out j =>
        refine ⟨max n n' + 1, (.bool false, { s'.mem with blks := s'.mem.blks.set id (.lp a b c d false (some (.out j))) }), ?_, h5⟩
        simp only [run, hb, hl, if_true, e1, hbz, Option.bind_some, e2', yfin, hc]
      | ret =>
        refine ⟨max n n' + 1, (.bool false, { s'.mem with blks := s'.mem.blks.set id (.lp a b c d false (some .ret)) }), ?_, h5⟩
        simp only [run, hb, hl, if_true, e1, hbz, Option.bind_some, e2', yfin, hc]
    · exact h5.elim
  · exact h3.elim
theorem RgEnd_lp {n : Nat} {e : Nat → AV} {Q : Ex → St → Prop} {m : Mem} {env : Nat → AV} {ps : List Nat} {asg body : ACode} (h : m.blks[n]? = some (.lp env ps asg body true none))
    (hq : Q .nxt ⟨e, { m with blks := m.blks.set n .dead }⟩) : RgEnd n e Q m := by
  unfold RgEnd
  rw [h]
  exact ⟨rfl, hq⟩
theorem YBegin_lp {id : Nat} {body : ACode} {K : AV → Mem → Prop} {s : St} {env : Nat → AV} {ps : List Nat} {asg body' : ACode} (h : s.mem.blks[id]? = some (.lp env ps asg body' true none))
    (hw : W ft body ⟨s.env, { s.mem with blks := s.mem.blks.set id (.lp env ps asg body' false none) }⟩ (YEnd id K)) : YBegin ft id body K .nxt s := by
  unfold YBegin
  rw [h]
  exact ⟨rfl, hw⟩
theorem YEnd_lp {id : Nat} {K : AV → Mem → Prop} {s : St} {env : Nat → AV} {ps : List Nat} {asg body' : ACode} {r : Bool} {p : Option Ex} (h : s.mem.blks[id]? = some (.lp env ps asg body' r p))
    (hw : K (.bool true) { s.mem with blks := s.mem.blks.set id (.lp env ps asg body' true none) }) : YEnd id K .nxt s := by
  unfold YEnd
  rw [h]
  exact hw
end Go.Ab
end

section
/-
  Maps with integers as keys.
-/
namespace Go.Ab
def im (l : List (Int × AV)) : List (AV × AV) := l.map fun p => (.int .i64 p.1, p.2)
def iput : List (Int × AV) → Int → AV → List (Int × AV)
  | [], n, v => [(n, v)]
  | p :: r, n, v => if n = p.1 then (n, v) :: r else p :: iput r n v
def ilook : List (Int × AV) → Int → Option AV
  | [], _ => none
  | p :: r, n => if n = p.1 then some p.2 else ilook r n
theorem ilook_iput : ∀ (l : List (Int × AV)) (n : Int) (v : AV) (m : Int), ilook (iput l n v) m = if m = n then some v else ilook l m
  | [], n, v, m => by simp [iput, ilook]
  | p :: r, n, v, m => by
    by_cases h : n = p.1
    · simp only [iput, if_pos h, ilook]
      by_cases hm : m = n
      · simp [hm]
      · rw [if_neg hm, if_neg hm, if_neg (by omega)]
    · simp only [iput, if_neg h, ilook, ilook_iput r n v m]
      by_cases hm : m = n
      · rw [if_pos hm, if_pos hm, if_neg (by omega)]
      · rw [if_neg hm, if_neg hm]
theorem mfind_im : ∀ (l : List (Int × AV)) (n : Int) (i : Nat), ∃ r, mfind .i (.int .i64 n) (im l) i = some r ∧ (match r with
    | none => ilook l n = none ∧ ∀ v, iput l n v = l ++ [(n, v)]
    | some (j, v) => i ≤ j ∧ ilook l n = some v ∧ ∀ v', iput l n v' = l.set (j - i) (n, v'))
  | [], n, i => ⟨none, rfl, rfl, fun _ => rfl⟩
  | p :: r, n, i => by
    by_cases h : n = p.1
    · refine ⟨some (i, p.2), by simp [im, mfind, keq, eq1, EK.alone, h], Nat.le_refl _, by simp [ilook, h], fun v' => by simp [iput, h]⟩
    · obtain ⟨r', h1, h2⟩ := mfind_im r n (i + 1)
      have hb : (n == p.1) = false := by simpa using h
      refine ⟨r', ?_, ?_⟩
      · show mfind .i (.int .i64 n) ((.int .i64 p.1, p.2) :: im r) i = _
        simp [mfind, keq, eq1, hb, h1]
      · cases r' with
        | none => exact ⟨by simp [ilook, h, h2.1], fun v => by simp [iput, h, h2.2]⟩
        | some q =>
          obtain ⟨j, v⟩ := q
          obtain ⟨h3, h4, h5⟩ := h2
          refine ⟨by omega, by simp [ilook, h, h4], fun v' => ?_⟩
          simp only [iput, if_neg h, h5]
          rw [show j - i = (j - (i + 1)) + 1 by omega, List.set_cons_succ]
theorem mget_im (z : AV) (l : List (Int × AV)) (n : Int) : mgetL .i z false (im l) (.int .i64 n) = some ((ilook l n).getD z) := by
  obtain ⟨r, h1, h2⟩ := mfind_im l n 0
  unfold mgetL
  rw [h1]
  cases r with
  | none => simp [h2.1]
  | some q => obtain ⟨j, v⟩ := q; simp [h2.2.1]
theorem mget_im_ok (z : AV) (l : List (Int × AV)) (n : Int) : mgetL .i z true (im l) (.int .i64 n) = some (.tup [(ilook l n).getD z, .bool (ilook l n).isSome]) := by
  obtain ⟨r, h1, h2⟩ := mfind_im l n 0
  unfold mgetL
  rw [h1]
  cases r with
  | none => simp [h2.1]
  | some q => obtain ⟨j, v⟩ := q; simp [h2.2.1]
theorem mput_im (l : List (Int × AV)) (n : Int) (v : AV) : mputL .i (im l) (.int .i64 n) v = some (im (iput l n v)) := by
  obtain ⟨r, h1, h2⟩ := mfind_im l n 0
  unfold mputL
  rw [h1]
  cases r with
  | none => simp [h2.2 v, im, EK.ins]
  | some q =>
    obtain ⟨j, u⟩ := q
    rw [show iput l n v = l.set (j - 0) (n, v) from h2.2.2 v]
    simp [im, List.map_set]
theorem im_nil : im [] = [] := rfl
end Go.Ab
end

section
/-
  The rule for a loop over a map: its rounds in every order end alike.
-/
namespace Go.Ab
variable {ft : FuncId → Option AFn}

theorem bound_list {α : Type} (p : α → Nat → Prop) (hm : ∀ a n n', n ≤ n' → p a n → p a n') : ∀ l : List α, (∀ a ∈ l, ∃ n, p a n) → ∃ n, ∀ a ∈ l, p a n
  | [], _ => ⟨0, fun _ h => by cases h⟩
  | a :: l, h => by
    obtain ⟨n, hn⟩ := h a (by simp)
    obtain ⟨n', hn'⟩ := bound_list p hm l fun a ha => h a (by simp [ha])
    refine ⟨max n n', fun b hb => ?_⟩
    rcases List.mem_cons.1 hb with rfl | hb
    · exact hm _ _ _ (Nat.le_max_left _ _) hn
    · exact hm _ _ _ (Nat.le_max_right _ _) (hn' b hb)
/-- What holds of each order from some number on holds of all from one number on. -/
theorem bound_perm {α : Type} : ∀ (k : Nat) (P : Nat → List α → Prop), (∀ n n' π, n ≤ n' → P n π → P n' π) → ∀ l : List α, l.length = k → (∀ π, π.Perm l → ∃ n, P n π) → ∃ n, ∀ π, π.Perm l → P n π
  | 0, P, _, l, hl, h => by
    obtain rfl := List.eq_nil_of_length_eq_zero hl
    obtain ⟨n, hn⟩ := h [] (List.Perm.refl _)
    exact ⟨n, fun π hπ => by rw [List.Perm.eq_nil hπ]; exact hn⟩
  | k + 1, P, hm, l, hl, h => by
    obtain ⟨n, hn⟩ := bound_list (fun x n => ∀ l', l.Perm (x :: l') → ∀ π, π.Perm l' → P n (x :: π)) (fun x n n' hle hp l' h1 π h2 => hm _ _ _ hle (hp l' h1 π h2)) l (fun x hx => by
      obtain ⟨a, b, rfl⟩ := List.append_of_mem hx
      have hpm : (a ++ x :: b).Perm (x :: (a ++ b)) := List.perm_middle
      obtain ⟨n, hn⟩ := bound_perm k (fun n π => P n (x :: π)) (fun n n' π hle hp => hm n n' _ hle hp) (a ++ b) (by have := hpm.length_eq; simp at this hl ⊢; omega) (fun π hπ => h _ ((hπ.cons x).trans hpm.symm))
      exact ⟨n, fun l' h1 π h2 => hn π (h2.trans ((List.perm_cons x).1 (h1.symm.trans hpm)))⟩)
    refine ⟨n, fun π hπ => ?_⟩
    cases π with
    | nil => have := hπ.length_eq; simp at this; omega
    | cons x π => exact hn x (hπ.mem_iff.1 (by simp)) π hπ.symm π (List.Perm.refl _)

/-- The rounds for some entries. -/
def Rw (ft : FuncId → Option AFn) (post : List AI) (tail : ACode) (it nx ok i0 en B Cc : Nat) (K : Ex → St → Prop) : List (AV × AV) → St → Prop
  | [], s => s.env it = .itr i0 ∧ K .nxt s
  | p :: r, s => s.env it = .itr i0 ∧ Wo ft post (((s.put (some nx) .undef).put (some ok) .undef).put (some en) (.tup [p.1, p.2])) fun s1 => W ft tail s1 fun e s2 => match e with
    | .nxt => Rw ft post tail it nx ok i0 en B Cc K r s2
    | .out j => if j = Cc then Rw ft post tail it nx ok i0 en B Cc K r s2 else K (if j = B then .nxt else .out j) s2
    | .ret => K .ret s2
theorem Rw_rounds {post : List AI} {tail : ACode} {it nx ok i0 en B Cc : Nat} {K : Ex → St → Prop} : ∀ (π : List (AV × AV)) (s : St), Rw ft post tail it nx ok i0 en B Cc K π s →
    ∃ n q, rounds (execOps ft (run ft n) post) (exec ft (run ft n) n tail) it nx ok i0 en B Cc π s = some q ∧ K q.1 q.2
  | [], s, h => ⟨0, (.nxt, s), by simp only [rounds, h.1, isItr, beq_self_eq_true, if_true], h.2⟩
  | p :: r, s, h => by
    obtain ⟨h1, n, s1, h2, n', ⟨e, s2⟩, h3, h4⟩ := h
    have up : ∀ m, max n n' ≤ m → execOps ft (run ft m) post (((s.put (some nx) .undef).put (some ok) .undef).put (some en) (.tup [p.1, p.2])) = some s1 ∧ exec ft (run ft m) m tail s1 = some (e, s2) := fun m hm =>
      ⟨execOps_mono (run_mono (show n ≤ m by omega)) h2, exec_mono (run_mono (show n' ≤ m by omega)) (show n' ≤ m by omega) h3⟩
    have go : Rw ft post tail it nx ok i0 en B Cc K r s2 → ∃ m q, max n n' ≤ m ∧ rounds (execOps ft (run ft m) post) (exec ft (run ft m) m tail) it nx ok i0 en B Cc r s2 = some q ∧ K q.1 q.2 := fun h5 => by
      obtain ⟨m, q, h6, h7⟩ := Rw_rounds r s2 h5
      exact ⟨max m (max n n'), q, Nat.le_max_right _ _, rounds_mono (fun _ _ h => execOps_mono (run_mono (Nat.le_max_left _ _)) h) (fun _ _ h => exec_mono (run_mono (Nat.le_max_left _ _)) (Nat.le_max_left _ _) h) r s2 q h6, h7⟩
    cases e with
    | nxt =>
      obtain ⟨m, q, hm, h6, h7⟩ := go h4
      refine ⟨m, q, ?_, h7⟩
      simp only [rounds, h1, isItr, beq_self_eq_true, if_true, (up m hm).1, (up m hm).2, Option.bind_some, h6]
    | ret =>
      refine ⟨max n n', (.ret, s2), ?_, h4⟩
      simp only [rounds, h1, isItr, beq_self_eq_true, if_true, (up _ (Nat.le_refl _)).1, (up _ (Nat.le_refl _)).2, Option.bind_some]
    | out j =>
      dsimp only at h4
      by_cases hj : j = Cc
      · rw [if_pos hj] at h4
        obtain ⟨m, q, hm, h6, h7⟩ := go h4
        refine ⟨m, q, ?_, h7⟩
        simp only [rounds, h1, isItr, beq_self_eq_true, if_true, (up m hm).1, (up m hm).2, Option.bind_some, if_pos hj, h6]
      · rw [if_neg hj] at h4
        refine ⟨max n n', (if j = B then .nxt else .out j, s2), ?_, h4⟩
        simp only [rounds, h1, isItr, beq_self_eq_true, if_true, (up _ (Nat.le_refl _)).1, (up _ (Nat.le_refl _)).2, Option.bind_some, if_neg hj]
/-- A loop over a map, whose rounds in every order end in one way and one state. -/
theorem W_rngm {x : Src} {it nx ok en B Cc : Nat} {pre post : List AI} {tail : ACode} {fg : List Nat} {s : St} {Q : Ex → St → Prop}
    (h : Wo ft pre s fun s0 => ∃ mid kvs ek e s', s0.ev x = .mp mid ∧ s0.mem.blks[mid]? = some (.mp kvs ek) ∧ Q e s' ∧ ∀ π, π.Perm kvs →
      Rw ft post tail it nx ok s0.mem.blks.length en B Cc (fun e1 s1 => e1 = e ∧ s1.clean s0.mem.blks.length mid (.mp kvs ek) (it :: nx :: ok :: en :: fg) = s') π (s0.rngIn mid it nx ok en)) :
    W ft (.rngm x it nx ok en pre post B Cc tail fg) s Q := by
  obtain ⟨n, s0, h1, mid, kvs, ek, e, s', h2, h3, h4, h5⟩ := h
  obtain ⟨n', hn'⟩ := bound_perm kvs.length (fun n π => ∃ q, rounds (execOps ft (run ft n) post) (exec ft (run ft n) n tail) it nx ok s0.mem.blks.length en B Cc π (s0.rngIn mid it nx ok en) = some q ∧ q.1 = e ∧ q.2.clean s0.mem.blks.length mid (.mp kvs ek) (it :: nx :: ok :: en :: fg) = s')
    (fun n n' π hle ⟨q, h6, h7⟩ => ⟨q, rounds_mono (fun _ _ h => execOps_mono (run_mono hle) h) (fun _ _ h => exec_mono (run_mono hle) hle h) π _ q h6, h7⟩) kvs rfl (fun π hπ => Rw_rounds π _ (h5 π hπ))
  have l1 := Nat.le_max_left n n'
  have l2 := Nat.le_max_right n n'
  refine ⟨max n n', (e, s'), ?_, h4⟩
  simp only [exec]
  rw [execOps_mono (run_mono l1) h1, Option.bind_some]
  simp only [h2, h3]
  rw [allSame_eq]
  intro π hπ
  obtain ⟨q, h6, h7, h8⟩ := hn' π hπ
  rw [rounds_mono (fun _ _ h => execOps_mono (run_mono l2) h) (fun _ _ h => exec_mono (run_mono l2) l2 h) π _ q h6, Option.map_some, h7, h8]
/-- The rounds, by what holds when some entries are done. -/
theorem Rw_inv {post : List AI} {tail : ACode} {it nx ok i0 en B Cc : Nat} {K : Ex → St → Prop} {kvs : List (AV × AV)} (I : List (AV × AV) → St → Prop)
    (step : ∀ done p rest s, (done ++ p :: rest).Perm kvs → I done s → s.env it = .itr i0 ∧ Wo ft post (((s.put (some nx) .undef).put (some ok) .undef).put (some en) (.tup [p.1, p.2])) fun s1 => W ft tail s1 fun e s2 => match e with
      | .nxt => I (done ++ [p]) s2
      | .out j => if j = Cc then I (done ++ [p]) s2 else K (if j = B then .nxt else .out j) s2
      | .ret => K .ret s2)
    (last : ∀ done s, done.Perm kvs → I done s → s.env it = .itr i0 ∧ K .nxt s) : ∀ (rest done : List (AV × AV)) (s : St), (done ++ rest).Perm kvs → I done s → Rw ft post tail it nx ok i0 en B Cc K rest s
  | [], done, s, hp, hI => last done s (by rw [List.append_nil] at hp; exact hp) hI
  | p :: r, done, s, hp, hI => by
    obtain ⟨h1, n, s1, h2, h3⟩ := step done p r s hp hI
    have ih : ∀ s2, I (done ++ [p]) s2 → Rw ft post tail it nx ok i0 en B Cc K r s2 := fun s2 hI2 => Rw_inv I step last r (done ++ [p]) s2 (by rw [List.append_assoc]; exact hp) hI2
    refine ⟨h1, n, s1, h2, W_mono h3 fun e s2 q => ?_⟩
    cases e with
    | nxt => exact ih s2 q
    | ret => exact q
    | out j =>
      dsimp only at q ⊢
      by_cases hj : j = Cc
      · rw [if_pos hj] at q ⊢; exact ih s2 q
      · rw [if_neg hj] at q ⊢; exact q
/-- Over no map there are no rounds. -/
theorem W_rngm_nil {x : Src} {it nx ok en B Cc : Nat} {pre post : List AI} {tail : ACode} {fg : List Nat} {s : St} {Q : Ex → St → Prop}
    (h : Wo ft pre s fun s0 => s0.ev x = .nilm ∧ Q .nxt ⟨fun t => if [it, nx, ok, en].contains t = true then .undef else s0.env t, s0.mem⟩) : W ft (.rngm x it nx ok en pre post B Cc tail fg) s Q := by
  obtain ⟨n, s0, h1, h2, h3⟩ := h
  refine ⟨n, (.nxt, ⟨fun t => if [it, nx, ok, en].contains t = true then .undef else s0.env t, s0.mem⟩), ?_, h3⟩
  simp only [exec]
  rw [h1, Option.bind_some]
  simp only [h2]
end Go.Ab
end

section
/-
  Loops over maps whose rounds only gather into slots; the question whether a slice is nil.
-/
namespace Go.Ab
variable {ft : FuncId → Option AFn}
theorem Wo_mono {ops : List AI} {s : St} {Q Q' : St → Prop} (h : Wo ft ops s Q) (hq : ∀ s, Q s → Q' s) : Wo ft ops s Q' :=
  let ⟨n, s', h1, h2⟩ := h; ⟨n, s', h1, hq _ h2⟩
/-- A loop over a map: what the slots hold depends on the entries done, and at the end not on their order; each round makes as many blocks. -/
def RngF (ft : FuncId → Option AFn) (x : Src) (it nx ok en Cc : Nat) (post : List AI) (tail : ACode) (fg : List Nat) (kvs : List (AV × AV)) (E : (Nat → AV) → List (AV × AV) → Nat → AV) (c : Nat) (s0 : St) [q : Kq] : Prop :=
  ∃ mid ek, s0.ev x = .mp mid ∧ s0.mem.blks[mid]? = some (.mp kvs ek) ∧ (∀ t, (it :: nx :: ok :: en :: fg).contains t = false → s0.env t = E s0.env [] t) ∧
    q.k .nxt ⟨fun t => if (it :: nx :: ok :: en :: fg).contains t = true then .undef else E s0.env kvs t, ⟨s0.mem.blks ++ List.replicate (c * kvs.length + 1) .dead, s0.mem.toks⟩⟩ ∧
    (∀ π, π.Perm kvs → ∀ t, (it :: nx :: ok :: en :: fg).contains t = false → E s0.env π t = E s0.env kvs t) ∧
    ∀ (dn : List (AV × AV)) (p : AV × AV) (rest : List (AV × AV)) (e' : Nat → AV) (junk : List Blk), (dn ++ p :: rest).Perm kvs → e' it = .itr s0.mem.blks.length → (∀ t, (it :: nx :: ok :: en :: fg).contains t = false → e' t = E s0.env dn t) →
      Wo ft post ⟨upd (upd (upd e' nx .undef) ok .undef) en (.tup [p.1, p.2]), ⟨s0.mem.blks.set mid .dead ++ (.dead :: junk), s0.mem.toks⟩⟩ fun s1 => W ft tail s1 fun x s2 => (x = .nxt ∨ x = .out Cc) ∧ s2.env it = .itr s0.mem.blks.length ∧
        (∀ t, (it :: nx :: ok :: en :: fg).contains t = false → s2.env t = E s0.env (dn ++ [p]) t) ∧ ∃ more, more.length = c ∧ s2.mem = ⟨s0.mem.blks.set mid .dead ++ (.dead :: (junk ++ more)), s0.mem.toks⟩
theorem W_rngm_fold {x : Src} {it nx ok en B Cc : Nat} {pre post : List AI} {tail : ACode} {fg : List Nat} {s : St} {Q : Ex → St → Prop} (kvs : List (AV × AV)) (E : (Nat → AV) → List (AV × AV) → Nat → AV) (c : Nat)
    (h : Wo ft pre s fun s0 => @RngF ft x it nx ok en Cc post tail fg kvs E c s0 ⟨Q⟩) :
    W ft (.rngm x it nx ok en pre post B Cc tail fg) s Q := by
  refine W_rngm (Wo_mono h ?_)
  rintro ⟨e, ⟨bl, tk⟩⟩ ⟨mid, ek, h1, h2, h3, h4, h5, h6⟩
  dsimp only at h2 h3 h4 h5 h6
  have h4 : Q .nxt ⟨fun t => if (it :: nx :: ok :: en :: fg).contains t = true then .undef else E e kvs t, ⟨bl ++ List.replicate (c * kvs.length + 1) .dead, tk⟩⟩ := h4
  have hmlt := (List.getElem?_eq_some_iff.1 h2).1
  refine ⟨mid, kvs, ek, .nxt, _, h1, h2, h4, fun π hπ => ?_⟩
  refine Rw_inv (kvs := kvs) (fun dn s => s.env it = .itr bl.length ∧ (∀ t, (it :: nx :: ok :: en :: fg).contains t = false → s.env t = E e dn t) ∧ ∃ junk, junk.length = c * dn.length ∧ s.mem = ⟨bl.set mid .dead ++ (.dead :: junk), tk⟩) ?_ ?_ π [] _ hπ ?_
  · rintro dn p rest ⟨e', m⟩ hp ⟨g1, g2, junk, hj, rfl⟩
    dsimp only at g1 g2 ⊢
    refine ⟨g1, Wo_mono (h6 dn p rest e' junk hp g1 g2) fun s1 hs1 => W_mono hs1 ?_⟩
    rintro x s2 ⟨hx, k1, k2, more, hm, k3⟩
    have hI : s2.env it = .itr bl.length ∧ (∀ t, (it :: nx :: ok :: en :: fg).contains t = false → s2.env t = E e (dn ++ [p]) t) ∧ ∃ junk, junk.length = c * (dn ++ [p]).length ∧ s2.mem = ⟨bl.set mid .dead ++ (.dead :: junk), tk⟩ :=
      ⟨k1, k2, junk ++ more, by simp [hj, hm, Nat.mul_add], k3⟩
    rcases hx with rfl | rfl
    · exact hI
    · dsimp only
      rw [if_pos rfl]; exact hI
  · rintro dn ⟨e', m⟩ hp ⟨g1, g2, junk, hj, hm⟩
    dsimp only at g1 g2 hm ⊢
    subst hm
    refine ⟨g1, rfl, ?_⟩
    have hmem : (St.clean ⟨e', ⟨bl.set mid .dead ++ (.dead :: junk), tk⟩⟩ bl.length mid (.mp kvs ek) (it :: nx :: ok :: en :: fg)).mem = ⟨bl ++ List.replicate (c * kvs.length + 1) .dead, tk⟩ := by
      have h1 : (bl.set mid .dead ++ (Blk.dead :: junk)).take bl.length = bl.set mid .dead := by rw [List.take_append_of_le_length (by simp), List.take_of_length_le (by simp)]
      have h2' : (bl.set mid .dead ++ (Blk.dead :: junk)).drop bl.length = Blk.dead :: junk := by rw [List.drop_append_of_le_length (by simp), List.drop_of_length_le (by simp)]; rfl
      have h3 : (bl.set mid .dead).set mid (.mp kvs ek) = bl := by
        rw [List.set_set]
        refine List.ext_getElem? fun i => ?_
        by_cases hi : mid = i
        · subst hi; rw [List.getElem?_set_self hmlt, h2]
        · rw [List.getElem?_set_ne hi]
      have h4 : (Blk.dead :: junk).map (fun _ => Blk.dead) = List.replicate (c * kvs.length + 1) Blk.dead := by
        rw [List.map_const', List.length_cons, hj, hp.length_eq]
      show Mem.mk (((bl.set mid .dead ++ (Blk.dead :: junk)).take bl.length).set mid (.mp kvs ek) ++ ((bl.set mid .dead ++ (Blk.dead :: junk)).drop bl.length).map fun _ => .dead) tk = _
      rw [h1, h2', h3, h4]
    have henv : (St.clean ⟨e', ⟨bl.set mid .dead ++ (.dead :: junk), tk⟩⟩ bl.length mid (.mp kvs ek) (it :: nx :: ok :: en :: fg)).env = fun t => if (it :: nx :: ok :: en :: fg).contains t = true then .undef else E e kvs t := by
      funext t
      show (if (it :: nx :: ok :: en :: fg).contains t = true then AV.undef else e' t) = _
      cases ht : (it :: nx :: ok :: en :: fg).contains t
      · rw [if_neg (by decide), if_neg (by decide), g2 t ht, h5 dn hp t ht]
      · rfl
    exact (fun (s : St) (a : Nat → AV) (b : Mem) (h1 : s.env = a) (h2 : s.mem = b) => (show s = ⟨a, b⟩ by cases s; cases h1; cases h2; rfl)) _ _ _ henv hmem
  · refine ⟨?_, fun t ht => ?_, [], by simp, rfl⟩
    · show (if it = it then AV.itr bl.length else _) = _
      rw [if_pos rfl]
    · have ht' := ht
      simp only [List.contains_cons, Bool.or_eq_false_iff, beq_eq_false_iff_ne, ne_eq] at ht'
      show (if t = it then AV.itr bl.length else if [nx, ok, en].contains t = true then AV.undef else e t) = _
      rw [if_neg ht'.1, if_neg (by simp only [List.contains_cons, List.contains_nil, Bool.or_false, Bool.or_eq_true, beq_iff_eq, not_or]; exact ⟨ht'.2.1, ht'.2.2.1, ht'.2.2.2.1⟩)]
      exact h3 t ht
/-- The question whether a slice is nil: what must hold behind it. -/
def NilQ (ft : FuncId → Option AFn) (v : AV) (s : St) (t : Nat) (c : ACode) (fg : List Nat) [q : Kq] : Prop :=
  (∃ e es tk, v = .sl (e :: es) tk ∧ W ft c (s.put (some t) (.bool false)) fun x s' => q.k x (s'.forget fg)) ∨
  (∃ id off len, v = .ref id off len ∧ (lsz s.mem id).isSome = true ∧ W ft c (s.put (some t) (.bool false)) fun x s' => q.k x (s'.forget fg)) ∨
  (∃ tk x0 s0, v = .sl [] tk ∧ q.k x0 s0 ∧ ∀ b, W ft c (s.put (some t) (.bool b)) fun x s' => x = x0 ∧ s'.forget fg = s0)
theorem W_nilq {pre : List AI} {x : Src} {t : Nat} {c : ACode} {fg : List Nat} {s : St} {Q : Ex → St → Prop} (h : Wo ft pre s fun s0 => @NilQ ft (s0.ev x) s0 t c fg ⟨Q⟩) : W ft (.nilq pre x t c fg) s Q := by
  obtain ⟨n, s0, h1, h2⟩ := h
  have one : ∀ {b : Bool} {P : Ex → St → Prop}, W ft c (s0.put (some t) (.bool b)) (fun x s' => P x (s'.forget fg)) → ∃ n' q, (∀ m, n' ≤ m → (exec ft (run ft m) m c (s0.put (some t) (.bool b))).map (fun p => (p.1, p.2.forget fg)) = some q) ∧ P q.1 q.2 := fun {b P} hw => by
    obtain ⟨n', ⟨x1, s1⟩, h3, h4⟩ := hw
    exact ⟨n', (x1, s1.forget fg), fun m hm => by rw [exec_mono (run_mono hm) hm h3]; rfl, h4⟩
  rcases h2 with ⟨e, es, tk, hv, hw⟩ | ⟨id, off, len, hv, hl, hw⟩ | ⟨tk, x0, s1, hv, hq, hw⟩
  · obtain ⟨n', q, h3, h4⟩ := one hw
    refine ⟨max n n', q, ?_, h4⟩
    simp only [exec]
    rw [execOps_mono (run_mono (Nat.le_max_left n n')) h1, Option.bind_some]
    simp only [hv]
    exact h3 _ (Nat.le_max_right _ _)
  · obtain ⟨n', q, h3, h4⟩ := one hw
    refine ⟨max n n', q, ?_, h4⟩
    simp only [exec]
    rw [execOps_mono (run_mono (Nat.le_max_left n n')) h1, Option.bind_some]
    simp only [hv, hl, if_true]
    exact h3 _ (Nat.le_max_right _ _)
  · obtain ⟨n1, q1, h3, h4⟩ := one (P := fun x s' => x = x0 ∧ s' = s1) (hw true)
    obtain ⟨n2, q2, h5, h6⟩ := one (P := fun x s' => x = x0 ∧ s' = s1) (hw false)
    obtain ⟨x1, s2⟩ := q1
    obtain ⟨rfl, rfl⟩ : x1 = x0 ∧ s2 = s1 := h4
    obtain ⟨x3, s3⟩ := q2
    obtain ⟨rfl, rfl⟩ : x3 = x1 ∧ s3 = s2 := h6
    refine ⟨max n (max n1 n2), (x3, s3), ?_, hq⟩
    simp only [exec]
    rw [execOps_mono (run_mono (Nat.le_max_left n _)) h1, Option.bind_some]
    simp only [hv]
    exact both_eq.2 ⟨h3 _ (by omega), h5 _ (by omega)⟩
end Go.Ab
end
