/- What a function of the program computes, as a function of typed data: its code is run on a typed frame. -/
import Derived.Test.YtlmhokakghbciaaLiftA
import Derived.Test.YtlmhokakghbciaaLiftT
namespace Go.Lift

inductive Step where
  | fld (i : Nat)
  | idx (i : Int)

/-- what is known of the room behind a slice: nothing; that there is none; that it is this call's own -/
inductive Tip where
  | no
  | full
  | own (k : Nat) (e : TypeId)

inductive AV where
  | any
  | val (v : TV) (tip : Tip)
  | loc (id : Nat) (p : List Step)
  | tup (l : List TV)

/-- the element at a place -/
abbrev nth {α : Type} (l : List α) (i : Nat) : Option α := l[i]?

structure Fr where
  s : List (Nat × AV)
  l : List (Nat × Bool × TV)

def lk {α : Type} (i : Nat) : List (Nat × α) → Option α
  | [] => none
  | (j, a) :: r => bif Nat.beq i j then some a else lk i r

@[reducible] def resDen : List Ty → Type
  | [] => Unit
  | [t] => t.den
  | t :: u :: ts => t.den × resDen (u :: ts)

def TV.as (t : Ty) (v : TV) : Option t.den := if h : v.1 = t then some (h ▸ v.2) else none

def packL : (ts : List Ty) → List TV → Option (resDen ts)
  | [], [] => some ()
  | [t], [v] => TV.as t v
  | t :: u :: ts, v :: vs => (TV.as t v).bind fun x => (packL (u :: ts) vs).bind fun r => some (x, r)
  | _, _ => none

def unpackL : (ts : List Ty) → resDen ts → List TV
  | [], _ => []
  | [t], x => [⟨t, x⟩]
  | t :: u :: ts, x => ⟨t, x.1⟩ :: unpackL (u :: ts) x.2

structure Fn where
  ps : List Ty
  rs : List Ty
  F : resDen ps → Option (resDen rs)

structure Env where
  tab : List (TypeId × Ty)
  fs : List (FuncId × Fn)
  live : List (Nat × List Nat × List Nat)
  rep : (α : Type) → Nat → α → List α := fun _ => List.replicate

/-- constants -/
def readSeq {α : Type} (f : List Value → Option α) (n : Nat) : Nat → List Value → Option (List α)
  | 0, [] => some []
  | 0, _ :: _ => none
  | k + 1, cs => (f (cs.take n)).bind fun x => (readSeq f n k (cs.drop n)).bind fun xs => some (x :: xs)

def rdInt (k : IntKind) : List Value → Option Int
  | [.int k' x] => if k' = k ∧ k.min ≤ x ∧ x ≤ k.max then some x else none
  | _ => none
def rdBool : List Value → Option Bool
  | [.bool b] => some b
  | _ => none
def rdStr : List Value → Option (List Int)
  | [.string s] => if s.size ≤ maxLen then some (s.data.toList.map (fun b => (b.toNat : Int))) else none
  | _ => none
def rdNil {α : Type} : List Value → Option (List α)
  | [.slice none 0 0] => some []
  | _ => none
def rdUnit : List Value → Option Unit
  | [] => some ()
  | _ => none

def rdIfc : List Value → Option (Option (Option (Nat × Int)))
  | [.nilIface] => some none
  | _ => none

def readC : (t : Ty) → List Value → Option t.den
  | .int k, cs => rdInt k cs
  | .bool, cs => rdBool cs
  | .str, cs => rdStr cs
  | .slice _, cs => rdNil cs
  | .arr n e, cs => readSeq (readC e) e.n n cs
  | .unit, cs => rdUnit cs
  | .pair a b, cs => (readC a (cs.take a.n)).bind fun x => (readC b (cs.drop a.n)).bind fun y => some (x, y)
  | .ptr _, _ => none
  | .ifc, cs => rdIfc cs
  | .mp _ _, _ => none
  | .fn, _ => none
  | .nes _, cs => rdNil cs

def zeroD : (t : Ty) → Option t.den
  | .int _ => some (0 : Int)
  | .bool => some false
  | .str => some []
  | .slice _ => some []
  | .arr n e => (zeroD e).bind fun x => some (List.replicate n x)
  | .unit => some ()
  | .pair a b => (zeroD a).bind fun x => (zeroD b).bind fun y => some (x, y)
  | .ptr _ => none
  | .ifc => some none
  | .mp _ _ => none
  | .fn => none
  | .nes _ => some []

def zeroCells : Ty → List Value
  | .int k => [.int k 0]
  | .bool => [.bool false]
  | .str => [.string .empty]
  | .slice _ => [.slice none 0 0]
  | .arr n e => (List.replicate n (zeroCells e)).flatten
  | .unit => []
  | .pair a b => zeroCells a ++ zeroCells b
  | .ptr _ => [.pointer none]
  | .ifc => [.nilIface]
  | .mp _ _ => [.map none]
  | .fn => [.nilFunc]
  | .nes _ => [.slice none 0 0]

def ctip : Value → Tip
  | .slice none 0 0 => .full
  | _ => .no

def kindOk (t : Ty) : Value → Bool
  | .agg _ => t.isAgg
  | .tuple _ => false
  | _ => !t.isAgg

def evT (ty : Option Ty) (x : Operand) (fr : Fr) : AV :=
  match x with
  | .tmp i => (lk i fr.s).getD .any
  | .const v => match ty with
    | some t => match kindOk t v, readC t v.cells.toList with
      | true, some x => .val ⟨t, x⟩ (ctip v)
      | _, _ => .any
    | none => .any
  | .global g => match lk g glTab with
    | some v => .val ⟨.ptr v.1, v.2⟩ .no
    | none => .any
  | _ => .any

def ev (E : Env) (t : TypeId) (x : Operand) (fr : Fr) : AV := evT (lk t E.tab) x fr

/-- a part of a value, and a value with another part -/
def getP : (t : Ty) → t.den → List Step → Option TV
  | t, x, [] => some ⟨t, x⟩
  | .pair a _, x, .fld 0 :: p => getP a x.1 p
  | .pair _ b, x, .fld (n + 1) :: p => getP b x.2 (.fld n :: p)
  | .arr _ e, xs, .idx i :: p => (nth xs i.toNat).bind fun x => getP e x p
  | _, _, _ => none

/-- the same, handed on -/
def getK {α : Type} (k : TV → Option α) : (t : Ty) → t.den → List Step → Option α
  | t, x, [] => k ⟨t, x⟩
  | .pair a _, x, .fld 0 :: p => getK k a x.1 p
  | .pair _ b, x, .fld (n + 1) :: p => getK k b x.2 (.fld n :: p)
  | .arr _ e, xs, .idx i :: p => (nth xs i.toNat).bind fun x => getK k e x p
  | _, _, _ => none

theorem getK_eq {α : Type} (k : TV → Option α) : ∀ (t : Ty) (x : t.den) (p : List Step), getK k t x p = (getP t x p).bind k := by
  intro t x p
  fun_induction getK k t x p <;> simp_all [getP, Option.bind_assoc]

def offP : (t : Ty) → List Step → Option (Nat × Ty)
  | t, [] => some (0, t)
  | .pair a _, .fld 0 :: p => offP a p
  | .pair a b, .fld (n + 1) :: p => (offP b (.fld n :: p)).bind fun r => some (a.n + r.1, r.2)
  | .arr n e, .idx i :: p => if 0 ≤ i ∧ i < n then (offP e p).bind fun r => some (i.toNat * e.n + r.1, r.2) else none
  | _, _ => none

def typP : Ty → List Step → Option Ty
  | t, [] => some t
  | .pair a _, .fld 0 :: p => typP a p
  | .pair _ b, .fld (n + 1) :: p => typP b (.fld n :: p)
  | .arr _ e, .idx _ :: p => typP e p
  | _, _ => none

def setP (v : TV) : (t : Ty) → t.den → List Step → Option t.den
  | t, _, [] => TV.as t v
  | .pair a _, x, .fld 0 :: p => (setP v a x.1 p).bind fun y => some (y, x.2)
  | .pair _ b, x, .fld (n + 1) :: p => (setP v b x.2 (.fld n :: p)).bind fun y => some (x.1, y)
  | .arr _ e, xs, .idx i :: [] => (TV.as e v).bind fun y => some (List.set xs i.toNat y)
  | .arr _ e, xs, .idx i :: s :: p => (nth xs i.toNat).bind fun x => (setP v e x (s :: p)).bind fun y => some (List.set xs i.toNat y)
  | _, _, _ => none

/-- the element at an index -/
def getI {α : Type} (xs : List α) (i : Int) : Option α := bif decide (0 ≤ i) then xs[i.toNat]? else none

def lim : Nat := 68719476736
/-- how long a slice of numbers may be -/
def lim8 : Nat := 17592186044416

def decD : (t : Ty) → DecidableEq t.den
  | .int _ => inferInstanceAs (DecidableEq Int)
  | .bool => inferInstanceAs (DecidableEq Bool)
  | .str => inferInstanceAs (DecidableEq (List Int))
  | .slice e => @instDecidableEqList _ (decD e)
  | .arr _ e => @instDecidableEqList _ (decD e)
  | .unit => inferInstanceAs (DecidableEq Unit)
  | .pair a b => @instDecidableEqProd _ _ (decD a) (decD b)
  | .ptr e => decD e
  | .ifc => inferInstanceAs (DecidableEq (Option (Option (Nat × Int))))
  | .mp _ _ => inferInstanceAs (DecidableEq Empty)
  | .fn => inferInstanceAs (DecidableEq Empty)
  | .nes e => @instDecidableEqList _ (decD e)

def eqD (t : Ty) (x y : t.den) : Bool := @decide (x = y) (decD t x y)

section
variable {α : Type}

def iopK (op : BinOp) (kx : IntKind) (m : Int) (ky : IntKind) (n : Int) (k : AV → Option α) : Option α :=
  match op with
  | .shl => bif decide (n < 0) then none else k (.val ⟨.int kx, kx.wrap (m * 2 ^ (min n.toNat kx.bits))⟩ .no)
  | .shr => bif decide (n < 0) then none else k (.val ⟨.int kx, m.fdiv (2 ^ (min n.toNat kx.bits))⟩ .no)
  | op => if kx = ky then
      match op with
      | .add => k (.val ⟨.int kx, kx.wrap (m + n)⟩ .no)
      | .sub => k (.val ⟨.int kx, kx.wrap (m - n)⟩ .no)
      | .mul => k (.val ⟨.int kx, kx.wrap (m * n)⟩ .no)
      | .quo => bif n == 0 then none else k (.val ⟨.int kx, kx.wrap (m.tdiv n)⟩ .no)
      | .rem => bif n == 0 then none else k (.val ⟨.int kx, m.tmod n⟩ .no)
      | .and => k (.val ⟨.int kx, bits .and kx m n⟩ .no)
      | .or => k (.val ⟨.int kx, bits .or kx m n⟩ .no)
      | .xor => k (.val ⟨.int kx, bits .xor kx m n⟩ .no)
      | .andNot => k (.val ⟨.int kx, bits .andNot kx m n⟩ .no)
      | .eql => k (.val ⟨.bool, m == n⟩ .no)
      | .neq => k (.val ⟨.bool, m != n⟩ .no)
      | .lss => k (.val ⟨.bool, decide (m < n)⟩ .no)
      | .leq => k (.val ⟨.bool, decide (m ≤ n)⟩ .no)
      | .gtr => k (.val ⟨.bool, decide (m > n)⟩ .no)
      | .geq => k (.val ⟨.bool, decide (m ≥ n)⟩ .no)
      | _ => none
    else none

/-- how deep a value is -/
def Ty.dep : Ty → Nat
  | .arr _ e => e.dep + 1
  | .pair a b => max (a.dep + 1) b.dep
  | _ => 1

/-- the table says this of a type -/
def tyIs (o : Option Ty) (t : Ty) : Bool := decide (o = some t)

def binK (tt : Option Ty) (op : BinOp) (x y : AV) (k : AV → Option α) : Option α :=
  match x, y with
  | .val ⟨.int kx, m⟩ _, .val ⟨.int ky, n⟩ _ => iopK op kx m ky n k
  | .val ⟨.bool, a⟩ _, .val ⟨.bool, b⟩ _ =>
    bif tyIs tt .bool then
      match op with
      | .eql => k (.val ⟨.bool, a == b⟩ .no)
      | .neq => k (.val ⟨.bool, !(a == b)⟩ .no)
      | _ => none
    else none
  | .val ⟨.str, a⟩ _, .val ⟨.str, b⟩ _ =>
    match op with
    | .eql => k (.val ⟨.bool, eqD .str a b⟩ .no)
    | .neq => k (.val ⟨.bool, !(eqD .str a b)⟩ .no)
    | .add => bif Nat.ble (List.length a + List.length b) lim then k (.val ⟨.str, List.append a b⟩ .no) else none
    | _ => none
  | .val ⟨t, a⟩ _, .val ⟨u, b⟩ _ => bif t.isAgg && (t.flat && (Nat.ble t.dep 99 && tyIs tt t)) then
      (TV.as t ⟨u, b⟩).bind fun b =>
        match op with
        | .eql => k (.val ⟨.bool, eqD t a b⟩ .no)
        | .neq => k (.val ⟨.bool, !(eqD t a b)⟩ .no)
        | _ => none
    else none
  | _, _ => none

def isNilC : Operand → Bool
  | .const .nilIface => true
  | _ => false

/-- an interface, compared with nil -/
def ifcK (tt : Option Ty) (op : BinOp) (x : AV) (k : AV → Option α) : Option α :=
  match x with
  | .val ⟨.ifc, a⟩ _ => bif tyIs tt .ifc then
      match op with
      | .eql => k (.val ⟨.bool, Option.isNone a⟩ .no)
      | .neq => k (.val ⟨.bool, !(Option.isNone a)⟩ .no)
      | _ => none
    else none
  | _ => none

/-- two interfaces: the other one holds a number of a type -/
def ifcEq (a : Option (Option (Nat × Int))) (q : Nat × Int) : Option Bool :=
  match a with
  | none => some false
  | some none => none
  | some (some p) => some (Nat.beq p.1 q.1 && decide (p.2 = q.2))
def ifcQ (tab : List (TypeId × Ty)) (b : Option (Option (Nat × Int))) : Option (Nat × Int) :=
  match b with
  | some (some q) => bif tyIs (lk q.1 tab) (.int .i64) then some q else none
  | _ => none
def ifc2K (tab : List (TypeId × Ty)) (tt : Option Ty) (op : BinOp) (x y : AV) (k : AV → Option α) (alt : Option α) : Option α :=
  match x, y with
  | .val ⟨.ifc, a⟩ _, .val ⟨.ifc, b⟩ _ => bif tyIs tt .ifc then (ifcQ tab b).bind fun q => (ifcEq a q).bind fun r =>
      match op with
      | .eql => k (.val ⟨.bool, r⟩ .no)
      | .neq => k (.val ⟨.bool, !r⟩ .no)
      | _ => none
    else none
  | _, _ => alt

/-- an interface is made -/
def mkI (T : TypeId) (tt : Option Ty) (x : AV) (k : AV → Option α) : Option α :=
  match tt with
  | some (.int .i64) => match x with
    | .val ⟨.int .i64, n⟩ _ => k (.val ⟨.ifc, some (some (T, n))⟩ .no)
    | _ => none
  | _ => none

def unK (op : UnOp) (x : AV) (k : AV → Option α) : Option α :=
  match op, x with
  | .not, .val ⟨.bool, b⟩ _ => k (.val ⟨.bool, !b⟩ .no)
  | .neg, .val ⟨.int kx, n⟩ _ => k (.val ⟨.int kx, kx.wrap (0 - n)⟩ .no)
  | .xor, .val ⟨.int kx, n⟩ _ => k (.val ⟨.int kx, bits .xor kx (if kx.signed then -1 else kx.max) n⟩ .no)
  | _, _ => none

def convK (src dst : Option Ty) (x : AV) (k : AV → Option α) : Option α :=
  match dst, x with
  | some (.int kd), .val ⟨.int ks, n⟩ _ => bif tyIs src (.int ks) then k (.val ⟨.int kd, kd.wrap n⟩ .no) else none
  | some .str, .val ⟨.str, s⟩ _ => bif tyIs src .str then k (.val ⟨.str, s⟩ .no) else none
  | some .str, .val ⟨.slice (.int .u8), s⟩ _ => bif tyIs src (.slice (.int .u8)) then k (.val ⟨.str, s⟩ .no) else none
  | some .str, .val ⟨.int ks, n⟩ _ => bif tyIs src (.int ks) && (decide (0 ≤ n) && decide (n < 128)) then k (.val ⟨.str, [n]⟩ .no) else none
  | some (.slice (.int .u8)), .val ⟨.str, s⟩ _ => bif tyIs src .str then k (.val ⟨.slice (.int .u8), s⟩ .no) else none
  | _, _ => none

/-- a type whose values are slices -/
def isSl (tt : Option Ty) (e : Ty) : Bool := tyIs tt (.slice e) || tyIs tt (.nes e)

def lenK (tt : Option Ty) (x : AV) (k : AV → Option α) : Option α :=
  match x with
  | .val ⟨.slice e, xs⟩ _ => bif isSl tt e then k (.val ⟨.int .i64, (List.length xs : Int)⟩ .no) else none
  | .val ⟨.str, xs⟩ _ => bif tyIs tt .str then k (.val ⟨.int .i64, (List.length xs : Int)⟩ .no) else none
  | _ => none

def minK (x y : AV) (k : AV → Option α) : Option α :=
  match x, y with
  | .val ⟨.int kx, m⟩ _, .val ⟨.int ky, n⟩ _ => if kx = ky then k (.val ⟨.int kx, if n < m then n else m⟩ .no) else none
  | _, _ => none
def maxK (x y : AV) (k : AV → Option α) : Option α :=
  match x, y with
  | .val ⟨.int kx, m⟩ _, .val ⟨.int ky, n⟩ _ => if kx = ky then k (.val ⟨.int kx, if n > m then n else m⟩ .no) else none
  | _, _ => none

def fieldTV : (t : Ty) → t.den → Nat → Option TV
  | .pair a _, x, 0 => some ⟨a, x.1⟩
  | .pair _ b, x, n + 1 => fieldTV b x.2 n
  | _, _, _ => none

def fieldTy : Ty → Nat → Option Ty
  | .pair a _, 0 => some a
  | .pair _ b, n + 1 => fieldTy b n
  | _, _ => none

/-- what an argument stands for -/
def argTV (fr : Fr) : AV → Option TV
  | .val v _ => some v
  | .loc id p => (lk id fr.l).bind fun e => (getP e.2.1 e.2.2 p).bind fun v => some ⟨.ptr v.1, v.2⟩
  | _ => none

def argsTV (E : Env) (fr : Fr) : List Operand → List TypeId → Option (List TV)
  | [], [] => some []
  | x :: xs, t :: ts => (argTV fr (ev E t x fr)).bind fun v => (argsTV E fr xs ts).bind fun vs => some (v :: vs)
  | _, _ => none

def resAV : (rs : List Ty) → resDen rs → AV
  | [], _ => .any
  | [t], r => .val ⟨t, r⟩ .no
  | t :: u :: ts, r => .tup (unpackL (t :: u :: ts) r)

def anyLoc (E : Env) (fr : Fr) : List Operand → List TypeId → Bool
  | x :: xs, t :: ts => (match ev E t x fr with | .loc _ _ => true | _ => false) || anyLoc E fr xs ts
  | _, _ => false

def intOf? : AV → Option Int
  | .val ⟨.int _, n⟩ _ => some n
  | _ => none

/-- the part of a list between two bounds that may be missing -/
def cutK {β : Type} (xs : List β) (lo hi : Option AV) (k : List β → Option α) : Option α :=
  match lo, hi with
  | none, none => k xs
  | some a, none => (intOf? a).bind fun l => bif decide (0 ≤ l) && decide (l ≤ (xs.length : Int)) then k (xs.drop l.toNat) else none
  | none, some b => (intOf? b).bind fun h => bif decide (0 ≤ h) && decide (h ≤ (xs.length : Int)) then k (xs.take h.toNat) else none
  | some a, some b => (intOf? a).bind fun l => (intOf? b).bind fun h =>
      bif decide (0 ≤ l) && (decide (l ≤ h) && decide (h ≤ (xs.length : Int))) then k ((xs.take h.toNat).drop l.toNat) else none

/-- the parts of a literal: the first to the last one, in order -/
def partsTV (t : Ty) (fr : Fr) : Nat → List (Nat × Operand) → Option (List t.den)
  | _, [] => some []
  | i, (j, x) :: r => bif Nat.beq i j then
      match evT (some t) x fr with
      | .val v _ => (TV.as t v).bind fun y => (partsTV t fr (i + 1) r).bind fun ys => some (y :: ys)
      | _ => none
    else none

/-- a struct's literal: fields that are named, in order; the others are zero -/
def buildTV (fr : Fr) : (t : Ty) → Nat → List (Nat × Operand) → Option t.den
  | .unit, _, [] => some ()
  | .pair a b, i, [] => (zeroD a).bind fun x => (buildTV fr b (i + 1) []).bind fun y => some (x, y)
  | .pair a b, i, (j, o) :: r => bif Nat.beq i j then
      match evT (some a) o fr with
      | .val v _ => (TV.as a v).bind fun x => (buildTV fr b (i + 1) r).bind fun y => some (x, y)
      | _ => none
    else (zeroD a).bind fun x => (buildTV fr b (i + 1) ((j, o) :: r)).bind fun y => some (x, y)
  | _, _, _ => none

/-- an operation that gives a value and changes nothing that is known -/
def opV (E : Env) (o : Oper) (fr : Fr) (k : AV → Option α) : Option α :=
  match o.op with
  | .move x => k (ev E o.type x fr)
  | .assign x => k (ev E o.type x fr)
  | .pick c a b => match ev E o.type c fr with
    | .val ⟨.bool, c⟩ _ => bif c then k (ev E o.type a fr) else k (ev E o.type b fr)
    | _ => none
  | .binOp op t x y u => bif isNilC y then ifcK (lk t E.tab) op (ev E t x fr) k else ifc2K E.tab (lk t E.tab) op (ev E t x fr) (ev E u y fr) k (binK (lk t E.tab) op (ev E t x fr) (ev E u y fr) k)
  | .makeInterface T x => mkI T (lk T E.tab) (ev E T x fr) k
  | .unOp op t x => unK op (ev E t x fr) k
  | .convert src dst x => convK (lk src E.tab) (lk dst E.tab) (ev E src x fr) k
  | .nilCheck x => match ev E o.type x fr with
    | .loc id p => k (.loc id p)
    | .val ⟨.ptr t, x⟩ _ => k (.val ⟨.ptr t, x⟩ .no)
    | _ => none
  | .load T x => match ev E o.type x fr with
    | .loc id p => (lk id fr.l).bind fun e => getK (fun v => bif tyIs (lk T E.tab) v.1 then k (.val v .no) else none) e.2.1 e.2.2 p
    | .val ⟨.ptr t, x⟩ _ => bif tyIs (lk T E.tab) t then k (.val ⟨t, x⟩ .no) else none
    | _ => none
  | .fieldAddr T x f => match ev E o.type x fr with
    | .loc id p => (lk id fr.l).bind fun e => match typP e.2.1 p with
      | some t => bif tyIs (lk T E.tab) t && (fieldTy t f).isSome then k (.loc id (p ++ [.fld f])) else none
      | none => none
    | .val ⟨.ptr t, x⟩ _ => bif tyIs (lk T E.tab) t then (fieldTV t x f).bind fun v => k (.val ⟨.ptr v.1, v.2⟩ .no) else none
    | _ => none
  | .field T x f => match ev E o.type x fr with
    | .val ⟨t, x⟩ _ => bif tyIs (lk T E.tab) t then (fieldTV t x f).bind fun v => k (.val v .no) else none
    | _ => none
  | .indexAddr T x i => (intOf? (evT (some (.int .i64)) i fr)).bind fun i => match ev E o.type x fr with
    | .loc id p => (lk id fr.l).bind fun e => match typP e.2.1 p with
      | some (.arr n t) => bif tyIs (lk T E.tab) (.arr n t) then (bif decide (0 ≤ i) && decide (i < (n : Int)) then k (.loc id (p ++ [.idx i])) else none) else none
      | _ => none
    | .val ⟨.slice e, xs⟩ _ => bif isSl (lk T E.tab) e then (getI xs i).bind fun y => k (.val ⟨.ptr e, y⟩ .no) else none
    | .val ⟨.ptr (.arr n e), xs⟩ _ => bif tyIs (lk T E.tab) (.arr n e) then (getI xs i).bind fun y => k (.val ⟨.ptr e, y⟩ .no) else none
    | _ => none
  | .index t x i => (intOf? (evT (some (.int .i64)) i fr)).bind fun i => match ev E t x fr with
    | .val ⟨.arr n e, xs⟩ _ => bif tyIs (lk t E.tab) (.arr n e) then (getI xs i).bind fun y => k (.val ⟨e, y⟩ .no) else none
    | .val ⟨.str, xs⟩ _ => bif tyIs (lk t E.tab) .str then (getI xs i).bind fun y => k (.val ⟨.int .u8, y⟩ .no) else none
    | _ => none
  | .slice T x lo hi none => match ev E o.type x fr with
    | .val ⟨.slice e, xs⟩ _ => bif tyIs (lk T E.tab) (.slice e) then cutK xs (lo.map (evT (some (.int .i64)) · fr)) (hi.map (evT (some (.int .i64)) · fr)) fun ys => k (.val ⟨.slice e, ys⟩ .no) else none
    | .val ⟨.str, xs⟩ _ => bif tyIs (lk T E.tab) .str then cutK xs (lo.map (evT (some (.int .i64)) · fr)) (hi.map (evT (some (.int .i64)) · fr)) fun ys => k (.val ⟨.str, ys⟩ .no) else none
    | .val ⟨.ptr (.arr n e), xs⟩ _ => bif tyIs (lk T E.tab) (.arr n e) && Nat.ble n 1000000 then cutK xs (lo.map (evT (some (.int .i64)) · fr)) (hi.map (evT (some (.int .i64)) · fr)) fun ys => k (.val ⟨.slice e, ys⟩ .no) else none
    | .loc id [] => (lk id fr.l).bind fun e => bif e.1 then none else match e.2 with
      | ⟨.arr n t, xs⟩ => bif tyIs (lk T E.tab) (.arr n t) && Nat.ble n 1000000 then cutK xs (lo.map (evT (some (.int .i64)) · fr)) (hi.map (evT (some (.int .i64)) · fr)) fun ys => k (.val ⟨.slice t, ys⟩ .no) else none
      | _ => none
    | _ => none
  | .extract t i => match ev E o.type t fr with
    | .tup l => (l[i]?).bind fun v => k (.val v .no)
    | _ => none
  | .build t parts => (lk t E.tab).bind fun ty => match ty with
    | .arr n e => bif parts.toList.isEmpty then (zeroD (.arr n e)).bind fun y => k (.val ⟨.arr n e, y⟩ .no) else
      (partsTV e fr 0 parts.toList).bind fun ys => bif Nat.beq ys.length n && Nat.ble 1 e.n then k (.val ⟨.arr n e, ys⟩ .no) else none
    | ty => (buildTV fr ty 0 parts.toList).bind fun y => k (.val ⟨ty, y⟩ .no)
  | .buildSlice t n parts => (lk t E.tab).bind fun ty => match ty with
    | .slice e => (partsTV e fr 0 parts.toList).bind fun ys => bif Nat.beq ys.length n && (Nat.ble n 1000000 && (Nat.ble 1 e.n && Nat.ble (n * e.n) 1000000)) then k (.val ⟨.slice e, ys⟩ .full) else none
    | _ => none
  | .makeSlice t l c => (intOf? (evT (some (.int .i64)) l fr)).bind fun n => (intOf? (evT (some (.int .i64)) c fr)).bind fun m => (lk t E.tab).bind fun ty => match ty with
    | .slice e => bif decide (0 ≤ n) && (decide (n = m) && (decide (n ≤ 68719476736) && Nat.ble 1 e.n)) then (zeroD e).bind fun z => k (.val ⟨.slice e, E.rep e.den n.toNat z⟩ .full) else none
    | _ => none
  | .call { callee := .builtin .len, args, argTypes } => match args.toList, argTypes.toList with
    | [x], [t] => lenK (lk t E.tab) (ev E t x fr) k
    | _, _ => none
  | .call { callee := .builtin .min, args, argTypes } => match args.toList, argTypes.toList with
    | [x, y], [t, u] => minK (ev E t x fr) (ev E u y fr) k
    | _, _ => none
  | .call { callee := .builtin .max, args, argTypes } => match args.toList, argTypes.toList with
    | [x, y], [t, u] => maxK (ev E t x fr) (ev E u y fr) k
    | _, _ => none
  | .call { callee := .value (.func f), args, argTypes } => (lk f E.fs).bind fun fn =>
      bif anyLoc E fr args.toList argTypes.toList && !(fn.rs.all (·.flat)) then none else
      (argsTV E fr args.toList argTypes.toList).bind fun vs => (packL fn.ps vs).bind fun x => (fn.F x).bind fun r => k (resAV fn.rs r)
  | _ => none

def setS (fr : Fr) (d : Option Nat) (av : AV) : Fr :=
  match d with
  | some d => { fr with s := (d, av) :: fr.s }
  | none => fr

/-- of each operation, those that stand before it whatever the order is: as bits -/
def befOne (acc : List Nat) : List Edge → Nat
  | [] => 0
  | e :: r => bif Region.binds .any e then befOne acc r ||| (2 ^ e.on ||| acc.getD e.on 0) else befOne acc r
def befL : List Oper → List Nat → List Nat
  | [], acc => acc
  | o :: r, acc => befL r (acc ++ [befOne acc o.after.toList])

def rid : Code → Option Nat
  | .region id _ _ => some id
  | .seq a b => match rid a with
    | some i => some i
    | none => rid b
  | .cond _ a b => match rid a with
    | some i => some i
    | none => rid b
  | .block _ c => rid c
  | .scope c => rid c
  | .loop c => rid c
  | _ => none

end
end Go.Lift
