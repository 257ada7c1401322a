/- The wider reading: each operation, and code. -/
import Derived.Test.YtlmhokakghbciaaRiV
namespace Go.Lift
open Go.RowKit

/-- what is read on the spot: a function; a round of the loop over a function that is on top -/
inductive Tg where
  | fn (f : FuncId)
  | yl

/-- a function that is known by a contract; of which result it is that it is a slice of the caller's own -/
structure Fn2 where
  ps : List Ty
  rs : List Ty
  os : List Bool
  F : resDen ps → Option (resDen rs)

structure Env2 where
  tab : List (TypeId × Ty)
  fs : List (FuncId × Fn2)
  inl : List (FuncId × Func × LT)
  rep : (α : Type) → Nat → α → List α := fun _ => List.replicate
  rcs : List (FuncId × RecC) := []
  vl : List Nat := []
  ag : List Nat := []
  wd : Bool := false
  ow : List (FuncId × OwnC) := []

/-- how long what is appended to may become -/
def limE (E : Env2) (e : Ty) : Nat := match E.wd, e with
  | true, .int _ => lim8
  | _, _ => lim
/-- a struct that is kept by its parts -/
def agO (E : Env2) (o : Oper) : Bool := match o.dst with
  | some d => E.ag.any (Nat.beq d)
  | none => false
/-- a literal that is only read from the beginning -/
def vlO (E : Env2) (o : Oper) : Bool := match o.dst with
  | some d => E.vl.any (Nat.beq d)
  | none => false

def isNilV : Value → Bool
  | .slice none 0 0 => true
  | _ => false

def evR (ty : Option Ty) (x : Operand) (s : List (Nat × RV)) : RV :=
  match x with
  | .tmp i => (lk i s).getD .any
  | .const v => match ty with
    | some (.slice e) => bif isNilV v then .nil e else .any
    | some t => match kindOk t v, readC t v.cells.toList with
      | true, some y => .val ⟨t, y⟩
      | _, _ => .any
    | none => .any
  | .func f => .clo f .unit
  | .global g => match lk g glTab with
    | some v => .val ⟨.ptr v.1, v.2⟩
    | none => .any

def intR : RV → Option Int
  | .val ⟨.int _, n⟩ => some n
  | _ => none

def plainR : RV → Bool
  | .val _ => true
  | .nil _ => true
  | .unit => true
  | .pair a b => plainR a && plainR b
  | _ => false
def frozenR : RV → Bool
  | .val _ => true
  | .nil _ => true
  | .agg _ r => plainR r
  | _ => false

/-- a number, as a literal: the kernel reckons quickly only with numbers in which there are no variables -/
def withN {α : Type} (n : Nat) (k : Nat → α) : α :=
  match n with
  | 0 => k 0
  | m + 1 => k (m + 1)
theorem withN_eq {α : Type} (n : Nat) (k : Nat → α) : withN n k = k n := by cases n <;> rfl

def newId (st : St) (d : Nat) : Nat := withN st.b fun b => (b + d) * 8

section
variable {α : Type}

/-! ### Operations on plain data -/
def slotsOf (o : Oper) : List Nat := o.op.operands.toList.filterMap fun | .tmp i => some i | _ => none

def shK (l : List (Nat × Ob)) (s : List (Nat × RV)) : List Nat → (List (Nat × AV) → Option α) → Option α
  | [], k => k []
  | i :: r, k => match lk i s with
    | some rv => peekK l 6 rv fun v => shK l s r fun fr => k ((i, .val v .no) :: fr)
    | none => none

def allVal (s : List (Nat × RV)) (is : List Nat) : Bool := is.all fun i => match lk i s with
  | some rv => frozenR rv
  | none => false

def Env2.old (E : Env2) : Env := { tab := E.tab, fs := [], live := [], rep := E.rep }

def shOp (E : Env2) (o : Oper) (st : St) (k : RV → Option Ob → Option α) : Option α :=
  shK st.l st.s (slotsOf o) fun fr => opV E.old o { s := fr, l := [] } fun av => match av with
    | .val v _ => bif v.1.flat || allVal st.s (slotsOf o) then k (.val v) none else none
    | _ => none

/-! ### Operations that change nothing that is there -/
def Ty.hasSl : Ty → Bool
  | .slice _ => true
  | .pair a b => a.hasSl || b.hasSl
  | _ => false

def zeroR : (t : Ty) → t.den → RV
  | .slice e, _ => .nil e
  | .pair a b, x => bif a.hasSl || b.hasSl then .pair (zeroR a x.1) (zeroR b x.2) else .val ⟨.pair a b, x⟩
  | t, x => .val ⟨t, x⟩

def typO : Ob → List Step → Option Ty
  | .var ty _, p => typP ty p
  | .row ty _, .idx _ :: p => typP ty p
  | .mp kt vt _, p => typP (.mp kt vt) p
  | .lp _ _, p => typP .unit p
  | _, _ => none

def nthP : RV → Nat → Option RV
  | .pair a _, 0 => some a
  | .pair _ b, n + 1 => nthP b n
  | _, _ => none

def chain : List RV → RV
  | [] => .unit
  | a :: r => .pair a (chain r)

/-- bounds of a part, in numbers -/
def cutN (n : Nat) (lo hi : Option RV) (k : Nat → Nat → Option α) : Option α :=
  match lo, hi with
  | none, none => k 0 n
  | some a, none => (intR a).bind fun l => bif decide (0 ≤ l) && decide (l ≤ (n : Int)) then k l.toNat n else none
  | none, some b => (intR b).bind fun h => bif decide (0 ≤ h) && decide (h ≤ (n : Int)) then k 0 h.toNat else none
  | some a, some b => (intR a).bind fun l => (intR b).bind fun h => bif decide (0 ≤ l) && (decide (l ≤ h) && decide (h ≤ (n : Int))) then k l.toNat h.toNat else none

/-- parts in the order of the fields -/
def insP {α : Type} (p : Nat × α) : List (Nat × α) → List (Nat × α)
  | [] => [p]
  | q :: r => bif Nat.ble p.1 q.1 then p :: q :: r else q :: insP p r
def sortP {α : Type} : List (Nat × α) → List (Nat × α)
  | [] => []
  | p :: r => insP p (sortP r)
/-- a struct's literal -/
def buildR (s : List (Nat × RV)) : Ty → Nat → List (Nat × Operand) → Option RV
  | .unit, _, [] => some .unit
  | .pair a b, i, [] => (zeroD a).bind fun x => (buildR s b (i + 1) []).bind fun y => some (.pair (zeroR a x) y)
  | .pair a b, i, (j, o) :: r => bif Nat.beq i j then (toC a (evR (some a) o s)).bind fun x => (buildR s b (i + 1) r).bind fun y => some (.pair x y)
    else (zeroD a).bind fun x => (buildR s b (i + 1) ((j, o) :: r)).bind fun y => some (.pair (zeroR a x) y)
  | _, _, _ => none

def partsR (t : Ty) (s : List (Nat × RV)) : Nat → List (Nat × Operand) → Option (List t.den)
  | _, [] => some []
  | i, (j, x) :: r => bif Nat.beq i j && frozenR (evR (some t) x s) then
      (peekK [] 6 (evR (some t) x s) some).bind fun v => (TV.as t v).bind fun y => (partsR t s (i + 1) r).bind fun ys => some (y :: ys)
    else none

/-- a slice of which it is known that it is nil if it is empty, as a slice -/
def wkV : TV → TV
  | ⟨.nes e, xs⟩ => ⟨.slice e, xs⟩
  | v => v
/-- arguments, as plain data -/
def argsR (tab : List (TypeId × Ty)) (l : List (Nat × Ob)) (s : List (Nat × RV)) : List Operand → List TypeId → (List TV → Option α) → Option α
  | [], [], k => k []
  | x :: xs, t :: ts, k => peekK l 6 (evR (lk t tab) x s) fun v => argsR tab l s xs ts fun vs => k (wkV v :: vs)
  | _, _, _ => none

def allArgs (tab : List (TypeId × Ty)) (s : List (Nat × RV)) : List Operand → List TypeId → Bool
  | [], [] => true
  | x :: xs, t :: ts => frozenR (evR (lk t tab) x s) && allArgs tab s xs ts
  | _, _ => false

/-- results of a call: one that is the caller's own is a new row -/
def resL (id : Nat) : (rs : List Ty) → List Bool → resDen rs → List RV × Option Ob
  | [], _, _ => ([], none)
  | [.slice e], true :: _, x => ([.row id], some (.row e x))
  | [t], _, x => ([.val ⟨t, x⟩], none)
  | .slice e :: u :: ts, true :: os, x => (.row id :: (resL id (u :: ts) os x.2).1, some (.row e x.1))
  | t :: u :: ts, os, x => (.val ⟨t, x.1⟩ :: (resL id (u :: ts) os.tail x.2).1, (resL id (u :: ts) os.tail x.2).2)

def resRV : List RV → RV
  | [] => .any
  | [rv] => rv
  | l => .tup (chain l)

/-- no part of the results is a part of the arguments -/
def Ty.flatEl : Ty → Bool
  | .slice e => e.flat
  | _ => false
def apart : List Ty → List Bool → Bool
  | [], _ => true
  | t :: ts, os => (t.flat || (os.headD false && t.flatEl)) && apart ts os.tail

def callP (E : Env2) (fn : Fn2) (args : List Operand) (ts : List TypeId) (id : Nat) (st : St) (k : RV → Option Ob → Option α) : Option α :=
  bif apart fn.rs fn.os || allArgs E.tab st.s args ts then
    argsR E.tab st.l st.s args ts fun vs => (packL fn.ps vs).bind fun x => (fn.F x).bind fun r => k (resRV (resL id fn.rs fn.os r).1) (resL id fn.rs fn.os r).2
  else none

/-- a string's bytes: a slice of one's own -/
def convR (vl : Bool) (src dst : Option Ty) (rv : RV) (id : Nat) (k : RV → Option Ob → Option α) (alt : Option α) : Option α :=
  match dst, rv with
  | some (.slice (.int .u8)), .val ⟨.str, s⟩ => bif tyIs src .str then (bif vl then k (.val ⟨.slice (.int .u8), s⟩) none else k (.row id) (some (.row (.int .u8) s))) else none
  | _, _ => alt

def isHid : Ty → Bool
  | .mp _ _ => true
  | .fn => true
  | _ => false

/-- a type whose values can be keys of a map, in this reading -/
def keyTy : Ty → Bool
  | .int _ => true
  | .bool => true
  | .str => true
  | .arr n e => Nat.ble n 100 && (match e with | .int _ => true | .bool => true | .str => true | _ => false)
  | _ => false

/-- what a map holds at a key: the first entry that bears it -/
def atK {kt vt : Ty} (x : kt.den) (z : vt.den) : List (kt.den × vt.den) → vt.den × Bool
  | [] => (z, false)
  | p :: r => bif eqD kt x p.1 then (p.2, true) else atK x z r
/-- a map is written at a key -/
def putK {kt vt : Ty} (x : kt.den) (y : vt.den) : List (kt.den × vt.den) → List (kt.den × vt.den)
  | [] => [(x, y)]
  | p :: r => bif eqD kt x p.1 then (x, y) :: r else p :: putK x y r

def lookK (E : Env2) (t : TypeId) (m x : Operand) (ok : Bool) (st : St) (k : RV → Option Ob → Option α) : Option α :=
  match evR none m st.s with
  | .mp i => match lk i st.l with
    | some (.mp kt vt es) => bif tyIs (lk t E.tab) (.mp kt vt) && keyTy kt then
        (peekK st.l 6 (evR (some kt) x st.s) fun v => (TV.as kt v).bind fun x => (zeroD vt).bind fun z =>
          bif ok then k (.tup (.pair (.val ⟨vt, (atK x z es).1⟩) (.pair (.val ⟨.bool, (atK x z es).2⟩) .unit))) none else k (.val ⟨vt, (atK x z es).1⟩) none)
      else none
    | _ => none
  | _ => none

/-- what is put into a map, and which -/
def mapK (E : Env2) (t : TypeId) (m x y : Operand) (st : St) (k : Nat → Ob → Option α) : Option α :=
  match evR none m st.s with
  | .mp i => match lk i st.l with
    | some (.mp kt vt es) => bif tyIs (lk t E.tab) (.mp kt vt) && (keyTy kt && vt.flat) then
        peekK st.l 6 (evR (some kt) x st.s) fun v => (TV.as kt v).bind fun x => peekK st.l 6 (evR (some vt) y st.s) fun u => (TV.as vt u).bind fun y => k i (.mp kt vt (putK x y es))
      else none
    | _ => none
  | _ => none

/-- what is asked of nil, and of slices of which it is known that they are nil if they are empty -/
def nilP (E : Env2) (o : Oper) (st : St) (k : RV → Option α) (alt : Option α) : Option α :=
  match o.op with
  | .binOp op t x (.const v) _ => match isNilV v, op, evR none x st.s with
    | true, .eql, .val ⟨.nes e, xs⟩ => bif tyIs (lk t E.tab) (.nes e) then k (.val ⟨.bool, List.isEmpty xs⟩) else none
    | true, .neq, .val ⟨.nes e, xs⟩ => bif tyIs (lk t E.tab) (.nes e) then k (.val ⟨.bool, !List.isEmpty xs⟩) else none
    | _, _, _ => alt
  | .call { callee := .builtin .cap, args, argTypes } => match args.toList, argTypes.toList with
    | [x], [t] => match evR none x st.s with
      | .nil e => bif tyIs (lk t E.tab) (.slice e) then k (.val ⟨.int .i64, (0 : Int)⟩) else none
      | _ => alt
    | _, _ => alt
  | .slice T x none (some y) none => match evR none x st.s with
    | .nil e => (intR (evR (some (.int .i64)) y st.s)).bind fun h => bif decide (h = 0) then (bif tyIs (lk T E.tab) (.slice e) then k (.nil e) else none) else none
    | _ => alt
  | _ => alt

def opP (E : Env2) (o : Oper) (st : St) (id : Nat) (k : RV → Option Ob → Option α) : Option α :=
  match o.op with
  | .move x => k (evR (lk o.type E.tab) x st.s) none
  | .assign x => k (evR (lk o.type E.tab) x st.s) none
  | .pick c a b => match evR (lk o.type E.tab) c st.s with
    | .val ⟨.bool, c⟩ => bif c then k (evR (lk o.type E.tab) a st.s) none else k (evR (lk o.type E.tab) b st.s) none
    | _ => none
  | .alloc t => (lk t E.tab).bind fun ty => match isHid ty with
    | true => k (.loc id []) (some (.var ty .any))
    | false => (zeroD ty).bind fun z => k (.loc id []) (some (.var ty (zeroR ty z)))
  | .makeMap t none => (lk t E.tab).bind fun ty => match ty with
    | .mp kt vt => k (.mp id) (some (.mp kt vt []))
    | _ => none
  | .lookup t m x ok => lookK E t m x ok st k
  | .box t x => (lk t E.tab).bind fun ty => (toC ty (evR (some ty) x st.s)).bind fun c => k (.loc id []) (some (.var ty c))
  | .load T x => match evR (lk o.type E.tab) x st.s with
    | .loc i p => match lk i st.l with
      | some (.var ty con) => partK (fun t rv => bif tyIs (lk T E.tab) t then k (ofC t rv) none else none) ty con p
      | some (.row t xs) => match p with
        | .idx j :: q => (nth xs j.toNat).bind fun x => getK (fun v => bif tyIs (lk T E.tab) v.1 then k (.val v) none else none) t x q
        | _ => none
      | some (.mp _ _ _) => none
      | some (.lp _ _) => none
      | none => none
    | _ => shOp E o st k
  | .convert src dst x => convR (vlO E o) (lk src E.tab) (lk dst E.tab) (evR (lk src E.tab) x st.s) id k (shOp E o st k)
  | .nilCheck x => match evR (lk o.type E.tab) x st.s with
    | .loc i p => k (.loc i p) none
    | .clo f c => k (.clo f c) none
    | _ => shOp E o st k
  | .fieldAddr T x f => match evR (lk o.type E.tab) x st.s with
    | .loc i p => (lk i st.l).bind fun ob => (typO ob p).bind fun t => bif tyIs (lk T E.tab) t && (fieldTy t f).isSome then k (.loc i (p ++ [.fld f])) none else none
    | _ => shOp E o st k
  | .field T x f => match evR (lk o.type E.tab) x st.s with
    | .agg t r => bif tyIs (lk T E.tab) t && (fieldTy t f).isSome then partK (fun t' rv => k (ofC t' rv) none) t r [.fld f] else none
    | _ => shOp E o st k
  | .indexAddr T x i => match evR (lk o.type E.tab) x st.s with
    | .loc id p => (intR (evR (some (.int .i64)) i st.s)).bind fun i => (lk id st.l).bind fun ob => match typO ob p with
      | some (.arr n t) => bif tyIs (lk T E.tab) (.arr n t) then (bif decide (0 ≤ i) && decide (i < (n : Int)) then k (.loc id (p ++ [.idx i])) none else none) else none
      | _ => none
    | .row id => (intR (evR (some (.int .i64)) i st.s)).bind fun i => match lk id st.l with
      | some (.row t xs) => bif tyIs (lk T E.tab) (.slice t) then (bif decide (0 ≤ i) && decide (i < (List.length xs : Int)) then k (.loc id [.idx i]) none else none) else none
      | _ => none
    | .sub id lo hi => (intR (evR (some (.int .i64)) i st.s)).bind fun i => match lk id st.l with
      | some (.row t _) => bif tyIs (lk T E.tab) (.slice t) then (bif decide (0 ≤ i) && decide (i < (hi : Int) - (lo : Int)) then k (.loc id [.idx ((lo : Int) + i)]) none else none) else none
      | _ => none
    | _ => shOp E o st k
  | .slice T x lo hi none => match evR (lk o.type E.tab) x st.s with
    | .row id => match lk id st.l with
      | some (.row t xs) => bif tyIs (lk T E.tab) (.slice t) then cutN (List.length xs) (lo.map (evR (some (.int .i64)) · st.s)) (hi.map (evR (some (.int .i64)) · st.s)) fun l h => k (.sub id l h) none else none
      | _ => none
    | .sub id a b => match lk id st.l with
      | some (.row t _) => bif tyIs (lk T E.tab) (.slice t) then cutN (b - a) (lo.map (evR (some (.int .i64)) · st.s)) (hi.map (evR (some (.int .i64)) · st.s)) fun l h => k (.sub id (a + l) (a + h)) none else none
      | _ => none
    | _ => nilP E o st (fun rv => k rv none) (shOp E o st k)
  | .slice T x lo (some y) (some z) => match evR (lk o.type E.tab) x st.s with
    | .row id => match lk id st.l with
      | some (.row t xs) => bif tyIs (lk T E.tab) (.slice t) then (intR (evR (some (.int .i64)) z st.s)).bind fun m => bif decide (0 ≤ m) && decide (m ≤ (List.length xs : Int)) then cutN m.toNat (lo.map (evR (some (.int .i64)) · st.s)) ((some y).map (evR (some (.int .i64)) · st.s)) fun l h => k (.sub id l h) none else none else none
      | _ => none
    | .sub id a b => match lk id st.l with
      | some (.row t _) => bif tyIs (lk T E.tab) (.slice t) then (intR (evR (some (.int .i64)) z st.s)).bind fun m => bif decide (0 ≤ m) && decide (m ≤ ((b - a : Nat) : Int)) then cutN m.toNat (lo.map (evR (some (.int .i64)) · st.s)) ((some y).map (evR (some (.int .i64)) · st.s)) fun l h => k (.sub id (a + l) (a + h)) none else none else none
      | _ => none
    | _ => shOp E o st k
  | .extract x i => match evR (lk o.type E.tab) x st.s with
    | .tup r => (nthP r i).bind fun rv => k rv none
    | _ => none
  | .makeFunc (.func f) first caps => bif first.isEmpty then k (.clo f (chain (caps.toList.map fun x => evR none x st.s))) none else none
  | .build t parts => (lk t E.tab).bind fun ty => bif allVal st.s (slotsOf o) && !(agO E o) then shOp E o st k else match ty with
    | .arr _ _ => none
    | ty => (buildR st.s ty 0 (sortP parts.toList)).bind fun r => k (.agg ty r) none
  | .buildSlice t n parts => (lk t E.tab).bind fun ty => match ty with
    | .slice e => (partsR e st.s 0 parts.toList).bind fun ys => bif Nat.beq ys.length n && (Nat.ble n 1000000 && (Nat.ble 1 e.n && Nat.ble (n * e.n) 1000000)) then (bif vlO E o then k (.val ⟨.slice e, ys⟩) none else k (.row id) (some (.row e ys))) else none
    | _ => none
  | .makeSlice t l c => (intR (evR (some (.int .i64)) l st.s)).bind fun n => (intR (evR (some (.int .i64)) c st.s)).bind fun m => (lk t E.tab).bind fun ty => match ty with
    | .slice e => bif decide (0 ≤ n) && (decide (n ≤ m) && (decide (m ≤ 68719476736) && Nat.ble 1 e.n)) then (zeroD e).bind fun z => bif vlO E o then k (.val ⟨.slice e, E.rep e.den n.toNat z⟩) none else k (.row id) (some (.row e (E.rep e.den n.toNat z))) else none
    | _ => none
  | .call { callee := .value f, args, argTypes } => match evR none f st.s with
    | .clo g .unit => (lk g E.fs).bind fun fn => callP E fn args.toList argTypes.toList id st k
    | _ => none
  | _ => nilP E o st (fun rv => k rv none) (shOp E o st k)

/-! ### Blocks that are from now on only read -/
def frzAllK : Nat → List Nat → St → (St → Option α) → Option α
  | 0, _, _, _ => none
  | _, [], st, k => k st
  | n + 1, id :: ids, st, k => match lk id st.l with
    | none => frzAllK n ids st k
    | some (.mp _ _ _) => frzAllK n ids st k
    | some (.lp _ _) => frzAllK n ids st k
    | some (.row t xs) => frzAllK n ids (frzRow id t xs st) k
    | some (.var ty con) => match idsR con [] with
      | [] => peekC (fun rv k => match rv with | .nil t => k ⟨.slice t, ([] : List t.den)⟩ | _ => none) con ty fun x => frzAllK n ids (frzVar id ty x st) k
      | ms => frzAllK n (ms ++ id :: ids) st k

def opIds (o : Oper) (st : St) : List Nat := (slotsOf o).foldr (fun i acc => match lk i st.s with | some rv => idsR rv acc | none => acc) []

/-- the blocks that have to be read only for this operation -/
def toFrz (E : Env2) (o : Oper) (st : St) : List Nat :=
  match o.op with
  | .slice _ x _ _ _ => match evR none x st.s with
    | .loc id _ => [id]
    | _ => []
  | .buildSlice _ _ _ => opIds o st
  | .build t _ => match lk t E.tab with
    | some (.arr _ _) => opIds o st
    | _ => []
  | .store t x y => match evR (lk t E.tab) x st.s with
    | .loc id _ => match lk id st.l with
      | some (.row _ _) => idsR (evR (lk t E.tab) y st.s) []
      | _ => []
    | _ => []
  | .call { callee := .value f, .. } => match evR none f st.s with
    | .clo g .unit => match lk g E.fs with
      | some fn => bif apart fn.rs fn.os then [] else opIds o st
      | none => []
    | _ => []
  | _ => []

def addO (id : Nat) (ob : Option Ob) (st : St) : St :=
  match ob with
  | some ob => addN id ob st
  | none => st

/-- the name is nobody's -/
def freeId (id : Nat) (st : St) : St :=
  match lk id st.l with
  | none => st
  | some _ => killSt id st

/-- what is appended -/
def srcR (tab : List (TypeId × Ty)) (u : TypeId) (l : List (Nat × Ob)) (e : Ty) : RV → Option (List e.den)
  | .val ⟨.slice t, ys⟩ => bif tyIs (lk u tab) (.slice t) then TV.as (.slice e) ⟨.slice t, ys⟩ else none
  | .val ⟨.str, ys⟩ => bif tyIs (lk u tab) .str then TV.as (.slice e) ⟨.slice (.int .u8), ys⟩ else none
  | .nil t => bif tyIs (lk u tab) (.slice t) then TV.as (.slice e) ⟨.slice t, ([] : List t.den)⟩ else none
  | .row id => match lk id l with
    | some (.row t xs) => bif tyIs (lk u tab) (.slice t) then TV.as (.slice e) ⟨.slice t, xs⟩ else none
    | _ => none
  | .sub id lo hi => match lk id l with
    | some (.row t xs) => bif tyIs (lk u tab) (.slice t) then TV.as (.slice e) ⟨.slice t, (List.take hi xs).drop lo⟩ else none
    | _ => none
  | _ => none

/-- what is appended to -/
def dstR (l : List (Nat × Ob)) (e : Ty) : RV → Option (List e.den × Option Nat)
  | .nil t => bif decide (t = e) then some ([], none) else none
  | .row id => match lk id l with
    | some (.row t xs) => (TV.as (.slice e) ⟨.slice t, xs⟩).bind fun xs => some (xs, some id)
    | _ => none
  | .sub id lo hi => match lk id l with
    | some (.row t xs) => bif Nat.beq lo 0 then (TV.as (.slice e) ⟨.slice t, xs⟩).bind fun xs => some (List.take hi xs, some id) else none
    | _ => none
  | _ => none

def killO : Option Nat → St → St
  | some id, st => killSt id st
  | none, st => st

/-- a name, and no others -/
def onlyF (d : Nat) (i : Nat) : Option Nat := bif Nat.beq i d then some i else none
/-- the parts of a literal that hold a slice of one's own; from then on this is only read -/
def partsC (id : Nat) (u : Ty) (xs : List u.den) (t : Ty) (s : List (Nat × RV)) : Nat → List (Nat × Operand) → Option (List t.den)
  | _, [] => some []
  | i, (j, x) :: r => bif Nat.beq i j then
      (peekK [(id, .row u xs)] 6 (mapR (onlyF id) (evR (some t) x s)) some).bind fun v => (TV.as t v).bind fun y => (partsC id u xs t s (i + 1) r).bind fun ys => some (y :: ys)
    else none
def buildC (E : Env2) (t : TypeId) (n : Nat) (parts : List (Nat × Operand)) (id : Nat) (st : St) (k : (e : Ty) → List e.den → Option α) : Option α :=
  match lk id st.l with
  | some (.row u xs) => (lk t E.tab).bind fun ty => match ty with
    | .slice e => (partsC id u xs e st.s 0 parts).bind fun ys => bif Nat.beq ys.length n && (Nat.ble n 1000000 && (Nat.ble 1 e.n && Nat.ble (n * e.n) 1000000)) then k e ys else none
    | _ => none
  | _ => none

def pureR (E : Env2) (o : Oper) (st : St) (k : St → Option α) : Option α :=
  withN (newId st (o.dst.getD 0)) fun id => opP E o (freeId id st) id fun rv ob => k (setR (addO id ob (freeId id st)) o.dst rv)

/-- the frame of one that is called -/
def push (lt : LT) (d : Nat) (args : List RV) (st : St) : St :=
  withN st.b fun b => { s := (args.zipIdx 0).map fun p => (p.2, p.1), l := st.l, k := (b, match lk d lt.keep with | some ks => pickS st.s ks | none => st.s) :: st.k, b := (b + d + 1) * 4096 }
def pop (st : St) : St :=
  match st.k with
  | (b, s) :: k => { s := s, l := st.l, k := k, b := b }
  | [] => st

/-! ### Loops over functions -/
/-- the loop that is on top: its name stands in a frame of its own -/
def topL (st : St) : Option (Nat × RV × LQ) :=
  match st.k with
  | (_, s) :: _ => match lk 0 s with
    | some (.yl id) => match lk id st.l with
      | some (.lp con q) => some (id, con, q)
      | _ => none
    | _ => none
  | [] => none

/-- slots as a list of values -/
def conS (s : List (Nat × RV)) : Nat → Nat → RV
  | _, 0 => .unit
  | i, n + 1 => .pair ((lk i s).getD .any) (conS s (i + 1) n)
def maxS : List (Nat × RV) → Nat
  | [] => 0
  | p :: s => bif Nat.ble (maxS s) p.1 then p.1 + 1 else maxS s
def slotsC : Nat → RV → List (Nat × RV)
  | i, .pair .any b => slotsC (i + 1) b
  | i, .pair a b => (i, a) :: slotsC (i + 1) b
  | _, _ => []
def setPs : List Tmp → List RV → List (Nat × RV) → List (Nat × RV)
  | p :: ps, rv :: rvs, s => setPs ps rvs ((p, rv) :: s)
  | _, _, s => s

/-- the frame of the function that is gone through -/
def pushL (lt : LT) (id : Nat) (ps : Array Tmp) (assign body : Code) (cs : List RV) (st : St) : St :=
  withN st.b fun b => match lk (ps.toList.headD 1000000) lt.rf with
    | some (k1, k2) => { s := ((.yl id :: cs).zipIdx 0).map fun p => (p.2, p.1), l := (id, .lp (conS (pickS st.s k1) 0 (maxS (pickS st.s k1))) ⟨ps, assign, body, lt, .ready, none⟩) :: st.l, k := (0, [(0, .yl id)]) :: (b, pickS st.s k2) :: st.k, b := (b + 4001) * 4096 }
    | none => { s := ((.yl id :: cs).zipIdx 0).map fun p => (p.2, p.1), l := (id, .lp (conS st.s 0 (maxS st.s)) ⟨ps, assign, body, lt, .ready, none⟩) :: st.l, k := (0, [(0, .yl id)]) :: (b, st.s) :: st.k, b := (b + 4001) * 4096 }
/-- the frame of a round -/
def pushY (lt : LT) (d : Nat) (id : Nat) (con : RV) (q : LQ) (args : List RV) (st : St) : St :=
  withN st.b fun b => { s := setPs q.ps.toList args (slotsC 0 con), l := st.l, k := (0, [(0, .yl id)]) :: (b, match lk d lt.keep with | some ks => pickS st.s ks | none => st.s) :: st.k, b := (b + d + 1) * 4096 }
def beginR {α : Type} (k : St → Option α) (st : St) : Option α :=
  (topL st).bind fun t => match t.2.2.state with
    | .ready => k (setOb t.1 (.lp t.2.1 { t.2.2 with state := .busy }) st)
    | _ => none
def endR {α : Type} (jump : Option Code) (b : Bool) (k : St → RV → Option α) (st : St) : Option α :=
  (topL st).bind fun t => match t.2.2.state with
    | .busy => k (pop (setOb t.1 (.lp t.2.1 { t.2.2 with state := bif b then .ready else .done, jump := jump }) st)) (.val ⟨.bool, b⟩)
    | _ => none
/-- behind the function that was gone through -/
def loopEnd {α : Type} (kn : St → Option α) (kx : Nat → St → Option α) (kr : St → Option α) (st : St) : Option α :=
  (topL st).bind fun t => match t.2.2.state, t.2.2.jump with
    | .ready, none => kn (pop (pop (killSt t.1 st)))
    | .done, some .ret => kr (pop (pop (killSt t.1 st)))
    | .done, some (.exit j) => kx j (pop (pop (killSt t.1 st)))
    | _, _ => none

def listP : RV → Option (List RV)
  | .unit => some []
  | .pair a b => (listP b).bind fun r => some (a :: r)
  | _ => none

def plainN : RV → RV
  | .nil t => .val ⟨.slice t, ([] : List t.den)⟩
  | rv => rv

/-- a slice that is not empty, put among slices of which it is known that they are nil if they are empty -/
def nesK (tt : Option Ty) (p : List Step) (ty : Ty) (xs : List ty.den) (rv : RV) (k : List ty.den → Option α) (alt : Option α) : Option α :=
  match p, rv with
  | [.idx i], .val ⟨.slice e, ys⟩ => bif tyIs tt (.nes e) then (bif List.isEmpty ys then none else (TV.as ty ⟨.nes e, ys⟩).bind fun z => k (List.set xs i.toNat z)) else alt
  | _, _ => alt

/-- what is stored, and where -/
def storeK (E : Env2) (t : TypeId) (x y : Operand) (st : St) (k : Nat → Ob → Option α) : Option α :=
  match evR (lk t E.tab) x st.s with
  | .loc id p => match lk id st.l with
    | some (.var ty con) => (lk t E.tab).bind fun tt => (toC tt (evR (some tt) y st.s)).bind fun _ => setN (evR (some tt) y st.s) ty (fun con' => k id (.var ty con')) con p
    | some (.row ty xs) => nesK (lk t E.tab) p ty xs (evR (lk t E.tab) y st.s) (fun z => k id (.row ty z)) <| match p, plainN (evR (lk t E.tab) y st.s) with
      | [.idx i], .val v => bif tyIs (lk t E.tab) v.1 then (TV.as ty v).bind fun z => k id (.row ty (List.set xs i.toNat z)) else none
      | .idx i :: s :: q, .val v => bif tyIs (lk t E.tab) v.1 then (nth xs i.toNat).bind fun x => (setP v ty x (s :: q)).bind fun z => k id (.row ty (List.set xs i.toNat z)) else none
      | _, _ => none
    | some (.mp _ _ _) => none
    | some (.lp _ _) => none
    | none => none
  | _ => none

/-- some zeros, appended to nil -/
def srcN (E : Env2) (u : TypeId) (new : Bool) (e : Ty) (rv : RV) (k : List e.den → Option α) (alt : Option α) : Option α :=
  match new, rv with
  | true, .val ⟨.int .i64, n⟩ => bif decide (1 ≤ n) && decide (n ≤ (lim : Int)) then (bif tyIs (lk u E.tab) (.int .i64) then (zeroD e).bind fun z => k (E.rep e.den n.toNat z) else none) else none
  | _, _ => alt

/-- what is appended to what: the new slice, and the name of the old one -/
def appK (E : Env2) (args : Array Operand) (argTypes : Array TypeId) (st : St) (k : (e : Ty) → List e.den → Option Nat → Option α) : Option α :=
  match args.toList, argTypes.toList with
  | [sx, x], t :: u :: [] => match lk t E.tab with
    | some (.slice e) => (dstR st.l e (evR (some (.slice e)) sx st.s)).bind fun xs => srcN E u xs.2.isNone e (evR (lk u E.tab) x st.s) (fun ys => bif Nat.ble 1 e.n && Nat.ble (List.length xs.1 + List.length ys) (limE E e) then k e (List.append xs.1 ys) xs.2 else none) <| (srcR E.tab u st.l e (evR (lk u E.tab) x st.s)).bind fun ys =>
        bif Nat.ble 1 e.n && Nat.ble (List.length xs.1 + List.length ys) (limE E e) then k e (List.append xs.1 ys) xs.2 else none
    | _ => none
  | _, _ => none

/-- a slice of one's own, or a part of it -/
def partR (l : List (Nat × Ob)) : RV → Option (Nat × Nat × Nat)
  | .row id => match lk id l with
    | some (.row _ xs) => some (id, 0, List.length xs)
    | _ => none
  | .sub id lo hi => some (id, lo, hi)
  | _ => none
/-- what is set to zero: which block becomes what -/
def clrK (E : Env2) (args : Array Operand) (argTypes : Array TypeId) (st : St) (k : Nat → Ob → Option α) : Option α :=
  match args.toList, argTypes.toList with
  | [x], [t] => match lk t E.tab with
    | some (.slice e) => (partR st.l (evR (some (.slice e)) x st.s)).bind fun p => match lk p.1 st.l with
      | some (.row u xs0) => (TV.as (.slice e) ⟨.slice u, xs0⟩).bind fun xs => (zeroD e).bind fun z => bif Nat.ble 1 e.n then k p.1 (.row e (List.append (List.take p.2.1 xs) (List.append (E.rep e.den (p.2.2 - p.2.1) z) (List.drop p.2.2 xs)))) else none
      | _ => none
    | _ => none
  | _, _ => none

/-- what is copied over a part of a slice: which block becomes what, and how many went over -/
def cpyK (E : Env2) (args : Array Operand) (argTypes : Array TypeId) (st : St) (k : Nat → Ob → Nat → Option α) : Option α :=
  match args.toList, argTypes.toList with
  | [x, y], [t, u] => match lk t E.tab with
    | some (.slice e) => bif tyIs (lk u E.tab) (.slice e) then (partR st.l (evR (some (.slice e)) x st.s)).bind fun p => match lk p.1 st.l with
        | some (.row e' xs0) => (TV.as (.slice e) ⟨.slice e', xs0⟩).bind fun xs => (srcR E.tab u st.l e (evR (lk u E.tab) y st.s)).bind fun ys =>
          k p.1 (.row e (List.append (List.take p.2.1 xs) (List.append (List.take (p.2.2 - p.2.1) ys) (List.drop (p.2.1 + Nat.min (p.2.2 - p.2.1) (List.length ys)) xs)))) (Nat.min (p.2.2 - p.2.1) (List.length ys))
        | _ => none
      else none
    | _ => none
  | _, _ => none

/-- two ways that it may go: only where both give the same -/
def bothC [DecidableEq α] (a b : Option α) : Option α := bif decide (a = b) then a else none
theorem bothC_some [DecidableEq α] {a b : Option α} {r : α} (h : bothC a b = some r) : a = some r ∧ b = some r := by
  unfold bothC at h
  cases hd : decide (a = b) with
  | true =>
    rw [hd] at h
    exact ⟨h, of_decide_eq_true hd ▸ h⟩
  | false => rw [hd] at h; cases h

/-- a slice, compared with nil: if it is empty, both ways have to give the same -/
def nilQ [DecidableEq α] (E : Env2) (op : BinOp) (t : TypeId) (x : Operand) (v : Value) (st : St) (f : Bool → Option α) (alt : Option α) : Option α :=
  match op, isNilV v, evR none x st.s with
  | .eql, true, .val ⟨.slice e, xs⟩ => bif tyIs (lk t E.tab) (.slice e) then (bif List.isEmpty xs then bothC (f true) (f false) else f false) else none
  | .neq, true, .val ⟨.slice e, xs⟩ => bif tyIs (lk t E.tab) (.slice e) then (bif List.isEmpty xs then bothC (f false) (f true) else f true) else none
  | _, _, _ => alt

/-- the name of one of one's own slices is from now on that of a part of a longer one -/
def fwdF (old id n : Nat) : RV → RV := frzF old (.sub id 0 n) (fun lo hi => .sub id lo hi) fun p => .loc id p
/-- what is appended to a slice that lives on: it is moved to a new place, or stands in the same one -/
def forkK [DecidableEq α] (E : Env2) (args : Array Operand) (argTypes : Array TypeId) (d : Nat) (st : St) (k : St → Option α) : Option α :=
  match args.toList, argTypes.toList with
  | [sx, x], t :: u :: [] => match lk t E.tab with
    | some (.slice e) => match evR (some (.slice e)) sx st.s with
      | .row old => match lk old st.l with
        | some (.row t' xs0) => (TV.as (.slice e) ⟨.slice t', xs0⟩).bind fun xs => (srcR E.tab u st.l e (evR (lk u E.tab) x st.s)).bind fun ys =>
          bif (Nat.ble 1 e.n && Nat.ble (List.length xs + List.length ys) lim) then withN (newId st d) fun id => match lk id st.l with
            | none => bothC (k (setR (addN id (.row e (List.append xs ys)) st) (some d) (.row id))) (k (setR (addN id (.row e (List.append xs ys)) (frzSt old (fwdF old id (List.length xs)) st)) (some d) (.row id)))
            | some _ => none
          else none
        | _ => none
      | _ => none
    | _ => none
  | _, _ => none

def isFn : Operand → Bool
  | .func _ => true
  | _ => false

/-- the bytes of a literal: the same slice -/
def sameR (E : Env2) (src dst : TypeId) (rv : RV) (st : St) (f : Nat → Option α) (alt : Option α) : Option α :=
  match Nat.beq src dst, rv with
  | true, .row id => match lk id st.l with
    | some (.row t xs) => bif tyIs (lk src E.tab) (.slice t) && (tyIs (some t) (.int .u8) && Nat.ble 1 (List.length xs)) then f id else none
    | _ => none
  | _, _ => alt

/-- a call of a function that calls itself: which block becomes what -/
def recK (E : Env2) (c : RecC) (args : Array Operand) (ts : Array TypeId) (caps : RV) (st : St) (k : Nat → Ob → RV → Option α) : Option α :=
  bif Nat.beq args.size ts.size && recB c then
    (listP caps).bind fun cs => recE c st.l (((args.toList.zip ts.toList).map fun p => evR (lk p.2 E.tab) p.1 st.s) ++ cs) fun id z r => k id (wOb c.bp c.w z) (resRV (valsR c.rs r))
  else none
/-- a call of one that is given a slice of one's own: the new slice, and the name of the old one -/
def giveK (E : Env2) (c : OwnC) (args : Array Operand) (ts : Array TypeId) (caps : RV) (st : St) (k : (e : Ty) → List e.den → Option Nat → Option α) : Option α :=
  match args.toList, ts.toList, caps with
  | sx :: xs, t :: us, .unit => bif Nat.beq xs.length us.length && c.fp.all isHole then
      (dstR st.l c.e (evR (lk t E.tab) sx st.s)).bind fun X => (abPs c.fp ((xs.zip us).map fun p => evR (lk p.2 E.tab) p.1 st.s)).bind fun y => (c.F X.1 y).bind fun z => k c.e z X.2
    else none
  | _, _, _ => none
def recOr {γ : Type} (T : List (FuncId × γ)) (o : Oper) (st : St) (yes : γ → Array Operand → Array TypeId → RV → Option α) (no : Option α) : Option α :=
  match o.op with
  | .call { callee := .value f, args, argTypes } => match evR none f st.s with
    | .clo g caps => match lk g T with
      | some c => yes c args argTypes caps
      | none => no
    | _ => no
  | _ => no

def effR [DecidableEq α] (E : Env2) (H : Tg → St → (St → RV → Option α) → Option α) (lt : LT) (o : Oper) (st : St) (k : St → Option α) : Option α :=
  match o.op, o.dst with
  | .store t x y, none => storeK E t x y st fun id ob => k (setOb id ob st)
  | .mapUpdate t m x y, none => mapK E t m x y st fun id ob => k (setOb id ob st)
  | .call { callee := .builtin .append, args, argTypes }, some d => bif lt.fork.any (Nat.beq d) then forkK E args argTypes d st k else appK E args argTypes st fun e z old =>
      withN (newId st d) fun id => k (setR (addN id (.row e z) (freeId id (killO old st))) (some d) (.row id))
  | .call { callee := .builtin .clear, args, argTypes }, none => clrK E args argTypes st fun id ob => k (setOb id ob st)
  | .call { callee := .builtin .copy, args, argTypes }, d => cpyK E args argTypes st fun id ob n => k (setR (setOb id ob st) d (.val ⟨.int .i64, (n : Int)⟩))
  | .call { callee := .value f, args, argTypes }, d => match evR none f st.s with
    | .clo g caps => match lk g E.rcs with
     | some c => recK E c args argTypes caps st fun id ob rv => k (setR (setOb id ob st) d rv)
     | none => match lk g E.ow, d with
      | some c, some d => giveK E c args argTypes caps st fun e z old => withN (newId st d) fun id => k (setR (addN id (.row e z) (freeId id (killO old st))) (some d) (.row id))
      | _, _ => match lk g E.fs, caps with
       | some _, .unit => pureR E o st k
       | _, _ => bif Nat.beq args.size argTypes.size then (listP caps).bind fun cs => H (.fn g) (push lt (d.getD 0) ((args.toList.zip argTypes.toList).map (fun p => evR (lk p.2 E.tab) p.1 st.s) ++ cs) st) fun st' rv => k (setR (pop st') d rv) else none
    | .yl id => match lk id st.l with
      | some (.lp con q) => match q.state with
        | .ready => bif Nat.beq args.size argTypes.size && Nat.beq args.size q.ps.size then H .yl (pushY lt (d.getD 0) id con q ((args.toList.zip argTypes.toList).map (fun p => evR (lk p.2 E.tab) p.1 st.s)) st) fun st' rv => k (setR (pop st') d rv) else none
        | _ => none
      | _ => none
    | _ => none
  | .binOp op t x (.const v) _, some d => nilQ E op t x v st (fun b => k (setR st (some d) (.val ⟨.bool, b⟩))) (pureR E o st k)
  | .convert src dst x, some d => sameR E src dst (evR (lk src E.tab) x st.s) st (fun id => k (setR st (some d) (.row id))) (pureR E o st k)
  | _, some _ => pureR E o st k
  | _, none => none

def opR [DecidableEq α] (E : Env2) (H : Tg → St → (St → RV → Option α) → Option α) (lt : LT) (o : Oper) (st : St) (k : St → Option α) : Option α :=
  match toFrz E o st with
  | [] => effR E H lt o st k
  | ids => frzAllK 60 ids st fun st => effR E H lt o st k

def setBR (g : Nat) (b : Bool) : List (Nat × RV) → List (Nat × RV)
  | [] => []
  | (j, a) :: r => bif Nat.beq g j then (j, .val ⟨.bool, b⟩) :: r else (j, a) :: setBR g b r

/-- operations, in order -/
def opsR [DecidableEq α] (E : Env2) (H : Tg → St → (St → RV → Option α) → Option α) (lt : LT) (ops : Array Oper) : List Oper → St → (St → Option α) → Option α
  | [], st, k => k st
  | o :: rest, st, k => match o.guard with
    | none => opR E H lt o st fun st => opsR E H lt ops rest st k
    | some (j, want) => match (ops[j]?).bind (·.dst) with
      | some g => match lk g st.s with
        | some (.val ⟨.bool, b⟩) =>
          bif b then
            (bif want then opR E H lt o { st with s := setBR g true st.s } fun st => opsR E H lt ops rest st k
             else opsR E H lt ops rest (setR { st with s := setBR g true st.s } o.dst (.tup .unit)) k)
          else
            (bif want then opsR E H lt ops rest (setR { st with s := setBR g false st.s } o.dst (.tup .unit)) k
             else opR E H lt o { st with s := setBR g false st.s } fun st => opsR E H lt ops rest st k)
        | some (.tup .unit) => opsR E H lt ops rest (setR st o.dst (.tup .unit)) k
        | _ => none
      | none => none

/-! ### Operations in any order -/
structure Eff2 where
  d : Option Nat
  rv : RV
  o : Option (Nat × Ob)
  kl : Option Nat

def apE (e : Eff2) (st : St) : St :=
  { killO e.kl st with s := (match e.d with | some d => (d, e.rv) :: (killO e.kl st).s | none => (killO e.kl st).s), l := (match e.o with | some p => p :: (killO e.kl st).l | none => (killO e.kl st).l) }

def stepD (E : Env2) (o : Oper) (st : St) (k : Eff2 → Option α) : Option α :=
  match o.op, o.dst with
  | .store t x y, none => storeK E t x y st fun id ob => k ⟨none, .any, some (id, ob), none⟩
  | .mapUpdate t m x y, none => mapK E t m x y st fun id ob => k ⟨none, .any, some (id, ob), none⟩
  | .call { callee := .builtin .append, args, argTypes }, some d => withN (newId st d) fun id => match lk id st.l with
    | none => appK E args argTypes st fun e z old => k ⟨some d, .row id, some (id, .row e z), old⟩
    | some _ => none
  | .buildSlice t n parts, some d => withN (newId st d) fun id => match lk id st.l with
    | none => match opIds o st with
      | [] => opP E o st id fun rv ob => k ⟨some d, rv, ob.map fun ob => (id, ob), none⟩
      | old :: _ => buildC E t n parts.toList old st fun e z => k ⟨some d, .row id, some (id, .row e z), some old⟩
    | some _ => none
  | _, some d => recOr E.rcs o st (fun c args ts caps => recK E c args ts caps st fun id ob rv => k ⟨some d, rv, bif c.ro then none else some (id, ob), none⟩) (withN (newId st d) fun id => match lk id st.l with
    | none => recOr E.ow o st (fun c args ts caps => giveK E c args ts caps st fun e z old => k ⟨some d, .row id, some (id, .row e z), old⟩) (opP E o st id fun rv ob => k ⟨some d, rv, ob.map fun ob => (id, ob), none⟩)
    | some _ => none)
  | _, none => none

def guardSlot (ops : Array Oper) (o : Oper) : Option Nat :=
  match o.guard with
  | some (j, _) => (ops[j]?).bind (·.dst)
  | none => none

def stepG (E : Env2) (ops : Array Oper) (o : Oper) (st : St) (k : Eff2 → Option α) : Option α :=
  match o.guard with
  | none => stepD E o st k
  | some (_, want) => match guardSlot ops o with
    | some g => match lk g st.s with
      | some (.val ⟨.bool, b⟩) => bif b then (bif want then stepD E o st k else k ⟨o.dst, .tup .unit, none, none⟩) else (bif want then k ⟨o.dst, .tup .unit, none, none⟩ else stepD E o st k)
      | some (.tup .unit) => k ⟨o.dst, .tup .unit, none, none⟩
      | _ => none
    | none => none

/-- what an operation looks at and writes: slots, blocks; what it writes; the name that it takes away, and where this stood -/
structure Rc where
  rd : List Nat
  ob : List Nat
  d : Option Nat
  w : Option Nat
  kl : Option Nat
  ts : List Nat
  tb : List Nat

def hasId (id : Nat) : RV → Bool
  | .row i => Nat.beq i id
  | .sub i _ _ => Nat.beq i id
  | .loc i _ => Nat.beq i id
  | .clo _ c => hasId id c
  | .pair a b => hasId id a || hasId id b
  | .agg _ r => hasId id r
  | .tup r => hasId id r
  | .mp i => Nat.beq i id
  | .yl i => Nat.beq i id
  | _ => false
def hasOb (id : Nat) : Ob → Bool
  | .var _ c => hasId id c
  | .row _ _ => false
  | .mp _ _ _ => false
  | .lp c _ => hasId id c
def withId {α : Type} (p : Nat → α → Bool) (id : Option Nat) (l : List (Nat × α)) : List Nat :=
  match id with
  | some id => (l.filter fun q => p id q.2).map (·.1)
  | none => []

def inC (C : List Nat) : RV → Bool
  | .row id => C.any (Nat.beq id)
  | .sub id _ _ => C.any (Nat.beq id)
  | .loc id _ => C.any (Nat.beq id)
  | .clo _ c => inC C c
  | .pair a b => inC C a && inC C b
  | .agg _ r => inC C r
  | .tup r => inC C r
  | .mp id => C.any (Nat.beq id)
  | .yl id => C.any (Nat.beq id)
  | _ => true

def rcOf (ops : Array Oper) (o : Oper) (st : St) (e : Eff2) : Rc :=
  { rd := slotsOf o ++ (guardSlot ops o).toList, ob := (match o.dst with | some d => [newId st d] | none => []) ++ reach st.l 200 (opIds o st) [], d := e.d, w := e.o.map (·.1), kl := e.kl, ts := withId hasId e.kl st.s, tb := withId hasOb e.kl st.l }

/-- the blocks that are looked at hold no names but their own -/
def closedB (C : List Nat) (l : List (Nat × Ob)) : Bool := C.all fun id => match lk id l with
  | some (.var _ con) => inC C con
  | some (.lp con _) => inC C con
  | _ => true
def opsIn (C S : List Nat) (st : St) : Bool := S.all fun i => match lk i st.s with
  | some rv => inC C rv
  | none => true

def memO (x : Option Nat) (l : List Nat) : Bool := match x with
  | some i => l.any (Nat.beq i)
  | none => false
def sameO (x y : Option Nat) : Bool := match x, y with
  | some i, some j => Nat.beq i j
  | _, _ => false

def meets (l m : List Nat) : Bool := l.any fun i => m.any (Nat.beq i)
def indep (p q : Rc) : Bool := !(memO p.d q.rd) && (!(memO q.d p.rd) && (!(sameO p.d q.d) && (!(memO p.w q.ob) && (!(memO q.w p.ob) && (!(sameO p.w q.w) && (!(memO q.kl p.ob) && (!(meets p.ts q.rd) && !(meets p.tb q.ob))))))))

def okRc (b : List Nat) (i : Nat) (q : Rc) : Nat → List Rc → Bool
  | _, [] => true
  | j, p :: r => !(memO p.kl q.ob) && (((b.getD i 0).testBit j || indep p q) && okRc b i q (j + 1) r)

/-- what is written holds names of what was looked at alone, and not the one that is taken away -/
def inOb (C : List Nat) : Option (Nat × Ob) → Bool
  | some (i, .var _ c) => C.any (Nat.beq i) && inC C c
  | some (i, .row _ _) => C.any (Nat.beq i)
  | some (i, .mp _ _ _) => C.any (Nat.beq i)
  | some (i, .lp c _) => C.any (Nat.beq i) && inC C c
  | none => true
def ownK (C : List Nat) (e : Eff2) : Bool := match e.kl with
  | some id => C.any (Nat.beq id) && (!(hasId id e.rv) && (match e.o with | some (i, ob) => !(Nat.beq i id) && !(hasOb id ob) | none => true))
  | none => true
def okE (q : Rc) (e : Eff2) (st : St) : Bool := closedB q.ob st.l && (opsIn q.ob q.rd st && (inC q.ob e.rv && (inOb q.ob e.o && ownK q.ob e)))

/-- whether an operation is wanted: in each of the cases this is known from there on -/
def guardK (ops : Array Oper) (o : Oper) (st : St) (run skip : St → Option α) : Option α :=
  match o.guard with
  | none => run st
  | some (_, want) => match guardSlot ops o with
    | some g => match lk g st.s with
      | some (.val ⟨.bool, b⟩) =>
        bif b then (bif want then run { st with s := setBR g true st.s } else skip { st with s := setBR g true st.s })
        else (bif want then skip { st with s := setBR g false st.s } else run { st with s := setBR g false st.s })
      | some (.tup .unit) => skip st
      | _ => none
    | none => none

def opsD (E : Env2) (ops : Array Oper) (b : List Nat) : Nat → List Oper → List Rc → St → (St → Option α) → Option α
  | _, [], _, st, k => k st
  | i, o :: rest, rcs, st, k => guardK ops o st
    (fun st => stepD E o st fun e => bif okRc b i (rcOf ops o st e) 0 rcs && okE (rcOf ops o st e) e st then opsD E ops b (i + 1) rest (rcs ++ [rcOf ops o st e]) (apE e st) k else none)
    (fun st => bif okRc b i (rcOf ops o st ⟨o.dst, .tup .unit, none, none⟩) 0 rcs && okE (rcOf ops o st ⟨o.dst, .tup .unit, none, none⟩) ⟨o.dst, .tup .unit, none, none⟩ st then opsD E ops b (i + 1) rest (rcs ++ [rcOf ops o st ⟨o.dst, .tup .unit, none, none⟩]) (apE ⟨o.dst, .tup .unit, none, none⟩ st) k else none)

def backOk (ops : Array Oper) : Bool := (ops.toList.zipIdx 0).all fun p => p.1.after.toList.all fun e => !(Region.binds .any e) || Nat.blt e.on p.2

/-- what is only read from a region on -/
def drawFrz (E : Env2) : List Oper → St → List Nat
  | [], _ => []
  | o :: r, st => toFrz E o st ++ drawFrz E r st

def pruneR (lt : LT) (c : Code) (st : St) : St :=
  match rid c with
  | some i => match lk i lt.live with
    | some ks => { st with s := pickS st.s ks }
    | none => st
  | none => st
/-- the first part of a slice of one's own is from now on the slice -/
def reroot (st : St) (i : Nat) : St :=
  match lk i st.s with
  | some (.sub id lo hi) => bif Nat.beq lo 0 then match lk id st.l with
      | some (.row t xs) => setR (addN id (.row t (List.take hi xs)) (killSt id st)) (some i) (.row id)
      | _ => st
    else st
  | _ => st
def headR (lt : LT) (c : Code) (st : St) : St :=
  match rid c with
  | some i => match lk i lt.live with
    | some ks => canon ks (lt.stk.foldl reroot st)
    | none => st
  | none => st

/-- ways that come together: from here on there is one name for what follows -/
def joinR (f : St → Option α) (st : St) : Option α := f st
def isJoin (lt : LT) (c : Code) : Bool :=
  match rid c with
  | some i => lt.join.any (Nat.beq i)
  | none => false
def seqK (lt : LT) (b : Code) (f : St → Option α) (st : St) : Option α := bif isJoin lt b then joinR f (headR lt b st) else f (pruneR lt b st)

def iterR (f : (St → Option α) → St → Option α) : Nat → St → Option α
  | 0 => fun _ => none
  | n + 1 => f (iterR f n)

/-- what is from here on only read: the names in some slots -/
def frzHead (lt : LT) (rg : Nat) (st : St) (k : St → Option α) : Option α :=
  match lk rg lt.frz with
  | some ss => frzAllK 60 (ss.foldr (fun i acc => match lk i st.s with | some rv => idsR rv acc | none => acc) []) st k
  | none => k st

/-- a slot that was asked holds from there on what was found -/
def cndR (lt : LT) (c : Operand) (b : Bool) (st : St) : St := match c with
  | .tmp i => bif lt.cnd.any (Nat.beq i) then { st with s := setBR i b st.s } else st
  | _ => st

/-- the last operation of a region whose order is open is behind all others -/
def lastOk (ops : Array Oper) (o : Oper) : Bool :=
  (match o.guard with | none => true | some _ => false) && (backOk ops && (((List.range ops.pop.size).all fun j => ((befL ops.toList []).getD ops.pop.size 0).testBit j) && ops.pop.toList.all fun x => match x.guard with
    | none => true
    | some (j, _) => Nat.blt j ops.pop.size))
/-- a region whose order is open, the last operation alone -/
def lastR [DecidableEq α] (E : Env2) (H : Tg → St → (St → RV → Option α) → Option α) (lt : LT) (ops : Array Oper) (st : St) (kn : St → Option α) : Option α :=
  match ops.back? with
  | some o => bif lastOk ops o then (bif backOk ops.pop then frzAllK 60 (drawFrz E ops.pop.toList st) st (opsD E ops.pop (befL ops.pop.toList []) 0 ops.pop.toList [] · fun st => opR E H lt o st kn) else none) else none
  | none => none

def denR [DecidableEq α] (E : Env2) (H : Tg → St → (St → RV → Option α) → Option α) (lt : LT) (N : Nat) : Code → (St → Option α) → (Nat → St → Option α) → (St → Option α) → St → Option α
  | .skip, kn, _, _ => kn
  | .label _, kn, _, _ => kn
  | .scope c, kn, kx, kr => denR E H lt N c kn kx kr
  | .region rg ops draw, kn, _, _ => fun st => frzHead lt rg st fun st => bif draw then bif lt.lst.any (Nat.beq rg) then lastR E H lt ops st kn else (bif backOk ops then frzAllK 60 (drawFrz E ops.toList st) st (opsD E ops (befL ops.toList []) 0 ops.toList [] · kn) else none) else opsR E H lt ops ops.toList st kn
  | .seq a b, kn, kx, kr => denR E H lt N a (seqK lt b (denR E H lt N b kn kx kr)) kx kr
  | .cond c a b, kn, kx, kr => fun st => match evR (some .bool) c st.s with
    | .val ⟨.bool, t⟩ => bif t then denR E H lt N a kn kx kr (cndR lt c true st) else denR E H lt N b kn kx kr (cndR lt c false st)
    | _ => none
  | .block id c, kn, kx, kr => denR E H lt N c kn (fun j st => bif Nat.beq j id then kn st else kx j st) kr
  | .loop c, _, kx, kr => fun st => iterR (fun self st => denR E H lt N c (fun st => self (headR lt c st)) kx kr st) N (headR lt c st)
  | .exit id, _, kx, _ => kx id
  | .ret, _, _, kr => kr
  | .rangeFunc g ps assign body, kn, kx, kr => fun st => withN (newId st 4000) fun id => match evR none g (freeId id st).s with
    | .clo f caps => (listP caps).bind fun cs => H (.fn f) (pushL lt id ps assign body cs (freeId id st)) fun st' _ => loopEnd kn kx kr st'
    | _ => none
  | _, _, _, _ => fun _ => none

def resR (E : Env2) (st : St) : List ResultVar → Option (List RV)
  | [] => some []
  | .tmp t :: r => (lk t st.s).bind fun rv => (resR E st r).bind fun vs => some (rv :: vs)
  | .cell t T :: r => match lk t st.s with
    | some (.loc id []) => match lk id st.l with
      | some (.var ty con) => bif tyIs (lk T E.tab) ty then (resR E st r).bind fun vs => some (ofC ty con :: vs) else none
      | _ => none
    | _ => none

/-- a function, read on the spot -/
def hnd [DecidableEq α] (E : Env2) (N : Nat) : Nat → Tg → St → (St → RV → Option α) → Option α
  | 0, _, _, _ => none
  | n + 1, .yl, st, k => (topL st).bind fun t => denR E (hnd E N n) t.2.2.lt N t.2.2.assign (beginR fun st => denR E (hnd E N n) t.2.2.lt N t.2.2.body (endR none true k) (fun j => endR (some (.exit j)) false k) (endR (some .ret) false k) st) (fun _ _ => none) (fun _ => none) st
  | n + 1, .fn f, st, k => match lk f E.inl with
    | some (fn, lt) => match fn.body with
      | some c => bif Nat.ble (List.length st.s) fn.ntmps then denR E (hnd E N n) lt N c (fun st => (resR E st fn.results.toList).bind fun vs => k st (resRV vs)) (fun _ _ => none) (fun st => (resR E st fn.results.toList).bind fun vs => k st (resRV vs)) st else none
      | none => none
    | none => none

def resOne (l : List (Nat × Ob)) (l' : List (Nat × Ob)) (g : RV → RV) (t : Ty) (o : Bool) (rv : RV) (k : t.den → Option α) : Option α :=
  bif o then match rv with
    | .row id => match lk id l with
      | some (.row e xs) => (TV.as t ⟨.slice e, xs⟩).bind k
      | _ => none
    | .nil e => (TV.as t ⟨.slice e, ([] : List e.den)⟩).bind k
    | _ => none
  else peekK l' 6 (g rv) fun v => (TV.as t v).bind k

def resK (l l' : List (Nat × Ob)) (g : RV → RV) : (rs : List Ty) → List Bool → List RV → (resDen rs → Option α) → Option α
  | [], [], [], k => k ()
  | [t], [o], [rv], k => resOne l l' g t o rv k
  | t :: u :: ts, o :: os, rv :: rvs, k => resOne l l' g t o rv fun x => resK l l' g (u :: ts) os rvs fun r => k (x, r)
  | _, _, _, _ => none

/-- the row that is handed on -/
def ownId : List Bool → List RV → Option Nat
  | true :: _, .row id :: _ => some id
  | _ :: os, _ :: rvs => ownId os rvs
  | _, _ => none

def lessL (own : Option Nat) (l : List (Nat × Ob)) : List (Nat × Ob) :=
  match own with
  | some id => dropA id (mapLo (killF id) l)
  | none => l
def lessR (own : Option Nat) (rv : RV) : RV :=
  match own with
  | some id => mapR (killF id) rv
  | none => rv

def rowIds (l : List (Nat × Ob)) (vs : List RV) : List Nat := (idsL vs).filter fun id => match lk id l with
  | some (.row _ _) => true
  | _ => false
def resV : (rs : List Ty) → List RV → Option (resDen rs)
  | [], [] => some ()
  | [t], [rv] => bif frozenR rv then (peekK [] 6 rv some).bind fun v => TV.as t v else none
  | t :: u :: ts, rv :: rvs => bif frozenR rv then (peekK [] 6 rv some).bind fun v => (TV.as t v).bind fun x => (resV (u :: ts) rvs).bind fun r => some (x, r) else none
  | _, _ => none

/-- what one that calls itself leaves behind -/
def finR (c : RecC) (y : BtsD c.bp) (st : St) (vs : List RV) : Option (wD c.bp c.w × resDen c.rs) :=
  match st.k with
  | [(_, wt)] => (witIds wt c.bp 0).bind fun ids => bif rowL 0 (renL (fun id => idxN id ids 0) st.l ids 0) then sameL c.bp (some c.w) y (renL (fun id => idxN id ids 0) st.l ids 0) ((getW c.bp c.w (renL (fun id => idxN id ids 0) st.l ids 0)).bind fun z => (resV c.rs vs).bind fun r => some (z, r)) else none
  | _ => none

def slotsV : Nat → List TV → List (Nat × RV)
  | _, [] => []
  | i, v :: r => (i, .val v) :: slotsV (i + 1) r
end

def decRes : (rs : List Ty) → DecidableEq (resDen rs)
  | [] => inferInstanceAs (DecidableEq Unit)
  | [t] => decD t
  | t :: u :: ts => @instDecidableEqProd _ _ (decD t) (decRes (u :: ts))
instance (rs : List Ty) : DecidableEq (resDen rs) := decRes rs
def decP : (p : Pt) → DecidableEq p.D
  | .hole t => decD t
  | .fix _ => inferInstanceAs (DecidableEq Unit)
  | .ag _ p => decP p
  | .pr a b => @instDecidableEqProd _ _ (decP a) (decP b)
def decB : (b : Bt) → DecidableEq b.D
  | .var _ p => decP p
  | .mp kt vt => @instDecidableEqList _ (@instDecidableEqProd _ _ (decD kt) (decD vt))
  | .row t => @instDecidableEqList _ (decD t)
def decW : (bs : List Bt) → (n : Nat) → DecidableEq (wD bs n)
  | [], _ => inferInstanceAs (DecidableEq Empty)
  | b :: _, 0 => decB b
  | _ :: bs, n + 1 => decW bs n
instance (bs : List Bt) (n : Nat) : DecidableEq (wD bs n) := decW bs n

def rise (E : Env2) (lt : LT) (lv N : Nat) (fn : Func) (ps rs : List Ty) (os : List Bool) (x : resDen ps) : Option (resDen rs) :=
  match fn.body with
  | some c => denR E (hnd E N lv) lt N c (fun st => (resR E st fn.results.toList).bind fun vs => resK st.l (lessL (ownId os vs) st.l) (lessR (ownId os vs)) rs os vs some) (fun _ _ => none)
      (fun st => (resR E st fn.results.toList).bind fun vs => resK st.l (lessL (ownId os vs) st.l) (lessR (ownId os vs)) rs os vs some)
      { s := slotsV 0 (unpackL ps x), l := [], k := [], b := 4096 }
  | none => none

/-- its end: rows of its own that it gives back are from there on only read -/
def doneR (E : Env2) (fn : Func) (c : RecC) (y : BtsD c.bp) (st : St) : Option (wD c.bp c.w × resDen c.rs) :=
  (resR E st fn.results.toList).bind fun vs => frzAllK 60 (rowIds st.l vs) st fun st => (resR E st fn.results.toList).bind fun vs => finR c y st vs

/-- the slice that is given back -/
def doneO (E : Env2) (fn : Func) (e : Ty) (st : St) : Option (Ty.slice e).den :=
  (resR E st fn.results.toList).bind fun vs => match vs with
    | [.row id] => match lk id st.l with
      | some (.row t z) => TV.as (.slice e) ⟨.slice t, z⟩
      | _ => none
    | _ => none
/-- one that is given a slice of its callers' own, read -/
def riseO (E : Env2) (lt : LT) (lv N : Nat) (fn : Func) (e : Ty) (fp : List Pt) (x : List e.den) (y : PtsD fp) : Option (Ty.slice e).den :=
  match fn.body with
  | some code => @denR _ (decD (.slice e)) E (@hnd _ (decD (.slice e)) E N lv) lt N code (doneO E fn e) (fun _ _ => none) (doneO E fn e) (startO e fp x y)
  | none => none

/-- one that calls itself, read -/
def riseR (E : Env2) (lt : LT) (lv N : Nat) (fn : Func) (c : RecC) (x : PtsD c.fp) (y : BtsD c.bp) : Option (wD c.bp c.w × resDen c.rs) :=
  match fn.body with
  | some code => denR E (hnd E N lv) lt N code (doneR E fn c y) (fun _ _ => none) (doneR E fn c y)
      (startR c x y)
  | none => none
end Go.Lift
