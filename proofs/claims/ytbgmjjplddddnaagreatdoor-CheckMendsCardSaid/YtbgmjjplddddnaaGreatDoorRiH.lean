import Derived.Test.YtbgmjjplddddnaaGreatDoorRiV
set_option linter.unusedSimpArgs false
namespace Go.Lift
open Go.RowKit
inductive Tg where
 | fn (f:FuncId)
 | yl
structure U0 where
 ps:List Ty
 rs:List Ty
 os:List Bool
 F:BP ps->Option (BP rs)
structure Bn where
 tab:List (TypeId×Ty)
 fs:List (FuncId×U0)
 inl:List (FuncId×Func×LT)
 rep:(α:Type)->Nat->α->List α:=fun _=>List.replicate
 rcs:List (FuncId×FB):=[]
 vl:List Nat:=[]
 ag:List Nat:=[]
 wd:Bool:=false
 ow:List (FuncId×MF):=[]
def QU (E:Bn) (e:Ty):Nat:=match E.wd,e with
 | true,.int _=>VL
 | _,_=>lim
def YZ (E:Bn) (o:Oper):Bool:=match o.dst with
 | some d=>E.ag.any (Nat.beq d)
 | none=>false
def X5 (E:Bn) (o:Oper):Bool:=match o.dst with
 | some d=>E.vl.any (Nat.beq d)
 | none=>false
def FC:Value->Bool
 | .slice none 0 0=>true
 | _=>false
def Bf (ty:Option Ty) (x:Operand) (s:List (Nat×RV)):RV:=
 match x with
 | .tmp i=>(lk i s).getD .any
 | .const v=>match ty with
  | some (.slice e)=>bif FC v then .nil e else .any
  | some t=>match kindOk t v,Dp t v.cells.toList with
   | true,some y=>.val ⟨t,y⟩
   | _,_=>.any
  | none=>.any
 | .func f=>.Ee f .unit
 | .global g=>match lk g Mi with
  | some v=>.val ⟨.ptr v.1,v.2⟩
  | none=>.any
def GN:RV->Option Int
 | .val ⟨.int _,n⟩=>some n
 | _=>none
def F6:RV->Bool
 | .val _=>true
 | .nil _=>true
 | .unit=>true
 | .pair a b=>F6 a&&F6 b
 | _=>false
def Di:RV->Bool
 | .val _=>true
 | .nil _=>true
 | .agg _ r=>F6 r
 | _=>false
def E5 {α:Type} (n:Nat) (k:Nat->α):α:=
 match n with
 | 0=>k 0
 | m+1=>k (m+1)
theorem Bo {α:Type} (n:Nat) (k:Nat->α):E5 n k=k n:=by cases n <;> rfl
def newId (st:St) (d:Nat):Nat:=E5 st.b fun b=>(b+d) * 8
section
variable {α:Type}
def slotsOf (o:Oper):List Nat:=o.op.operands.toList.filterMap fun | .tmp i=>some i | _=>none
def Ux (l:List (Nat×Ob)) (s:List (Nat×RV)):List Nat->(List (Nat×AV)->Option α)->Option α
 | [],k=>k []
 | i::r,k=>match lk i s with
  | some rv=>Bg l 6 rv fun v=>Ux l s r fun fr=>k ((i,.val v .no)::fr)
  | none=>none
def Dv (s:List (Nat×RV)) (is:List Nat):Bool:=is.all fun i=>match lk i s with
 | some rv=>Di rv
 | none=>false
def Bn.old (E:Bn):Env:={ tab:=E.tab,fs:=[],live:=[],rep:=E.rep }
def FZ (E:Bn) (o:Oper) (st:St) (k:RV->Option Ob->Option α):Option α:=
 Ux st.l st.s (slotsOf o) fun fr=>Du E.old o { s:=fr,l:=[] } fun av=>match av with
  | .val v _=>bif v.1.flat||Dv st.s (slotsOf o) then k (.val v) none else none
  | _=>none
def Ty.Mk:Ty->Bool
 | .slice _=>true
 | .pair a b=>a.Mk||b.Mk
 | _=>false
def JL:(t:Ty)->t.den->RV
 | .slice e,_=>.nil e
 | .pair a b,x=>bif a.Mk||b.Mk then .pair (JL a x.1) (JL b x.2) else .val ⟨.pair a b,x⟩
 | t,x=>.val ⟨t,x⟩
def Sk:Ob->List Step->Option Ty
 | .var ty _,p=>GQ ty p
 | .row ty _,.idx _::p=>GQ ty p
 | .mp kt vt _,p=>GQ (.mp kt vt) p
 | .lp _ _,p=>GQ .unit p
 | _,_=>none
def VW:RV->Nat->Option RV
 | .pair a _,0=>some a
 | .pair _ b,n+1=>VW b n
 | _,_=>none
def chain:List RV->RV
 | []=>.unit
 | a::r=>.pair a (chain r)
def JV (n:Nat) (lo hi:Option RV) (k:Nat->Nat->Option α):Option α:=
 match lo,hi with
 | none,none=>k 0 n
 | some a,none=>(GN a).bind fun l=>bif decide (0<=l)&&decide (l<=(n:Int)) then k l.toNat n else none
 | none,some b=>(GN b).bind fun h=>bif decide (0<=h)&&decide (h<=(n:Int)) then k 0 h.toNat else none
 | some a,some b=>(GN a).bind fun l=>(GN b).bind fun h=>bif decide (0<=l)&&(decide (l<=h)&&decide (h<=(n:Int))) then k l.toNat h.toNat else none
def MK {α:Type} (p:Nat×α):List (Nat×α)->List (Nat×α)
 | []=>[p]
 | q::r=>bif Nat.ble p.1 q.1 then p::q::r else q::MK p r
def Fa {α:Type}:List (Nat×α)->List (Nat×α)
 | []=>[]
 | p::r=>MK p (Fa r)
def Ce (s:List (Nat×RV)):Ty->Nat->List (Nat×Operand)->Option RV
 | .unit,_,[]=>some .unit
 | .pair a b,i,[]=>(Bp a).bind fun x=>(Ce s b (i+1) []).bind fun y=>some (.pair (JL a x) y)
 | .pair a b,i,(j,o)::r=>bif Nat.beq i j then (toC a (Bf (some a) o s)).bind fun x=>(Ce s b (i+1) r).bind fun y=>some (.pair x y)
  else (Bp a).bind fun x=>(Ce s b (i+1) ((j,o)::r)).bind fun y=>some (.pair (JL a x) y)
 | _,_,_=>none
def F5 (t:Ty) (s:List (Nat×RV)):Nat->List (Nat×Operand)->Option (List t.den)
 | _,[]=>some []
 | i,(j,x)::r=>bif Nat.beq i j&&Di (Bf (some t) x s) then
   (Bg [] 6 (Bf (some t) x s) some).bind fun v=>(TV.as t v).bind fun y=>(F5 t s (i+1) r).bind fun ys=>some (y::ys)
  else none
def X8:TV->TV
 | ⟨.nes e,xs⟩=>⟨.slice e,xs⟩
 | v=>v
def GI (tab:List (TypeId×Ty)) (l:List (Nat×Ob)) (s:List (Nat×RV)):List Operand->List TypeId->(List TV->Option α)->Option α
 | [],[],k=>k []
 | x::xs,t::ts,k=>Bg l 6 (Bf (lk t tab) x s) fun v=>GI tab l s xs ts fun vs=>k (X8 v::vs)
 | _,_,_=>none
def allArgs (tab:List (TypeId×Ty)) (s:List (Nat×RV)):List Operand->List TypeId->Bool
 | [],[]=>true
 | x::xs,t::ts=>Di (Bf (lk t tab) x s)&&allArgs tab s xs ts
 | _,_=>false
def EP (id:Nat):(rs:List Ty)->List Bool->BP rs->List RV×Option Ob
 | [],_,_=>([],none)
 | [.slice e],true::_,x=>([.row id],some (.row e x))
 | [t],_,x=>([.val ⟨t,x⟩],none)
 | .slice e::u::ts,true::os,x=>(.row id::(EP id (u::ts) os x.2).1,some (.row e x.1))
 | t::u::ts,os,x=>(.val ⟨t,x.1⟩::(EP id (u::ts) os.tail x.2).1,(EP id (u::ts) os.tail x.2).2)
def Gn:List RV->RV
 | []=>.any
 | [rv]=>rv
 | l=>.Db (chain l)
def Ty.QF:Ty->Bool
 | .slice e=>e.flat
 | _=>false
def apart:List Ty->List Bool->Bool
 | [],_=>true
 | t::ts,os=>(t.flat||(os.headD false&&t.QF))&&apart ts os.tail
def Ma (E:Bn) (fn:U0) (args:List Operand) (ts:List TypeId) (id:Nat) (st:St) (k:RV->Option Ob->Option α):Option α:=
 bif apart fn.rs fn.os||allArgs E.tab st.s args ts then
  GI E.tab st.l st.s args ts fun vs=>(Cc fn.ps vs).bind fun x=>(fn.F x).bind fun r=>k (Gn (EP id fn.rs fn.os r).1) (EP id fn.rs fn.os r).2
 else none
def TK (vl:Bool) (src dst:Option Ty) (rv:RV) (id:Nat) (k:RV->Option Ob->Option α) (alt:Option α):Option α:=
 match dst,rv with
 | some (.slice (.int .u8)),.val ⟨.str,s⟩=>bif Bd src .str then (bif vl then k (.val ⟨.slice (.int .u8),s⟩) none else k (.row id) (some (.row (.int .u8) s))) else none
 | _,_=>alt
def Oo:Ty->Bool
 | .mp _ _=>true
 | .fn=>true
 | _=>false
def FN:Ty->Bool
 | .int _=>true
 | .bool=>true
 | .str=>true
 | .arr n e=>Nat.ble n 100&&(match e with | .int _=>true | .bool=>true | .str=>true | _=>false)
 | _=>false
def Pw {kt vt:Ty} (x:kt.den) (z:vt.den):List (kt.den×vt.den)->vt.den×Bool
 | []=>(z,false)
 | p::r=>bif JW kt x p.1 then (p.2,true) else Pw x z r
def MO {kt vt:Ty} (x:kt.den) (y:vt.den):List (kt.den×vt.den)->List (kt.den×vt.den)
 | []=>[(x,y)]
 | p::r=>bif JW kt x p.1 then (x,y)::r else p::MO x y r
def RB (E:Bn) (t:TypeId) (m x:Operand) (ok:Bool) (st:St) (k:RV->Option Ob->Option α):Option α:=
 match Bf none m st.s with
 | .mp i=>match lk i st.l with
  | some (.mp kt vt es)=>bif Bd (lk t E.tab) (.mp kt vt)&&FN kt then
    (Bg st.l 6 (Bf (some kt) x st.s) fun v=>(TV.as kt v).bind fun x=>(Bp vt).bind fun z=>
     bif ok then k (.Db (.pair (.val ⟨vt,(Pw x z es).1⟩) (.pair (.val ⟨.bool,(Pw x z es).2⟩) .unit))) none else k (.val ⟨vt,(Pw x z es).1⟩) none)
   else none
  | _=>none
 | _=>none
def MN (E:Bn) (t:TypeId) (m x y:Operand) (st:St) (k:Nat->Ob->Option α):Option α:=
 match Bf none m st.s with
 | .mp i=>match lk i st.l with
  | some (.mp kt vt es)=>bif Bd (lk t E.tab) (.mp kt vt)&&(FN kt&&vt.flat) then
    Bg st.l 6 (Bf (some kt) x st.s) fun v=>(TV.as kt v).bind fun x=>Bg st.l 6 (Bf (some vt) y st.s) fun u=>(TV.as vt u).bind fun y=>k i (.mp kt vt (MO x y es))
   else none
  | _=>none
 | _=>none
def Lb (E:Bn) (o:Oper) (st:St) (k:RV->Option α) (alt:Option α):Option α:=
 match o.op with
 | .binOp op t x (.const v) _=>match FC v,op,Bf none x st.s with
  | true,.eql,.val ⟨.nes e,xs⟩=>bif Bd (lk t E.tab) (.nes e) then k (.val ⟨.bool,List.isEmpty xs⟩) else none
  | true,.neq,.val ⟨.nes e,xs⟩=>bif Bd (lk t E.tab) (.nes e) then k (.val ⟨.bool,!List.isEmpty xs⟩) else none
  | _,_,_=>alt
 | .call { callee:=.builtin .cap,args,argTypes }=>match args.toList,argTypes.toList with
  | [x],[t]=>match Bf none x st.s with
   | .nil e=>bif Bd (lk t E.tab) (.slice e) then k (.val ⟨.int .i64,(0:Int)⟩) else none
   | _=>alt
  | _,_=>alt
 | .slice T x none (some y) none=>match Bf none x st.s with
  | .nil e=>(GN (Bf (some (.int .i64)) y st.s)).bind fun h=>bif decide (h=0) then (bif Bd (lk T E.tab) (.slice e) then k (.nil e) else none) else none
  | _=>alt
 | _=>alt
def CP (E:Bn) (o:Oper) (st:St) (id:Nat) (k:RV->Option Ob->Option α):Option α:=
 match o.op with
 | .move x=>k (Bf (lk o.type E.tab) x st.s) none
 | .assign x=>k (Bf (lk o.type E.tab) x st.s) none
 | .pick c a b=>match Bf (lk o.type E.tab) c st.s with
  | .val ⟨.bool,c⟩=>bif c then k (Bf (lk o.type E.tab) a st.s) none else k (Bf (lk o.type E.tab) b st.s) none
  | _=>none
 | .alloc t=>(lk t E.tab).bind fun ty=>match Oo ty with
  | true=>k (.loc id []) (some (.var ty .any))
  | false=>(Bp ty).bind fun z=>k (.loc id []) (some (.var ty (JL ty z)))
 | .makeMap t none=>(lk t E.tab).bind fun ty=>match ty with
  | .mp kt vt=>k (.mp id) (some (.mp kt vt []))
  | _=>none
 | .lookup t m x ok=>RB E t m x ok st k
 | .box t x=>(lk t E.tab).bind fun ty=>(toC ty (Bf (some ty) x st.s)).bind fun c=>k (.loc id []) (some (.var ty c))
 | .load T x=>match Bf (lk o.type E.tab) x st.s with
  | .loc i p=>match lk i st.l with
   | some (.var ty con)=>DC (fun t rv=>bif Bd (lk T E.tab) t then k (Qe t rv) none else none) ty con p
   | some (.row t xs)=>match p with
    | .idx j::q=>(nth xs j.toNat).bind fun x=>KO (fun v=>bif Bd (lk T E.tab) v.1 then k (.val v) none else none) t x q
    | _=>none
   | some (.mp _ _ _)=>none
   | some (.lp _ _)=>none
   | none=>none
  | _=>FZ E o st k
 | .convert src dst x=>TK (X5 E o) (lk src E.tab) (lk dst E.tab) (Bf (lk src E.tab) x st.s) id k (FZ E o st k)
 | .nilCheck x=>match Bf (lk o.type E.tab) x st.s with
  | .loc i p=>k (.loc i p) none
  | .Ee f c=>k (.Ee f c) none
  | _=>FZ E o st k
 | .fieldAddr T x f=>match Bf (lk o.type E.tab) x st.s with
  | .loc i p=>(lk i st.l).bind fun ob=>(Sk ob p).bind fun t=>bif Bd (lk T E.tab) t&&(fieldTy t f).isSome then k (.loc i (p++[.EO f])) none else none
  | _=>FZ E o st k
 | .field T x f=>match Bf (lk o.type E.tab) x st.s with
  | .agg t r=>bif Bd (lk T E.tab) t&&(fieldTy t f).isSome then DC (fun t' rv=>k (Qe t' rv) none) t r [.EO f] else none
  | _=>FZ E o st k
 | .indexAddr T x i=>match Bf (lk o.type E.tab) x st.s with
  | .loc id p=>(GN (Bf (some (.int .i64)) i st.s)).bind fun i=>(lk id st.l).bind fun ob=>match Sk ob p with
   | some (.arr n t)=>bif Bd (lk T E.tab) (.arr n t) then (bif decide (0<=i)&&decide (i < (n:Int)) then k (.loc id (p++[.idx i])) none else none) else none
   | _=>none
  | .row id=>(GN (Bf (some (.int .i64)) i st.s)).bind fun i=>match lk id st.l with
   | some (.row t xs)=>bif Bd (lk T E.tab) (.slice t) then (bif decide (0<=i)&&decide (i < (List.length xs:Int)) then k (.loc id [.idx i]) none else none) else none
   | _=>none
  | .sub id lo hi=>(GN (Bf (some (.int .i64)) i st.s)).bind fun i=>match lk id st.l with
   | some (.row t _)=>bif Bd (lk T E.tab) (.slice t) then (bif decide (0<=i)&&decide (i < (hi:Int) - (lo:Int)) then k (.loc id [.idx ((lo:Int)+i)]) none else none) else none
   | _=>none
  | _=>FZ E o st k
 | .slice T x lo hi none=>match Bf (lk o.type E.tab) x st.s with
  | .row id=>match lk id st.l with
   | some (.row t xs)=>bif Bd (lk T E.tab) (.slice t) then JV (List.length xs) (lo.map (Bf (some (.int .i64)) · st.s)) (hi.map (Bf (some (.int .i64)) · st.s)) fun l h=>k (.sub id l h) none else none
   | _=>none
  | .sub id a b=>match lk id st.l with
   | some (.row t _)=>bif Bd (lk T E.tab) (.slice t) then JV (b - a) (lo.map (Bf (some (.int .i64)) · st.s)) (hi.map (Bf (some (.int .i64)) · st.s)) fun l h=>k (.sub id (a+l) (a+h)) none else none
   | _=>none
  | _=>Lb E o st (fun rv=>k rv none) (FZ E o st k)
 | .slice T x lo (some y) (some z)=>match Bf (lk o.type E.tab) x st.s with
  | .row id=>match lk id st.l with
   | some (.row t xs)=>bif Bd (lk T E.tab) (.slice t) then (GN (Bf (some (.int .i64)) z st.s)).bind fun m=>bif decide (0<=m)&&decide (m<=(List.length xs:Int)) then JV m.toNat (lo.map (Bf (some (.int .i64)) · st.s)) ((some y).map (Bf (some (.int .i64)) · st.s)) fun l h=>k (.sub id l h) none else none else none
   | _=>none
  | .sub id a b=>match lk id st.l with
   | some (.row t _)=>bif Bd (lk T E.tab) (.slice t) then (GN (Bf (some (.int .i64)) z st.s)).bind fun m=>bif decide (0<=m)&&decide (m<=((b - a:Nat):Int)) then JV m.toNat (lo.map (Bf (some (.int .i64)) · st.s)) ((some y).map (Bf (some (.int .i64)) · st.s)) fun l h=>k (.sub id (a+l) (a+h)) none else none else none
   | _=>none
  | _=>FZ E o st k
 | .extract x i=>match Bf (lk o.type E.tab) x st.s with
  | .Db r=>(VW r i).bind fun rv=>k rv none
  | _=>none
 | .makeFunc (.func f) first caps=>bif first.isEmpty then k (.Ee f (chain (caps.toList.map fun x=>Bf none x st.s))) none else none
 | .build t parts=>(lk t E.tab).bind fun ty=>bif Dv st.s (slotsOf o)&&!(YZ E o) then FZ E o st k else match ty with
  | .arr _ _=>none
  | ty=>(Ce st.s ty 0 (Fa parts.toList)).bind fun r=>k (.agg ty r) none
 | .buildSlice t n parts=>(lk t E.tab).bind fun ty=>match ty with
  | .slice e=>(F5 e st.s 0 parts.toList).bind fun ys=>bif Nat.beq ys.length n&&(Nat.ble n 1000000&&(Nat.ble 1 e.n&&Nat.ble (n * e.n) 1000000)) then (bif X5 E o then k (.val ⟨.slice e,ys⟩) none else k (.row id) (some (.row e ys))) else none
  | _=>none
 | .makeSlice t l c=>(GN (Bf (some (.int .i64)) l st.s)).bind fun n=>(GN (Bf (some (.int .i64)) c st.s)).bind fun m=>(lk t E.tab).bind fun ty=>match ty with
  | .slice e=>bif decide (0<=n)&&(decide (n<=m)&&(decide (m<=68719476736)&&Nat.ble 1 e.n)) then (Bp e).bind fun z=>k (.row id) (some (.row e (E.rep e.den n.toNat z))) else none
  | _=>none
 | .call { callee:=.value f,args,argTypes }=>match Bf none f st.s with
  | .Ee g .unit=>(lk g E.fs).bind fun fn=>Ma E fn args.toList argTypes.toList id st k
  | _=>none
 | _=>Lb E o st (fun rv=>k rv none) (FZ E o st k)
def Cu:Nat->List Nat->St->(St->Option α)->Option α
 | 0,_,_,_=>none
 | _,[],st,k=>k st
 | n+1,id::ids,st,k=>match lk id st.l with
  | none=>Cu n ids st k
  | some (.mp _ _ _)=>Cu n ids st k
  | some (.lp _ _)=>Cu n ids st k
  | some (.row t xs)=>Cu n ids (Ni id t xs st) k
  | some (.var ty con)=>match Fx con [] with
   | []=>Cr (fun rv k=>match rv with | .nil t=>k ⟨.slice t,([]:List t.den)⟩ | _=>none) con ty fun x=>Cu n ids (Jd id ty x st) k
   | ms=>Cu n (ms++id::ids) st k
def H9 (o:Oper) (st:St):List Nat:=(slotsOf o).foldr (fun i acc=>match lk i st.s with | some rv=>Fx rv acc | none=>acc) []
def toFrz (E:Bn) (o:Oper) (st:St):List Nat:=
 match o.op with
 | .slice _ x _ _ _=>match Bf none x st.s with
  | .loc id _=>[id]
  | _=>[]
 | .buildSlice _ _ _=>H9 o st
 | .build t _=>match lk t E.tab with
  | some (.arr _ _)=>H9 o st
  | _=>[]
 | .store t x y=>match Bf (lk t E.tab) x st.s with
  | .loc id _=>match lk id st.l with
   | some (.row _ _)=>Fx (Bf (lk t E.tab) y st.s) []
   | _=>[]
  | _=>[]
 | .call { callee:=.value f,.. }=>match Bf none f st.s with
  | .Ee g .unit=>match lk g E.fs with
   | some fn=>bif apart fn.rs fn.os then [] else H9 o st
   | none=>[]
  | _=>[]
 | _=>[]
def U2 (id:Nat) (ob:Option Ob) (st:St):St:=
 match ob with
 | some ob=>addN id ob st
 | none=>st
def Bj (id:Nat) (st:St):St:=
 match lk id st.l with
 | none=>st
 | some _=>Da id st
def Pf (tab:List (TypeId×Ty)) (u:TypeId) (l:List (Nat×Ob)) (e:Ty):RV->Option (List e.den)
 | .val ⟨.slice t,ys⟩=>bif Bd (lk u tab) (.slice t) then TV.as (.slice e) ⟨.slice t,ys⟩ else none
 | .val ⟨.str,ys⟩=>bif Bd (lk u tab) .str then TV.as (.slice e) ⟨.slice (.int .u8),ys⟩ else none
 | .nil t=>bif Bd (lk u tab) (.slice t) then TV.as (.slice e) ⟨.slice t,([]:List t.den)⟩ else none
 | .row id=>match lk id l with
  | some (.row t xs)=>bif Bd (lk u tab) (.slice t) then TV.as (.slice e) ⟨.slice t,xs⟩ else none
  | _=>none
 | .sub id lo hi=>match lk id l with
  | some (.row t xs)=>bif Bd (lk u tab) (.slice t) then TV.as (.slice e) ⟨.slice t,(List.take hi xs).drop lo⟩ else none
  | _=>none
 | _=>none
def MI (l:List (Nat×Ob)) (e:Ty):RV->Option (List e.den×Option Nat)
 | .nil t=>bif decide (t=e) then some ([],none) else none
 | .row id=>match lk id l with
  | some (.row t xs)=>(TV.as (.slice e) ⟨.slice t,xs⟩).bind fun xs=>some (xs,some id)
  | _=>none
 | .sub id lo hi=>match lk id l with
  | some (.row t xs)=>bif Nat.beq lo 0 then (TV.as (.slice e) ⟨.slice t,xs⟩).bind fun xs=>some (List.take hi xs,some id) else none
  | _=>none
 | _=>none
def Ck:Option Nat->St->St
 | some id,st=>Da id st
 | none,st=>st
def UA (d:Nat) (i:Nat):Option Nat:=bif Nat.beq i d then some i else none
def Gh (id:Nat) (u:Ty) (xs:List u.den) (t:Ty) (s:List (Nat×RV)):Nat->List (Nat×Operand)->Option (List t.den)
 | _,[]=>some []
 | i,(j,x)::r=>bif Nat.beq i j then
   (Bg [(id,.row u xs)] 6 (Ba (UA id) (Bf (some t) x s)) some).bind fun v=>(TV.as t v).bind fun y=>(Gh id u xs t s (i+1) r).bind fun ys=>some (y::ys)
  else none
def Fp (E:Bn) (t:TypeId) (n:Nat) (parts:List (Nat×Operand)) (id:Nat) (st:St) (k:(e:Ty)->List e.den->Option α):Option α:=
 match lk id st.l with
 | some (.row u xs)=>(lk t E.tab).bind fun ty=>match ty with
  | .slice e=>(Gh id u xs e st.s 0 parts).bind fun ys=>bif Nat.beq ys.length n&&(Nat.ble n 1000000&&(Nat.ble 1 e.n&&Nat.ble (n * e.n) 1000000)) then k e ys else none
  | _=>none
 | _=>none
def Lj (E:Bn) (o:Oper) (st:St) (k:St->Option α):Option α:=
 E5 (newId st (o.dst.getD 0)) fun id=>CP E o (Bj id st) id fun rv ob=>k (Ch (U2 id ob (Bj id st)) o.dst rv)
def push (lt:LT) (d:Nat) (args:List RV) (st:St):St:=
 E5 st.b fun b=>{ s:=(args.zipIdx 0).map fun p=>(p.2,p.1),l:=st.l,k:=(b,match lk d lt.keep with | some ks=>DX st.s ks | none=>st.s)::st.k,b:=(b+d+1) * 4096 }
def pop (st:St):St:=
 match st.k with
 | (b,s)::k=>{ s:=s,l:=st.l,k:=k,b:=b }
 | []=>st
def Pj (st:St):Option (Nat×RV×LQ):=
 match st.k with
 | (_,s)::_=>match lk 0 s with
  | some (.yl id)=>match lk id st.l with
   | some (.lp con q)=>some (id,con,q)
   | _=>none
  | _=>none
 | []=>none
def JU (s:List (Nat×RV)):Nat->Nat->RV
 | _,0=>.unit
 | i,n+1=>.pair ((lk i s).getD .any) (JU s (i+1) n)
def maxS:List (Nat×RV)->Nat
 | []=>0
 | p::s=>bif Nat.ble (maxS s) p.1 then p.1+1 else maxS s
def GA:Nat->RV->List (Nat×RV)
 | i,.pair .any b=>GA (i+1) b
 | i,.pair a b=>(i,a)::GA (i+1) b
 | _,_=>[]
def L8:List Tmp->List RV->List (Nat×RV)->List (Nat×RV)
 | p::ps,rv::CO,s=>L8 ps CO ((p,rv)::s)
 | _,_,s=>s
def RJ (lt:LT) (id:Nat) (ps:Array Tmp) (assign body:Code) (cs:List RV) (st:St):St:=
 E5 st.b fun b=>match lk (ps.toList.headD 1000000) lt.rf with
  | some (k1,k2)=>{ s:=((.yl id::cs).zipIdx 0).map fun p=>(p.2,p.1),l:=(id,.lp (JU (DX st.s k1) 0 (maxS (DX st.s k1))) ⟨ps,assign,body,lt,.ready,none⟩)::st.l,k:=(0,[(0,.yl id)])::(b,DX st.s k2)::st.k,b:=(b+4001) * 4096 }
  | none=>{ s:=((.yl id::cs).zipIdx 0).map fun p=>(p.2,p.1),l:=(id,.lp (JU st.s 0 (maxS st.s)) ⟨ps,assign,body,lt,.ready,none⟩)::st.l,k:=(0,[(0,.yl id)])::(b,st.s)::st.k,b:=(b+4001) * 4096 }
def UK (lt:LT) (d:Nat) (id:Nat) (con:RV) (q:LQ) (args:List RV) (st:St):St:=
 E5 st.b fun b=>{ s:=L8 q.ps.toList args (GA 0 con),l:=st.l,k:=(0,[(0,.yl id)])::(b,match lk d lt.keep with | some ks=>DX st.s ks | none=>st.s)::st.k,b:=(b+d+1) * 4096 }
def TF {α:Type} (k:St->Option α) (st:St):Option α:=
 (Pj st).bind fun t=>match t.2.2.state with
  | .ready=>k (Bl t.1 (.lp t.2.1 { t.2.2 with state:=.busy }) st)
  | _=>none
def Oh {α:Type} (jump:Option Code) (b:Bool) (k:St->RV->Option α) (st:St):Option α:=
 (Pj st).bind fun t=>match t.2.2.state with
  | .busy=>k (pop (Bl t.1 (.lp t.2.1 { t.2.2 with state:=bif b then .ready else .done,jump:=jump }) st)) (.val ⟨.bool,b⟩)
  | _=>none
def Kg {α:Type} (kn:St->Option α) (kx:Nat->St->Option α) (kr:St->Option α) (st:St):Option α:=
 (Pj st).bind fun t=>match t.2.2.state,t.2.2.jump with
  | .ready,none=>kn (pop (pop (Da t.1 st)))
  | .done,some .ret=>kr (pop (pop (Da t.1 st)))
  | .done,some (.exit j)=>kx j (pop (pop (Da t.1 st)))
  | _,_=>none
def GJ:RV->Option (List RV)
 | .unit=>some []
 | .pair a b=>(GJ b).bind fun r=>some (a::r)
 | _=>none
def UH:RV->RV
 | .nil t=>.val ⟨.slice t,([]:List t.den)⟩
 | rv=>rv
def T9 (tt:Option Ty) (p:List Step) (ty:Ty) (xs:List ty.den) (rv:RV) (k:List ty.den->Option α) (alt:Option α):Option α:=
 match p,rv with
 | [.idx i],.val ⟨.slice e,ys⟩=>bif Bd tt (.nes e) then (bif List.isEmpty ys then none else (TV.as ty ⟨.nes e,ys⟩).bind fun z=>k (List.set xs i.toNat z)) else alt
 | _,_=>alt
def FD (E:Bn) (t:TypeId) (x y:Operand) (st:St) (k:Nat->Ob->Option α):Option α:=
 match Bf (lk t E.tab) x st.s with
 | .loc id p=>match lk id st.l with
  | some (.var ty con)=>(lk t E.tab).bind fun tt=>(toC tt (Bf (some tt) y st.s)).bind fun _=>F8 (Bf (some tt) y st.s) ty (fun CQ=>k id (.var ty CQ)) con p
  | some (.row ty xs)=>T9 (lk t E.tab) p ty xs (Bf (lk t E.tab) y st.s) (fun z=>k id (.row ty z)) <| match p,UH (Bf (lk t E.tab) y st.s) with
   | [.idx i],.val v=>bif Bd (lk t E.tab) v.1 then (TV.as ty v).bind fun z=>k id (.row ty (List.set xs i.toNat z)) else none
   | .idx i::s::q,.val v=>bif Bd (lk t E.tab) v.1 then (nth xs i.toNat).bind fun x=>(F9 v ty x (s::q)).bind fun z=>k id (.row ty (List.set xs i.toNat z)) else none
   | _,_=>none
  | some (.mp _ _ _)=>none
  | some (.lp _ _)=>none
  | none=>none
 | _=>none
def Uf (E:Bn) (u:TypeId) (new:Bool) (e:Ty) (rv:RV) (k:List e.den->Option α) (alt:Option α):Option α:=
 match new,rv with
 | true,.val ⟨.int .i64,n⟩=>bif decide (1<=n)&&decide (n<=(lim:Int)) then (bif Bd (lk u E.tab) (.int .i64) then (Bp e).bind fun z=>k (E.rep e.den n.toNat z) else none) else none
 | _,_=>alt
def NR (E:Bn) (args:Array Operand) (argTypes:Array TypeId) (st:St) (k:(e:Ty)->List e.den->Option Nat->Option α):Option α:=
 match args.toList,argTypes.toList with
 | [sx,x],t::u::[]=>match lk t E.tab with
  | some (.slice e)=>(MI st.l e (Bf (some (.slice e)) sx st.s)).bind fun xs=>Uf E u xs.2.isNone e (Bf (lk u E.tab) x st.s) (fun ys=>bif Nat.ble 1 e.n&&Nat.ble (List.length xs.1+List.length ys) (QU E e) then k e (List.append xs.1 ys) xs.2 else none) <| (Pf E.tab u st.l e (Bf (lk u E.tab) x st.s)).bind fun ys=>
    bif Nat.ble 1 e.n&&Nat.ble (List.length xs.1+List.length ys) (QU E e) then k e (List.append xs.1 ys) xs.2 else none
  | _=>none
 | _,_=>none
def UF (l:List (Nat×Ob)):RV->Option (Nat×Nat×Nat)
 | .row id=>match lk id l with
  | some (.row _ xs)=>some (id,0,List.length xs)
  | _=>none
 | .sub id lo hi=>some (id,lo,hi)
 | _=>none
def TI (E:Bn) (args:Array Operand) (argTypes:Array TypeId) (st:St) (k:Nat->Ob->Option α):Option α:=
 match args.toList,argTypes.toList with
 | [x],[t]=>match lk t E.tab with
  | some (.slice e)=>(UF st.l (Bf (some (.slice e)) x st.s)).bind fun p=>match lk p.1 st.l with
   | some (.row u X9)=>(TV.as (.slice e) ⟨.slice u,X9⟩).bind fun xs=>(Bp e).bind fun z=>bif Nat.ble 1 e.n then k p.1 (.row e (List.append (List.take p.2.1 xs) (List.append (E.rep e.den (p.2.2 - p.2.1) z) (List.drop p.2.2 xs)))) else none
   | _=>none
  | _=>none
 | _,_=>none
def OX [DecidableEq α] (a b:Option α):Option α:=bif decide (a=b) then a else none
theorem IG [DecidableEq α] {a b:Option α} {r:α} (h:OX a b=some r):a=some r/\b=some r:=by
 unfold OX at h
 cases hd:decide (a=b) with
 | true=>
  rw [hd] at h
  exact ⟨h,of_decide_eq_true hd ▸ h⟩
 | false=>rw [hd] at h;cases h
def Wm [DecidableEq α] (E:Bn) (op:BinOp) (t:TypeId) (x:Operand) (v:Value) (st:St) (f:Bool->Option α) (alt:Option α):Option α:=
 match op,FC v,Bf none x st.s with
 | .eql,true,.val ⟨.slice e,xs⟩=>bif Bd (lk t E.tab) (.slice e) then (bif List.isEmpty xs then OX (f true) (f false) else f false) else none
 | .neq,true,.val ⟨.slice e,xs⟩=>bif Bd (lk t E.tab) (.slice e) then (bif List.isEmpty xs then OX (f false) (f true) else f true) else none
 | _,_,_=>alt
def Nj (old id n:Nat):RV->RV:=Ru old (.sub id 0 n) (fun lo hi=>.sub id lo hi) fun p=>.loc id p
def TQ [DecidableEq α] (E:Bn) (args:Array Operand) (argTypes:Array TypeId) (d:Nat) (st:St) (k:St->Option α):Option α:=
 match args.toList,argTypes.toList with
 | [sx,x],t::u::[]=>match lk t E.tab with
  | some (.slice e)=>match Bf (some (.slice e)) sx st.s with
   | .row old=>match lk old st.l with
    | some (.row t' X9)=>(TV.as (.slice e) ⟨.slice t',X9⟩).bind fun xs=>(Pf E.tab u st.l e (Bf (lk u E.tab) x st.s)).bind fun ys=>
     bif (Nat.ble 1 e.n&&Nat.ble (List.length xs+List.length ys) lim) then E5 (newId st d) fun id=>match lk id st.l with
      | none=>OX (k (Ch (addN id (.row e (List.append xs ys)) st) (some d) (.row id))) (k (Ch (addN id (.row e (List.append xs ys)) (Hz old (Nj old id (List.length xs)) st)) (some d) (.row id)))
      | some _=>none
     else none
    | _=>none
   | _=>none
  | _=>none
 | _,_=>none
def isFn:Operand->Bool
 | .func _=>true
 | _=>false
def UY (E:Bn) (src dst:TypeId) (rv:RV) (st:St) (f:Nat->Option α) (alt:Option α):Option α:=
 match Nat.beq src dst,rv with
 | true,.row id=>match lk id st.l with
  | some (.row t xs)=>bif Bd (lk src E.tab) (.slice t)&&(Bd (some t) (.int .u8)&&Nat.ble 1 (List.length xs)) then f id else none
  | _=>none
 | _,_=>alt
def KX (E:Bn) (c:FB) (args:Array Operand) (ts:Array TypeId) (caps:RV) (st:St) (k:Nat->Ob->RV->Option α):Option α:=
 bif Nat.beq args.size ts.size&&UM c then
  (GJ caps).bind fun cs=>Vd c st.l (((args.toList.zip ts.toList).map fun p=>Bf (lk p.2 E.tab) p.1 st.s)++cs) fun id z r=>k id (JJ c.bp c.w z) (Gn (Rh c.rs r))
 else none
def H6 (E:Bn) (c:MF) (args:Array Operand) (ts:Array TypeId) (caps:RV) (st:St) (k:(e:Ty)->List e.den->Option Nat->Option α):Option α:=
 match args.toList,ts.toList,caps with
 | sx::xs,t::us,.unit=>bif Nat.beq xs.length us.length&&c.fp.all isHole then
   (MI st.l c.e (Bf (lk t E.tab) sx st.s)).bind fun X=>(OT c.fp ((xs.zip us).map fun p=>Bf (lk p.2 E.tab) p.1 st.s)).bind fun y=>(c.F X.1 y).bind fun z=>k c.e z X.2
  else none
 | _,_,_=>none
def JA {γ:Type} (T:List (FuncId×γ)) (o:Oper) (st:St) (yes:γ->Array Operand->Array TypeId->RV->Option α) (no:Option α):Option α:=
 match o.op with
 | .call { callee:=.value f,args,argTypes }=>match Bf none f st.s with
  | .Ee g caps=>match lk g T with
   | some c=>yes c args argTypes caps
   | none=>no
  | _=>no
 | _=>no
def Dc [DecidableEq α] (E:Bn) (H:Tg->St->(St->RV->Option α)->Option α) (lt:LT) (o:Oper) (st:St) (k:St->Option α):Option α:=
 match o.op,o.dst with
 | .store t x y,none=>FD E t x y st fun id ob=>k (Bl id ob st)
 | .mapUpdate t m x y,none=>MN E t m x y st fun id ob=>k (Bl id ob st)
 | .call { callee:=.builtin .append,args,argTypes },some d=>bif lt.fork.any (Nat.beq d) then TQ E args argTypes d st k else NR E args argTypes st fun e z old=>
   E5 (newId st d) fun id=>k (Ch (addN id (.row e z) (Bj id (Ck old st))) (some d) (.row id))
 | .call { callee:=.builtin .clear,args,argTypes },none=>TI E args argTypes st fun id ob=>k (Bl id ob st)
 | .call { callee:=.value f,args,argTypes },d=>match Bf none f st.s with
  | .Ee g caps=>match lk g E.rcs with
   | some c=>KX E c args argTypes caps st fun id ob rv=>k (Ch (Bl id ob st) d rv)
   | none=>match lk g E.ow,d with
   | some c,some d=>H6 E c args argTypes caps st fun e z old=>E5 (newId st d) fun id=>k (Ch (addN id (.row e z) (Bj id (Ck old st))) (some d) (.row id))
   | _,_=>match lk g E.fs,caps with
    | some _,.unit=>Lj E o st k
    | _,_=>bif Nat.beq args.size argTypes.size then (GJ caps).bind fun cs=>H (.fn g) (push lt (d.getD 0) ((args.toList.zip argTypes.toList).map (fun p=>Bf (lk p.2 E.tab) p.1 st.s)++cs) st) fun st' rv=>k (Ch (pop st') d rv) else none
  | .yl id=>match lk id st.l with
   | some (.lp con q)=>match q.state with
    | .ready=>bif Nat.beq args.size argTypes.size&&Nat.beq args.size q.ps.size then H .yl (UK lt (d.getD 0) id con q ((args.toList.zip argTypes.toList).map (fun p=>Bf (lk p.2 E.tab) p.1 st.s)) st) fun st' rv=>k (Ch (pop st') d rv) else none
    | _=>none
   | _=>none
  | _=>none
 | .binOp op t x (.const v) _,some d=>Wm E op t x v st (fun b=>k (Ch st (some d) (.val ⟨.bool,b⟩))) (Lj E o st k)
 | .convert src dst x,some d=>UY E src dst (Bf (lk src E.tab) x st.s) st (fun id=>k (Ch st (some d) (.row id))) (Lj E o st k)
 | _,some _=>Lj E o st k
 | _,none=>none
def Wn [DecidableEq α] (E:Bn) (H:Tg->St->(St->RV->Option α)->Option α) (lt:LT) (o:Oper) (st:St) (k:St->Option α):Option α:=
 match toFrz E o st with
 | []=>Dc E H lt o st k
 | ids=>Cu 60 ids st fun st=>Dc E H lt o st k
def Ez (g:Nat) (b:Bool):List (Nat×RV)->List (Nat×RV)
 | []=>[]
 | (j,a)::r=>bif Nat.beq g j then (j,.val ⟨.bool,b⟩)::r else (j,a)::Ez g b r
def Jp [DecidableEq α] (E:Bn) (H:Tg->St->(St->RV->Option α)->Option α) (lt:LT) (ops:Array Oper):List Oper->St->(St->Option α)->Option α
 | [],st,k=>k st
 | o::rest,st,k=>match o.guard with
  | none=>Wn E H lt o st fun st=>Jp E H lt ops rest st k
  | some (j,want)=>match (ops[j]?).bind (·.dst) with
   | some g=>match lk g st.s with
    | some (.val ⟨.bool,b⟩)=>
     bif b then
      (bif want then Wn E H lt o { st with s:=Ez g true st.s } fun st=>Jp E H lt ops rest st k
       else Jp E H lt ops rest (Ch { st with s:=Ez g true st.s } o.dst (.Db .unit)) k)
     else
      (bif want then Jp E H lt ops rest (Ch { st with s:=Ez g false st.s } o.dst (.Db .unit)) k
       else Wn E H lt o { st with s:=Ez g false st.s } fun st=>Jp E H lt ops rest st k)
    | some (.Db .unit)=>Jp E H lt ops rest (Ch st o.dst (.Db .unit)) k
    | _=>none
   | none=>none
structure Bq where
 d:Option Nat
 rv:RV
 o:Option (Nat×Ob)
 kl:Option Nat
def KM (e:Bq) (st:St):St:=
 { Ck e.kl st with s:=(match e.d with | some d=>(d,e.rv)::(Ck e.kl st).s | none=>(Ck e.kl st).s),l:=(match e.o with | some p=>p::(Ck e.kl st).l | none=>(Ck e.kl st).l) }
def Fb (E:Bn) (o:Oper) (st:St) (k:Bq->Option α):Option α:=
 match o.op,o.dst with
 | .store t x y,none=>FD E t x y st fun id ob=>k ⟨none,.any,some (id,ob),none⟩
 | .mapUpdate t m x y,none=>MN E t m x y st fun id ob=>k ⟨none,.any,some (id,ob),none⟩
 | .call { callee:=.builtin .append,args,argTypes },some d=>E5 (newId st d) fun id=>match lk id st.l with
  | none=>NR E args argTypes st fun e z old=>k ⟨some d,.row id,some (id,.row e z),old⟩
  | some _=>none
 | .buildSlice t n parts,some d=>E5 (newId st d) fun id=>match lk id st.l with
  | none=>match H9 o st with
   | []=>CP E o st id fun rv ob=>k ⟨some d,rv,ob.map fun ob=>(id,ob),none⟩
   | old::_=>Fp E t n parts.toList old st fun e z=>k ⟨some d,.row id,some (id,.row e z),some old⟩
  | some _=>none
 | _,some d=>JA E.rcs o st (fun c args ts caps=>KX E c args ts caps st fun id ob rv=>k ⟨some d,rv,some (id,ob),none⟩) (E5 (newId st d) fun id=>match lk id st.l with
  | none=>JA E.ow o st (fun c args ts caps=>H6 E c args ts caps st fun e z old=>k ⟨some d,.row id,some (id,.row e z),old⟩) (CP E o st id fun rv ob=>k ⟨some d,rv,ob.map fun ob=>(id,ob),none⟩)
  | some _=>none)
 | _,none=>none
def D5 (ops:Array Oper) (o:Oper):Option Nat:=
 match o.guard with
 | some (j,_)=>(ops[j]?).bind (·.dst)
 | none=>none
def stepG (E:Bn) (ops:Array Oper) (o:Oper) (st:St) (k:Bq->Option α):Option α:=
 match o.guard with
 | none=>Fb E o st k
 | some (_,want)=>match D5 ops o with
  | some g=>match lk g st.s with
   | some (.val ⟨.bool,b⟩)=>bif b then (bif want then Fb E o st k else k ⟨o.dst,.Db .unit,none,none⟩) else (bif want then k ⟨o.dst,.Db .unit,none,none⟩ else Fb E o st k)
   | some (.Db .unit)=>k ⟨o.dst,.Db .unit,none,none⟩
   | _=>none
  | none=>none
structure Rc where
 rd:List Nat
 ob:List Nat
 d:Option Nat
 w:Option Nat
 kl:Option Nat
 ts:List Nat
 tb:List Nat
def Cb (id:Nat):RV->Bool
 | .row i=>Nat.beq i id
 | .sub i _ _=>Nat.beq i id
 | .loc i _=>Nat.beq i id
 | .Ee _ c=>Cb id c
 | .pair a b=>Cb id a||Cb id b
 | .agg _ r=>Cb id r
 | .Db r=>Cb id r
 | .mp i=>Nat.beq i id
 | .yl i=>Nat.beq i id
 | _=>false
def GZ (id:Nat):Ob->Bool
 | .var _ c=>Cb id c
 | .row _ _=>false
 | .mp _ _ _=>false
 | .lp c _=>Cb id c
def Jw {α:Type} (p:Nat->α->Bool) (id:Option Nat) (l:List (Nat×α)):List Nat:=
 match id with
 | some id=>(l.filter fun q=>p id q.2).map (·.1)
 | none=>[]
def Fe (C:List Nat):RV->Bool
 | .row id=>C.any (Nat.beq id)
 | .sub id _ _=>C.any (Nat.beq id)
 | .loc id _=>C.any (Nat.beq id)
 | .Ee _ c=>Fe C c
 | .pair a b=>Fe C a&&Fe C b
 | .agg _ r=>Fe C r
 | .Db r=>Fe C r
 | .mp id=>C.any (Nat.beq id)
 | .yl id=>C.any (Nat.beq id)
 | _=>true
def Jq (ops:Array Oper) (o:Oper) (st:St) (e:Bq):Rc:=
 { rd:=slotsOf o++(D5 ops o).toList,ob:=(match o.dst with | some d=>[newId st d] | none=>[])++reach st.l 200 (H9 o st) [],d:=e.d,w:=e.o.map (·.1),kl:=e.kl,ts:=Jw Cb e.kl st.s,tb:=Jw GZ e.kl st.l }
def Q0 (C:List Nat) (l:List (Nat×Ob)):Bool:=C.all fun id=>match lk id l with
 | some (.var _ con)=>Fe C con
 | some (.lp con _)=>Fe C con
 | _=>true
def Vy (C S:List Nat) (st:St):Bool:=S.all fun i=>match lk i st.s with
 | some rv=>Fe C rv
 | none=>true
def IL (x:Option Nat) (l:List Nat):Bool:=match x with
 | some i=>l.any (Nat.beq i)
 | none=>false
def ND (x y:Option Nat):Bool:=match x,y with
 | some i,some j=>Nat.beq i j
 | _,_=>false
def meets (l m:List Nat):Bool:=l.any fun i=>m.any (Nat.beq i)
def indep (p q:Rc):Bool:=!(IL p.d q.rd)&&(!(IL q.d p.rd)&&(!(ND p.d q.d)&&(!(IL p.w q.ob)&&(!(IL q.w p.ob)&&(!(ND p.w q.w)&&(!(IL q.kl p.ob)&&(!(meets p.ts q.rd)&&!(meets p.tb q.ob))))))))
def SL (b:List Nat) (i:Nat) (q:Rc):Nat->List Rc->Bool
 | _,[]=>true
 | j,p::r=>!(IL p.kl q.ob)&&(((b.getD i 0).testBit j||indep p q)&&SL b i q (j+1) r)
def VE (C:List Nat):Option (Nat×Ob)->Bool
 | some (i,.var _ c)=>C.any (Nat.beq i)&&Fe C c
 | some (i,.row _ _)=>C.any (Nat.beq i)
 | some (i,.mp _ _ _)=>C.any (Nat.beq i)
 | some (i,.lp c _)=>C.any (Nat.beq i)&&Fe C c
 | none=>true
def Wo (C:List Nat) (e:Bq):Bool:=match e.kl with
 | some id=>C.any (Nat.beq id)&&(!(Cb id e.rv)&&(match e.o with | some (i,ob)=>!(Nat.beq i id)&&!(GZ id ob) | none=>true))
 | none=>true
def YQ (q:Rc) (e:Bq) (st:St):Bool:=Q0 q.ob st.l&&(Vy q.ob q.rd st&&(Fe q.ob e.rv&&(VE q.ob e.o&&Wo q.ob e)))
def QJ (ops:Array Oper) (o:Oper) (st:St) (run skip:St->Option α):Option α:=
 match o.guard with
 | none=>run st
 | some (_,want)=>match D5 ops o with
  | some g=>match lk g st.s with
   | some (.val ⟨.bool,b⟩)=>
    bif b then (bif want then run { st with s:=Ez g true st.s } else skip { st with s:=Ez g true st.s })
    else (bif want then skip { st with s:=Ez g false st.s } else run { st with s:=Ez g false st.s })
   | some (.Db .unit)=>skip st
   | _=>none
  | none=>none
def O6 (E:Bn) (ops:Array Oper) (b:List Nat):Nat->List Oper->List Rc->St->(St->Option α)->Option α
 | _,[],_,st,k=>k st
 | i,o::rest,rcs,st,k=>QJ ops o st
  (fun st=>Fb E o st fun e=>bif SL b i (Jq ops o st e) 0 rcs&&YQ (Jq ops o st e) e st then O6 E ops b (i+1) rest (rcs++[Jq ops o st e]) (KM e st) k else none)
  (fun st=>bif SL b i (Jq ops o st ⟨o.dst,.Db .unit,none,none⟩) 0 rcs&&YQ (Jq ops o st ⟨o.dst,.Db .unit,none,none⟩) ⟨o.dst,.Db .unit,none,none⟩ st then O6 E ops b (i+1) rest (rcs++[Jq ops o st ⟨o.dst,.Db .unit,none,none⟩]) (KM ⟨o.dst,.Db .unit,none,none⟩ st) k else none)
def JQ (ops:Array Oper):Bool:=(ops.toList.zipIdx 0).all fun p=>p.1.after.toList.all fun e=>!(Region.binds .any e)||Nat.blt e.on p.2
def Na (E:Bn):List Oper->St->List Nat
 | [],_=>[]
 | o::r,st=>toFrz E o st++Na E r st
def Qf (lt:LT) (c:Code) (st:St):St:=
 match rid c with
 | some i=>match lk i lt.live with
  | some ks=>{ st with s:=DX st.s ks }
  | none=>st
 | none=>st
def OB (st:St) (i:Nat):St:=
 match lk i st.s with
 | some (.sub id lo hi)=>bif Nat.beq lo 0 then match lk id st.l with
   | some (.row t xs)=>Ch (addN id (.row t (List.take hi xs)) (Da id st)) (some i) (.row id)
   | _=>st
  else st
 | _=>st
def Ga (lt:LT) (c:Code) (st:St):St:=
 match rid c with
 | some i=>match lk i lt.live with
  | some ks=>canon ks (lt.stk.foldl OB st)
  | none=>st
 | none=>st
def Vu (f:St->Option α) (st:St):Option α:=f st
def Te (lt:LT) (c:Code):Bool:=
 match rid c with
 | some i=>lt.join.any (Nat.beq i)
 | none=>false
def Sb (lt:LT) (b:Code) (f:St->Option α) (st:St):Option α:=bif Te lt b then Vu f (Ga lt b st) else f (Qf lt b st)
def Ot (f:(St->Option α)->St->Option α):Nat->St->Option α
 | 0=>fun _=>none
 | n+1=>f (Ot f n)
def Nh (lt:LT) (rg:Nat) (st:St) (k:St->Option α):Option α:=
 match lk rg lt.YG with
 | some ss=>Cu 60 (ss.foldr (fun i acc=>match lk i st.s with | some rv=>Fx rv acc | none=>acc) []) st k
 | none=>k st
def U4 (lt:LT) (c:Operand) (b:Bool) (st:St):St:=match c with
 | .tmp i=>bif lt.cnd.any (Nat.beq i) then { st with s:=Ez i b st.s } else st
 | _=>st
def Tj (ops:Array Oper) (o:Oper):Bool:=
 (match o.guard with | none=>true | some _=>false)&&(JQ ops&&(((List.range ops.pop.size).all fun j=>((EU ops.toList []).getD ops.pop.size 0).testBit j)&&ops.pop.toList.all fun x=>match x.guard with
  | none=>true
  | some (j,_)=>Nat.blt j ops.pop.size))
def Tk [DecidableEq α] (E:Bn) (H:Tg->St->(St->RV->Option α)->Option α) (lt:LT) (ops:Array Oper) (st:St) (kn:St->Option α):Option α:=
 match ops.back? with
 | some o=>bif Tj ops o then (bif JQ ops.pop then Cu 60 (Na E ops.pop.toList st) st (O6 E ops.pop (EU ops.pop.toList []) 0 ops.pop.toList [] · fun st=>Wn E H lt o st kn) else none) else none
 | none=>none
def DW [DecidableEq α] (E:Bn) (H:Tg->St->(St->RV->Option α)->Option α) (lt:LT) (N:Nat):Code->(St->Option α)->(Nat->St->Option α)->(St->Option α)->St->Option α
 | .skip,kn,_,_=>kn
 | .region rg ops draw,kn,_,_=>fun st=>Nh lt rg st fun st=>bif draw then bif lt.ZI.any (Nat.beq rg) then Tk E H lt ops st kn else (bif JQ ops then Cu 60 (Na E ops.toList st) st (O6 E ops (EU ops.toList []) 0 ops.toList [] · kn) else none) else Jp E H lt ops ops.toList st kn
 | .seq a b,kn,kx,kr=>DW E H lt N a (Sb lt b (DW E H lt N b kn kx kr)) kx kr
 | .cond c a b,kn,kx,kr=>fun st=>match Bf (some .bool) c st.s with
  | .val ⟨.bool,t⟩=>bif t then DW E H lt N a kn kx kr (U4 lt c true st) else DW E H lt N b kn kx kr (U4 lt c false st)
  | _=>none
 | .block id c,kn,kx,kr=>DW E H lt N c kn (fun j st=>bif Nat.beq j id then kn st else kx j st) kr
 | .loop c,_,kx,kr=>fun st=>Ot (fun self st=>DW E H lt N c (fun st=>self (Ga lt c st)) kx kr st) N (Ga lt c st)
 | .exit id,_,kx,_=>kx id
 | .ret,_,_,kr=>kr
 | .rangeFunc g ps assign body,kn,kx,kr=>fun st=>E5 (newId st 4000) fun id=>match Bf none g (Bj id st).s with
  | .Ee f caps=>(GJ caps).bind fun cs=>H (.fn f) (RJ lt id ps assign body cs (Bj id st)) fun st' _=>Kg kn kx kr st'
  | _=>none
 | _,_,_,_=>fun _=>none
def FX (E:Bn) (st:St):List ResultVar->Option (List RV)
 | []=>some []
 | .tmp t::r=>(lk t st.s).bind fun rv=>(FX E st r).bind fun vs=>some (rv::vs)
 | .cell t T::r=>match lk t st.s with
  | some (.loc id [])=>match lk id st.l with
   | some (.var ty con)=>bif Bd (lk T E.tab) ty then (FX E st r).bind fun vs=>some (Qe ty con::vs) else none
   | _=>none
  | _=>none
def hnd [DecidableEq α] (E:Bn) (N:Nat):Nat->Tg->St->(St->RV->Option α)->Option α
 | 0,_,_,_=>none
 | n+1,.yl,st,k=>(Pj st).bind fun t=>DW E (hnd E N n) t.2.2.lt N t.2.2.assign (TF fun st=>DW E (hnd E N n) t.2.2.lt N t.2.2.body (Oh none true k) (fun j=>Oh (some (.exit j)) false k) (Oh (some .ret) false k) st) (fun _ _=>none) (fun _=>none) st
 | n+1,.fn f,st,k=>match lk f E.inl with
  | some (fn,lt)=>match fn.body with
   | some c=>bif Nat.ble (List.length st.s) fn.ntmps then DW E (hnd E N n) lt N c (fun st=>(FX E st fn.results.toList).bind fun vs=>k st (Gn vs)) (fun _ _=>none) (fun st=>(FX E st fn.results.toList).bind fun vs=>k st (Gn vs)) st else none
   | none=>none
  | none=>none
def Js (l:List (Nat×Ob)) (l':List (Nat×Ob)) (g:RV->RV) (t:Ty) (o:Bool) (rv:RV) (k:t.den->Option α):Option α:=
 bif o then match rv with
  | .row id=>match lk id l with
   | some (.row e xs)=>(TV.as t ⟨.slice e,xs⟩).bind k
   | _=>none
  | .nil e=>(TV.as t ⟨.slice e,([]:List e.den)⟩).bind k
  | _=>none
 else Bg l' 6 (g rv) fun v=>(TV.as t v).bind k
def FV (l l':List (Nat×Ob)) (g:RV->RV):(rs:List Ty)->List Bool->List RV->(BP rs->Option α)->Option α
 | [],[],[],k=>k ()
 | [t],[o],[rv],k=>Js l l' g t o rv k
 | t::u::ts,o::os,rv::CO,k=>Js l l' g t o rv fun x=>FV l l' g (u::ts) os CO fun r=>k (x,r)
 | _,_,_,_=>none
def El:List Bool->List RV->Option Nat
 | true::_,.row id::_=>some id
 | _::os,_::CO=>El os CO
 | _,_=>none
def ET (own:Option Nat) (l:List (Nat×Ob)):List (Nat×Ob):=
 match own with
 | some id=>J6 id (Tv (EG id) l)
 | none=>l
def H7 (own:Option Nat) (rv:RV):RV:=
 match own with
 | some id=>Ba (EG id) rv
 | none=>rv
def Wq (l:List (Nat×Ob)) (vs:List RV):List Nat:=(R4 vs).filter fun id=>match lk id l with
 | some (.row _ _)=>true
 | _=>false
def OC:(rs:List Ty)->List RV->Option (BP rs)
 | [],[]=>some ()
 | [t],[rv]=>bif Di rv then (Bg [] 6 rv some).bind fun v=>TV.as t v else none
 | t::u::ts,rv::CO=>bif Di rv then (Bg [] 6 rv some).bind fun v=>(TV.as t v).bind fun x=>(OC (u::ts) CO).bind fun r=>some (x,r) else none
 | _,_=>none
def Xd (c:FB) (y:FH c.bp) (st:St) (vs:List RV):Option (wD c.bp c.w×BP c.rs):=
 match st.k with
 | [(_,wt)]=>(Gv wt c.bp 0).bind fun ids=>bif UU 0 (Ep (fun id=>D7 id ids 0) st.l ids 0) then Gq c.bp (some c.w) y (Ep (fun id=>D7 id ids 0) st.l ids 0) ((QI c.bp c.w (Ep (fun id=>D7 id ids 0) st.l ids 0)).bind fun z=>(OC c.rs vs).bind fun r=>some (z,r)) else none
 | _=>none
def Ju:Nat->List TV->List (Nat×RV)
 | _,[]=>[]
 | i,v::r=>(i,.val v)::Ju (i+1) r
end
def TL:(rs:List Ty)->DecidableEq (BP rs)
 | []=>inferInstanceAs (DecidableEq Unit)
 | [t]=>FI t
 | t::u::ts=>@instDecidableEqProd _ _ (FI t) (TL (u::ts))
instance (rs:List Ty):DecidableEq (BP rs):=TL rs
def decP:(p:Pt)->DecidableEq p.D
 | .hole t=>FI t
 | .fix _=>inferInstanceAs (DecidableEq Unit)
def Yb:(b:Bt)->DecidableEq b.D
 | .var _ p=>decP p
 | .mp kt vt=>@instDecidableEqList _ (@instDecidableEqProd _ _ (FI kt) (FI vt))
 | .row t=>@instDecidableEqList _ (FI t)
def XU:(bs:List Bt)->(n:Nat)->DecidableEq (wD bs n)
 | [],_=>inferInstanceAs (DecidableEq Empty)
 | b::_,0=>Yb b
 | _::bs,n+1=>XU bs n
instance (bs:List Bt) (n:Nat):DecidableEq (wD bs n):=XU bs n
def rise (E:Bn) (lt:LT) (lv N:Nat) (fn:Func) (ps rs:List Ty) (os:List Bool) (x:BP ps):Option (BP rs):=
 match fn.body with
 | some c=>DW E (hnd E N lv) lt N c (fun st=>(FX E st fn.results.toList).bind fun vs=>FV st.l (ET (El os vs) st.l) (H7 (El os vs)) rs os vs some) (fun _ _=>none)
   (fun st=>(FX E st fn.results.toList).bind fun vs=>FV st.l (ET (El os vs) st.l) (H7 (El os vs)) rs os vs some)
   { s:=Ju 0 (Dr ps x),l:=[],k:=[],b:=4096 }
 | none=>none
def Md (E:Bn) (fn:Func) (c:FB) (y:FH c.bp) (st:St):Option (wD c.bp c.w×BP c.rs):=
 (FX E st fn.results.toList).bind fun vs=>Cu 60 (Wq st.l vs) st fun st=>(FX E st fn.results.toList).bind fun vs=>Xd c y st vs
def Mc (E:Bn) (fn:Func) (e:Ty) (st:St):Option (Ty.slice e).den:=
 (FX E st fn.results.toList).bind fun vs=>match vs with
  | [.row id]=>match lk id st.l with
   | some (.row t z)=>TV.as (.slice e) ⟨.slice t,z⟩
   | _=>none
  | _=>none
def V4 (E:Bn) (lt:LT) (lv N:Nat) (fn:Func) (e:Ty) (fp:List Pt) (x:List e.den) (y:IC fp):Option (Ty.slice e).den:=
 match fn.body with
 | some code=>@DW _ (FI (.slice e)) E (@hnd _ (FI (.slice e)) E N lv) lt N code (Mc E fn e) (fun _ _=>none) (Mc E fn e) (MC e fp x y)
 | none=>none
def V5 (E:Bn) (lt:LT) (lv N:Nat) (fn:Func) (c:FB) (x:IC c.fp) (y:FH c.bp):Option (wD c.bp c.w×BP c.rs):=
 match fn.body with
 | some code=>DW E (hnd E N lv) lt N code (Md E fn c y) (fun _ _=>none) (Md E fn c y)
   (IY c x y)
 | none=>none
end Go.Lift
