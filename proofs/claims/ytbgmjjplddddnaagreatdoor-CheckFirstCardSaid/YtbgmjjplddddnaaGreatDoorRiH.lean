import Derived.Test.YtbgmjjplddddnaaGreatDoorRiV
namespace Go.Lift
open Go.RowKit
inductive Tg where
 | fn (f:FuncId)
 | yl
structure UA where
 ps:List Ty
 rs:List Ty
 os:List Bool
 F:AL ps->Option (AL rs)
structure Aj where
 tab:List (TypeId×Ty)
 fs:List (FuncId×UA)
 inl:List (FuncId×Func×LT)
 rep:(α:Type)->Nat->α->List α:=fun _=>List.replicate
 rcs:List (FuncId×ED):=[]
 vl:List Nat:=[]
 ag:List Nat:=[]
 wd:Bool:=false
 ow:List (FuncId×K7):=[]
def PV (E:Aj) (e:Ty):Nat:=match E.wd,e with
 | true,.int _=>UZ
 | _,_=>lim
def Xn (E:Aj) (o:Oper):Bool:=match o.dst with
 | some d=>E.ag.any (Nat.beq d)
 | none=>false
def XF (E:Aj) (o:Oper):Bool:=match o.dst with
 | some d=>E.vl.any (Nat.beq d)
 | none=>false
def EF:Value->Bool
 | .slice none 0 0=>true
 | _=>false
def Ad (ty:Option Ty) (x:Operand) (s:List (Nat×RV)):RV:=
 match x with
 | .tmp i=>(lk i s).getD .any
 | .const v=>match ty with
  | some (.slice e)=>bif EF v then .nil e else .any
  | some t=>match kindOk t v,Ci t v.cells.toList with
   | true,some y=>.val ⟨t,y⟩
   | _,_=>.any
  | none=>.any
 | .func f=>.Dn f .unit
 | .global g=>match lk g Nk with
  | some v=>.val ⟨.ptr v.1,v.2⟩
  | none=>.any
def FJ:RV->Option Int
 | .val ⟨.int _,n⟩=>some n
 | _=>none
def Ey:RV->Bool
 | .val _=>true
 | .nil _=>true
 | .unit=>true
 | .pair a b=>Ey a&&Ey b
 | _=>false
def Ca:RV->Bool
 | .val _=>true
 | .nil _=>true
 | .agg _ r=>Ey r
 | _=>false
def EC {α:Type} (n:Nat) (k:Nat->α):α:=
 match n with
 | 0=>k 0
 | m+1=>k (m+1)
theorem Ak {α:Type} (n:Nat) (k:Nat->α):EC n k=k n:=by cases n <;> rfl
def newId (st:St) (d:Nat):Nat:=EC st.b fun b=>(b+d) * 8
section
variable {α:Type}
def slotsOf (o:Oper):List Nat:=o.op.operands.toList.filterMap fun | .tmp i=>some i | _=>none
def Tx (l:List (Nat×Ob)) (s:List (Nat×RV)):List Nat->(List (Nat×AV)->Option α)->Option α
 | [],k=>k []
 | i::r,k=>match lk i s with
  | some rv=>Ae l 6 rv fun v=>Tx l s r fun fr=>k ((i,.val v .no)::fr)
  | none=>none
def Co (s:List (Nat×RV)) (is:List Nat):Bool:=is.all fun i=>match lk i s with
 | some rv=>Ca rv
 | none=>false
def Aj.old (E:Aj):Env:={ tab:=E.tab,fs:=[],live:=[],rep:=E.rep }
def Ec (E:Aj) (o:Oper) (st:St) (k:RV->Option Ob->Option α):Option α:=
 Tx st.l st.s (slotsOf o) fun fr=>Cn E.old o { s:=fr,l:=[] } fun av=>match av with
  | .val v _=>bif v.1.flat||Co st.s (slotsOf o) then k (.val v) none else none
  | _=>none
def Ty.Lh:Ty->Bool
 | .slice _=>true
 | .pair a b=>a.Lh||b.Lh
 | _=>false
def IQ:(t:Ty)->t.den->RV
 | .slice e,_=>.nil e
 | .pair a b,x=>bif a.Lh||b.Lh then .pair (IQ a x.1) (IQ b x.2) else .val ⟨.pair a b,x⟩
 | t,x=>.val ⟨t,x⟩
def Rl:Ob->List Step->Option Ty
 | .var ty _,p=>FK ty p
 | .row ty _,.idx _::p=>FK ty p
 | .mp kt vt _,p=>FK (.mp kt vt) p
 | .lp _ _,p=>FK .unit p
 | _,_=>none
def Uh:RV->Nat->Option RV
 | .pair a _,0=>some a
 | .pair _ b,n+1=>Uh b n
 | _,_=>none
def chain:List RV->RV
 | []=>.unit
 | a::r=>.pair a (chain r)
def Ia (n:Nat) (lo hi:Option RV) (k:Nat->Nat->Option α):Option α:=
 match lo,hi with
 | none,none=>k 0 n
 | some a,none=>(FJ a).bind fun l=>bif decide (0<=l)&&decide (l<=(n:Int)) then k l.toNat n else none
 | none,some b=>(FJ b).bind fun h=>bif decide (0<=h)&&decide (h<=(n:Int)) then k 0 h.toNat else none
 | some a,some b=>(FJ a).bind fun l=>(FJ b).bind fun h=>bif decide (0<=l)&&(decide (l<=h)&&decide (h<=(n:Int))) then k l.toNat h.toNat else none
def LC {α:Type} (p:Nat×α):List (Nat×α)->List (Nat×α)
 | []=>[p]
 | q::r=>bif Nat.ble p.1 q.1 then p::q::r else q::LC p r
def Ed {α:Type}:List (Nat×α)->List (Nat×α)
 | []=>[]
 | p::r=>LC p (Ed r)
def BO (s:List (Nat×RV)):Ty->Nat->List (Nat×Operand)->Option RV
 | .unit,_,[]=>some .unit
 | .pair a b,i,[]=>(Al a).bind fun x=>(BO s b (i+1) []).bind fun y=>some (.pair (IQ a x) y)
 | .pair a b,i,(j,o)::r=>bif Nat.beq i j then (toC a (Ad (some a) o s)).bind fun x=>(BO s b (i+1) r).bind fun y=>some (.pair x y)
  else (Al a).bind fun x=>(BO s b (i+1) ((j,o)::r)).bind fun y=>some (.pair (IQ a x) y)
 | _,_,_=>none
def Ew (t:Ty) (s:List (Nat×RV)):Nat->List (Nat×Operand)->Option (List t.den)
 | _,[]=>some []
 | i,(j,x)::r=>bif Nat.beq i j&&Ca (Ad (some t) x s) then
   (Ae [] 6 (Ad (some t) x s) some).bind fun v=>(TV.as t v).bind fun y=>(Ew t s (i+1) r).bind fun ys=>some (y::ys)
  else none
def XI:TV->TV
 | ⟨.nes e,xs⟩=>⟨.slice e,xs⟩
 | v=>v
def FD (tab:List (TypeId×Ty)) (l:List (Nat×Ob)) (s:List (Nat×RV)):List Operand->List TypeId->(List TV->Option α)->Option α
 | [],[],k=>k []
 | x::xs,t::ts,k=>Ae l 6 (Ad (lk t tab) x s) fun v=>FD tab l s xs ts fun vs=>k (XI v::vs)
 | _,_,_=>none
def allArgs (tab:List (TypeId×Ty)) (s:List (Nat×RV)):List Operand->List TypeId->Bool
 | [],[]=>true
 | x::xs,t::ts=>Ca (Ad (lk t tab) x s)&&allArgs tab s xs ts
 | _,_=>false
def DX (id:Nat):(rs:List Ty)->List Bool->AL rs->List RV×Option Ob
 | [],_,_=>([],none)
 | [.slice e],true::_,x=>([.row id],some (.row e x))
 | [t],_,x=>([.val ⟨t,x⟩],none)
 | .slice e::u::ts,true::os,x=>(.row id::(DX id (u::ts) os x.2).1,some (.row e x.1))
 | t::u::ts,os,x=>(.val ⟨t,x.1⟩::(DX id (u::ts) os.tail x.2).1,(DX id (u::ts) os.tail x.2).2)
def Fh:List RV->RV
 | []=>.any
 | [rv]=>rv
 | l=>.CW (chain l)
def Ty.O7:Ty->Bool
 | .slice e=>e.flat
 | _=>false
def apart:List Ty->List Bool->Bool
 | [],_=>true
 | t::ts,os=>(t.flat||(os.headD false&&t.O7))&&apart ts os.tail
def LZ (E:Aj) (fn:UA) (args:List Operand) (ts:List TypeId) (id:Nat) (st:St) (k:RV->Option Ob->Option α):Option α:=
 bif apart fn.rs fn.os||allArgs E.tab st.s args ts then
  FD E.tab st.l st.s args ts fun vs=>(BN fn.ps vs).bind fun x=>(fn.F x).bind fun r=>k (Fh (DX id fn.rs fn.os r).1) (DX id fn.rs fn.os r).2
 else none
def R6 (vl:Bool) (src dst:Option Ty) (rv:RV) (id:Nat) (k:RV->Option Ob->Option α) (alt:Option α):Option α:=
 match dst,rv with
 | some (.slice (.int .u8)),.val ⟨.str,s⟩=>bif Ac src .str then (bif vl then k (.val ⟨.slice (.int .u8),s⟩) none else k (.row id) (some (.row (.int .u8) s))) else none
 | _,_=>alt
def Nq:Ty->Bool
 | .mp _ _=>true
 | .fn=>true
 | _=>false
def ER:Ty->Bool
 | .int _=>true
 | .bool=>true
 | .str=>true
 | .arr n e=>Nat.ble n 100&&(match e with | .int _=>true | .bool=>true | .str=>true | _=>false)
 | _=>false
def Om {kt vt:Ty} (x:kt.den) (z:vt.den):List (kt.den×vt.den)->vt.den×Bool
 | []=>(z,false)
 | p::r=>bif Ib kt x p.1 then (p.2,true) else Om x z r
def LH {kt vt:Ty} (x:kt.den) (y:vt.den):List (kt.den×vt.den)->List (kt.den×vt.den)
 | []=>[(x,y)]
 | p::r=>bif Ib kt x p.1 then (x,y)::r else p::LH x y r
def QN (E:Aj) (t:TypeId) (m x:Operand) (ok:Bool) (st:St) (k:RV->Option Ob->Option α):Option α:=
 match Ad none m st.s with
 | .mp i=>match lk i st.l with
  | some (.mp kt vt es)=>bif Ac (lk t E.tab) (.mp kt vt)&&ER kt then
    (Ae st.l 6 (Ad (some kt) x st.s) fun v=>(TV.as kt v).bind fun x=>(Al vt).bind fun z=>
     bif ok then k (.CW (.pair (.val ⟨vt,(Om x z es).1⟩) (.pair (.val ⟨.bool,(Om x z es).2⟩) .unit))) none else k (.val ⟨vt,(Om x z es).1⟩) none)
   else none
  | _=>none
 | _=>none
def LG (E:Aj) (t:TypeId) (m x y:Operand) (st:St) (k:Nat->Ob->Option α):Option α:=
 match Ad none m st.s with
 | .mp i=>match lk i st.l with
  | some (.mp kt vt es)=>bif Ac (lk t E.tab) (.mp kt vt)&&(ER kt&&vt.flat) then
    Ae st.l 6 (Ad (some kt) x st.s) fun v=>(TV.as kt v).bind fun x=>Ae st.l 6 (Ad (some vt) y st.s) fun u=>(TV.as vt u).bind fun y=>k i (.mp kt vt (LH x y es))
   else none
  | _=>none
 | _=>none
def Kc (E:Aj) (o:Oper) (st:St) (k:RV->Option α) (alt:Option α):Option α:=
 match o.op with
 | .binOp op t x (.const v) _=>match EF v,op,Ad none x st.s with
  | true,.eql,.val ⟨.nes e,xs⟩=>bif Ac (lk t E.tab) (.nes e) then k (.val ⟨.bool,List.isEmpty xs⟩) else none
  | true,.neq,.val ⟨.nes e,xs⟩=>bif Ac (lk t E.tab) (.nes e) then k (.val ⟨.bool,!List.isEmpty xs⟩) else none
  | _,_,_=>alt
 | .call { callee:=.builtin .cap,args,argTypes }=>match args.toList,argTypes.toList with
  | [x],[t]=>match Ad none x st.s with
   | .nil e=>bif Ac (lk t E.tab) (.slice e) then k (.val ⟨.int .i64,(0:Int)⟩) else none
   | _=>alt
  | _,_=>alt
 | .slice T x none (some y) none=>match Ad none x st.s with
  | .nil e=>(FJ (Ad (some (.int .i64)) y st.s)).bind fun h=>bif decide (h=0) then (bif Ac (lk T E.tab) (.slice e) then k (.nil e) else none) else none
  | _=>alt
 | _=>alt
def BA (E:Aj) (o:Oper) (st:St) (id:Nat) (k:RV->Option Ob->Option α):Option α:=
 match o.op with
 | .move x=>k (Ad (lk o.type E.tab) x st.s) none
 | .assign x=>k (Ad (lk o.type E.tab) x st.s) none
 | .pick c a b=>match Ad (lk o.type E.tab) c st.s with
  | .val ⟨.bool,c⟩=>bif c then k (Ad (lk o.type E.tab) a st.s) none else k (Ad (lk o.type E.tab) b st.s) none
  | _=>none
 | .alloc t=>(lk t E.tab).bind fun ty=>match Nq ty with
  | true=>k (.loc id []) (some (.var ty .any))
  | false=>(Al ty).bind fun z=>k (.loc id []) (some (.var ty (IQ ty z)))
 | .makeMap t none=>(lk t E.tab).bind fun ty=>match ty with
  | .mp kt vt=>k (.mp id) (some (.mp kt vt []))
  | _=>none
 | .lookup t m x ok=>QN E t m x ok st k
 | .box t x=>(lk t E.tab).bind fun ty=>(toC ty (Ad (some ty) x st.s)).bind fun c=>k (.loc id []) (some (.var ty c))
 | .load T x=>match Ad (lk o.type E.tab) x st.s with
  | .loc i p=>match lk i st.l with
   | some (.var ty con)=>Br (fun t rv=>bif Ac (lk T E.tab) t then k (Pk t rv) none else none) ty con p
   | some (.row t xs)=>match p with
    | .idx j::q=>(nth xs j.toNat).bind fun x=>Jb (fun v=>bif Ac (lk T E.tab) v.1 then k (.val v) none else none) t x q
    | _=>none
   | some (.mp _ _ _)=>none
   | some (.lp _ _)=>none
   | none=>none
  | _=>Ec E o st k
 | .convert src dst x=>R6 (XF E o) (lk src E.tab) (lk dst E.tab) (Ad (lk src E.tab) x st.s) id k (Ec E o st k)
 | .nilCheck x=>match Ad (lk o.type E.tab) x st.s with
  | .loc i p=>k (.loc i p) none
  | .Dn f c=>k (.Dn f c) none
  | _=>Ec E o st k
 | .fieldAddr T x f=>match Ad (lk o.type E.tab) x st.s with
  | .loc i p=>(lk i st.l).bind fun ob=>(Rl ob p).bind fun t=>bif Ac (lk T E.tab) t&&(fieldTy t f).isSome then k (.loc i (p++[.DW f])) none else none
  | _=>Ec E o st k
 | .field T x f=>match Ad (lk o.type E.tab) x st.s with
  | .agg t r=>bif Ac (lk T E.tab) t&&(fieldTy t f).isSome then Br (fun t' rv=>k (Pk t' rv) none) t r [.DW f] else none
  | _=>Ec E o st k
 | .indexAddr T x i=>match Ad (lk o.type E.tab) x st.s with
  | .loc id p=>(FJ (Ad (some (.int .i64)) i st.s)).bind fun i=>(lk id st.l).bind fun ob=>match Rl ob p with
   | some (.arr n t)=>bif Ac (lk T E.tab) (.arr n t) then (bif decide (0<=i)&&decide (i < (n:Int)) then k (.loc id (p++[.idx i])) none else none) else none
   | _=>none
  | .row id=>(FJ (Ad (some (.int .i64)) i st.s)).bind fun i=>match lk id st.l with
   | some (.row t xs)=>bif Ac (lk T E.tab) (.slice t) then (bif decide (0<=i)&&decide (i < (List.length xs:Int)) then k (.loc id [.idx i]) none else none) else none
   | _=>none
  | .sub id lo hi=>(FJ (Ad (some (.int .i64)) i st.s)).bind fun i=>match lk id st.l with
   | some (.row t _)=>bif Ac (lk T E.tab) (.slice t) then (bif decide (0<=i)&&decide (i < (hi:Int) - (lo:Int)) then k (.loc id [.idx ((lo:Int)+i)]) none else none) else none
   | _=>none
  | _=>Ec E o st k
 | .slice T x lo hi none=>match Ad (lk o.type E.tab) x st.s with
  | .row id=>match lk id st.l with
   | some (.row t xs)=>bif Ac (lk T E.tab) (.slice t) then Ia (List.length xs) (lo.map (Ad (some (.int .i64)) · st.s)) (hi.map (Ad (some (.int .i64)) · st.s)) fun l h=>k (.sub id l h) none else none
   | _=>none
  | .sub id a b=>match lk id st.l with
   | some (.row t _)=>bif Ac (lk T E.tab) (.slice t) then Ia (b - a) (lo.map (Ad (some (.int .i64)) · st.s)) (hi.map (Ad (some (.int .i64)) · st.s)) fun l h=>k (.sub id (a+l) (a+h)) none else none
   | _=>none
  | _=>Kc E o st (fun rv=>k rv none) (Ec E o st k)
 | .slice T x lo (some y) (some z)=>match Ad (lk o.type E.tab) x st.s with
  | .row id=>match lk id st.l with
   | some (.row t xs)=>bif Ac (lk T E.tab) (.slice t) then (FJ (Ad (some (.int .i64)) z st.s)).bind fun m=>bif decide (0<=m)&&decide (m<=(List.length xs:Int)) then Ia m.toNat (lo.map (Ad (some (.int .i64)) · st.s)) ((some y).map (Ad (some (.int .i64)) · st.s)) fun l h=>k (.sub id l h) none else none else none
   | _=>none
  | .sub id a b=>match lk id st.l with
   | some (.row t _)=>bif Ac (lk T E.tab) (.slice t) then (FJ (Ad (some (.int .i64)) z st.s)).bind fun m=>bif decide (0<=m)&&decide (m<=((b - a:Nat):Int)) then Ia m.toNat (lo.map (Ad (some (.int .i64)) · st.s)) ((some y).map (Ad (some (.int .i64)) · st.s)) fun l h=>k (.sub id (a+l) (a+h)) none else none else none
   | _=>none
  | _=>Ec E o st k
 | .extract x i=>match Ad (lk o.type E.tab) x st.s with
  | .CW r=>(Uh r i).bind fun rv=>k rv none
  | _=>none
 | .makeFunc (.func f) first caps=>bif first.isEmpty then k (.Dn f (chain (caps.toList.map fun x=>Ad none x st.s))) none else none
 | .build t parts=>(lk t E.tab).bind fun ty=>bif Co st.s (slotsOf o)&&!(Xn E o) then Ec E o st k else match ty with
  | .arr _ _=>none
  | ty=>(BO st.s ty 0 (Ed parts.toList)).bind fun r=>k (.agg ty r) none
 | .buildSlice t n parts=>(lk t E.tab).bind fun ty=>match ty with
  | .slice e=>(Ew e st.s 0 parts.toList).bind fun ys=>bif Nat.beq ys.length n&&(Nat.ble n 1000000&&(Nat.ble 1 e.n&&Nat.ble (n * e.n) 1000000)) then (bif XF E o then k (.val ⟨.slice e,ys⟩) none else k (.row id) (some (.row e ys))) else none
  | _=>none
 | .makeSlice t l c=>(FJ (Ad (some (.int .i64)) l st.s)).bind fun n=>(FJ (Ad (some (.int .i64)) c st.s)).bind fun m=>(lk t E.tab).bind fun ty=>match ty with
  | .slice e=>bif decide (0<=n)&&(decide (n<=m)&&(decide (m<=68719476736)&&Nat.ble 1 e.n)) then (Al e).bind fun z=>k (.row id) (some (.row e (E.rep e.den n.toNat z))) else none
  | _=>none
 | .call { callee:=.value f,args,argTypes }=>match Ad none f st.s with
  | .Dn g .unit=>(lk g E.fs).bind fun fn=>LZ E fn args.toList argTypes.toList id st k
  | _=>none
 | _=>Kc E o st (fun rv=>k rv none) (Ec E o st k)
def Bg:Nat->List Nat->St->(St->Option α)->Option α
 | 0,_,_,_=>none
 | _,[],st,k=>k st
 | n+1,id::ids,st,k=>match lk id st.l with
  | none=>Bg n ids st k
  | some (.mp _ _ _)=>Bg n ids st k
  | some (.lp _ _)=>Bg n ids st k
  | some (.row t xs)=>Bg n ids (Mf id t xs st) k
  | some (.var ty con)=>match Er con [] with
   | []=>Bd (fun rv k=>match rv with | .nil t=>k ⟨.slice t,([]:List t.den)⟩ | _=>none) con ty fun x=>Bg n ids (Ik id ty x st) k
   | ms=>Bg n (ms++id::ids) st k
def Gc (o:Oper) (st:St):List Nat:=(slotsOf o).foldr (fun i acc=>match lk i st.s with | some rv=>Er rv acc | none=>acc) []
def toFrz (E:Aj) (o:Oper) (st:St):List Nat:=
 match o.op with
 | .slice _ x _ _ _=>match Ad none x st.s with
  | .loc id _=>[id]
  | _=>[]
 | .buildSlice _ _ _=>Gc o st
 | .build t _=>match lk t E.tab with
  | some (.arr _ _)=>Gc o st
  | _=>[]
 | .store t x y=>match Ad (lk t E.tab) x st.s with
  | .loc id _=>match lk id st.l with
   | some (.row _ _)=>Er (Ad (lk t E.tab) y st.s) []
   | _=>[]
  | _=>[]
 | .call { callee:=.value f,.. }=>match Ad none f st.s with
  | .Dn g .unit=>match lk g E.fs with
   | some fn=>bif apart fn.rs fn.os then [] else Gc o st
   | none=>[]
  | _=>[]
 | _=>[]
def UD (id:Nat) (ob:Option Ob) (st:St):St:=
 match ob with
 | some ob=>addN id ob st
 | none=>st
def Ah (id:Nat) (st:St):St:=
 match lk id st.l with
 | none=>st
 | some _=>CV id st
def OY (tab:List (TypeId×Ty)) (u:TypeId) (l:List (Nat×Ob)) (e:Ty):RV->Option (List e.den)
 | .val ⟨.slice t,ys⟩=>bif Ac (lk u tab) (.slice t) then TV.as (.slice e) ⟨.slice t,ys⟩ else none
 | .val ⟨.str,ys⟩=>bif Ac (lk u tab) .str then TV.as (.slice e) ⟨.slice (.int .u8),ys⟩ else none
 | .nil t=>bif Ac (lk u tab) (.slice t) then TV.as (.slice e) ⟨.slice t,([]:List t.den)⟩ else none
 | .row id=>match lk id l with
  | some (.row t xs)=>bif Ac (lk u tab) (.slice t) then TV.as (.slice e) ⟨.slice t,xs⟩ else none
  | _=>none
 | .sub id lo hi=>match lk id l with
  | some (.row t xs)=>bif Ac (lk u tab) (.slice t) then TV.as (.slice e) ⟨.slice t,(List.take hi xs).drop lo⟩ else none
  | _=>none
 | _=>none
def LA (l:List (Nat×Ob)) (e:Ty):RV->Option (List e.den×Option Nat)
 | .nil t=>bif decide (t=e) then some ([],none) else none
 | .row id=>match lk id l with
  | some (.row t xs)=>(TV.as (.slice e) ⟨.slice t,xs⟩).bind fun xs=>some (xs,some id)
  | _=>none
 | .sub id lo hi=>match lk id l with
  | some (.row t xs)=>bif Nat.beq lo 0 then (TV.as (.slice e) ⟨.slice t,xs⟩).bind fun xs=>some (List.take hi xs,some id) else none
  | _=>none
 | _=>none
def BX:Option Nat->St->St
 | some id,st=>CV id st
 | none,st=>st
def Sn (d:Nat) (i:Nat):Option Nat:=bif Nat.beq i d then some i else none
def FZ (id:Nat) (u:Ty) (xs:List u.den) (t:Ty) (s:List (Nat×RV)):Nat->List (Nat×Operand)->Option (List t.den)
 | _,[]=>some []
 | i,(j,x)::r=>bif Nat.beq i j then
   (Ae [(id,.row u xs)] 6 (AZ (Sn id) (Ad (some t) x s)) some).bind fun v=>(TV.as t v).bind fun y=>(FZ id u xs t s (i+1) r).bind fun ys=>some (y::ys)
  else none
def El (E:Aj) (t:TypeId) (n:Nat) (parts:List (Nat×Operand)) (id:Nat) (st:St) (k:(e:Ty)->List e.den->Option α):Option α:=
 match lk id st.l with
 | some (.row u xs)=>(lk t E.tab).bind fun ty=>match ty with
  | .slice e=>(FZ id u xs e st.s 0 parts).bind fun ys=>bif Nat.beq ys.length n&&(Nat.ble n 1000000&&(Nat.ble 1 e.n&&Nat.ble (n * e.n) 1000000)) then k e ys else none
  | _=>none
 | _=>none
def Km (E:Aj) (o:Oper) (st:St) (k:St->Option α):Option α:=
 EC (newId st (o.dst.getD 0)) fun id=>BA E o (Ah id st) id fun rv ob=>k (BQ (UD id ob (Ah id st)) o.dst rv)
def push (lt:LT) (d:Nat) (args:List RV) (st:St):St:=
 EC st.b fun b=>{ s:=(args.zipIdx 0).map fun p=>(p.2,p.1),l:=st.l,k:=(b,match lk d lt.keep with | some ks=>CQ st.s ks | none=>st.s)::st.k,b:=(b+d+1) * 4096 }
def pop (st:St):St:=
 match st.k with
 | (b,s)::k=>{ s:=s,l:=st.l,k:=k,b:=b }
 | []=>st
def Oc (st:St):Option (Nat×RV×LQ):=
 match st.k with
 | (_,s)::_=>match lk 0 s with
  | some (.yl id)=>match lk id st.l with
   | some (.lp con q)=>some (id,con,q)
   | _=>none
  | _=>none
 | []=>none
def IZ (s:List (Nat×RV)):Nat->Nat->RV
 | _,0=>.unit
 | i,n+1=>.pair ((lk i s).getD .any) (IZ s (i+1) n)
def maxS:List (Nat×RV)->Nat
 | []=>0
 | p::s=>bif Nat.ble (maxS s) p.1 then p.1+1 else maxS s
def E9:Nat->RV->List (Nat×RV)
 | i,.pair .any b=>E9 (i+1) b
 | i,.pair a b=>(i,a)::E9 (i+1) b
 | _,_=>[]
def Kz:List Tmp->List RV->List (Nat×RV)->List (Nat×RV)
 | p::ps,rv::A9,s=>Kz ps A9 ((p,rv)::s)
 | _,_,s=>s
def QW (lt:LT) (id:Nat) (ps:Array Tmp) (assign body:Code) (cs:List RV) (st:St):St:=
 EC st.b fun b=>match lk (ps.toList.headD 1000000) lt.rf with
  | some (k1,k2)=>{ s:=((.yl id::cs).zipIdx 0).map fun p=>(p.2,p.1),l:=(id,.lp (IZ (CQ st.s k1) 0 (maxS (CQ st.s k1))) ⟨ps,assign,body,lt,.ready,none⟩)::st.l,k:=(0,[(0,.yl id)])::(b,CQ st.s k2)::st.k,b:=(b+4001) * 4096 }
  | none=>{ s:=((.yl id::cs).zipIdx 0).map fun p=>(p.2,p.1),l:=(id,.lp (IZ st.s 0 (maxS st.s)) ⟨ps,assign,body,lt,.ready,none⟩)::st.l,k:=(0,[(0,.yl id)])::(b,st.s)::st.k,b:=(b+4001) * 4096 }
def TB (lt:LT) (d:Nat) (id:Nat) (con:RV) (q:LQ) (args:List RV) (st:St):St:=
 EC st.b fun b=>{ s:=Kz q.ps.toList args (E9 0 con),l:=st.l,k:=(0,[(0,.yl id)])::(b,match lk d lt.keep with | some ks=>CQ st.s ks | none=>st.s)::st.k,b:=(b+d+1) * 4096 }
def Ry {α:Type} (k:St->Option α) (st:St):Option α:=
 (Oc st).bind fun t=>match t.2.2.state with
  | .ready=>k (Ai t.1 (.lp t.2.1 { t.2.2 with state:=.busy }) st)
  | _=>none
def Ni {α:Type} (jump:Option Code) (b:Bool) (k:St->RV->Option α) (st:St):Option α:=
 (Oc st).bind fun t=>match t.2.2.state with
  | .busy=>k (pop (Ai t.1 (.lp t.2.1 { t.2.2 with state:=bif b then .ready else .done,jump:=jump }) st)) (.val ⟨.bool,b⟩)
  | _=>none
def Jr {α:Type} (kn:St->Option α) (kx:Nat->St->Option α) (kr:St->Option α) (st:St):Option α:=
 (Oc st).bind fun t=>match t.2.2.state,t.2.2.jump with
  | .ready,none=>kn (pop (pop (CV t.1 st)))
  | .done,some .ret=>kr (pop (pop (CV t.1 st)))
  | .done,some (.exit j)=>kx j (pop (pop (CV t.1 st)))
  | _,_=>none
def FE:RV->Option (List RV)
 | .unit=>some []
 | .pair a b=>(FE b).bind fun r=>some (a::r)
 | _=>none
def S9:RV->RV
 | .nil t=>.val ⟨.slice t,([]:List t.den)⟩
 | rv=>rv
def Sl (tt:Option Ty) (p:List Step) (ty:Ty) (xs:List ty.den) (rv:RV) (k:List ty.den->Option α) (alt:Option α):Option α:=
 match p,rv with
 | [.idx i],.val ⟨.slice e,ys⟩=>bif Ac tt (.nes e) then (bif List.isEmpty ys then none else (TV.as ty ⟨.nes e,ys⟩).bind fun z=>k (List.set xs i.toNat z)) else alt
 | _,_=>alt
def EG (E:Aj) (t:TypeId) (x y:Operand) (st:St) (k:Nat->Ob->Option α):Option α:=
 match Ad (lk t E.tab) x st.s with
 | .loc id p=>match lk id st.l with
  | some (.var ty con)=>(lk t E.tab).bind fun tt=>(toC tt (Ad (some tt) y st.s)).bind fun _=>E5 (Ad (some tt) y st.s) ty (fun BD=>k id (.var ty BD)) con p
  | some (.row ty xs)=>Sl (lk t E.tab) p ty xs (Ad (lk t E.tab) y st.s) (fun z=>k id (.row ty z)) <| match p,S9 (Ad (lk t E.tab) y st.s) with
   | [.idx i],.val v=>bif Ac (lk t E.tab) v.1 then (TV.as ty v).bind fun z=>k id (.row ty (List.set xs i.toNat z)) else none
   | .idx i::s::q,.val v=>bif Ac (lk t E.tab) v.1 then (nth xs i.toNat).bind fun x=>(E8 v ty x (s::q)).bind fun z=>k id (.row ty (List.set xs i.toNat z)) else none
   | _,_=>none
  | some (.mp _ _ _)=>none
  | some (.lp _ _)=>none
  | none=>none
 | _=>none
def TW (E:Aj) (u:TypeId) (new:Bool) (e:Ty) (rv:RV) (k:List e.den->Option α) (alt:Option α):Option α:=
 match new,rv with
 | true,.val ⟨.int .i64,n⟩=>bif decide (1<=n)&&decide (n<=(lim:Int)) then (bif Ac (lk u E.tab) (.int .i64) then (Al e).bind fun z=>k (E.rep e.den n.toNat z) else none) else none
 | _,_=>alt
def MP (E:Aj) (args:Array Operand) (argTypes:Array TypeId) (st:St) (k:(e:Ty)->List e.den->Option Nat->Option α):Option α:=
 match args.toList,argTypes.toList with
 | [sx,x],t::u::[]=>match lk t E.tab with
  | some (.slice e)=>(LA st.l e (Ad (some (.slice e)) sx st.s)).bind fun xs=>TW E u xs.2.isNone e (Ad (lk u E.tab) x st.s) (fun ys=>bif Nat.ble 1 e.n&&Nat.ble (List.length xs.1+List.length ys) (PV E e) then k e (List.append xs.1 ys) xs.2 else none) <| (OY E.tab u st.l e (Ad (lk u E.tab) x st.s)).bind fun ys=>
    bif Nat.ble 1 e.n&&Nat.ble (List.length xs.1+List.length ys) (PV E e) then k e (List.append xs.1 ys) xs.2 else none
  | _=>none
 | _,_=>none
def Sw (l:List (Nat×Ob)):RV->Option (Nat×Nat×Nat)
 | .row id=>match lk id l with
  | some (.row _ xs)=>some (id,0,List.length xs)
  | _=>none
 | .sub id lo hi=>some (id,lo,hi)
 | _=>none
def R4 (E:Aj) (args:Array Operand) (argTypes:Array TypeId) (st:St) (k:Nat->Ob->Option α):Option α:=
 match args.toList,argTypes.toList with
 | [x],[t]=>match lk t E.tab with
  | some (.slice e)=>(Sw st.l (Ad (some (.slice e)) x st.s)).bind fun p=>match lk p.1 st.l with
   | some (.row u XJ)=>(TV.as (.slice e) ⟨.slice u,XJ⟩).bind fun xs=>(Al e).bind fun z=>bif Nat.ble 1 e.n then k p.1 (.row e (List.append (List.take p.2.1 xs) (List.append (E.rep e.den (p.2.2 - p.2.1) z) (List.drop p.2.2 xs)))) else none
   | _=>none
  | _=>none
 | _,_=>none
def NW [DecidableEq α] (a b:Option α):Option α:=bif decide (a=b) then a else none
theorem Gh [DecidableEq α] {a b:Option α} {r:α} (h:NW a b=some r):a=some r/\b=some r:=by
 unfold NW at h
 cases hd:decide (a=b) with
 | true=>
  rw [hd] at h
  exact ⟨h,of_decide_eq_true hd ▸ h⟩
 | false=>rw [hd] at h;cases h
def Vm [DecidableEq α] (E:Aj) (op:BinOp) (t:TypeId) (x:Operand) (v:Value) (st:St) (f:Bool->Option α) (alt:Option α):Option α:=
 match op,EF v,Ad none x st.s with
 | .eql,true,.val ⟨.slice e,xs⟩=>bif Ac (lk t E.tab) (.slice e) then (bif List.isEmpty xs then NW (f true) (f false) else f false) else none
 | .neq,true,.val ⟨.slice e,xs⟩=>bif Ac (lk t E.tab) (.slice e) then (bif List.isEmpty xs then NW (f false) (f true) else f true) else none
 | _,_,_=>alt
def Mg (old id n:Nat):RV->RV:=Qw old (.sub id 0 n) (fun lo hi=>.sub id lo hi) fun p=>.loc id p
def SB [DecidableEq α] (E:Aj) (args:Array Operand) (argTypes:Array TypeId) (d:Nat) (st:St) (k:St->Option α):Option α:=
 match args.toList,argTypes.toList with
 | [sx,x],t::u::[]=>match lk t E.tab with
  | some (.slice e)=>match Ad (some (.slice e)) sx st.s with
   | .row old=>match lk old st.l with
    | some (.row t' XJ)=>(TV.as (.slice e) ⟨.slice t',XJ⟩).bind fun xs=>(OY E.tab u st.l e (Ad (lk u E.tab) x st.s)).bind fun ys=>
     bif (Nat.ble 1 e.n&&Nat.ble (List.length xs+List.length ys) lim) then EC (newId st d) fun id=>match lk id st.l with
      | none=>NW (k (BQ (addN id (.row e (List.append xs ys)) st) (some d) (.row id))) (k (BQ (addN id (.row e (List.append xs ys)) (GY old (Mg old id (List.length xs)) st)) (some d) (.row id)))
      | some _=>none
     else none
    | _=>none
   | _=>none
  | _=>none
 | _,_=>none
def isFn:Operand->Bool
 | .func _=>true
 | _=>false
def TM (E:Aj) (src dst:TypeId) (rv:RV) (st:St) (f:Nat->Option α) (alt:Option α):Option α:=
 match Nat.beq src dst,rv with
 | true,.row id=>match lk id st.l with
  | some (.row t xs)=>bif Ac (lk src E.tab) (.slice t)&&(Ac (some t) (.int .u8)&&Nat.ble 1 (List.length xs)) then f id else none
  | _=>none
 | _,_=>alt
def Jk (E:Aj) (c:ED) (args:Array Operand) (ts:Array TypeId) (caps:RV) (st:St) (k:Nat->Ob->RV->Option α):Option α:=
 bif Nat.beq args.size ts.size&&TF c then
  (FE caps).bind fun cs=>Un c st.l (((args.toList.zip ts.toList).map fun p=>Ad (lk p.2 E.tab) p.1 st.s)++cs) fun id z r=>k id (IK c.bp c.w z) (Fh (Qk c.rs r))
 else none
def GZ (E:Aj) (c:K7) (args:Array Operand) (ts:Array TypeId) (caps:RV) (st:St) (k:(e:Ty)->List e.den->Option Nat->Option α):Option α:=
 match args.toList,ts.toList,caps with
 | sx::xs,t::us,.unit=>bif Nat.beq xs.length us.length&&c.fp.all isHole then
   (LA st.l c.e (Ad (lk t E.tab) sx st.s)).bind fun X=>(NS c.fp ((xs.zip us).map fun p=>Ad (lk p.2 E.tab) p.1 st.s)).bind fun y=>(c.F X.1 y).bind fun z=>k c.e z X.2
  else none
 | _,_,_=>none
def H7 {γ:Type} (T:List (FuncId×γ)) (o:Oper) (st:St) (yes:γ->Array Operand->Array TypeId->RV->Option α) (no:Option α):Option α:=
 match o.op with
 | .call { callee:=.value f,args,argTypes }=>match Ad none f st.s with
  | .Dn g caps=>match lk g T with
   | some c=>yes c args argTypes caps
   | none=>no
  | _=>no
 | _=>no
def CX [DecidableEq α] (E:Aj) (H:Tg->St->(St->RV->Option α)->Option α) (lt:LT) (o:Oper) (st:St) (k:St->Option α):Option α:=
 match o.op,o.dst with
 | .store t x y,none=>EG E t x y st fun id ob=>k (Ai id ob st)
 | .mapUpdate t m x y,none=>LG E t m x y st fun id ob=>k (Ai id ob st)
 | .call { callee:=.builtin .append,args,argTypes },some d=>bif lt.fork.any (Nat.beq d) then SB E args argTypes d st k else MP E args argTypes st fun e z old=>
   EC (newId st d) fun id=>k (BQ (addN id (.row e z) (Ah id (BX old st))) (some d) (.row id))
 | .call { callee:=.builtin .clear,args,argTypes },none=>R4 E args argTypes st fun id ob=>k (Ai id ob st)
 | .call { callee:=.value f,args,argTypes },d=>match Ad none f st.s with
  | .Dn g caps=>match lk g E.rcs with
   | some c=>Jk E c args argTypes caps st fun id ob rv=>k (BQ (Ai id ob st) d rv)
   | none=>match lk g E.ow,d with
   | some c,some d=>GZ E c args argTypes caps st fun e z old=>EC (newId st d) fun id=>k (BQ (addN id (.row e z) (Ah id (BX old st))) (some d) (.row id))
   | _,_=>match lk g E.fs,caps with
    | some _,.unit=>Km E o st k
    | _,_=>bif Nat.beq args.size argTypes.size then (FE caps).bind fun cs=>H (.fn g) (push lt (d.getD 0) ((args.toList.zip argTypes.toList).map (fun p=>Ad (lk p.2 E.tab) p.1 st.s)++cs) st) fun st' rv=>k (BQ (pop st') d rv) else none
  | .yl id=>match lk id st.l with
   | some (.lp con q)=>match q.state with
    | .ready=>bif Nat.beq args.size argTypes.size&&Nat.beq args.size q.ps.size then H .yl (TB lt (d.getD 0) id con q ((args.toList.zip argTypes.toList).map (fun p=>Ad (lk p.2 E.tab) p.1 st.s)) st) fun st' rv=>k (BQ (pop st') d rv) else none
    | _=>none
   | _=>none
  | _=>none
 | .binOp op t x (.const v) _,some d=>Vm E op t x v st (fun b=>k (BQ st (some d) (.val ⟨.bool,b⟩))) (Km E o st k)
 | .convert src dst x,some d=>TM E src dst (Ad (lk src E.tab) x st.s) st (fun id=>k (BQ st (some d) (.row id))) (Km E o st k)
 | _,some _=>Km E o st k
 | _,none=>none
def Vn [DecidableEq α] (E:Aj) (H:Tg->St->(St->RV->Option α)->Option α) (lt:LT) (o:Oper) (st:St) (k:St->Option α):Option α:=
 match toFrz E o st with
 | []=>CX E H lt o st k
 | ids=>Bg 60 ids st fun st=>CX E H lt o st k
def EB (g:Nat) (b:Bool):List (Nat×RV)->List (Nat×RV)
 | []=>[]
 | (j,a)::r=>bif Nat.beq g j then (j,.val ⟨.bool,b⟩)::r else (j,a)::EB g b r
def I4 [DecidableEq α] (E:Aj) (H:Tg->St->(St->RV->Option α)->Option α) (lt:LT) (ops:Array Oper):List Oper->St->(St->Option α)->Option α
 | [],st,k=>k st
 | o::rest,st,k=>match o.guard with
  | none=>Vn E H lt o st fun st=>I4 E H lt ops rest st k
  | some (j,want)=>match (ops[j]?).bind (·.dst) with
   | some g=>match lk g st.s with
    | some (.val ⟨.bool,b⟩)=>
     bif b then
      (bif want then Vn E H lt o { st with s:=EB g true st.s } fun st=>I4 E H lt ops rest st k
       else I4 E H lt ops rest (BQ { st with s:=EB g true st.s } o.dst (.CW .unit)) k)
     else
      (bif want then I4 E H lt ops rest (BQ { st with s:=EB g false st.s } o.dst (.CW .unit)) k
       else Vn E H lt o { st with s:=EB g false st.s } fun st=>I4 E H lt ops rest st k)
    | some (.CW .unit)=>I4 E H lt ops rest (BQ st o.dst (.CW .unit)) k
    | _=>none
   | none=>none
structure Am where
 d:Option Nat
 rv:RV
 o:Option (Nat×Ob)
 kl:Option Nat
def JZ (e:Am) (st:St):St:=
 { BX e.kl st with s:=(match e.d with | some d=>(d,e.rv)::(BX e.kl st).s | none=>(BX e.kl st).s),l:=(match e.o with | some p=>p::(BX e.kl st).l | none=>(BX e.kl st).l) }
def Ee (E:Aj) (o:Oper) (st:St) (k:Am->Option α):Option α:=
 match o.op,o.dst with
 | .store t x y,none=>EG E t x y st fun id ob=>k ⟨none,.any,some (id,ob),none⟩
 | .mapUpdate t m x y,none=>LG E t m x y st fun id ob=>k ⟨none,.any,some (id,ob),none⟩
 | .call { callee:=.builtin .append,args,argTypes },some d=>EC (newId st d) fun id=>match lk id st.l with
  | none=>MP E args argTypes st fun e z old=>k ⟨some d,.row id,some (id,.row e z),old⟩
  | some _=>none
 | .buildSlice t n parts,some d=>EC (newId st d) fun id=>match lk id st.l with
  | none=>match Gc o st with
   | []=>BA E o st id fun rv ob=>k ⟨some d,rv,ob.map fun ob=>(id,ob),none⟩
   | old::_=>El E t n parts.toList old st fun e z=>k ⟨some d,.row id,some (id,.row e z),some old⟩
  | some _=>none
 | _,some d=>H7 E.rcs o st (fun c args ts caps=>Jk E c args ts caps st fun id ob rv=>k ⟨some d,rv,some (id,ob),none⟩) (EC (newId st d) fun id=>match lk id st.l with
  | none=>H7 E.ow o st (fun c args ts caps=>GZ E c args ts caps st fun e z old=>k ⟨some d,.row id,some (id,.row e z),old⟩) (BA E o st id fun rv ob=>k ⟨some d,rv,ob.map fun ob=>(id,ob),none⟩)
  | some _=>none)
 | _,none=>none
def Cv (ops:Array Oper) (o:Oper):Option Nat:=
 match o.guard with
 | some (j,_)=>(ops[j]?).bind (·.dst)
 | none=>none
def stepG (E:Aj) (ops:Array Oper) (o:Oper) (st:St) (k:Am->Option α):Option α:=
 match o.guard with
 | none=>Ee E o st k
 | some (_,want)=>match Cv ops o with
  | some g=>match lk g st.s with
   | some (.val ⟨.bool,b⟩)=>bif b then (bif want then Ee E o st k else k ⟨o.dst,.CW .unit,none,none⟩) else (bif want then k ⟨o.dst,.CW .unit,none,none⟩ else Ee E o st k)
   | some (.CW .unit)=>k ⟨o.dst,.CW .unit,none,none⟩
   | _=>none
  | none=>none
structure Rc where
 rd:List Nat
 ob:List Nat
 d:Option Nat
 w:Option Nat
 kl:Option Nat
 ts:List Nat
 tb:List Nat
def BM (id:Nat):RV->Bool
 | .row i=>Nat.beq i id
 | .sub i _ _=>Nat.beq i id
 | .loc i _=>Nat.beq i id
 | .Dn _ c=>BM id c
 | .pair a b=>BM id a||BM id b
 | .agg _ r=>BM id r
 | .CW r=>BM id r
 | .mp i=>Nat.beq i id
 | .yl i=>Nat.beq i id
 | _=>false
def FR (id:Nat):Ob->Bool
 | .var _ c=>BM id c
 | .row _ _=>false
 | .mp _ _ _=>false
 | .lp c _=>BM id c
def JB {α:Type} (p:Nat->α->Bool) (id:Option Nat) (l:List (Nat×α)):List Nat:=
 match id with
 | some id=>(l.filter fun q=>p id q.2).map (·.1)
 | none=>[]
def Ef (C:List Nat):RV->Bool
 | .row id=>C.any (Nat.beq id)
 | .sub id _ _=>C.any (Nat.beq id)
 | .loc id _=>C.any (Nat.beq id)
 | .Dn _ c=>Ef C c
 | .pair a b=>Ef C a&&Ef C b
 | .agg _ r=>Ef C r
 | .CW r=>Ef C r
 | .mp id=>C.any (Nat.beq id)
 | .yl id=>C.any (Nat.beq id)
 | _=>true
def I5 (ops:Array Oper) (o:Oper) (st:St) (e:Am):Rc:=
 { rd:=slotsOf o++(Cv ops o).toList,ob:=(match o.dst with | some d=>[newId st d] | none=>[])++reach st.l 200 (Gc o st) [],d:=e.d,w:=e.o.map (·.1),kl:=e.kl,ts:=JB BM e.kl st.s,tb:=JB FR e.kl st.l }
def QG (C:List Nat) (l:List (Nat×Ob)):Bool:=C.all fun id=>match lk id l with
 | some (.var _ con)=>Ef C con
 | some (.lp con _)=>Ef C con
 | _=>true
def U9 (C S:List Nat) (st:St):Bool:=S.all fun i=>match lk i st.s with
 | some rv=>Ef C rv
 | none=>true
def Gm (x:Option Nat) (l:List Nat):Bool:=match x with
 | some i=>l.any (Nat.beq i)
 | none=>false
def MF (x y:Option Nat):Bool:=match x,y with
 | some i,some j=>Nat.beq i j
 | _,_=>false
def meets (l m:List Nat):Bool:=l.any fun i=>m.any (Nat.beq i)
def indep (p q:Rc):Bool:=!(Gm p.d q.rd)&&(!(Gm q.d p.rd)&&(!(MF p.d q.d)&&(!(Gm p.w q.ob)&&(!(Gm q.w p.ob)&&(!(MF p.w q.w)&&(!(Gm q.kl p.ob)&&(!(meets p.ts q.rd)&&!(meets p.tb q.ob))))))))
def RQ (b:List Nat) (i:Nat) (q:Rc):Nat->List Rc->Bool
 | _,[]=>true
 | j,p::r=>!(Gm p.kl q.ob)&&(((b.getD i 0).testBit j||indep p q)&&RQ b i q (j+1) r)
def UN (C:List Nat):Option (Nat×Ob)->Bool
 | some (i,.var _ c)=>C.any (Nat.beq i)&&Ef C c
 | some (i,.row _ _)=>C.any (Nat.beq i)
 | some (i,.mp _ _ _)=>C.any (Nat.beq i)
 | some (i,.lp c _)=>C.any (Nat.beq i)&&Ef C c
 | none=>true
def Vo (C:List Nat) (e:Am):Bool:=match e.kl with
 | some id=>C.any (Nat.beq id)&&(!(BM id e.rv)&&(match e.o with | some (i,ob)=>!(Nat.beq i id)&&!(FR id ob) | none=>true))
 | none=>true
def Xf (q:Rc) (e:Am) (st:St):Bool:=QG q.ob st.l&&(U9 q.ob q.rd st&&(Ef q.ob e.rv&&(UN q.ob e.o&&Vo q.ob e)))
def PG (ops:Array Oper) (o:Oper) (st:St) (run skip:St->Option α):Option α:=
 match o.guard with
 | none=>run st
 | some (_,want)=>match Cv ops o with
  | some g=>match lk g st.s with
   | some (.val ⟨.bool,b⟩)=>
    bif b then (bif want then run { st with s:=EB g true st.s } else skip { st with s:=EB g true st.s })
    else (bif want then skip { st with s:=EB g false st.s } else run { st with s:=EB g false st.s })
   | some (.CW .unit)=>skip st
   | _=>none
  | none=>none
def OA (E:Aj) (ops:Array Oper) (b:List Nat):Nat->List Oper->List Rc->St->(St->Option α)->Option α
 | _,[],_,st,k=>k st
 | i,o::rest,rcs,st,k=>PG ops o st
  (fun st=>Ee E o st fun e=>bif RQ b i (I5 ops o st e) 0 rcs&&Xf (I5 ops o st e) e st then OA E ops b (i+1) rest (rcs++[I5 ops o st e]) (JZ e st) k else none)
  (fun st=>bif RQ b i (I5 ops o st ⟨o.dst,.CW .unit,none,none⟩) 0 rcs&&Xf (I5 ops o st ⟨o.dst,.CW .unit,none,none⟩) ⟨o.dst,.CW .unit,none,none⟩ st then OA E ops b (i+1) rest (rcs++[I5 ops o st ⟨o.dst,.CW .unit,none,none⟩]) (JZ ⟨o.dst,.CW .unit,none,none⟩ st) k else none)
def IX (ops:Array Oper):Bool:=(ops.toList.zipIdx 0).all fun p=>p.1.after.toList.all fun e=>!(Region.binds .any e)||Nat.blt e.on p.2
def MZ (E:Aj):List Oper->St->List Nat
 | [],_=>[]
 | o::r,st=>toFrz E o st++MZ E r st
def Pm (lt:LT) (c:Code) (st:St):St:=
 match rid c with
 | some i=>match lk i lt.live with
  | some ks=>{ st with s:=CQ st.s ks }
  | none=>st
 | none=>st
def M9 (st:St) (i:Nat):St:=
 match lk i st.s with
 | some (.sub id lo hi)=>bif Nat.beq lo 0 then match lk id st.l with
   | some (.row t xs)=>BQ (addN id (.row t (List.take hi xs)) (CV id st)) (some i) (.row id)
   | _=>st
  else st
 | _=>st
def FT (lt:LT) (c:Code) (st:St):St:=
 match rid c with
 | some i=>match lk i lt.live with
  | some ks=>canon ks (lt.stk.foldl M9 st)
  | none=>st
 | none=>st
def U5 (f:St->Option α) (st:St):Option α:=f st
def SL (lt:LT) (c:Code):Bool:=
 match rid c with
 | some i=>lt.join.any (Nat.beq i)
 | none=>false
def Rb (lt:LT) (b:Code) (f:St->Option α) (st:St):Option α:=bif SL lt b then U5 f (FT lt b st) else f (Pm lt b st)
def Ns (f:(St->Option α)->St->Option α):Nat->St->Option α
 | 0=>fun _=>none
 | n+1=>f (Ns f n)
def Me (lt:LT) (rg:Nat) (st:St) (k:St->Option α):Option α:=
 match lk rg lt.XR with
 | some ss=>Bg 60 (ss.foldr (fun i acc=>match lk i st.s with | some rv=>Er rv acc | none=>acc) []) st k
 | none=>k st
def UF (lt:LT) (c:Operand) (b:Bool) (st:St):St:=match c with
 | .tmp i=>bif lt.cnd.any (Nat.beq i) then { st with s:=EB i b st.s } else st
 | _=>st
def SS (ops:Array Oper) (o:Oper):Bool:=
 (match o.guard with | none=>true | some _=>false)&&(IX ops&&(((List.range ops.pop.size).all fun j=>((Db ops.toList []).getD ops.pop.size 0).testBit j)&&ops.pop.toList.all fun x=>match x.guard with
  | none=>true
  | some (j,_)=>Nat.blt j ops.pop.size))
def SV [DecidableEq α] (E:Aj) (H:Tg->St->(St->RV->Option α)->Option α) (lt:LT) (ops:Array Oper) (st:St) (kn:St->Option α):Option α:=
 match ops.back? with
 | some o=>bif SS ops o then (bif IX ops.pop then Bg 60 (MZ E ops.pop.toList st) st (OA E ops.pop (Db ops.pop.toList []) 0 ops.pop.toList [] · fun st=>Vn E H lt o st kn) else none) else none
 | none=>none
def CP [DecidableEq α] (E:Aj) (H:Tg->St->(St->RV->Option α)->Option α) (lt:LT) (N:Nat):Code->(St->Option α)->(Nat->St->Option α)->(St->Option α)->St->Option α
 | .skip,kn,_,_=>kn
 | .region rg ops draw,kn,_,_=>fun st=>Me lt rg st fun st=>bif draw then bif lt.YW.any (Nat.beq rg) then SV E H lt ops st kn else (bif IX ops then Bg 60 (MZ E ops.toList st) st (OA E ops (Db ops.toList []) 0 ops.toList [] · kn) else none) else I4 E H lt ops ops.toList st kn
 | .seq a b,kn,kx,kr=>CP E H lt N a (Rb lt b (CP E H lt N b kn kx kr)) kx kr
 | .cond c a b,kn,kx,kr=>fun st=>match Ad (some .bool) c st.s with
  | .val ⟨.bool,t⟩=>bif t then CP E H lt N a kn kx kr (UF lt c true st) else CP E H lt N b kn kx kr (UF lt c false st)
  | _=>none
 | .block id c,kn,kx,kr=>CP E H lt N c kn (fun j st=>bif Nat.beq j id then kn st else kx j st) kr
 | .loop c,_,kx,kr=>fun st=>Ns (fun self st=>CP E H lt N c (fun st=>self (FT lt c st)) kx kr st) N (FT lt c st)
 | .exit id,_,kx,_=>kx id
 | .ret,_,_,kr=>kr
 | .rangeFunc g ps assign body,kn,kx,kr=>fun st=>EC (newId st 4000) fun id=>match Ad none g (Ah id st).s with
  | .Dn f caps=>(FE caps).bind fun cs=>H (.fn f) (QW lt id ps assign body cs (Ah id st)) fun st' _=>Jr kn kx kr st'
  | _=>none
 | _,_,_,_=>fun _=>none
def Ea (E:Aj) (st:St):List ResultVar->Option (List RV)
 | []=>some []
 | .tmp t::r=>(lk t st.s).bind fun rv=>(Ea E st r).bind fun vs=>some (rv::vs)
 | .cell t T::r=>match lk t st.s with
  | some (.loc id [])=>match lk id st.l with
   | some (.var ty con)=>bif Ac (lk T E.tab) ty then (Ea E st r).bind fun vs=>some (Pk ty con::vs) else none
   | _=>none
  | _=>none
def hnd [DecidableEq α] (E:Aj) (N:Nat):Nat->Tg->St->(St->RV->Option α)->Option α
 | 0,_,_,_=>none
 | n+1,.yl,st,k=>(Oc st).bind fun t=>CP E (hnd E N n) t.2.2.lt N t.2.2.assign (Ry fun st=>CP E (hnd E N n) t.2.2.lt N t.2.2.body (Ni none true k) (fun j=>Ni (some (.exit j)) false k) (Ni (some .ret) false k) st) (fun _ _=>none) (fun _=>none) st
 | n+1,.fn f,st,k=>match lk f E.inl with
  | some (fn,lt)=>match fn.body with
   | some c=>bif Nat.ble (List.length st.s) fn.ntmps then CP E (hnd E N n) lt N c (fun st=>(Ea E st fn.results.toList).bind fun vs=>k st (Fh vs)) (fun _ _=>none) (fun st=>(Ea E st fn.results.toList).bind fun vs=>k st (Fh vs)) st else none
   | none=>none
  | none=>none
def I7 (l:List (Nat×Ob)) (l':List (Nat×Ob)) (g:RV->RV) (t:Ty) (o:Bool) (rv:RV) (k:t.den->Option α):Option α:=
 bif o then match rv with
  | .row id=>match lk id l with
   | some (.row e xs)=>(TV.as t ⟨.slice e,xs⟩).bind k
   | _=>none
  | .nil e=>(TV.as t ⟨.slice e,([]:List e.den)⟩).bind k
  | _=>none
 else Ae l' 6 (g rv) fun v=>(TV.as t v).bind k
def EY (l l':List (Nat×Ob)) (g:RV->RV):(rs:List Ty)->List Bool->List RV->(AL rs->Option α)->Option α
 | [],[],[],k=>k ()
 | [t],[o],[rv],k=>I7 l l' g t o rv k
 | t::u::ts,o::os,rv::A9,k=>I7 l l' g t o rv fun x=>EY l l' g (u::ts) os A9 fun r=>k (x,r)
 | _,_,_,_=>none
def Du:List Bool->List RV->Option Nat
 | true::_,.row id::_=>some id
 | _::os,_::A9=>Du os A9
 | _,_=>none
def Da (own:Option Nat) (l:List (Nat×Ob)):List (Nat×Ob):=
 match own with
 | some id=>JI id (Sg (DJ id) l)
 | none=>l
def Ga (own:Option Nat) (rv:RV):RV:=
 match own with
 | some id=>AZ (DJ id) rv
 | none=>rv
def Vq (l:List (Nat×Ob)) (vs:List RV):List Nat:=(Q7 vs).filter fun id=>match lk id l with
 | some (.row _ _)=>true
 | _=>false
def NA:(rs:List Ty)->List RV->Option (AL rs)
 | [],[]=>some ()
 | [t],[rv]=>bif Ca rv then (Ae [] 6 rv some).bind fun v=>TV.as t v else none
 | t::u::ts,rv::A9=>bif Ca rv then (Ae [] 6 rv some).bind fun v=>(TV.as t v).bind fun x=>(NA (u::ts) A9).bind fun r=>some (x,r) else none
 | _,_=>none
def WX (c:ED) (y:EJ c.bp) (st:St) (vs:List RV):Option (wD c.bp c.w×AL c.rs):=
 match st.k with
 | [(_,wt)]=>(Fw wt c.bp 0).bind fun ids=>bif TK 0 (Dy (fun id=>Cx id ids 0) st.l ids 0) then Fp c.bp (some c.w) y (Dy (fun id=>Cx id ids 0) st.l ids 0) ((PD c.bp c.w (Dy (fun id=>Cx id ids 0) st.l ids 0)).bind fun z=>(NA c.rs vs).bind fun r=>some (z,r)) else none
 | _=>none
def I9:Nat->List TV->List (Nat×RV)
 | _,[]=>[]
 | i,v::r=>(i,.val v)::I9 (i+1) r
end
def R7:(rs:List Ty)->DecidableEq (AL rs)
 | []=>inferInstanceAs (DecidableEq Unit)
 | [t]=>EL t
 | t::u::ts=>@instDecidableEqProd _ _ (EL t) (R7 (u::ts))
instance (rs:List Ty):DecidableEq (AL rs):=R7 rs
def decP:(p:Pt)->DecidableEq p.D
 | .hole t=>EL t
 | .fix _=>inferInstanceAs (DecidableEq Unit)
def Xp:(b:Bt)->DecidableEq b.D
 | .var _ p=>decP p
 | .mp kt vt=>@instDecidableEqList _ (@instDecidableEqProd _ _ (EL kt) (EL vt))
 | .row t=>@instDecidableEqList _ (EL t)
def WO:(bs:List Bt)->(n:Nat)->DecidableEq (wD bs n)
 | [],_=>inferInstanceAs (DecidableEq Empty)
 | b::_,0=>Xp b
 | _::bs,n+1=>WO bs n
instance (bs:List Bt) (n:Nat):DecidableEq (wD bs n):=WO bs n
def rise (E:Aj) (lt:LT) (lv N:Nat) (fn:Func) (ps rs:List Ty) (os:List Bool) (x:AL ps):Option (AL rs):=
 match fn.body with
 | some c=>CP E (hnd E N lv) lt N c (fun st=>(Ea E st fn.results.toList).bind fun vs=>EY st.l (Da (Du os vs) st.l) (Ga (Du os vs)) rs os vs some) (fun _ _=>none)
   (fun st=>(Ea E st fn.results.toList).bind fun vs=>EY st.l (Da (Du os vs) st.l) (Ga (Du os vs)) rs os vs some)
   { s:=I9 0 (Ck ps x),l:=[],k:=[],b:=4096 }
 | none=>none
def Lb (E:Aj) (fn:Func) (c:ED) (y:EJ c.bp) (st:St):Option (wD c.bp c.w×AL c.rs):=
 (Ea E st fn.results.toList).bind fun vs=>Bg 60 (Vq st.l vs) st fun st=>(Ea E st fn.results.toList).bind fun vs=>WX c y st vs
def La (E:Aj) (fn:Func) (e:Ty) (st:St):Option (Ty.slice e).den:=
 (Ea E st fn.results.toList).bind fun vs=>match vs with
  | [.row id]=>match lk id st.l with
   | some (.row t z)=>TV.as (.slice e) ⟨.slice t,z⟩
   | _=>none
  | _=>none
def VD (E:Aj) (lt:LT) (lv N:Nat) (fn:Func) (e:Ty) (fp:List Pt) (x:List e.den) (y:Gf fp):Option (Ty.slice e).den:=
 match fn.body with
 | some code=>@CP _ (EL (.slice e)) E (@hnd _ (EL (.slice e)) E N lv) lt N code (La E fn e) (fun _ _=>none) (La E fn e) (K5 e fp x y)
 | none=>none
def VE (E:Aj) (lt:LT) (lv N:Nat) (fn:Func) (c:ED) (x:Gf c.fp) (y:EJ c.bp):Option (wD c.bp c.w×AL c.rs):=
 match fn.body with
 | some code=>CP E (hnd E N lv) lt N code (Lb E fn c y) (fun _ _=>none) (Lb E fn c y)
   (Gu c x y)
 | none=>none
end Go.Lift
