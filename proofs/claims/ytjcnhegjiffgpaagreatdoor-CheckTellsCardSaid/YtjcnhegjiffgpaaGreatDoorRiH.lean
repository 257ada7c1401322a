import Derived.Test.YtjcnhegjiffgpaaGreatDoorRiV
set_option linter.unusedSimpArgs false
namespace Go.Lift
open Go.RowKit
inductive Tg where
 | fn (f:FuncId)
 | yl
structure Cb where
 ps:List Ty
 rs:List Ty
 os:List Bool
 F:Bv ps->Option (Bv rs)
structure CO where
 tab:List (TypeId×Ty)
 fs:List (FuncId×Cb)
 inl:List (FuncId×Func×LT)
 rep:(α:Type)->Nat->α->List α:=λ_=>List.replicate
 rcs:List (FuncId×UO):=[]
 vl:List Nat:=[]
 ag:List Nat:=[]
 wd:Bool:=false
 ow:List (FuncId×Yv):=[]
def QDs (E:CO) (e:Ty):Nat:=match E.wd,e with
 | true,.int _=>QOc
 | _,_=>lim
def agO (E:CO) (o:Oper):Bool:=match o.dst with
 | some d=>E.ag.any (Nat.beq d)
 | none=>false
def vlO (E:CO) (o:Oper):Bool:=match o.dst with
 | some d=>E.vl.any (Nat.beq d)
 | none=>false
def WR:Value->Bool
 | .slice none 0 0=>true
 | _=>false
def DT (ty:Option Ty) (x:Operand) (s:List (Nat×RV)):RV:=
 match x with
 | .tmp i=>(lk i s).getD .any
 | .const v=>match ty with
  | some (.slice e)=>bif WR v then .nil e else .any
  | some t=>match kindOk t v,Qi t v.cells.toList with
   | true,some y=>.val ⟨t,y⟩
   | _,_=>.any
  | none=>.any
 | .func f=>.OH f .unit
 | .global g=>match lk g wW with
  | some v=>.val ⟨.ptr v.1,v.2⟩
  | none=>.any
def Yw:RV->Option Int
 | .val ⟨.int _,n⟩=>some n
 | _=>none
def YT:RV->Bool
 | .val _=>true
 | .nil _=>true
 | .unit=>true
 | .pair a b=>YT a&&YT b
 | _=>false
def PX:RV->Bool
 | .val _=>true
 | .nil _=>true
 | .agg _ r=>YT r
 | _=>false
def XZ {α:Type} (n:Nat) (k:Nat->α):α:=
 match n with
 | 0=>k 0
 | m+1=>k (m+1)
theorem EO {α:Type} (n:Nat) (k:Nat->α):XZ n k=k n:=by cases n <;> rfl
def newId (st:St) (d:Nat):Nat:=XZ st.b λb=>(b+d) * 8
section
variable {α:Type}
def slotsOf (o:Oper):List Nat:=o.op.operands.toList.filterMap fun | .tmp i=>some i | _=>none
def shK (l:List (Nat×Ob)) (s:List (Nat×RV)):List Nat->(List (Nat×AV)->Option α)->Option α
 | [],k=>k []
 | i::r,k=>match lk i s with
  | some rv=>DU l 6 rv λv=>shK l s r λfr=>k ((i,.val v .no)::fr)
  | none=>none
def Qr (s:List (Nat×RV)) (is:List Nat):Bool:=is.all λi=>match lk i s with
 | some rv=>PX rv
 | none=>false
def CO.old (E:CO):Env:={ tab:=E.tab,fs:=[],live:=[],rep:=E.rep }
def XU (E:CO) (o:Oper) (st:St) (k:RV->Option Ob->Option α):Option α:=
 shK st.l st.s (slotsOf o) λfr=>Qm E.old o { s:=fr,l:=[] } λav=>match av with
  | .val v _=>bif v.1.flat||Qr st.s (slotsOf o) then k (.val v) none else none
  | _=>none
def Ty.wY:Ty->Bool
 | .slice _=>true
 | .pair a b=>a.wY||b.wY
 | _=>false
def jV:(t:Ty)->t.den->RV
 | .slice e,_=>.nil e
 | .pair a b,x=>bif a.wY||b.wY then .pair (jV a x.1) (jV b x.2) else .val ⟨.pair a b,x⟩
 | t,x=>.val ⟨t,x⟩
def QHm:Ob->List Step->Option Ty
 | .var ty _,p=>ZA ty p
 | .row ty _,.idx _::p=>ZA ty p
 | .mp kt vt _,p=>ZA (.mp kt vt) p
 | .lp _ _,p=>ZA .unit p
 | _,_=>none
def QOl:RV->Nat->Option RV
 | .pair a _,0=>some a
 | .pair _ b,n+1=>QOl b n
 | _,_=>none
def chain:List RV->RV
 | []=>.unit
 | a::r=>.pair a (chain r)
def jg (n:Nat) (lo hi:Option RV) (k:Nat->Nat->Option α):Option α:=
 match lo,hi with
 | none,none=>k 0 n
 | some a,none=>(Yw a).bind λl=>bif decide (0<=l)&&decide (l<=(n:Int)) then k l.toNat n else none
 | none,some b=>(Yw b).bind λh=>bif decide (0<=h)&&decide (h<=(n:Int)) then k 0 h.toNat else none
 | some a,some b=>(Yw a).bind λl=>(Yw b).bind λh=>bif decide (0<=l)&&(decide (l<=h)&&decide (h<=(n:Int))) then k l.toNat h.toNat else none
def vG {α:Type} (p:Nat×α):List (Nat×α)->List (Nat×α)
 | []=>[p]
 | q::r=>bif Nat.ble p.1 q.1 then p::q::r else q::vG p r
def XV {α:Type}:List (Nat×α)->List (Nat×α)
 | []=>[]
 | p::r=>vG p (XV r)
def H8 (s:List (Nat×RV)):Ty->Nat->List (Nat×Operand)->Option RV
 | .unit,_,[]=>some .unit
 | .pair a b,i,[]=>(D6 a).bind λx=>(H8 s b (i+1) []).bind λy=>some (.pair (jV a x) y)
 | .pair a b,i,(j,o)::r=>bif Nat.beq i j then (toC a (DT (some a) o s)).bind λx=>(H8 s b (i+1) r).bind λy=>some (.pair x y)
  else (D6 a).bind λx=>(H8 s b (i+1) ((j,o)::r)).bind λy=>some (.pair (jV a x) y)
 | _,_,_=>none
def YS (t:Ty) (s:List (Nat×RV)):Nat->List (Nat×Operand)->Option (List t.den)
 | _,[]=>some []
 | i,(j,x)::r=>bif Nat.beq i j&&PX (DT (some t) x s) then
   (DU [] 6 (DT (some t) x s) some).bind λv=>(TV.as t v).bind λy=>(YS t s (i+1) r).bind λys=>some (y::ys)
  else none
def wkV:TV->TV
 | ⟨.nes e,xs⟩=>⟨.slice e,xs⟩
 | v=>v
def Yh (tab:List (TypeId×Ty)) (l:List (Nat×Ob)) (s:List (Nat×RV)):List Operand->List TypeId->(List TV->Option α)->Option α
 | [],[],k=>k []
 | x::xs,t::ts,k=>DU l 6 (DT (lk t tab) x s) λv=>Yh tab l s xs ts λvs=>k (wkV v::vs)
 | _,_,_=>none
def allArgs (tab:List (TypeId×Ty)) (s:List (Nat×RV)):List Operand->List TypeId->Bool
 | [],[]=>true
 | x::xs,t::ts=>PX (DT (lk t tab) x s)&&allArgs tab s xs ts
 | _,_=>false
def UC (id:Nat):(rs:List Ty)->List Bool->Bv rs->List RV×Option Ob
 | [],_,_=>([],none)
 | [.slice e],true::_,x=>([.row id],some (.row e x))
 | [t],_,x=>([.val ⟨t,x⟩],none)
 | .slice e::u::ts,true::os,x=>(.row id::(UC id (u::ts) os x.2).1,some (.row e x.1))
 | t::u::ts,os,x=>(.val ⟨t,x.1⟩::(UC id (u::ts) os.tail x.2).1,(UC id (u::ts) os.tail x.2).2)
def Zw:List RV->RV
 | []=>.any
 | [rv]=>rv
 | l=>.Oj (chain l)
def Ty.QDd:Ty->Bool
 | .slice e=>e.flat
 | _=>false
def apart:List Ty->List Bool->Bool
 | [],_=>true
 | t::ts,os=>(t.flat||(os.headD false&&t.QDd))&&apart ts os.tail
def wC (E:CO) (fn:Cb) (args:List Operand) (ts:List TypeId) (id:Nat) (st:St) (k:RV->Option Ob->Option α):Option α:=
 bif apart fn.rs fn.os||allArgs E.tab st.s args ts then
  Yh E.tab st.l st.s args ts λvs=>(MU fn.ps vs).bind λx=>(fn.F x).bind λr=>k (Zw (UC id fn.rs fn.os r).1) (UC id fn.rs fn.os r).2
 else none
def QKg (vl:Bool) (src dst:Option Ty) (rv:RV) (id:Nat) (k:RV->Option Ob->Option α) (alt:Option α):Option α:=
 match dst,rv with
 | some (.slice (.int .u8)),.val ⟨.str,s⟩=>bif Cz src .str then (bif vl then k (.val ⟨.slice (.int .u8),s⟩) none else k (.row id) (some (.row (.int .u8) s))) else none
 | _,_=>alt
def QBq:Ty->Bool
 | .mp _ _=>true
 | .fn=>true
 | _=>false
def XH:Ty->Bool
 | .int _=>true
 | .bool=>true
 | .str=>true
 | .arr n e=>Nat.ble n 100&&(match e with | .int _=>true | .bool=>true | .str=>true | _=>false)
 | _=>false
def bf {kt vt:Ty} (x:kt.den) (z:vt.den):List (kt.den×vt.den)->vt.den×Bool
 | []=>(z,false)
 | p::r=>bif R3 kt x p.1 then (p.2,true) else bf x z r
def XP {kt vt:Ty} (x:kt.den) (y:vt.den):List (kt.den×vt.den)->List (kt.den×vt.den)
 | []=>[(x,y)]
 | p::r=>bif R3 kt x p.1 then (x,y)::r else p::XP x y r
def QFf (E:CO) (t:TypeId) (m x:Operand) (ok:Bool) (st:St) (k:RV->Option Ob->Option α):Option α:=
 match DT none m st.s with
 | .mp i=>match lk i st.l with
  | some (.mp kt vt es)=>bif Cz (lk t E.tab) (.mp kt vt)&&XH kt then
    (DU st.l 6 (DT (some kt) x st.s) λv=>(TV.as kt v).bind λx=>(D6 vt).bind λz=>
     bif ok then k (.Oj (.pair (.val ⟨vt,(bf x z es).1⟩) (.pair (.val ⟨.bool,(bf x z es).2⟩) .unit))) none else k (.val ⟨vt,(bf x z es).1⟩) none)
   else none
  | _=>none
 | _=>none
def vK (E:CO) (t:TypeId) (m x y:Operand) (st:St) (k:Nat->Ob->Option α):Option α:=
 match DT none m st.s with
 | .mp i=>match lk i st.l with
  | some (.mp kt vt es)=>bif Cz (lk t E.tab) (.mp kt vt)&&(XH kt&&vt.flat) then
    DU st.l 6 (DT (some kt) x st.s) λv=>(TV.as kt v).bind λx=>DU st.l 6 (DT (some vt) y st.s) λu=>(TV.as vt u).bind λy=>k i (.mp kt vt (XP x y es))
   else none
  | _=>none
 | _=>none
def tJ (E:CO) (o:Oper) (st:St) (k:RV->Option α) (alt:Option α):Option α:=
 match o.op with
 | .binOp op t x (.const v) _=>match WR v,op,DT none x st.s with
  | true,.eql,.val ⟨.nes e,xs⟩=>bif Cz (lk t E.tab) (.nes e) then k (.val ⟨.bool,List.isEmpty xs⟩) else none
  | true,.neq,.val ⟨.nes e,xs⟩=>bif Cz (lk t E.tab) (.nes e) then k (.val ⟨.bool,!List.isEmpty xs⟩) else none
  | _,_,_=>alt
 | .call { callee:=.builtin .cap,args,argTypes }=>match args.toList,argTypes.toList with
  | [x],[t]=>match DT none x st.s with
   | .nil e=>bif Cz (lk t E.tab) (.slice e) then k (.val ⟨.int .i64,(0:Int)⟩) else none
   | _=>alt
  | _,_=>alt
 | .slice T x none (some y) none=>match DT none x st.s with
  | .nil e=>(Yw (DT (some (.int .i64)) y st.s)).bind λh=>bif decide (h=0) then (bif Cz (lk T E.tab) (.slice e) then k (.nil e) else none) else none
  | _=>alt
 | _=>alt
def FZ (E:CO) (o:Oper) (st:St) (id:Nat) (k:RV->Option Ob->Option α):Option α:=
 match o.op with
 | .move x=>k (DT (lk o.type E.tab) x st.s) none
 | .assign x=>k (DT (lk o.type E.tab) x st.s) none
 | .pick c a b=>match DT (lk o.type E.tab) c st.s with
  | .val ⟨.bool,c⟩=>bif c then k (DT (lk o.type E.tab) a st.s) none else k (DT (lk o.type E.tab) b st.s) none
  | _=>none
 | .alloc t=>(lk t E.tab).bind λty=>match QBq ty with
  | true=>k (.loc id []) (some (.var ty .any))
  | false=>(D6 ty).bind λz=>k (.loc id []) (some (.var ty (jV ty z)))
 | .makeMap t none=>(lk t E.tab).bind λty=>match ty with
  | .mp kt vt=>k (.mp id) (some (.mp kt vt []))
  | _=>none
 | .lookup t m x ok=>QFf E t m x ok st k
 | .box t x=>(lk t E.tab).bind λty=>(toC ty (DT (some ty) x st.s)).bind λc=>k (.loc id []) (some (.var ty c))
 | .load T x=>match DT (lk o.type E.tab) x st.s with
  | .loc i p=>match lk i st.l with
   | some (.var ty con)=>LK (λt rv=>bif Cz (lk T E.tab) t then k (ofC t rv) none else none) ty con p
   | some (.row t xs)=>match p with
    | .idx j::q=>(nth xs j.toNat).bind λx=>nG (λv=>bif Cz (lk T E.tab) v.1 then k (.val v) none else none) t x q
    | _=>none
   | some (.mp _ _ _)=>none
   | some (.lp _ _)=>none
   | none=>none
  | _=>XU E o st k
 | .convert src dst x=>QKg (vlO E o) (lk src E.tab) (lk dst E.tab) (DT (lk src E.tab) x st.s) id k (XU E o st k)
 | .nilCheck x=>match DT (lk o.type E.tab) x st.s with
  | .loc i p=>k (.loc i p) none
  | .OH f c=>k (.OH f c) none
  | _=>XU E o st k
 | .fieldAddr T x f=>match DT (lk o.type E.tab) x st.s with
  | .loc i p=>(lk i st.l).bind λob=>(QHm ob p).bind λt=>bif Cz (lk T E.tab) t&&(fieldTy t f).isSome then k (.loc i (p++[.TP f])) none else none
  | _=>XU E o st k
 | .field T x f=>match DT (lk o.type E.tab) x st.s with
  | .agg t r=>bif Cz (lk T E.tab) t&&(fieldTy t f).isSome then LK (λt' rv=>k (ofC t' rv) none) t r [.TP f] else none
  | _=>XU E o st k
 | .indexAddr T x i=>match DT (lk o.type E.tab) x st.s with
  | .loc id p=>(Yw (DT (some (.int .i64)) i st.s)).bind λi=>(lk id st.l).bind λob=>match QHm ob p with
   | some (.arr n t)=>bif Cz (lk T E.tab) (.arr n t) then (bif decide (0<=i)&&decide (i < (n:Int)) then k (.loc id (p++[.idx i])) none else none) else none
   | _=>none
  | .row id=>(Yw (DT (some (.int .i64)) i st.s)).bind λi=>match lk id st.l with
   | some (.row t xs)=>bif Cz (lk T E.tab) (.slice t) then (bif decide (0<=i)&&decide (i < (List.length xs:Int)) then k (.loc id [.idx i]) none else none) else none
   | _=>none
  | .sub id lo hi=>(Yw (DT (some (.int .i64)) i st.s)).bind λi=>match lk id st.l with
   | some (.row t _)=>bif Cz (lk T E.tab) (.slice t) then (bif decide (0<=i)&&decide (i < (hi:Int) - (lo:Int)) then k (.loc id [.idx ((lo:Int)+i)]) none else none) else none
   | _=>none
  | _=>XU E o st k
 | .slice T x lo hi none=>match DT (lk o.type E.tab) x st.s with
  | .row id=>match lk id st.l with
   | some (.row t xs)=>bif Cz (lk T E.tab) (.slice t) then jg (List.length xs) (lo.map (DT (some (.int .i64)) · st.s)) (hi.map (DT (some (.int .i64)) · st.s)) λl h=>k (.sub id l h) none else none
   | _=>none
  | .sub id a b=>match lk id st.l with
   | some (.row t _)=>bif Cz (lk T E.tab) (.slice t) then jg (b - a) (lo.map (DT (some (.int .i64)) · st.s)) (hi.map (DT (some (.int .i64)) · st.s)) λl h=>k (.sub id (a+l) (a+h)) none else none
   | _=>none
  | _=>tJ E o st (λrv=>k rv none) (XU E o st k)
 | .slice T x lo (some y) (some z)=>match DT (lk o.type E.tab) x st.s with
  | .row id=>match lk id st.l with
   | some (.row t xs)=>bif Cz (lk T E.tab) (.slice t) then (Yw (DT (some (.int .i64)) z st.s)).bind λm=>bif decide (0<=m)&&decide (m<=(List.length xs:Int)) then jg m.toNat (lo.map (DT (some (.int .i64)) · st.s)) ((some y).map (DT (some (.int .i64)) · st.s)) λl h=>k (.sub id l h) none else none else none
   | _=>none
  | .sub id a b=>match lk id st.l with
   | some (.row t _)=>bif Cz (lk T E.tab) (.slice t) then (Yw (DT (some (.int .i64)) z st.s)).bind λm=>bif decide (0<=m)&&decide (m<=((b - a:Nat):Int)) then jg m.toNat (lo.map (DT (some (.int .i64)) · st.s)) ((some y).map (DT (some (.int .i64)) · st.s)) λl h=>k (.sub id (a+l) (a+h)) none else none else none
   | _=>none
  | _=>XU E o st k
 | .extract x i=>match DT (lk o.type E.tab) x st.s with
  | .Oj r=>(QOl r i).bind λrv=>k rv none
  | _=>none
 | .makeFunc (.func f) first caps=>bif first.isEmpty then k (.OH f (chain (caps.toList.map λx=>DT none x st.s))) none else none
 | .build t parts=>(lk t E.tab).bind λty=>bif Qr st.s (slotsOf o)&&!(agO E o) then XU E o st k else match ty with
  | .arr _ _=>none
  | ty=>(H8 st.s ty 0 (XV parts.toList)).bind λr=>k (.agg ty r) none
 | .buildSlice t n parts=>(lk t E.tab).bind λty=>match ty with
  | .slice e=>(YS e st.s 0 parts.toList).bind λys=>bif Nat.beq ys.length n&&(Nat.ble n 1000000&&(Nat.ble 1 e.n&&Nat.ble (n * e.n) 1000000)) then (bif vlO E o then k (.val ⟨.slice e,ys⟩) none else k (.row id) (some (.row e ys))) else none
  | _=>none
 | .makeSlice t l c=>(Yw (DT (some (.int .i64)) l st.s)).bind λn=>(Yw (DT (some (.int .i64)) c st.s)).bind λm=>(lk t E.tab).bind λty=>match ty with
  | .slice e=>bif decide (0<=n)&&(decide (n<=m)&&(decide (m<=68719476736)&&Nat.ble 1 e.n)) then (D6 e).bind λz=>k (.row id) (some (.row e (E.rep e.den n.toNat z))) else none
  | _=>none
 | .call { callee:=.value f,args,argTypes }=>match DT none f st.s with
  | .OH g .unit=>(lk g E.fs).bind λfn=>wC E fn args.toList argTypes.toList id st k
  | _=>none
 | _=>tJ E o st (λrv=>k rv none) (XU E o st k)
def K6:Nat->List Nat->St->(St->Option α)->Option α
 | 0,_,_,_=>none
 | _,[],st,k=>k st
 | n+1,id::ids,st,k=>match lk id st.l with
  | none=>K6 n ids st k
  | some (.mp _ _ _)=>K6 n ids st k
  | some (.lp _ _)=>K6 n ids st k
  | some (.row t xs)=>K6 n ids (zn id t xs st) k
  | some (.var ty con)=>match X9 con [] with
   | []=>Ji (λrv k=>match rv with | .nil t=>k ⟨.slice t,([]:List t.den)⟩ | _=>none) con ty λx=>K6 n ids (kH id ty x st) k
   | ms=>K6 n (ms++id::ids) st k
def dQ (o:Oper) (st:St):List Nat:=(slotsOf o).foldr (λi acc=>match lk i st.s with | some rv=>X9 rv acc | none=>acc) []
def toFrz (E:CO) (o:Oper) (st:St):List Nat:=
 match o.op with
 | .slice _ x _ _ _=>match DT none x st.s with
  | .loc id _=>[id]
  | _=>[]
 | .buildSlice _ _ _=>dQ o st
 | .build t _=>match lk t E.tab with
  | some (.arr _ _)=>dQ o st
  | _=>[]
 | .store t x y=>match DT (lk t E.tab) x st.s with
  | .loc id _=>match lk id st.l with
   | some (.row _ _)=>X9 (DT (lk t E.tab) y st.s) []
   | _=>[]
  | _=>[]
 | .call { callee:=.value f,.. }=>match DT none f st.s with
  | .OH g .unit=>match lk g E.fs with
   | some fn=>bif apart fn.rs fn.os then [] else dQ o st
   | none=>[]
  | _=>[]
 | _=>[]
def QMr (id:Nat) (ob:Option Ob) (st:St):St:=
 match ob with
 | some ob=>addN id ob st
 | none=>st
def Dh (id:Nat) (st:St):St:=
 match lk id st.l with
 | none=>st
 | some _=>OX id st
def QEV (tab:List (TypeId×Ty)) (u:TypeId) (l:List (Nat×Ob)) (e:Ty):RV->Option (List e.den)
 | .val ⟨.slice t,ys⟩=>bif Cz (lk u tab) (.slice t) then TV.as (.slice e) ⟨.slice t,ys⟩ else none
 | .val ⟨.str,ys⟩=>bif Cz (lk u tab) .str then TV.as (.slice e) ⟨.slice (.int .u8),ys⟩ else none
 | .nil t=>bif Cz (lk u tab) (.slice t) then TV.as (.slice e) ⟨.slice t,([]:List t.den)⟩ else none
 | .row id=>match lk id l with
  | some (.row t xs)=>bif Cz (lk u tab) (.slice t) then TV.as (.slice e) ⟨.slice t,xs⟩ else none
  | _=>none
 | .sub id lo hi=>match lk id l with
  | some (.row t xs)=>bif Cz (lk u tab) (.slice t) then TV.as (.slice e) ⟨.slice t,(List.take hi xs).drop lo⟩ else none
  | _=>none
 | _=>none
def vC (l:List (Nat×Ob)) (e:Ty):RV->Option (List e.den×Option Nat)
 | .nil t=>bif decide (t=e) then some ([],none) else none
 | .row id=>match lk id l with
  | some (.row t xs)=>(TV.as (.slice e) ⟨.slice t,xs⟩).bind λxs=>some (xs,some id)
  | _=>none
 | .sub id lo hi=>match lk id l with
  | some (.row t xs)=>bif Nat.beq lo 0 then (TV.as (.slice e) ⟨.slice t,xs⟩).bind λxs=>some (List.take hi xs,some id) else none
  | _=>none
 | _=>none
def JV:Option Nat->St->St
 | some id,st=>OX id st
 | none,st=>st
def QLQ (d:Nat) (i:Nat):Option Nat:=bif Nat.beq i d then some i else none
def Zp (id:Nat) (u:Ty) (xs:List u.den) (t:Ty) (s:List (Nat×RV)):Nat->List (Nat×Operand)->Option (List t.den)
 | _,[]=>some []
 | i,(j,x)::r=>bif Nat.beq i j then
   (DU [(id,.row u xs)] 6 (Ce (QLQ id) (DT (some t) x s)) some).bind λv=>(TV.as t v).bind λy=>(Zp id u xs t s (i+1) r).bind λys=>some (y::ys)
  else none
def Xl (E:CO) (t:TypeId) (n:Nat) (parts:List (Nat×Operand)) (id:Nat) (st:St) (k:(e:Ty)->List e.den->Option α):Option α:=
 match lk id st.l with
 | some (.row u xs)=>(lk t E.tab).bind λty=>match ty with
  | .slice e=>(Zp id u xs e st.s 0 parts).bind λys=>bif Nat.beq ys.length n&&(Nat.ble n 1000000&&(Nat.ble 1 e.n&&Nat.ble (n * e.n) 1000000)) then k e ys else none
  | _=>none
 | _=>none
def tZ (E:CO) (o:Oper) (st:St) (k:St->Option α):Option α:=
 XZ (newId st (o.dst.getD 0)) λid=>FZ E o (Dh id st) id λrv ob=>k (Jd (QMr id ob (Dh id st)) o.dst rv)
def push (lt:LT) (d:Nat) (args:List RV) (st:St):St:=
 XZ st.b λb=>{ s:=(args.zipIdx 0).map λp=>(p.2,p.1),l:=st.l,k:=(b,match lk d lt.keep with | some ks=>OB st.s ks | none=>st.s)::st.k,b:=(b+d+1) * 4096 }
def pop (st:St):St:=
 match st.k with
 | (b,s)::k=>{ s:=s,l:=st.l,k:=k,b:=b }
 | []=>st
def QCs (st:St):Option (Nat×RV×LQ):=
 match st.k with
 | (_,s)::_=>match lk 0 s with
  | some (.yl id)=>match lk id st.l with
   | some (.lp con q)=>some (id,con,q)
   | _=>none
  | _=>none
 | []=>none
def jf (s:List (Nat×RV)):Nat->Nat->RV
 | _,0=>.unit
 | i,n+1=>.pair ((lk i s).getD .any) (jf s (i+1) n)
def maxS:List (Nat×RV)->Nat
 | []=>0
 | p::s=>bif Nat.ble (maxS s) p.1 then p.1+1 else maxS s
def Yc:Nat->RV->List (Nat×RV)
 | i,.pair .any b=>Yc (i+1) b
 | i,.pair a b=>(i,a)::Yc (i+1) b
 | _,_=>[]
def uS:List Tmp->List RV->List (Nat×RV)->List (Nat×RV)
 | p::ps,rv::Gl,s=>uS ps Gl ((p,rv)::s)
 | _,_,s=>s
def QFs (lt:LT) (id:Nat) (ps:Array Tmp) (assign body:Code) (cs:List RV) (st:St):St:=
 XZ st.b λb=>match lk (ps.toList.headD 1000000) lt.rf with
  | some (k1,k2)=>{ s:=((.yl id::cs).zipIdx 0).map λp=>(p.2,p.1),l:=(id,.lp (jf (OB st.s k1) 0 (maxS (OB st.s k1))) ⟨ps,assign,body,lt,.ready,none⟩)::st.l,k:=(0,[(0,.yl id)])::(b,OB st.s k2)::st.k,b:=(b+4001) * 4096 }
  | none=>{ s:=((.yl id::cs).zipIdx 0).map λp=>(p.2,p.1),l:=(id,.lp (jf st.s 0 (maxS st.s)) ⟨ps,assign,body,lt,.ready,none⟩)::st.l,k:=(0,[(0,.yl id)])::(b,st.s)::st.k,b:=(b+4001) * 4096 }
def QLZ (lt:LT) (d:Nat) (id:Nat) (con:RV) (q:LQ) (args:List RV) (st:St):St:=
 XZ st.b λb=>{ s:=uS q.ps.toList args (Yc 0 con),l:=st.l,k:=(0,[(0,.yl id)])::(b,match lk d lt.keep with | some ks=>OB st.s ks | none=>st.s)::st.k,b:=(b+d+1) * 4096 }
def QKY {α:Type} (k:St->Option α) (st:St):Option α:=
 (QCs st).bind λt=>match t.2.2.state with
  | .ready=>k (Dv t.1 (.lp t.2.1 { t.2.2 with state:=.busy }) st)
  | _=>none
def QBb {α:Type} (jump:Option Code) (b:Bool) (k:St->RV->Option α) (st:St):Option α:=
 (QCs st).bind λt=>match t.2.2.state with
  | .busy=>k (pop (Dv t.1 (.lp t.2.1 { t.2.2 with state:=bif b then .ready else .done,jump:=jump }) st)) (.val ⟨.bool,b⟩)
  | _=>none
def qE {α:Type} (kn:St->Option α) (kx:Nat->St->Option α) (kr:St->Option α) (st:St):Option α:=
 (QCs st).bind λt=>match t.2.2.state,t.2.2.jump with
  | .ready,none=>kn (pop (pop (OX t.1 st)))
  | .done,some .ret=>kr (pop (pop (OX t.1 st)))
  | .done,some (.exit j)=>kx j (pop (pop (OX t.1 st)))
  | _,_=>none
def Yl:RV->Option (List RV)
 | .unit=>some []
 | .pair a b=>(Yl b).bind λr=>some (a::r)
 | _=>none
def QLX:RV->RV
 | .nil t=>.val ⟨.slice t,([]:List t.den)⟩
 | rv=>rv
def QLO (tt:Option Ty) (p:List Step) (ty:Ty) (xs:List ty.den) (rv:RV) (k:List ty.den->Option α) (alt:Option α):Option α:=
 match p,rv with
 | [.idx i],.val ⟨.slice e,ys⟩=>bif Cz tt (.nes e) then (bif List.isEmpty ys then none else (TV.as ty ⟨.nes e,ys⟩).bind λz=>k (List.set xs i.toNat z)) else alt
 | _,_=>alt
def Wo (E:CO) (t:TypeId) (x y:Operand) (st:St) (k:Nat->Ob->Option α):Option α:=
 match DT (lk t E.tab) x st.s with
 | .loc id p=>match lk id st.l with
  | some (.var ty con)=>(lk t E.tab).bind λtt=>(toC tt (DT (some tt) y st.s)).bind λ_=>Ya (DT (some tt) y st.s) ty (λFz=>k id (.var ty Fz)) con p
  | some (.row ty xs)=>QLO (lk t E.tab) p ty xs (DT (lk t E.tab) y st.s) (λz=>k id (.row ty z)) <| match p,QLX (DT (lk t E.tab) y st.s) with
   | [.idx i],.val v=>bif Cz (lk t E.tab) v.1 then (TV.as ty v).bind λz=>k id (.row ty (List.set xs i.toNat z)) else none
   | .idx i::s::q,.val v=>bif Cz (lk t E.tab) v.1 then (nth xs i.toNat).bind λx=>(Yb v ty x (s::q)).bind λz=>k id (.row ty (List.set xs i.toNat z)) else none
   | _,_=>none
  | some (.mp _ _ _)=>none
  | some (.lp _ _)=>none
  | none=>none
 | _=>none
def QLz (E:CO) (u:TypeId) (new:Bool) (e:Ty) (rv:RV) (k:List e.den->Option α) (alt:Option α):Option α:=
 match new,rv with
 | true,.val ⟨.int .i64,n⟩=>bif decide (1<=n)&&decide (n<=(lim:Int)) then (bif Cz (lk u E.tab) (.int .i64) then (D6 e).bind λz=>k (E.rep e.den n.toNat z) else none) else none
 | _,_=>alt
def yT (E:CO) (args:Array Operand) (argTypes:Array TypeId) (st:St) (k:(e:Ty)->List e.den->Option Nat->Option α):Option α:=
 match args.toList,argTypes.toList with
 | [sx,x],t::u::[]=>match lk t E.tab with
  | some (.slice e)=>(vC st.l e (DT (some (.slice e)) sx st.s)).bind λxs=>QLz E u xs.2.isNone e (DT (lk u E.tab) x st.s) (λys=>bif Nat.ble 1 e.n&&Nat.ble (List.length xs.1+List.length ys) (QDs E e) then k e (List.append xs.1 ys) xs.2 else none) <| (QEV E.tab u st.l e (DT (lk u E.tab) x st.s)).bind λys=>
    bif Nat.ble 1 e.n&&Nat.ble (List.length xs.1+List.length ys) (QDs E e) then k e (List.append xs.1 ys) xs.2 else none
  | _=>none
 | _,_=>none
def QLV (l:List (Nat×Ob)):RV->Option (Nat×Nat×Nat)
 | .row id=>match lk id l with
  | some (.row _ xs)=>some (id,0,List.length xs)
  | _=>none
 | .sub id lo hi=>some (id,lo,hi)
 | _=>none
def QKd (E:CO) (args:Array Operand) (argTypes:Array TypeId) (st:St) (k:Nat->Ob->Option α):Option α:=
 match args.toList,argTypes.toList with
 | [x],[t]=>match lk t E.tab with
  | some (.slice e)=>(QLV st.l (DT (some (.slice e)) x st.s)).bind λp=>match lk p.1 st.l with
   | some (.row u xs0)=>(TV.as (.slice e) ⟨.slice u,xs0⟩).bind λxs=>(D6 e).bind λz=>bif Nat.ble 1 e.n then k p.1 (.row e (List.append (List.take p.2.1 xs) (List.append (E.rep e.den (p.2.2 - p.2.1) z) (List.drop p.2.2 xs)))) else none
   | _=>none
  | _=>none
 | _,_=>none
def vw [DecidableEq α] (a b:Option α):Option α:=bif decide (a=b) then a else none
theorem qj [DecidableEq α] {a b:Option α} {r:α} (h:vw a b=some r):a=some r/\b=some r:=by
 unfold vw at h
 cases hd:decide (a=b) with
 | true=>
  rw [hd] at h
  exact ⟨h,of_decide_eq_true hd ▸ h⟩
 | false=>rw [hd] at h;cases h
def QTw [DecidableEq α] (E:CO) (op:BinOp) (t:TypeId) (x:Operand) (v:Value) (st:St) (f:Bool->Option α) (alt:Option α):Option α:=
 match op,WR v,DT none x st.s with
 | .eql,true,.val ⟨.slice e,xs⟩=>bif Cz (lk t E.tab) (.slice e) then (bif List.isEmpty xs then vw (f true) (f false) else f false) else none
 | .neq,true,.val ⟨.slice e,xs⟩=>bif Cz (lk t E.tab) (.slice e) then (bif List.isEmpty xs then vw (f false) (f true) else f true) else none
 | _,_,_=>alt
def QLp (E:CO) (src dst:TypeId) (rv:RV) (st:St) (f:Nat->Option α) (alt:Option α):Option α:=
 match Nat.beq src dst,rv with
 | true,.row id=>match lk id st.l with
  | some (.row t xs)=>bif Cz (lk src E.tab) (.slice t)&&(Cz (some t) (.int .u8)&&Nat.ble 1 (List.length xs)) then f id else none
  | _=>none
 | _,_=>alt
def nQ (E:CO) (c:UO) (args:Array Operand) (ts:Array TypeId) (caps:RV) (st:St) (k:Nat->Ob->RV->Option α):Option α:=
 bif Nat.beq args.size ts.size&&QLb c then
  (Yl caps).bind λcs=>QOv c st.l (((args.toList.zip ts.toList).map λp=>DT (lk p.2 E.tab) p.1 st.s)++cs) λid z r=>k id (jS c.bp c.w z) (Zw (QGC c.rs r))
 else none
def dG (E:CO) (c:Yv) (args:Array Operand) (ts:Array TypeId) (caps:RV) (st:St) (k:(e:Ty)->List e.den->Option Nat->Option α):Option α:=
 match args.toList,ts.toList,caps with
 | sx::xs,t::us,.unit=>bif Nat.beq xs.length us.length&&c.fp.all isHole then
   (vC st.l c.e (DT (lk t E.tab) sx st.s)).bind λX=>(QBC c.fp ((xs.zip us).map λp=>DT (lk p.2 E.tab) p.1 st.s)).bind λy=>(c.F X.1 y).bind λz=>k c.e z X.2
  else none
 | _,_,_=>none
def jC {γ:Type} (T:List (FuncId×γ)) (o:Oper) (st:St) (yes:γ->Array Operand->Array TypeId->RV->Option α) (no:Option α):Option α:=
 match o.op with
 | .call { callee:=.value f,args,argTypes }=>match DT none f st.s with
  | .OH g caps=>match lk g T with
   | some c=>yes c args argTypes caps
   | none=>no
  | _=>no
 | _=>no
def PV [DecidableEq α] (E:CO) (H:Tg->St->(St->RV->Option α)->Option α) (lt:LT) (o:Oper) (st:St) (k:St->Option α):Option α:=
 match o.op,o.dst with
 | .store t x y,none=>Wo E t x y st λid ob=>k (Dv id ob st)
 | .mapUpdate t m x y,none=>vK E t m x y st λid ob=>k (Dv id ob st)
 | .call { callee:=.builtin .append,args,argTypes },some d=>yT E args argTypes st λe z old=>
   XZ (newId st d) λid=>k (Jd (addN id (.row e z) (Dh id (JV old st))) (some d) (.row id))
 | .call { callee:=.builtin .clear,args,argTypes },none=>QKd E args argTypes st λid ob=>k (Dv id ob st)
 | .call { callee:=.value f,args,argTypes },d=>match DT none f st.s with
  | .OH g caps=>match lk g E.rcs with
   | some c=>nQ E c args argTypes caps st λid ob rv=>k (Jd (Dv id ob st) d rv)
   | none=>match lk g E.ow,d with
   | some c,some d=>dG E c args argTypes caps st λe z old=>XZ (newId st d) λid=>k (Jd (addN id (.row e z) (Dh id (JV old st))) (some d) (.row id))
   | _,_=>match lk g E.fs,caps with
    | some _,.unit=>tZ E o st k
    | _,_=>bif Nat.beq args.size argTypes.size then (Yl caps).bind λcs=>H (.fn g) (push lt (d.getD 0) ((args.toList.zip argTypes.toList).map (λp=>DT (lk p.2 E.tab) p.1 st.s)++cs) st) λst' rv=>k (Jd (pop st') d rv) else none
  | .yl id=>match lk id st.l with
   | some (.lp con q)=>match q.state with
    | .ready=>bif Nat.beq args.size argTypes.size&&Nat.beq args.size q.ps.size then H .yl (QLZ lt (d.getD 0) id con q ((args.toList.zip argTypes.toList).map (λp=>DT (lk p.2 E.tab) p.1 st.s)) st) λst' rv=>k (Jd (pop st') d rv) else none
    | _=>none
   | _=>none
  | _=>none
 | .binOp op t x (.const v) _,some d=>QTw E op t x v st (λb=>k (Jd st (some d) (.val ⟨.bool,b⟩))) (tZ E o st k)
 | .convert src dst x,some d=>QLp E src dst (DT (lk src E.tab) x st.s) st (λid=>k (Jd st (some d) (.row id))) (tZ E o st k)
 | _,some _=>tZ E o st k
 | _,none=>none
def opR [DecidableEq α] (E:CO) (H:Tg->St->(St->RV->Option α)->Option α) (lt:LT) (o:Oper) (st:St) (k:St->Option α):Option α:=
 match toFrz E o st with
 | []=>PV E H lt o st k
 | ids=>K6 60 ids st λst=>PV E H lt o st k
def V9 (g:Nat) (b:Bool):List (Nat×RV)->List (Nat×RV)
 | []=>[]
 | (j,a)::r=>bif Nat.beq g j then (j,.val ⟨.bool,b⟩)::r else (j,a)::V9 g b r
def kZ [DecidableEq α] (E:CO) (H:Tg->St->(St->RV->Option α)->Option α) (lt:LT) (ops:Array Oper):List Oper->St->(St->Option α)->Option α
 | [],st,k=>k st
 | o::rest,st,k=>match o.guard with
  | none=>opR E H lt o st λst=>kZ E H lt ops rest st k
  | some (j,want)=>match (ops[j]?).bind (·.dst) with
   | some g=>match lk g st.s with
    | some (.val ⟨.bool,b⟩)=>
     bif b then
      (bif want then opR E H lt o { st with s:=V9 g true st.s } λst=>kZ E H lt ops rest st k
       else kZ E H lt ops rest (Jd { st with s:=V9 g true st.s } o.dst (.Oj .unit)) k)
     else
      (bif want then kZ E H lt ops rest (Jd { st with s:=V9 g false st.s } o.dst (.Oj .unit)) k
       else opR E H lt o { st with s:=V9 g false st.s } λst=>kZ E H lt ops rest st k)
    | some (.Oj .unit)=>kZ E H lt ops rest (Jd st o.dst (.Oj .unit)) k
    | _=>none
   | none=>none
structure D9 where
 d:Option Nat
 rv:RV
 o:Option (Nat×Ob)
 kl:Option Nat
def nD (e:D9) (st:St):St:=
 { JV e.kl st with s:=(match e.d with | some d=>(d,e.rv)::(JV e.kl st).s | none=>(JV e.kl st).s),l:=(match e.o with | some p=>p::(JV e.kl st).l | none=>(JV e.kl st).l) }
def XW (E:CO) (o:Oper) (st:St) (k:D9->Option α):Option α:=
 match o.op,o.dst with
 | .store t x y,none=>Wo E t x y st λid ob=>k ⟨none,.any,some (id,ob),none⟩
 | .mapUpdate t m x y,none=>vK E t m x y st λid ob=>k ⟨none,.any,some (id,ob),none⟩
 | .call { callee:=.builtin .append,args,argTypes },some d=>XZ (newId st d) λid=>match lk id st.l with
  | none=>yT E args argTypes st λe z old=>k ⟨some d,.row id,some (id,.row e z),old⟩
  | some _=>none
 | .buildSlice t n parts,some d=>XZ (newId st d) λid=>match lk id st.l with
  | none=>match dQ o st with
   | []=>FZ E o st id λrv ob=>k ⟨some d,rv,ob.map λob=>(id,ob),none⟩
   | old::_=>Xl E t n parts.toList old st λe z=>k ⟨some d,.row id,some (id,.row e z),some old⟩
  | some _=>none
 | _,some d=>jC E.rcs o st (λc args ts caps=>nQ E c args ts caps st λid ob rv=>k ⟨some d,rv,some (id,ob),none⟩) (XZ (newId st d) λid=>match lk id st.l with
  | none=>jC E.ow o st (λc args ts caps=>dG E c args ts caps st λe z old=>k ⟨some d,.row id,some (id,.row e z),old⟩) (FZ E o st id λrv ob=>k ⟨some d,rv,ob.map λob=>(id,ob),none⟩)
  | some _=>none)
 | _,none=>none
def Q6 (ops:Array Oper) (o:Oper):Option Nat:=
 match o.guard with
 | some (j,_)=>(ops[j]?).bind (·.dst)
 | none=>none
def stepG (E:CO) (ops:Array Oper) (o:Oper) (st:St) (k:D9->Option α):Option α:=
 match o.guard with
 | none=>XW E o st k
 | some (_,want)=>match Q6 ops o with
  | some g=>match lk g st.s with
   | some (.val ⟨.bool,b⟩)=>bif b then (bif want then XW E o st k else k ⟨o.dst,.Oj .unit,none,none⟩) else (bif want then k ⟨o.dst,.Oj .unit,none,none⟩ else XW E o st k)
   | some (.Oj .unit)=>k ⟨o.dst,.Oj .unit,none,none⟩
   | _=>none
  | none=>none
structure Rc where
 rd:List Nat
 ob:List Nat
 d:Option Nat
 w:Option Nat
 kl:Option Nat
 ts:List Nat
 tb:List Nat
def Ho (id:Nat):RV->Bool
 | .row i=>Nat.beq i id
 | .sub i _ _=>Nat.beq i id
 | .loc i _=>Nat.beq i id
 | .OH _ c=>Ho id c
 | .pair a b=>Ho id a||Ho id b
 | .agg _ r=>Ho id r
 | .Oj r=>Ho id r
 | .mp i=>Nat.beq i id
 | .yl i=>Nat.beq i id
 | _=>false
def ZW (id:Nat):Ob->Bool
 | .var _ c=>Ho id c
 | .row _ _=>false
 | .mp _ _ _=>false
 | .lp c _=>Ho id c
def lU {α:Type} (p:Nat->α->Bool) (id:Option Nat) (l:List (Nat×α)):List Nat:=
 match id with
 | some id=>(l.filter λq=>p id q.2).map (·.1)
 | none=>[]
def Xb (C:List Nat):RV->Bool
 | .row id=>C.any (Nat.beq id)
 | .sub id _ _=>C.any (Nat.beq id)
 | .loc id _=>C.any (Nat.beq id)
 | .OH _ c=>Xb C c
 | .pair a b=>Xb C a&&Xb C b
 | .agg _ r=>Xb C r
 | .Oj r=>Xb C r
 | .mp id=>C.any (Nat.beq id)
 | .yl id=>C.any (Nat.beq id)
 | _=>true
def lC (ops:Array Oper) (o:Oper) (st:St) (e:D9):Rc:=
 { rd:=slotsOf o++(Q6 ops o).toList,ob:=(match o.dst with | some d=>[newId st d] | none=>[])++reach st.l 200 (dQ o st) [],d:=e.d,w:=e.o.map (·.1),kl:=e.kl,ts:=lU Ho e.kl st.s,tb:=lU ZW e.kl st.l }
def QFE (C:List Nat) (l:List (Nat×Ob)):Bool:=C.all λid=>match lk id l with
 | some (.var _ con)=>Xb C con
 | some (.lp con _)=>Xb C con
 | _=>true
def QRJ (C S:List Nat) (st:St):Bool:=S.all λi=>match lk i st.s with
 | some rv=>Xb C rv
 | none=>true
def eY (x:Option Nat) (l:List Nat):Bool:=match x with
 | some i=>l.any (Nat.beq i)
 | none=>false
def xw (x y:Option Nat):Bool:=match x,y with
 | some i,some j=>Nat.beq i j
 | _,_=>false
def meets (l m:List Nat):Bool:=l.any λi=>m.any (Nat.beq i)
def indep (p q:Rc):Bool:=!(eY p.d q.rd)&&(!(eY q.d p.rd)&&(!(xw p.d q.d)&&(!(eY p.w q.ob)&&(!(eY q.w p.ob)&&(!(xw p.w q.w)&&(!(eY q.kl p.ob)&&(!(meets p.ts q.rd)&&!(meets p.tb q.ob))))))))
def QHI (b:List Nat) (i:Nat) (q:Rc):Nat->List Rc->Bool
 | _,[]=>true
 | j,p::r=>!(eY p.kl q.ob)&&(((b.getD i 0).testBit j||indep p q)&&QHI b i q (j+1) r)
def QOT (C:List Nat):Option (Nat×Ob)->Bool
 | some (i,.var _ c)=>C.any (Nat.beq i)&&Xb C c
 | some (i,.row _ _)=>C.any (Nat.beq i)
 | some (i,.mp _ _ _)=>C.any (Nat.beq i)
 | some (i,.lp c _)=>C.any (Nat.beq i)&&Xb C c
 | none=>true
def QTy (C:List Nat) (e:D9):Bool:=match e.kl with
 | some id=>C.any (Nat.beq id)&&(!(Ho id e.rv)&&(match e.o with | some (i,ob)=>!(Nat.beq i id)&&!(ZW id ob) | none=>true))
 | none=>true
def okE (q:Rc) (e:D9) (st:St):Bool:=QFE q.ob st.l&&(QRJ q.ob q.rd st&&(Xb q.ob e.rv&&(QOT q.ob e.o&&QTy q.ob e)))
def QDh (ops:Array Oper) (o:Oper) (st:St) (run skip:St->Option α):Option α:=
 match o.guard with
 | none=>run st
 | some (_,want)=>match Q6 ops o with
  | some g=>match lk g st.s with
   | some (.val ⟨.bool,b⟩)=>
    bif b then (bif want then run { st with s:=V9 g true st.s } else skip { st with s:=V9 g true st.s })
    else (bif want then skip { st with s:=V9 g false st.s } else run { st with s:=V9 g false st.s })
   | some (.Oj .unit)=>skip st
   | _=>none
  | none=>none
def QE4 (E:CO) (ops:Array Oper) (b:List Nat):Nat->List Oper->List Rc->St->(St->Option α)->Option α
 | _,[],_,st,k=>k st
 | i,o::rest,rcs,st,k=>QDh ops o st
  (λst=>XW E o st λe=>bif QHI b i (lC ops o st e) 0 rcs&&okE (lC ops o st e) e st then QE4 E ops b (i+1) rest (rcs++[lC ops o st e]) (nD e st) k else none)
  (λst=>bif QHI b i (lC ops o st ⟨o.dst,.Oj .unit,none,none⟩) 0 rcs&&okE (lC ops o st ⟨o.dst,.Oj .unit,none,none⟩) ⟨o.dst,.Oj .unit,none,none⟩ st then QE4 E ops b (i+1) rest (rcs++[lC ops o st ⟨o.dst,.Oj .unit,none,none⟩]) (nD ⟨o.dst,.Oj .unit,none,none⟩ st) k else none)
def QKX (ops:Array Oper):Bool:=(ops.toList.zipIdx 0).all λp=>p.1.after.toList.all λe=>!(Region.binds .any e)||Nat.blt e.on p.2
def QFL (E:CO):List Oper->St->List Nat
 | [],_=>[]
 | o::r,st=>toFrz E o st++QFL E r st
def QE9 (lt:LT) (c:Code) (st:St):St:=
 match rid c with
 | some i=>match lk i lt.live with
  | some ks=>{ st with s:=OB st.s ks }
  | none=>st
 | none=>st
def QAL (st:St) (i:Nat):St:=
 match lk i st.s with
 | some (.sub id lo hi)=>bif Nat.beq lo 0 then match lk id st.l with
   | some (.row t xs)=>Jd (addN id (.row t (List.take hi xs)) (OX id st)) (some i) (.row id)
   | _=>st
  else st
 | _=>st
def dH (lt:LT) (c:Code) (st:St):St:=
 match rid c with
 | some i=>match lk i lt.live with
  | some ks=>canon ks (lt.stk.foldl QAL st)
  | none=>st
 | none=>st
def QZR (f:St->Option α) (st:St):Option α:=f st
def QL6 (lt:LT) (c:Code):Bool:=
 match rid c with
 | some i=>lt.join.any (Nat.beq i)
 | none=>false
def QLq (lt:LT) (b:Code) (f:St->Option α) (st:St):Option α:=bif QL6 lt b then QZR f (dH lt b st) else f (QE9 lt b st)
def Bd (f:(St->Option α)->St->Option α):Nat->St->Option α
 | 0=>λ_=>none
 | n+1=>f (Bd f n)
def zm (lt:LT) (rg:Nat) (st:St) (k:St->Option α):Option α:=
 match lk rg lt.frz with
 | some ss=>K6 60 (ss.foldr (λi acc=>match lk i st.s with | some rv=>X9 rv acc | none=>acc) []) st k
 | none=>k st
def QOI (lt:LT) (c:Operand) (b:Bool) (st:St):St:=match c with
 | .tmp i=>bif lt.cnd.any (Nat.beq i) then { st with s:=V9 i b st.s } else st
 | _=>st
def Om [DecidableEq α] (E:CO) (H:Tg->St->(St->RV->Option α)->Option α) (lt:LT) (N:Nat):Code->(St->Option α)->(Nat->St->Option α)->(St->Option α)->St->Option α
 | .skip,kn,_,_=>kn
 | .region rg ops draw,kn,_,_=>λst=>zm lt rg st λst=>bif draw then bif QKX ops then K6 60 (QFL E ops.toList st) st (QE4 E ops (Xh ops.toList []) 0 ops.toList [] · kn) else none else kZ E H lt ops ops.toList st kn
 | .seq a b,kn,kx,kr=>Om E H lt N a (QLq lt b (Om E H lt N b kn kx kr)) kx kr
 | .cond c a b,kn,kx,kr=>λst=>match DT (some .bool) c st.s with
  | .val ⟨.bool,t⟩=>bif t then Om E H lt N a kn kx kr (QOI lt c true st) else Om E H lt N b kn kx kr (QOI lt c false st)
  | _=>none
 | .block id c,kn,kx,kr=>Om E H lt N c kn (λj st=>bif Nat.beq j id then kn st else kx j st) kr
 | .loop c,_,kx,kr=>λst=>Bd (λself st=>Om E H lt N c (λst=>self (dH lt c st)) kx kr st) N (dH lt c st)
 | .exit id,_,kx,_=>kx id
 | .ret,_,_,kr=>kr
 | .rangeFunc g ps assign body,kn,kx,kr=>λst=>XZ (newId st 4000) λid=>match DT none g (Dh id st).s with
  | .OH f caps=>(Yl caps).bind λcs=>H (.fn f) (QFs lt id ps assign body cs (Dh id st)) λst' _=>qE kn kx kr st'
  | _=>none
 | _,_,_,_=>λ_=>none
def XQ (E:CO) (st:St):List ResultVar->Option (List RV)
 | []=>some []
 | .tmp t::r=>(lk t st.s).bind λrv=>(XQ E st r).bind λvs=>some (rv::vs)
 | .cell t T::r=>match lk t st.s with
  | some (.loc id [])=>match lk id st.l with
   | some (.var ty con)=>bif Cz (lk T E.tab) ty then (XQ E st r).bind λvs=>some (ofC ty con::vs) else none
   | _=>none
  | _=>none
def hnd [DecidableEq α] (E:CO) (N:Nat):Nat->Tg->St->(St->RV->Option α)->Option α
 | 0,_,_,_=>none
 | n+1,.yl,st,k=>(QCs st).bind λt=>Om E (hnd E N n) t.2.2.lt N t.2.2.assign (QKY λst=>Om E (hnd E N n) t.2.2.lt N t.2.2.body (QBb none true k) (λj=>QBb (some (.exit j)) false k) (QBb (some .ret) false k) st) (λ_ _=>none) (λ_=>none) st
 | n+1,.fn f,st,k=>match lk f E.inl with
  | some (fn,lt)=>match fn.body with
   | some c=>bif Nat.ble (List.length st.s) fn.ntmps then Om E (hnd E N n) lt N c (λst=>(XQ E st fn.results.toList).bind λvs=>k st (Zw vs)) (λ_ _=>none) (λst=>(XQ E st fn.results.toList).bind λvs=>k st (Zw vs)) st else none
   | none=>none
  | none=>none
def lG (l:List (Nat×Ob)) (l':List (Nat×Ob)) (g:RV->RV) (t:Ty) (o:Bool) (rv:RV) (k:t.den->Option α):Option α:=
 bif o then match rv with
  | .row id=>match lk id l with
   | some (.row e xs)=>(TV.as t ⟨.slice e,xs⟩).bind k
   | _=>none
  | .nil e=>(TV.as t ⟨.slice e,([]:List e.den)⟩).bind k
  | _=>none
 else DU l' 6 (g rv) λv=>(TV.as t v).bind k
def Yx (l l':List (Nat×Ob)) (g:RV->RV):(rs:List Ty)->List Bool->List RV->(Bv rs->Option α)->Option α
 | [],[],[],k=>k ()
 | [t],[o],[rv],k=>lG l l' g t o rv k
 | t::u::ts,o::os,rv::Gl,k=>lG l l' g t o rv λx=>Yx l l' g (u::ts) os Gl λr=>k (x,r)
 | _,_,_,_=>none
def VG:List Bool->List RV->Option Nat
 | true::_,.row id::_=>some id
 | _::os,_::Gl=>VG os Gl
 | _,_=>none
def TR (own:Option Nat) (l:List (Nat×Ob)):List (Nat×Ob):=
 match own with
 | some id=>l9 id (QLJ (R5 id) l)
 | none=>l
def dJ (own:Option Nat) (rv:RV):RV:=
 match own with
 | some id=>Ce (R5 id) rv
 | none=>rv
def QU2 (l:List (Nat×Ob)) (vs:List RV):List Nat:=(QGy vs).filter λid=>match lk id l with
 | some (.row _ _)=>true
 | _=>false
def QAN:(rs:List Ty)->List RV->Option (Bv rs)
 | [],[]=>some ()
 | [t],[rv]=>bif PX rv then (DU [] 6 rv some).bind λv=>TV.as t v else none
 | t::u::ts,rv::Gl=>bif PX rv then (DU [] 6 rv some).bind λv=>(TV.as t v).bind λx=>(QAN (u::ts) Gl).bind λr=>some (x,r) else none
 | _,_=>none
def QZ8 (c:UO) (y:Wt c.bp) (st:St) (vs:List RV):Option (wD c.bp c.w×Bv c.rs):=
 match st.k with
 | [(_,wt)]=>(aH wt c.bp 0).bind λids=>bif QLk 0 (VQ (λid=>Q9 id ids 0) st.l ids 0) then Zy c.bp (some c.w) y (VQ (λid=>Q9 id ids 0) st.l ids 0) ((QDf c.bp c.w (VQ (λid=>Q9 id ids 0) st.l ids 0)).bind λz=>(QAN c.rs vs).bind λr=>some (z,r)) else none
 | _=>none
def lJ:Nat->List TV->List (Nat×RV)
 | _,[]=>[]
 | i,v::r=>(i,.val v)::lJ (i+1) r
end
def QKh:(rs:List Ty)->DecidableEq (Bv rs)
 | []=>inferInstanceAs (DecidableEq Unit)
 | [t]=>Wz t
 | t::u::ts=>@instDecidableEqProd _ _ (Wz t) (QKh (u::ts))
instance (rs:List Ty):DecidableEq (Bv rs):=QKh rs
def decP:(p:Pt)->DecidableEq p.D
 | .hole t=>Wz t
 | .fix _=>inferInstanceAs (DecidableEq Unit)
 | .ag _ p=>decP p
 | .pr a b=>@instDecidableEqProd _ _ (decP a) (decP b)
def Qcl:(b:Bt)->DecidableEq b.D
 | .var _ p=>decP p
 | .mp kt vt=>@instDecidableEqList _ (@instDecidableEqProd _ _ (Wz kt) (Wz vt))
 | .row t=>@instDecidableEqList _ (Wz t)
def QZ2:(bs:List Bt)->(n:Nat)->DecidableEq (wD bs n)
 | [],_=>inferInstanceAs (DecidableEq Empty)
 | b::_,0=>Qcl b
 | _::bs,n+1=>QZ2 bs n
instance (bs:List Bt) (n:Nat):DecidableEq (wD bs n):=QZ2 bs n
def rise (E:CO) (lt:LT) (lv N:Nat) (fn:Func) (ps rs:List Ty) (os:List Bool) (x:Bv ps):Option (Bv rs):=
 match fn.body with
 | some c=>Om E (hnd E N lv) lt N c (λst=>(XQ E st fn.results.toList).bind λvs=>Yx st.l (TR (VG os vs) st.l) (dJ (VG os vs)) rs os vs some) (λ_ _=>none)
   (λst=>(XQ E st fn.results.toList).bind λvs=>Yx st.l (TR (VG os vs) st.l) (dJ (VG os vs)) rs os vs some)
   { s:=lJ 0 (Ql ps x),l:=[],k:=[],b:=4096 }
 | none=>none
def wJ (E:CO) (fn:Func) (c:UO) (y:Wt c.bp) (st:St):Option (wD c.bp c.w×Bv c.rs):=
 (XQ E st fn.results.toList).bind λvs=>K6 60 (QU2 st.l vs) st λst=>(XQ E st fn.results.toList).bind λvs=>QZ8 c y st vs
def wI (E:CO) (fn:Func) (e:Ty) (st:St):Option (Ty.slice e).den:=
 (XQ E st fn.results.toList).bind λvs=>match vs with
  | [.row id]=>match lk id st.l with
   | some (.row t z)=>TV.as (.slice e) ⟨.slice t,z⟩
   | _=>none
  | _=>none
def dS (E:CO) (lt:LT) (lv N:Nat) (fn:Func) (e:Ty) (fp:List Pt) (x:List e.den) (y:dW fp):Option (Ty.slice e).den:=
 match fn.body with
 | some code=>@Om _ (Wz (.slice e)) E (@hnd _ (Wz (.slice e)) E N lv) lt N code (wI E fn e) (λ_ _=>none) (wI E fn e) (uX e fp x y)
 | none=>none
def QLg (E:CO) (lt:LT) (lv N:Nat) (fn:Func) (c:UO) (x:dW c.fp) (y:Wt c.bp):Option (wD c.bp c.w×Bv c.rs):=
 match fn.body with
 | some code=>Om E (hnd E N lv) lt N code (wJ E fn c y) (λ_ _=>none) (wJ E fn c y)
   (fM c x y)
 | none=>none
end Go.Lift
