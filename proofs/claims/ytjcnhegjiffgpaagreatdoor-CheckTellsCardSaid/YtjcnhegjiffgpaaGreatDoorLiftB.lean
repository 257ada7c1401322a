import Derived.Test.YtjcnhegjiffgpaaGreatDoorLiftA
import Derived.Test.YtjcnhegjiffgpaaGreatDoorLiftT
set_option linter.unusedSimpArgs false
namespace Go.Lift
inductive Step where
 | TP (i:Nat)
 | idx (i:Int)
inductive Tip where
 | no
 | full
 | own (k:Nat) (e:TypeId)
inductive AV where
 | any
 | val (v:TV) (tip:Tip)
 | loc (id:Nat) (p:List Step)
 | Oj (l:List TV)
abbrev nth {α:Type} (l:List α) (i:Nat):Option α:=l[i]?
structure Fr where
 s:List (Nat×AV)
 l:List (Nat×Bool×TV)
def lk {α:Type} (i:Nat):List (Nat×α)->Option α
 | []=>none
 | (j,a)::r=>bif Nat.beq i j then some a else lk i r
@[reducible] def Bv:List Ty->Type
 | []=>Unit
 | [t]=>t.den
 | t::u::ts=>t.den×Bv (u::ts)
def TV.as (t:Ty) (v:TV):Option t.den:=if h:v.1=t then some (h ▸ v.2) else none
def MU:(ts:List Ty)->List TV->Option (Bv ts)
 | [],[]=>some ()
 | [t],[v]=>TV.as t v
 | t::u::ts,v::vs=>(TV.as t v).bind λx=>(MU (u::ts) vs).bind λr=>some (x,r)
 | _,_=>none
def Ql:(ts:List Ty)->Bv ts->List TV
 | [],_=>[]
 | [t],x=>[⟨t,x⟩]
 | t::u::ts,x=>⟨t,x.1⟩::Ql (u::ts) x.2
structure Fn where
 ps:List Ty
 rs:List Ty
 F:Bv ps->Option (Bv rs)
structure Env where
 tab:List (TypeId×Ty)
 fs:List (FuncId×Fn)
 live:List (Nat×List Nat×List Nat)
 rep:(α:Type)->Nat->α->List α:=λ_=>List.replicate
def bT {α:Type} (f:List Value->Option α) (n:Nat):Nat->List Value->Option (List α)
 | 0,[]=>some []
 | 0,_::_=>none
 | k+1,cs=>(f (cs.take n)).bind λx=>(bT f n k (cs.drop n)).bind λxs=>some (x::xs)
def QRL (k:IntKind):List Value->Option Int
 | [.int k' x]=>if k'=k/\k.min<=x/\x<=k.max then some x else none
 | _=>none
def rdBool:List Value->Option Bool
 | [.bool b]=>some b
 | _=>none
def rdStr:List Value->Option (List Int)
 | [.string s]=>if s.size<=maxLen then some (s.data.toList.map (λb=>(b.toNat:Int))) else none
 | _=>none
def QFx {α:Type}:List Value->Option (List α)
 | [.slice none 0 0]=>some []
 | _=>none
def QLa:List Value->Option Unit
 | []=>some ()
 | _=>none
def QRK:List Value->Option (Option (Option (Nat×Int)))
 | [.nilIface]=>some none
 | _=>none
def Qi:(t:Ty)->List Value->Option t.den
 | .int k,cs=>QRL k cs
 | .bool,cs=>rdBool cs
 | .str,cs=>rdStr cs
 | .slice _,cs=>QFx cs
 | .arr n e,cs=>bT (Qi e) e.n n cs
 | .unit,cs=>QLa cs
 | .pair a b,cs=>(Qi a (cs.take a.n)).bind λx=>(Qi b (cs.drop a.n)).bind λy=>some (x,y)
 | .ptr _,_=>none
 | .UJ,cs=>QRK cs
 | .mp _ _,_=>none
 | .fn,_=>none
 | .nes _,cs=>QFx cs
def D6:(t:Ty)->Option t.den
 | .int _=>some (0:Int)
 | .bool=>some false
 | .str=>some []
 | .slice _=>some []
 | .arr n e=>(D6 e).bind λx=>some (List.replicate n x)
 | .unit=>some ()
 | .pair a b=>(D6 a).bind λx=>(D6 b).bind λy=>some (x,y)
 | .ptr _=>none
 | .UJ=>some none
 | .mp _ _=>none
 | .fn=>none
 | .nes _=>some []
def zeroCells:Ty->List Value
 | .int k=>[.int k 0]
 | .bool=>[.bool false]
 | .str=>[.string .empty]
 | .slice _=>[.slice none 0 0]
 | .arr n e=>(List.replicate n (zeroCells e)).flatten
 | .unit=>[]
 | .pair a b=>zeroCells a++zeroCells b
 | .ptr _=>[.pointer none]
 | .UJ=>[.nilIface]
 | .mp _ _=>[.map none]
 | .fn=>[.nilFunc]
 | .nes _=>[.slice none 0 0]
def QTO:Value->Tip
 | .slice none 0 0=>.full
 | _=>.no
def kindOk (t:Ty):Value->Bool
 | .agg _=>t.isAgg
 | .tuple _=>false
 | _=>!t.isAgg
def ji (ty:Option Ty) (x:Operand) (fr:Fr):AV:=
 match x with
 | .tmp i=>(lk i fr.s).getD .any
 | .const v=>match ty with
  | some t=>match kindOk t v,Qi t v.cells.toList with
   | true,some x=>.val ⟨t,x⟩ (QTO v)
   | _,_=>.any
  | none=>.any
 | .global g=>match lk g wW with
  | some v=>.val ⟨.ptr v.1,v.2⟩ .no
  | none=>.any
 | _=>.any
def ev (E:Env) (t:TypeId) (x:Operand) (fr:Fr):AV:=ji (lk t E.tab) x fr
def VO:(t:Ty)->t.den->List Step->Option TV
 | t,x,[]=>some ⟨t,x⟩
 | .pair a _,x,.TP 0::p=>VO a x.1 p
 | .pair _ b,x,.TP (n+1)::p=>VO b x.2 (.TP n::p)
 | .arr _ e,xs,.idx i::p=>(nth xs i.toNat).bind λx=>VO e x p
 | _,_,_=>none
def nG {α:Type} (k:TV->Option α):(t:Ty)->t.den->List Step->Option α
 | t,x,[]=>k ⟨t,x⟩
 | .pair a _,x,.TP 0::p=>nG k a x.1 p
 | .pair _ b,x,.TP (n+1)::p=>nG k b x.2 (.TP n::p)
 | .arr _ e,xs,.idx i::p=>(nth xs i.toNat).bind λx=>nG k e x p
 | _,_,_=>none
theorem bA {α:Type} (k:TV->Option α):∀ (t:Ty) (x:t.den) (p:List Step),nG k t x p=(VO t x p).bind k:=by
 intro t x p
 fun_induction nG k t x p <;> simp_all [VO,Option.bind_assoc]
def C8:(t:Ty)->List Step->Option (Nat×Ty)
 | t,[]=>some (0,t)
 | .pair a _,.TP 0::p=>C8 a p
 | .pair a b,.TP (n+1)::p=>(C8 b (.TP n::p)).bind λr=>some (a.n+r.1,r.2)
 | .arr n e,.idx i::p=>if 0<=i/\i < n then (C8 e p).bind λr=>some (i.toNat * e.n+r.1,r.2) else none
 | _,_=>none
def ZA:Ty->List Step->Option Ty
 | t,[]=>some t
 | .pair a _,.TP 0::p=>ZA a p
 | .pair _ b,.TP (n+1)::p=>ZA b (.TP n::p)
 | .arr _ e,.idx _::p=>ZA e p
 | _,_=>none
def Yb (v:TV):(t:Ty)->t.den->List Step->Option t.den
 | t,_,[]=>TV.as t v
 | .pair a _,x,.TP 0::p=>(Yb v a x.1 p).bind λy=>some (y,x.2)
 | .pair _ b,x,.TP (n+1)::p=>(Yb v b x.2 (.TP n::p)).bind λy=>some (x.1,y)
 | .arr _ e,xs,.idx i::[]=>(TV.as e v).bind λy=>some (List.set xs i.toNat y)
 | .arr _ e,xs,.idx i::s::p=>(nth xs i.toNat).bind λx=>(Yb v e x (s::p)).bind λy=>some (List.set xs i.toNat y)
 | _,_,_=>none
def BX {α:Type} (xs:List α) (i:Int):Option α:=bif decide (0<=i) then xs[i.toNat]? else none
def lim:Nat:=68719476736
def QOc:Nat:=17592186044416
def Wz:(t:Ty)->DecidableEq t.den
 | .int _=>inferInstanceAs (DecidableEq Int)
 | .bool=>inferInstanceAs (DecidableEq Bool)
 | .str=>inferInstanceAs (DecidableEq (List Int))
 | .slice e=>@instDecidableEqList _ (Wz e)
 | .arr _ e=>@instDecidableEqList _ (Wz e)
 | .unit=>inferInstanceAs (DecidableEq Unit)
 | .pair a b=>@instDecidableEqProd _ _ (Wz a) (Wz b)
 | .ptr e=>Wz e
 | .UJ=>inferInstanceAs (DecidableEq (Option (Option (Nat×Int))))
 | .mp _ _=>inferInstanceAs (DecidableEq Empty)
 | .fn=>inferInstanceAs (DecidableEq Empty)
 | .nes e=>@instDecidableEqList _ (Wz e)
def R3 (t:Ty) (x y:t.den):Bool:=@decide (x=y) (Wz t x y)
section
variable {α:Type}
def QOV (op:BinOp) (kx:IntKind) (m:Int) (ky:IntKind) (n:Int) (k:AV->Option α):Option α:=
 match op with
 | .shl=>bif decide (n < 0) then none else k (.val ⟨.int kx,kx.wrap (m * 2 ^ (min n.toNat kx.bits))⟩ .no)
 | .shr=>bif decide (n < 0) then none else k (.val ⟨.int kx,m.fdiv (2 ^ (min n.toNat kx.bits))⟩ .no)
 | op=>if kx=ky then
   match op with
   | .add=>k (.val ⟨.int kx,kx.wrap (m+n)⟩ .no)
   | .sub=>k (.val ⟨.int kx,kx.wrap (m - n)⟩ .no)
   | .mul=>k (.val ⟨.int kx,kx.wrap (m * n)⟩ .no)
   | .quo=>bif n==0 then none else k (.val ⟨.int kx,kx.wrap (m.tdiv n)⟩ .no)
   | .rem=>bif n==0 then none else k (.val ⟨.int kx,m.tmod n⟩ .no)
   | .and=>k (.val ⟨.int kx,bits .and kx m n⟩ .no)
   | .or=>k (.val ⟨.int kx,bits .or kx m n⟩ .no)
   | .xor=>k (.val ⟨.int kx,bits .xor kx m n⟩ .no)
   | .andNot=>k (.val ⟨.int kx,bits .andNot kx m n⟩ .no)
   | .eql=>k (.val ⟨.bool,m==n⟩ .no)
   | .neq=>k (.val ⟨.bool,m != n⟩ .no)
   | .lss=>k (.val ⟨.bool,decide (m < n)⟩ .no)
   | .leq=>k (.val ⟨.bool,decide (m<=n)⟩ .no)
   | .gtr=>k (.val ⟨.bool,decide (m > n)⟩ .no)
   | .geq=>k (.val ⟨.bool,decide (m>=n)⟩ .no)
   | _=>none
  else none
def Ty.dep:Ty->Nat
 | .arr _ e=>e.dep+1
 | .pair a b=>max (a.dep+1) b.dep
 | _=>1
def Cz (o:Option Ty) (t:Ty):Bool:=decide (o=some t)
def UU (tt:Option Ty) (op:BinOp) (x y:AV) (k:AV->Option α):Option α:=
 match x,y with
 | .val ⟨.int kx,m⟩ _,.val ⟨.int ky,n⟩ _=>QOV op kx m ky n k
 | .val ⟨.bool,a⟩ _,.val ⟨.bool,b⟩ _=>
  bif Cz tt .bool then
   match op with
   | .eql=>k (.val ⟨.bool,a==b⟩ .no)
   | .neq=>k (.val ⟨.bool,!(a==b)⟩ .no)
   | _=>none
  else none
 | .val ⟨.str,a⟩ _,.val ⟨.str,b⟩ _=>
  match op with
  | .eql=>k (.val ⟨.bool,R3 .str a b⟩ .no)
  | .neq=>k (.val ⟨.bool,!(R3 .str a b)⟩ .no)
  | .add=>bif Nat.ble (List.length a+List.length b) lim then k (.val ⟨.str,List.append a b⟩ .no) else none
  | _=>none
 | .val ⟨t,a⟩ _,.val ⟨u,b⟩ _=>bif t.isAgg&&(t.flat&&(Nat.ble t.dep 99&&Cz tt t)) then
   (TV.as t ⟨u,b⟩).bind λb=>
    match op with
    | .eql=>k (.val ⟨.bool,R3 t a b⟩ .no)
    | .neq=>k (.val ⟨.bool,!(R3 t a b)⟩ .no)
    | _=>none
  else none
 | _,_=>none
def zx:Operand->Bool
 | .const .nilIface=>true
 | _=>false
def QOS (tt:Option Ty) (op:BinOp) (x:AV) (k:AV->Option α):Option α:=
 match x with
 | .val ⟨.UJ,a⟩ _=>bif Cz tt .UJ then
   match op with
   | .eql=>k (.val ⟨.bool,Option.isNone a⟩ .no)
   | .neq=>k (.val ⟨.bool,!(Option.isNone a)⟩ .no)
   | _=>none
  else none
 | _=>none
def QL2 (a:Option (Option (Nat×Int))) (q:Nat×Int):Option Bool:=
 match a with
 | none=>some false
 | some none=>none
 | some (some p)=>some (Nat.beq p.1 q.1&&decide (p.2=q.2))
def QZP (tab:List (TypeId×Ty)) (b:Option (Option (Nat×Int))):Option (Nat×Int):=
 match b with
 | some (some q)=>bif Cz (lk q.1 tab) (.int .i64) then some q else none
 | _=>none
def rX (tab:List (TypeId×Ty)) (tt:Option Ty) (op:BinOp) (x y:AV) (k:AV->Option α) (alt:Option α):Option α:=
 match x,y with
 | .val ⟨.UJ,a⟩ _,.val ⟨.UJ,b⟩ _=>bif Cz tt .UJ then (QZP tab b).bind λq=>(QL2 a q).bind λr=>
   match op with
   | .eql=>k (.val ⟨.bool,r⟩ .no)
   | .neq=>k (.val ⟨.bool,!r⟩ .no)
   | _=>none
  else none
 | _,_=>alt
def mkI (T:TypeId) (tt:Option Ty) (x:AV) (k:AV->Option α):Option α:=
 match tt with
 | some (.int .i64)=>match x with
  | .val ⟨.int .i64,n⟩ _=>k (.val ⟨.UJ,some (some (T,n))⟩ .no)
  | _=>none
 | _=>none
def unK (op:UnOp) (x:AV) (k:AV->Option α):Option α:=
 match op,x with
 | .not,.val ⟨.bool,b⟩ _=>k (.val ⟨.bool,!b⟩ .no)
 | .neg,.val ⟨.int kx,n⟩ _=>k (.val ⟨.int kx,kx.wrap (0 - n)⟩ .no)
 | .xor,.val ⟨.int kx,n⟩ _=>k (.val ⟨.int kx,bits .xor kx (if kx.signed then -1 else kx.max) n⟩ .no)
 | _,_=>none
def QBW (src dst:Option Ty) (x:AV) (k:AV->Option α):Option α:=
 match dst,x with
 | some (.int kd),.val ⟨.int ks,n⟩ _=>bif Cz src (.int ks) then k (.val ⟨.int kd,kd.wrap n⟩ .no) else none
 | some .str,.val ⟨.str,s⟩ _=>bif Cz src .str then k (.val ⟨.str,s⟩ .no) else none
 | some .str,.val ⟨.slice (.int .u8),s⟩ _=>bif Cz src (.slice (.int .u8)) then k (.val ⟨.str,s⟩ .no) else none
 | some .str,.val ⟨.int ks,n⟩ _=>bif Cz src (.int ks)&&(decide (0<=n)&&decide (n < 128)) then k (.val ⟨.str,[n]⟩ .no) else none
 | some (.slice (.int .u8)),.val ⟨.str,s⟩ _=>bif Cz src .str then k (.val ⟨.slice (.int .u8),s⟩ .no) else none
 | _,_=>none
def QOW (tt:Option Ty) (e:Ty):Bool:=Cz tt (.slice e)||Cz tt (.nes e)
def QDr (tt:Option Ty) (x:AV) (k:AV->Option α):Option α:=
 match x with
 | .val ⟨.slice e,xs⟩ _=>bif QOW tt e then k (.val ⟨.int .i64,(List.length xs:Int)⟩ .no) else none
 | .val ⟨.str,xs⟩ _=>bif Cz tt .str then k (.val ⟨.int .i64,(List.length xs:Int)⟩ .no) else none
 | _=>none
def QTu (x y:AV) (k:AV->Option α):Option α:=
 match x,y with
 | .val ⟨.int kx,m⟩ _,.val ⟨.int ky,n⟩ _=>if kx=ky then k (.val ⟨.int kx,if n < m then n else m⟩ .no) else none
 | _,_=>none
def QTt (x y:AV) (k:AV->Option α):Option α:=
 match x,y with
 | .val ⟨.int kx,m⟩ _,.val ⟨.int ky,n⟩ _=>if kx=ky then k (.val ⟨.int kx,if n > m then n else m⟩ .no) else none
 | _,_=>none
def X6:(t:Ty)->t.den->Nat->Option TV
 | .pair a _,x,0=>some ⟨a,x.1⟩
 | .pair _ b,x,n+1=>X6 b x.2 n
 | _,_,_=>none
def fieldTy:Ty->Nat->Option Ty
 | .pair a _,0=>some a
 | .pair _ b,n+1=>fieldTy b n
 | _,_=>none
def lu (fr:Fr):AV->Option TV
 | .val v _=>some v
 | .loc id p=>(lk id fr.l).bind λe=>(VO e.2.1 e.2.2 p).bind λv=>some ⟨.ptr v.1,v.2⟩
 | _=>none
def Qs (E:Env) (fr:Fr):List Operand->List TypeId->Option (List TV)
 | [],[]=>some []
 | x::xs,t::ts=>(lu fr (ev E t x fr)).bind λv=>(Qs E fr xs ts).bind λvs=>some (v::vs)
 | _,_=>none
def xq:(rs:List Ty)->Bv rs->AV
 | [],_=>.any
 | [t],r=>.val ⟨t,r⟩ .no
 | t::u::ts,r=>.Oj (Ql (t::u::ts) r)
def jd (E:Env) (fr:Fr):List Operand->List TypeId->Bool
 | x::xs,t::ts=>(match ev E t x fr with | .loc _ _=>true | _=>false)||jd E fr xs ts
 | _,_=>false
def Us : AV->Option Int
 | .val ⟨.int _,n⟩ _=>some n
 | _=>none
def vB {β:Type} (xs:List β) (lo hi:Option AV) (k:List β->Option α):Option α:=
 match lo,hi with
 | none,none=>k xs
 | some a,none=>(Us a).bind λl=>bif decide (0<=l)&&decide (l<=(xs.length:Int)) then k (xs.drop l.toNat) else none
 | none,some b=>(Us b).bind λh=>bif decide (0<=h)&&decide (h<=(xs.length:Int)) then k (xs.take h.toNat) else none
 | some a,some b=>(Us a).bind λl=>(Us b).bind λh=>
   bif decide (0<=l)&&(decide (l<=h)&&decide (h<=(xs.length:Int))) then k ((xs.take h.toNat).drop l.toNat) else none
def bR (t:Ty) (fr:Fr):Nat->List (Nat×Operand)->Option (List t.den)
 | _,[]=>some []
 | i,(j,x)::r=>bif Nat.beq i j then
   match ji (some t) x fr with
   | .val v _=>(TV.as t v).bind λy=>(bR t fr (i+1) r).bind λys=>some (y::ys)
   | _=>none
  else none
def OE (fr:Fr):(t:Ty)->Nat->List (Nat×Operand)->Option t.den
 | .unit,_,[]=>some ()
 | .pair a b,i,[]=>(D6 a).bind λx=>(OE fr b (i+1) []).bind λy=>some (x,y)
 | .pair a b,i,(j,o)::r=>bif Nat.beq i j then
   match ji (some a) o fr with
   | .val v _=>(TV.as a v).bind λx=>(OE fr b (i+1) r).bind λy=>some (x,y)
   | _=>none
  else (D6 a).bind λx=>(OE fr b (i+1) ((j,o)::r)).bind λy=>some (x,y)
 | _,_,_=>none
def Qm (E:Env) (o:Oper) (fr:Fr) (k:AV->Option α):Option α:=
 match o.op with
 | .move x=>k (ev E o.type x fr)
 | .assign x=>k (ev E o.type x fr)
 | .pick c a b=>match ev E o.type c fr with
  | .val ⟨.bool,c⟩ _=>bif c then k (ev E o.type a fr) else k (ev E o.type b fr)
  | _=>none
 | .binOp op t x y u=>bif zx y then QOS (lk t E.tab) op (ev E t x fr) k else rX E.tab (lk t E.tab) op (ev E t x fr) (ev E u y fr) k (UU (lk t E.tab) op (ev E t x fr) (ev E u y fr) k)
 | .makeInterface T x=>mkI T (lk T E.tab) (ev E T x fr) k
 | .unOp op t x=>unK op (ev E t x fr) k
 | .convert src dst x=>QBW (lk src E.tab) (lk dst E.tab) (ev E src x fr) k
 | .nilCheck x=>match ev E o.type x fr with
  | .loc id p=>k (.loc id p)
  | .val ⟨.ptr t,x⟩ _=>k (.val ⟨.ptr t,x⟩ .no)
  | _=>none
 | .load T x=>match ev E o.type x fr with
  | .loc id p=>(lk id fr.l).bind λe=>nG (λv=>bif Cz (lk T E.tab) v.1 then k (.val v .no) else none) e.2.1 e.2.2 p
  | .val ⟨.ptr t,x⟩ _=>bif Cz (lk T E.tab) t then k (.val ⟨t,x⟩ .no) else none
  | _=>none
 | .fieldAddr T x f=>match ev E o.type x fr with
  | .loc id p=>(lk id fr.l).bind λe=>match ZA e.2.1 p with
   | some t=>bif Cz (lk T E.tab) t&&(fieldTy t f).isSome then k (.loc id (p++[.TP f])) else none
   | none=>none
  | .val ⟨.ptr t,x⟩ _=>bif Cz (lk T E.tab) t then (X6 t x f).bind λv=>k (.val ⟨.ptr v.1,v.2⟩ .no) else none
  | _=>none
 | .field T x f=>match ev E o.type x fr with
  | .val ⟨t,x⟩ _=>bif Cz (lk T E.tab) t then (X6 t x f).bind λv=>k (.val v .no) else none
  | _=>none
 | .indexAddr T x i=>(Us (ji (some (.int .i64)) i fr)).bind λi=>match ev E o.type x fr with
  | .loc id p=>(lk id fr.l).bind λe=>match ZA e.2.1 p with
   | some (.arr n t)=>bif Cz (lk T E.tab) (.arr n t) then (bif decide (0<=i)&&decide (i < (n:Int)) then k (.loc id (p++[.idx i])) else none) else none
   | _=>none
  | .val ⟨.slice e,xs⟩ _=>bif QOW (lk T E.tab) e then (BX xs i).bind λy=>k (.val ⟨.ptr e,y⟩ .no) else none
  | .val ⟨.ptr (.arr n e),xs⟩ _=>bif Cz (lk T E.tab) (.arr n e) then (BX xs i).bind λy=>k (.val ⟨.ptr e,y⟩ .no) else none
  | _=>none
 | .index t x i=>(Us (ji (some (.int .i64)) i fr)).bind λi=>match ev E t x fr with
  | .val ⟨.arr n e,xs⟩ _=>bif Cz (lk t E.tab) (.arr n e) then (BX xs i).bind λy=>k (.val ⟨e,y⟩ .no) else none
  | .val ⟨.str,xs⟩ _=>bif Cz (lk t E.tab) .str then (BX xs i).bind λy=>k (.val ⟨.int .u8,y⟩ .no) else none
  | _=>none
 | .slice T x lo hi none=>match ev E o.type x fr with
  | .val ⟨.slice e,xs⟩ _=>bif Cz (lk T E.tab) (.slice e) then vB xs (lo.map (ji (some (.int .i64)) · fr)) (hi.map (ji (some (.int .i64)) · fr)) λys=>k (.val ⟨.slice e,ys⟩ .no) else none
  | .val ⟨.str,xs⟩ _=>bif Cz (lk T E.tab) .str then vB xs (lo.map (ji (some (.int .i64)) · fr)) (hi.map (ji (some (.int .i64)) · fr)) λys=>k (.val ⟨.str,ys⟩ .no) else none
  | .val ⟨.ptr (.arr n e),xs⟩ _=>bif Cz (lk T E.tab) (.arr n e)&&Nat.ble n 1000000 then vB xs (lo.map (ji (some (.int .i64)) · fr)) (hi.map (ji (some (.int .i64)) · fr)) λys=>k (.val ⟨.slice e,ys⟩ .no) else none
  | .loc id []=>(lk id fr.l).bind λe=>bif e.1 then none else match e.2 with
   | ⟨.arr n t,xs⟩=>bif Cz (lk T E.tab) (.arr n t)&&Nat.ble n 1000000 then vB xs (lo.map (ji (some (.int .i64)) · fr)) (hi.map (ji (some (.int .i64)) · fr)) λys=>k (.val ⟨.slice t,ys⟩ .no) else none
   | _=>none
  | _=>none
 | .extract t i=>match ev E o.type t fr with
  | .Oj l=>(l[i]?).bind λv=>k (.val v .no)
  | _=>none
 | .build t parts=>(lk t E.tab).bind λty=>match ty with
  | .arr n e=>bif parts.toList.isEmpty then (D6 (.arr n e)).bind λy=>k (.val ⟨.arr n e,y⟩ .no) else
   (bR e fr 0 parts.toList).bind λys=>bif Nat.beq ys.length n&&Nat.ble 1 e.n then k (.val ⟨.arr n e,ys⟩ .no) else none
  | ty=>(OE fr ty 0 parts.toList).bind λy=>k (.val ⟨ty,y⟩ .no)
 | .buildSlice t n parts=>(lk t E.tab).bind λty=>match ty with
  | .slice e=>(bR e fr 0 parts.toList).bind λys=>bif Nat.beq ys.length n&&(Nat.ble n 1000000&&(Nat.ble 1 e.n&&Nat.ble (n * e.n) 1000000)) then k (.val ⟨.slice e,ys⟩ .full) else none
  | _=>none
 | .makeSlice t l c=>(Us (ji (some (.int .i64)) l fr)).bind λn=>(Us (ji (some (.int .i64)) c fr)).bind λm=>(lk t E.tab).bind λty=>match ty with
  | .slice e=>bif decide (0<=n)&&(decide (n=m)&&(decide (n<=68719476736)&&Nat.ble 1 e.n)) then (D6 e).bind λz=>k (.val ⟨.slice e,E.rep e.den n.toNat z⟩ .full) else none
  | _=>none
 | .call { callee:=.builtin .len,args,argTypes }=>match args.toList,argTypes.toList with
  | [x],[t]=>QDr (lk t E.tab) (ev E t x fr) k
  | _,_=>none
 | .call { callee:=.builtin .min,args,argTypes }=>match args.toList,argTypes.toList with
  | [x,y],[t,u]=>QTu (ev E t x fr) (ev E u y fr) k
  | _,_=>none
 | .call { callee:=.builtin .max,args,argTypes }=>match args.toList,argTypes.toList with
  | [x,y],[t,u]=>QTt (ev E t x fr) (ev E u y fr) k
  | _,_=>none
 | .call { callee:=.value (.func f),args,argTypes }=>(lk f E.fs).bind λfn=>
   bif jd E fr args.toList argTypes.toList&&!(fn.rs.all (·.flat)) then none else
   (Qs E fr args.toList argTypes.toList).bind λvs=>(MU fn.ps vs).bind λx=>(fn.F x).bind λr=>k (xq fn.rs r)
 | _=>none
def UR (acc:List Nat):List Edge->Nat
 | []=>0
 | e::r=>bif Region.binds .any e then UR acc r ||| (2 ^ e.on ||| acc.getD e.on 0) else UR acc r
def Xh:List Oper->List Nat->List Nat
 | [],acc=>acc
 | o::r,acc=>Xh r (acc++[UR acc o.after.toList])
def rid:Code->Option Nat
 | .region id _ _=>some id
 | .seq a b=>match rid a with
  | some i=>some i
  | none=>rid b
 | .cond _ a b=>match rid a with
  | some i=>some i
  | none=>rid b
 | .block _ c=>rid c
 | .loop c=>rid c
 | _=>none
end
end Go.Lift
