import Derived.Test.YtbgmjjplddddnaaGreatDoorLiftA
import Derived.Test.YtbgmjjplddddnaaGreatDoorLiftT
set_option linter.unusedSimpArgs false
namespace Go.Lift
inductive Step where
 | EO (i:Nat)
 | idx (i:Int)
inductive YC where
 | no
 | full
 | own (k:Nat) (e:TypeId)
inductive AV where
 | any
 | val (v:TV) (Vh:YC)
 | loc (id:Nat) (p:List Step)
 | Db (l:List TV)
abbrev nth {α:Type} (l:List α) (i:Nat):Option α:=l[i]?
structure Fr where
 s:List (Nat×AV)
 l:List (Nat×Bool×TV)
def lk {α:Type} (i:Nat):List (Nat×α)->Option α
 | []=>none
 | (j,a)::r=>bif Nat.beq i j then some a else lk i r
@[reducible] def BP:List Ty->Type
 | []=>Unit
 | [t]=>t.den
 | t::u::ts=>t.den×BP (u::ts)
def TV.as (t:Ty) (v:TV):Option t.den:=if h:v.1=t then some (h ▸ v.2) else none
def Cc:(ts:List Ty)->List TV->Option (BP ts)
 | [],[]=>some ()
 | [t],[v]=>TV.as t v
 | t::u::ts,v::vs=>(TV.as t v).bind fun x=>(Cc (u::ts) vs).bind fun r=>some (x,r)
 | _,_=>none
def Dr:(ts:List Ty)->BP ts->List TV
 | [],_=>[]
 | [t],x=>[⟨t,x⟩]
 | t::u::ts,x=>⟨t,x.1⟩::Dr (u::ts) x.2
structure Fn where
 ps:List Ty
 rs:List Ty
 F:BP ps->Option (BP rs)
structure Env where
 tab:List (TypeId×Ty)
 fs:List (FuncId×Fn)
 live:List (Nat×List Nat×List Nat)
 rep:(α:Type)->Nat->α->List α:=fun _=>List.replicate
def Hl {α:Type} (f:List Value->Option α) (n:Nat):Nat->List Value->Option (List α)
 | 0,[]=>some []
 | 0,_::_=>none
 | k+1,cs=>(f (cs.take n)).bind fun x=>(Hl f n k (cs.drop n)).bind fun xs=>some (x::xs)
def V3 (k:IntKind):List Value->Option Int
 | [.int k' x]=>if k'=k/\k.min<=x/\x<=k.max then some x else none
 | _=>none
def rdBool:List Value->Option Bool
 | [.bool b]=>some b
 | _=>none
def rdStr:List Value->Option (List Int)
 | [.string s]=>if s.size<=maxLen then some (s.data.toList.map (fun b=>(b.toNat:Int))) else none
 | _=>none
def RO {α:Type}:List Value->Option (List α)
 | [.slice none 0 0]=>some []
 | _=>none
def UL:List Value->Option Unit
 | []=>some ()
 | _=>none
def Vz:List Value->Option (Option (Option (Nat×Int)))
 | [.nilIface]=>some none
 | _=>none
def Dp:(t:Ty)->List Value->Option t.den
 | .int k,cs=>V3 k cs
 | .bool,cs=>rdBool cs
 | .str,cs=>rdStr cs
 | .slice _,cs=>RO cs
 | .arr n e,cs=>Hl (Dp e) e.n n cs
 | .unit,cs=>UL cs
 | .pair a b,cs=>(Dp a (cs.take a.n)).bind fun x=>(Dp b (cs.drop a.n)).bind fun y=>some (x,y)
 | .ptr _,_=>none
 | .EY,cs=>Vz cs
 | .mp _ _,_=>none
 | .fn,_=>none
 | .nes _,cs=>RO cs
def Bp:(t:Ty)->Option t.den
 | .int _=>some (0:Int)
 | .bool=>some false
 | .str=>some []
 | .slice _=>some []
 | .arr n e=>(Bp e).bind fun x=>some (List.replicate n x)
 | .unit=>some ()
 | .pair a b=>(Bp a).bind fun x=>(Bp b).bind fun y=>some (x,y)
 | .ptr _=>none
 | .EY=>some none
 | .mp _ _=>none
 | .fn=>none
 | .nes _=>some []
def zeroCells:Ty->List Value
 | .int k=>[.int k 0]
 | .bool=>[.bool false]
 | .str=>[.string .empty]
 | .slice _=>[.slice none 0 0]
 | .arr n e=>(List.replicate n (zeroCells e)).flatten
 | .unit=>[]
 | .pair a b=>zeroCells a++zeroCells b
 | .ptr _=>[.pointer none]
 | .EY=>[.nilIface]
 | .mp _ _=>[.map none]
 | .fn=>[.nilFunc]
 | .nes _=>[.slice none 0 0]
def WG:Value->YC
 | .slice none 0 0=>.full
 | _=>.no
def kindOk (t:Ty):Value->Bool
 | .agg _=>t.isAgg
 | .tuple _=>false
 | _=>!t.isAgg
def JM (ty:Option Ty) (x:Operand) (fr:Fr):AV:=
 match x with
 | .tmp i=>(lk i fr.s).getD .any
 | .const v=>match ty with
  | some t=>match kindOk t v,Dp t v.cells.toList with
   | true,some x=>.val ⟨t,x⟩ (WG v)
   | _,_=>.any
  | none=>.any
 | .global g=>match lk g Mi with
  | some v=>.val ⟨.ptr v.1,v.2⟩ .no
  | none=>.any
 | _=>.any
def ev (E:Env) (t:TypeId) (x:Operand) (fr:Fr):AV:=JM (lk t E.tab) x fr
def Eo:(t:Ty)->t.den->List Step->Option TV
 | t,x,[]=>some ⟨t,x⟩
 | .pair a _,x,.EO 0::p=>Eo a x.1 p
 | .pair _ b,x,.EO (n+1)::p=>Eo b x.2 (.EO n::p)
 | .arr _ e,xs,.idx i::p=>(nth xs i.toNat).bind fun x=>Eo e x p
 | _,_,_=>none
def KO {α:Type} (k:TV->Option α):(t:Ty)->t.den->List Step->Option α
 | t,x,[]=>k ⟨t,x⟩
 | .pair a _,x,.EO 0::p=>KO k a x.1 p
 | .pair _ b,x,.EO (n+1)::p=>KO k b x.2 (.EO n::p)
 | .arr _ e,xs,.idx i::p=>(nth xs i.toNat).bind fun x=>KO k e x p
 | _,_,_=>none
theorem Gy {α:Type} (k:TV->Option α):∀ (t:Ty) (x:t.den) (p:List Step),KO k t x p=(Eo t x p).bind k:=by
 intro t x p
 fun_induction KO k t x p <;> simp_all [Eo,Option.bind_assoc]
def Bc:(t:Ty)->List Step->Option (Nat×Ty)
 | t,[]=>some (0,t)
 | .pair a _,.EO 0::p=>Bc a p
 | .pair a b,.EO (n+1)::p=>(Bc b (.EO n::p)).bind fun r=>some (a.n+r.1,r.2)
 | .arr n e,.idx i::p=>if 0<=i/\i < n then (Bc e p).bind fun r=>some (i.toNat * e.n+r.1,r.2) else none
 | _,_=>none
def GQ:Ty->List Step->Option Ty
 | t,[]=>some t
 | .pair a _,.EO 0::p=>GQ a p
 | .pair _ b,.EO (n+1)::p=>GQ b (.EO n::p)
 | .arr _ e,.idx _::p=>GQ e p
 | _,_=>none
def F9 (v:TV):(t:Ty)->t.den->List Step->Option t.den
 | t,_,[]=>TV.as t v
 | .pair a _,x,.EO 0::p=>(F9 v a x.1 p).bind fun y=>some (y,x.2)
 | .pair _ b,x,.EO (n+1)::p=>(F9 v b x.2 (.EO n::p)).bind fun y=>some (x.1,y)
 | .arr _ e,xs,.idx i::[]=>(TV.as e v).bind fun y=>some (List.set xs i.toNat y)
 | .arr _ e,xs,.idx i::s::p=>(nth xs i.toNat).bind fun x=>(F9 v e x (s::p)).bind fun y=>some (List.set xs i.toNat y)
 | _,_,_=>none
def Nk {α:Type} (xs:List α) (i:Int):Option α:=bif decide (0<=i) then xs[i.toNat]? else none
def lim:Nat:=68719476736
def VL:Nat:=17592186044416
def FI:(t:Ty)->DecidableEq t.den
 | .int _=>inferInstanceAs (DecidableEq Int)
 | .bool=>inferInstanceAs (DecidableEq Bool)
 | .str=>inferInstanceAs (DecidableEq (List Int))
 | .slice e=>@instDecidableEqList _ (FI e)
 | .arr _ e=>@instDecidableEqList _ (FI e)
 | .unit=>inferInstanceAs (DecidableEq Unit)
 | .pair a b=>@instDecidableEqProd _ _ (FI a) (FI b)
 | .ptr e=>FI e
 | .EY=>inferInstanceAs (DecidableEq (Option (Option (Nat×Int))))
 | .mp _ _=>inferInstanceAs (DecidableEq Empty)
 | .fn=>inferInstanceAs (DecidableEq Empty)
 | .nes e=>@instDecidableEqList _ (FI e)
def JW (t:Ty) (x y:t.den):Bool:=@decide (x=y) (FI t x y)
section
variable {α:Type}
def VG (op:BinOp) (kx:IntKind) (m:Int) (ky:IntKind) (n:Int) (k:AV->Option α):Option α:=
 match op with
 | .shl=>bif decide (n < 0) then none else k (.val ⟨.int kx,kx.wrap (m * 2 ^ (min n.toNat kx.bits))⟩ .no)
 | .shr=>bif decide (n < 0) then none else k (.val ⟨.int kx,m.fdiv (2 ^ (min n.toNat kx.bits))⟩ .no)
 | op=>if kx=ky then
   match op with
   | .add=>k (.val ⟨.int kx,kx.wrap (m+n)⟩ .no)
   | .sub=>k (.val ⟨.int kx,kx.wrap (m - n)⟩ .no)
   | .mul=>k (.val ⟨.int kx,kx.wrap (m * n)⟩ .no)
   | .quo=>bif n==0 then none else k (.val ⟨.int kx,kx.wrap (m.tdiv n)⟩ .no)
   | .rem=>bif n==0 then none else k (.val ⟨.int kx,m.tmod n⟩ .no)
   | .and=>k (.val ⟨.int kx,bits .and kx m n⟩ .no)
   | .or=>k (.val ⟨.int kx,bits .or kx m n⟩ .no)
   | .xor=>k (.val ⟨.int kx,bits .xor kx m n⟩ .no)
   | .andNot=>k (.val ⟨.int kx,bits .andNot kx m n⟩ .no)
   | .eql=>k (.val ⟨.bool,m==n⟩ .no)
   | .neq=>k (.val ⟨.bool,m != n⟩ .no)
   | .lss=>k (.val ⟨.bool,decide (m < n)⟩ .no)
   | .leq=>k (.val ⟨.bool,decide (m<=n)⟩ .no)
   | .gtr=>k (.val ⟨.bool,decide (m > n)⟩ .no)
   | .geq=>k (.val ⟨.bool,decide (m≥n)⟩ .no)
   | _=>none
  else none
def Ty.dep:Ty->Nat
 | .arr _ e=>e.dep+1
 | .pair a b=>max (a.dep+1) b.dep
 | _=>1
def Bd (o:Option Ty) (t:Ty):Bool:=decide (o=some t)
def Ec (tt:Option Ty) (op:BinOp) (x y:AV) (k:AV->Option α):Option α:=
 match x,y with
 | .val ⟨.int kx,m⟩ _,.val ⟨.int ky,n⟩ _=>VG op kx m ky n k
 | .val ⟨.bool,a⟩ _,.val ⟨.bool,b⟩ _=>
  bif Bd tt .bool then
   match op with
   | .eql=>k (.val ⟨.bool,a==b⟩ .no)
   | .neq=>k (.val ⟨.bool,!(a==b)⟩ .no)
   | _=>none
  else none
 | .val ⟨.str,a⟩ _,.val ⟨.str,b⟩ _=>
  match op with
  | .eql=>k (.val ⟨.bool,JW .str a b⟩ .no)
  | .neq=>k (.val ⟨.bool,!(JW .str a b)⟩ .no)
  | .add=>bif Nat.ble (List.length a+List.length b) lim then k (.val ⟨.str,List.append a b⟩ .no) else none
  | _=>none
 | .val ⟨t,a⟩ _,.val ⟨u,b⟩ _=>bif t.isAgg&&(t.flat&&(Nat.ble t.dep 99&&Bd tt t)) then
   (TV.as t ⟨u,b⟩).bind fun b=>
    match op with
    | .eql=>k (.val ⟨.bool,JW t a b⟩ .no)
    | .neq=>k (.val ⟨.bool,!(JW t a b)⟩ .no)
    | _=>none
  else none
 | _,_=>none
def Nq:Operand->Bool
 | .const .nilIface=>true
 | _=>false
def VD (tt:Option Ty) (op:BinOp) (x:AV) (k:AV->Option α):Option α:=
 match x with
 | .val ⟨.EY,a⟩ _=>bif Bd tt .EY then
   match op with
   | .eql=>k (.val ⟨.bool,Option.isNone a⟩ .no)
   | .neq=>k (.val ⟨.bool,!(Option.isNone a)⟩ .no)
   | _=>none
  else none
 | _=>none
def TY (a:Option (Option (Nat×Int))) (q:Nat×Int):Option Bool:=
 match a with
 | none=>some false
 | some none=>none
 | some (some p)=>some (Nat.beq p.1 q.1&&decide (p.2=q.2))
def Xn (tab:List (TypeId×Ty)) (b:Option (Option (Nat×Int))):Option (Nat×Int):=
 match b with
 | some (some q)=>bif Bd (lk q.1 tab) (.int .i64) then some q else none
 | _=>none
def LD (tab:List (TypeId×Ty)) (tt:Option Ty) (op:BinOp) (x y:AV) (k:AV->Option α) (alt:Option α):Option α:=
 match x,y with
 | .val ⟨.EY,a⟩ _,.val ⟨.EY,b⟩ _=>bif Bd tt .EY then (Xn tab b).bind fun q=>(TY a q).bind fun r=>
   match op with
   | .eql=>k (.val ⟨.bool,r⟩ .no)
   | .neq=>k (.val ⟨.bool,!r⟩ .no)
   | _=>none
  else none
 | _,_=>alt
def Xu (T:TypeId) (tt:Option Ty) (x:AV) (k:AV->Option α):Option α:=
 match tt with
 | some (.int .i64)=>match x with
  | .val ⟨.int .i64,n⟩ _=>k (.val ⟨.EY,some (some (T,n))⟩ .no)
  | _=>none
 | _=>none
def Wv (op:UnOp) (x:AV) (k:AV->Option α):Option α:=
 match op,x with
 | .not,.val ⟨.bool,b⟩ _=>k (.val ⟨.bool,!b⟩ .no)
 | .neg,.val ⟨.int kx,n⟩ _=>k (.val ⟨.int kx,kx.wrap (0 - n)⟩ .no)
 | .xor,.val ⟨.int kx,n⟩ _=>k (.val ⟨.int kx,bits .xor kx (if kx.signed then -1 else kx.max) n⟩ .no)
 | _,_=>none
def Oe (src dst:Option Ty) (x:AV) (k:AV->Option α):Option α:=
 match dst,x with
 | some (.int kd),.val ⟨.int ks,n⟩ _=>bif Bd src (.int ks) then k (.val ⟨.int kd,kd.wrap n⟩ .no) else none
 | some .str,.val ⟨.str,s⟩ _=>bif Bd src .str then k (.val ⟨.str,s⟩ .no) else none
 | some .str,.val ⟨.slice (.int .u8),s⟩ _=>bif Bd src (.slice (.int .u8)) then k (.val ⟨.str,s⟩ .no) else none
 | some .str,.val ⟨.int ks,n⟩ _=>bif Bd src (.int ks)&&(decide (0<=n)&&decide (n < 128)) then k (.val ⟨.str,[n]⟩ .no) else none
 | some (.slice (.int .u8)),.val ⟨.str,s⟩ _=>bif Bd src .str then k (.val ⟨.slice (.int .u8),s⟩ .no) else none
 | _,_=>none
def VH (tt:Option Ty) (e:Ty):Bool:=Bd tt (.slice e)||Bd tt (.nes e)
def QT (tt:Option Ty) (x:AV) (k:AV->Option α):Option α:=
 match x with
 | .val ⟨.slice e,xs⟩ _=>bif VH tt e then k (.val ⟨.int .i64,(List.length xs:Int)⟩ .no) else none
 | .val ⟨.str,xs⟩ _=>bif Bd tt .str then k (.val ⟨.int .i64,(List.length xs:Int)⟩ .no) else none
 | _=>none
def Wi (x y:AV) (k:AV->Option α):Option α:=
 match x,y with
 | .val ⟨.int kx,m⟩ _,.val ⟨.int ky,n⟩ _=>if kx=ky then k (.val ⟨.int kx,if n < m then n else m⟩ .no) else none
 | _,_=>none
def Wh (x y:AV) (k:AV->Option α):Option α:=
 match x,y with
 | .val ⟨.int kx,m⟩ _,.val ⟨.int ky,n⟩ _=>if kx=ky then k (.val ⟨.int kx,if n > m then n else m⟩ .no) else none
 | _,_=>none
def Fw:(t:Ty)->t.den->Nat->Option TV
 | .pair a _,x,0=>some ⟨a,x.1⟩
 | .pair _ b,x,n+1=>Fw b x.2 n
 | _,_,_=>none
def fieldTy:Ty->Nat->Option Ty
 | .pair a _,0=>some a
 | .pair _ b,n+1=>fieldTy b n
 | _,_=>none
def Jz (fr:Fr):AV->Option TV
 | .val v _=>some v
 | .loc id p=>(lk id fr.l).bind fun e=>(Eo e.2.1 e.2.2 p).bind fun v=>some ⟨.ptr v.1,v.2⟩
 | _=>none
def Dw (E:Env) (fr:Fr):List Operand->List TypeId->Option (List TV)
 | [],[]=>some []
 | x::xs,t::ts=>(Jz fr (ev E t x fr)).bind fun v=>(Dw E fr xs ts).bind fun vs=>some (v::vs)
 | _,_=>none
def NA:(rs:List Ty)->BP rs->AV
 | [],_=>.any
 | [t],r=>.val ⟨t,r⟩ .no
 | t::u::ts,r=>.Db (Dr (t::u::ts) r)
def JN (E:Env) (fr:Fr):List Operand->List TypeId->Bool
 | x::xs,t::ts=>(match ev E t x fr with | .loc _ _=>true | _=>false)||JN E fr xs ts
 | _,_=>false
def Ef : AV->Option Int
 | .val ⟨.int _,n⟩ _=>some n
 | _=>none
def MH {β:Type} (xs:List β) (lo hi:Option AV) (k:List β->Option α):Option α:=
 match lo,hi with
 | none,none=>k xs
 | some a,none=>(Ef a).bind fun l=>bif decide (0<=l)&&decide (l<=(xs.length:Int)) then k (xs.drop l.toNat) else none
 | none,some b=>(Ef b).bind fun h=>bif decide (0<=h)&&decide (h<=(xs.length:Int)) then k (xs.take h.toNat) else none
 | some a,some b=>(Ef a).bind fun l=>(Ef b).bind fun h=>
   bif decide (0<=l)&&(decide (l<=h)&&decide (h<=(xs.length:Int))) then k ((xs.take h.toNat).drop l.toNat) else none
def Hg (t:Ty) (fr:Fr):Nat->List (Nat×Operand)->Option (List t.den)
 | _,[]=>some []
 | i,(j,x)::r=>bif Nat.beq i j then
   match JM (some t) x fr with
   | .val v _=>(TV.as t v).bind fun y=>(Hg t fr (i+1) r).bind fun ys=>some (y::ys)
   | _=>none
  else none
def DY (fr:Fr):(t:Ty)->Nat->List (Nat×Operand)->Option t.den
 | .unit,_,[]=>some ()
 | .pair a b,i,[]=>(Bp a).bind fun x=>(DY fr b (i+1) []).bind fun y=>some (x,y)
 | .pair a b,i,(j,o)::r=>bif Nat.beq i j then
   match JM (some a) o fr with
   | .val v _=>(TV.as a v).bind fun x=>(DY fr b (i+1) r).bind fun y=>some (x,y)
   | _=>none
  else (Bp a).bind fun x=>(DY fr b (i+1) ((j,o)::r)).bind fun y=>some (x,y)
 | _,_,_=>none
def Du (E:Env) (o:Oper) (fr:Fr) (k:AV->Option α):Option α:=
 match o.op with
 | .move x=>k (ev E o.type x fr)
 | .assign x=>k (ev E o.type x fr)
 | .pick c a b=>match ev E o.type c fr with
  | .val ⟨.bool,c⟩ _=>bif c then k (ev E o.type a fr) else k (ev E o.type b fr)
  | _=>none
 | .binOp op t x y u=>bif Nq y then VD (lk t E.tab) op (ev E t x fr) k else LD E.tab (lk t E.tab) op (ev E t x fr) (ev E u y fr) k (Ec (lk t E.tab) op (ev E t x fr) (ev E u y fr) k)
 | .makeInterface T x=>Xu T (lk T E.tab) (ev E T x fr) k
 | .unOp op t x=>Wv op (ev E t x fr) k
 | .convert src dst x=>Oe (lk src E.tab) (lk dst E.tab) (ev E src x fr) k
 | .nilCheck x=>match ev E o.type x fr with
  | .loc id p=>k (.loc id p)
  | .val ⟨.ptr t,x⟩ _=>k (.val ⟨.ptr t,x⟩ .no)
  | _=>none
 | .load T x=>match ev E o.type x fr with
  | .loc id p=>(lk id fr.l).bind fun e=>KO (fun v=>bif Bd (lk T E.tab) v.1 then k (.val v .no) else none) e.2.1 e.2.2 p
  | .val ⟨.ptr t,x⟩ _=>bif Bd (lk T E.tab) t then k (.val ⟨t,x⟩ .no) else none
  | _=>none
 | .fieldAddr T x f=>match ev E o.type x fr with
  | .loc id p=>(lk id fr.l).bind fun e=>match GQ e.2.1 p with
   | some t=>bif Bd (lk T E.tab) t&&(fieldTy t f).isSome then k (.loc id (p++[.EO f])) else none
   | none=>none
  | .val ⟨.ptr t,x⟩ _=>bif Bd (lk T E.tab) t then (Fw t x f).bind fun v=>k (.val ⟨.ptr v.1,v.2⟩ .no) else none
  | _=>none
 | .field T x f=>match ev E o.type x fr with
  | .val ⟨t,x⟩ _=>bif Bd (lk T E.tab) t then (Fw t x f).bind fun v=>k (.val v .no) else none
  | _=>none
 | .indexAddr T x i=>(Ef (JM (some (.int .i64)) i fr)).bind fun i=>match ev E o.type x fr with
  | .loc id p=>(lk id fr.l).bind fun e=>match GQ e.2.1 p with
   | some (.arr n t)=>bif Bd (lk T E.tab) (.arr n t) then (bif decide (0<=i)&&decide (i < (n:Int)) then k (.loc id (p++[.idx i])) else none) else none
   | _=>none
  | .val ⟨.slice e,xs⟩ _=>bif VH (lk T E.tab) e then (Nk xs i).bind fun y=>k (.val ⟨.ptr e,y⟩ .no) else none
  | .val ⟨.ptr (.arr n e),xs⟩ _=>bif Bd (lk T E.tab) (.arr n e) then (Nk xs i).bind fun y=>k (.val ⟨.ptr e,y⟩ .no) else none
  | _=>none
 | .index t x i=>(Ef (JM (some (.int .i64)) i fr)).bind fun i=>match ev E t x fr with
  | .val ⟨.arr n e,xs⟩ _=>bif Bd (lk t E.tab) (.arr n e) then (Nk xs i).bind fun y=>k (.val ⟨e,y⟩ .no) else none
  | .val ⟨.str,xs⟩ _=>bif Bd (lk t E.tab) .str then (Nk xs i).bind fun y=>k (.val ⟨.int .u8,y⟩ .no) else none
  | _=>none
 | .slice T x lo hi none=>match ev E o.type x fr with
  | .val ⟨.slice e,xs⟩ _=>bif Bd (lk T E.tab) (.slice e) then MH xs (lo.map (JM (some (.int .i64)) · fr)) (hi.map (JM (some (.int .i64)) · fr)) fun ys=>k (.val ⟨.slice e,ys⟩ .no) else none
  | .val ⟨.str,xs⟩ _=>bif Bd (lk T E.tab) .str then MH xs (lo.map (JM (some (.int .i64)) · fr)) (hi.map (JM (some (.int .i64)) · fr)) fun ys=>k (.val ⟨.str,ys⟩ .no) else none
  | .val ⟨.ptr (.arr n e),xs⟩ _=>bif Bd (lk T E.tab) (.arr n e)&&Nat.ble n 1000000 then MH xs (lo.map (JM (some (.int .i64)) · fr)) (hi.map (JM (some (.int .i64)) · fr)) fun ys=>k (.val ⟨.slice e,ys⟩ .no) else none
  | .loc id []=>(lk id fr.l).bind fun e=>bif e.1 then none else match e.2 with
   | ⟨.arr n t,xs⟩=>bif Bd (lk T E.tab) (.arr n t)&&Nat.ble n 1000000 then MH xs (lo.map (JM (some (.int .i64)) · fr)) (hi.map (JM (some (.int .i64)) · fr)) fun ys=>k (.val ⟨.slice t,ys⟩ .no) else none
   | _=>none
  | _=>none
 | .extract t i=>match ev E o.type t fr with
  | .Db l=>(l[i]?).bind fun v=>k (.val v .no)
  | _=>none
 | .build t parts=>(lk t E.tab).bind fun ty=>match ty with
  | .arr n e=>bif parts.toList.isEmpty then (Bp (.arr n e)).bind fun y=>k (.val ⟨.arr n e,y⟩ .no) else
   (Hg e fr 0 parts.toList).bind fun ys=>bif Nat.beq ys.length n&&Nat.ble 1 e.n then k (.val ⟨.arr n e,ys⟩ .no) else none
  | ty=>(DY fr ty 0 parts.toList).bind fun y=>k (.val ⟨ty,y⟩ .no)
 | .buildSlice t n parts=>(lk t E.tab).bind fun ty=>match ty with
  | .slice e=>(Hg e fr 0 parts.toList).bind fun ys=>bif Nat.beq ys.length n&&(Nat.ble n 1000000&&(Nat.ble 1 e.n&&Nat.ble (n * e.n) 1000000)) then k (.val ⟨.slice e,ys⟩ .full) else none
  | _=>none
 | .makeSlice t l c=>(Ef (JM (some (.int .i64)) l fr)).bind fun n=>(Ef (JM (some (.int .i64)) c fr)).bind fun m=>(lk t E.tab).bind fun ty=>match ty with
  | .slice e=>bif decide (0<=n)&&(decide (n=m)&&(decide (n<=68719476736)&&Nat.ble 1 e.n)) then (Bp e).bind fun z=>k (.val ⟨.slice e,E.rep e.den n.toNat z⟩ .full) else none
  | _=>none
 | .call { callee:=.builtin .len,args,argTypes }=>match args.toList,argTypes.toList with
  | [x],[t]=>QT (lk t E.tab) (ev E t x fr) k
  | _,_=>none
 | .call { callee:=.builtin .min,args,argTypes }=>match args.toList,argTypes.toList with
  | [x,y],[t,u]=>Wi (ev E t x fr) (ev E u y fr) k
  | _,_=>none
 | .call { callee:=.builtin .max,args,argTypes }=>match args.toList,argTypes.toList with
  | [x,y],[t,u]=>Wh (ev E t x fr) (ev E u y fr) k
  | _,_=>none
 | .call { callee:=.value (.func f),args,argTypes }=>(lk f E.fs).bind fun fn=>
   bif JN E fr args.toList argTypes.toList&&!(fn.rs.all (·.flat)) then none else
   (Dw E fr args.toList argTypes.toList).bind fun vs=>(Cc fn.ps vs).bind fun x=>(fn.F x).bind fun r=>k (NA fn.rs r)
 | _=>none
def Zk (fr:Fr) (d:Option Nat) (av:AV):Fr:=
 match d with
 | some d=>{ fr with s:=(d,av)::fr.s }
 | none=>fr
def Eb (acc:List Nat):List Edge->Nat
 | []=>0
 | e::r=>bif Region.binds .any e then Eb acc r ||| (2 ^ e.on ||| acc.getD e.on 0) else Eb acc r
def EU:List Oper->List Nat->List Nat
 | [],acc=>acc
 | o::r,acc=>EU r (acc++[Eb acc o.after.toList])
def rid:Code->Option Nat
 | .region id _ _=>some id
 | .seq a b=>match rid a with
  | some i=>some i
  | none=>rid b
 | .cond _ a b=>match rid a with
  | some i=>some i
  | none=>rid b
 | .block _ c=>rid c
 | .loop c=>rid c
 | _=>none
end
end Go.Lift
