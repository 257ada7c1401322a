import Derived.Test.YtjcnhegjiffgpaaGreatDoorCtM0
set_option linter.unusedVariables false
set_option linter.unusedSimpArgs false
set_option linter.unusedSectionVars false
set_option maxRecDepth 100000
namespace Go.Proofs.YtjcnhegjiffgpaaGreatDoor.T
open Go.Lift
abbrev Rn:=Int×Int×Unit
def inc:Int->Int->List Rn->Int->Bool
 | _,_,[],_=>true
 | f,v,r::l,n=>(decide (r.1 < n)&&(decide (f < r.1)&&decide (v≠r.2.1)))&&inc r.1 r.2.1 l n
def Nh:List Rn->Int->Bool
 | [],_=>false
 | r::l,n=>(decide (r.1=0)&&decide (0 < n))&&inc 0 r.2.1 l n
def mkR:Nat->Int->List Int->List Rn
 | _,_,[]=>[]
 | k,p,x::v=>if x=p then mkR (k+1) p v else ((k:Int),x,())::mkR (k+1) x v
def KN:List Int->List Rn
 | []=>[]
 | x::v=>(0,x,())::mkR 1 x v
theorem Ur {f v n:Int} {r:Rn} {l:List Rn}:inc f v (r::l) n=true↔(r.1 < n/\f < r.1/\v≠r.2.1)/\inc r.1 r.2.1 l n=true:=by
 simp only [inc,AP,AZ]
theorem QA6:∀ {v:List Int} {k:Nat} {p f n:Int},f < k->(k:Int)+v.length<=n->inc f p (mkR k p v) n=true
 | [],_,_,_,_,_,_=>rfl
 | x::v,k,p,f,n,hf,hn=>by
  simp only [Af] at hn
  unfold mkR
  split
  ·exact QA6 (by omega) (by omega)
  ·rename_i e
   exact Ur.2 ⟨⟨by omega,hf,λh=>e h.symm⟩,QA6 (by omega) (by omega)⟩
theorem QDv {v:List Int} (h:v≠[]):Nh (KN v) v.length=true:=by
 cases v with
 | nil=>exact absurd rfl h
 | cons x v=>
  simp only [KN,Nh,AP,AZ,Af]
  exact ⟨⟨trivial,by omega⟩,QA6 (by omega) (by omega)⟩
theorem kC {l:List Rn} {n:Nat} (h:Nh l n=true):l.length<=n:=by
 have key:∀ {t:List Rn} {f v:Int},inc f v t n=true->(t.length:Int)+f < n\/t=[]:=by
  intro t
  induction t with
  | nil=>intro f v _;exact .inr rfl
  | cons r t ih=>
   intro f v h
   obtain ⟨⟨h1,h2,_⟩,h4⟩:=Ur.1 h
   left
   rcases ih h4 with h5 | rfl
   ·simp only [Af];omega
   ·simp only [Af,Av];omega
 cases l with
 | nil=>simp
 | cons r t=>
  simp only [Nh,AP,AZ] at h
  rcases key h.2 with h5 | rfl
  ·simp only [Af];omega
  ·simp only [Af,Av];omega
theorem t64 {z:Int} (h : -9223372036854775808<=z) (h':z<=9223372036854775807):IntKind.i64.wrap z=z:=wrap_i64 h h'
theorem QP4 {n:Nat} (h:n<=1000000):n < big:=by
 have:1000000 < big:=by decide
 omega
theorem QRQ {n:Nat} (h:n<=9223372036854775807):n < big:=by
 have:9223372036854775807 < big:=by decide
 omega
theorem vP {α:Type} {pre t:List α} {a:α} {i:Int} (h:i=(pre.length:Int)):BX (pre++a::t) i=some a:=by
 subst h
 rw [XC]
 simp
theorem QCp {α:Type} {t:List α} {a:α}:BX (a::t) 0=some a:=vP (pre:=[]) rfl
theorem wT (N:Nat) (n:Int):∀ (t pre:List Rn) (a:Rn) (M:Nat),pre.length+t.length+1<=9223372036854775807->t.length < M->BP (Nq N) M (pre++a::t,n,((pre.length+1:Nat):Int))=some (inc a.1 a.2.1 t n)
 | [],pre,a,M+1,hl,hM=>by
  rw [Ba]
  show IW _ _=_
  unfold IW
  dsimp only
  rw [AF (by simp),AJ]
  rfl
 | b::t,pre,a,M+1,hl,hM=>by
  rw [Ba]
  show IW _ _=_
  unfold IW
  dsimp only
  simp only [Af] at hl hM
  have e1:BX (pre++a::b::t) ((pre.length+1:Nat):Int)=some b:=by
   rw [show pre++a::b::t=(pre++[a])++b::t by simp]
   exact vP (by simp)
  have e2:BX (pre++a::b::t) ((pre.length:Nat):Int)=some a:=vP rfl
  have e3:IntKind.i64.wrap (((pre.length+1:Nat):Int) - 1)=((pre.length:Nat):Int):=by rw [t64 (by omega) (by omega)];omega
  have e4:IntKind.i64.wrap (((pre.length+1:Nat):Int)+1)=(((pre++[a]).length+1:Nat):Int):=by rw [t64 (by omega) (by omega)];simp
  rw [AB (show ((pre.length+1:Nat):Int) < ((pre++a::b::t).length:Int) by simp;omega),AL,AB (show ((pre.length+1:Nat):Int) > 0 by omega),AL]
  simp only [e1,e2,e3,e4,AA]
  have ih:=wT N n t (pre++[a]) b M (by simp;omega) (by omega)
  rw [show (pre++[a])++b::t=pre++a::b::t by simp] at ih
  unfold inc
  by_cases h1:b.1 < n
  ·rw [AF (show ¬ b.1>=n by omega),AJ,AB h1,Ai]
   by_cases h2:a.1 < b.1
   ·rw [AF (show ¬ a.1>=b.1 by omega),AJ,AB h2,Ai]
    by_cases h3:a.2.1=b.2.1
    ·rw [show (a.2.1==b.2.1)=true by simp [h3],AL,AF (not_not_intro h3),Bool.false_and]
    ·rw [show (a.2.1==b.2.1)=false by simpa using h3,AJ,AB h3,Ai]
     exact ih
   ·rw [AB (show a.1>=b.1 by omega),AL,AF h2]
    rfl
  ·rw [AB (show b.1>=n by omega),AL,AF h1]
   rfl
theorem QAv (l:List Rn) (n:Int) (hl:l.length<=9223372036854775807):Vg (l,n)=some (Nh l n):=by
 show SG (BP (Nq big) big) (l,n)=_
 unfold SG
 dsimp only
 cases l with
 | nil=>rfl
 | cons r t=>
  simp only [Af] at hl
  rw [AF (by simp;omega),AJ,QCp,AA]
  show _=some ((decide (r.1=0)&&decide (0 < n))&&inc 0 r.2.1 t n)
  by_cases h0:r.1=0
  ·rw [show (r.1 != 0)=false by simp [h0],AJ,AB h0,Ai]
   rw [gP,Ba]
   show IW _ _=_
   unfold IW
   dsimp only
   rw [AB (show (0:Int) < ((r::t).length:Int) by simp only [Af];omega),AL,QCp,AA,h0]
   by_cases h1:0 < n
   ·rw [AF (show ¬ (0:Int)>=n by omega),AJ,AF (show ¬ (0:Int) > 0 by omega),AJ,AB h1,Ai]
    have:=wT big n t [] r (big - 1) (by simp;omega) (by have:=QRQ (n:=t.length+1) (by omega);omega)
    rw [h0] at this
    exact this
   ·rw [AB (show (0:Int)>=n by omega),AL,AF h1]
    rfl
  ·rw [show (r.1 != 0)=true by simpa using h0,AL,AF h0]
   rfl
def IC (l:List Rn) (n:Int):Int:=if n < 1\/n > 200 then 2 else if Nh l n=true then 0 else 8
theorem Rx {l:List Rn} {n:Int}:IC l n=0↔(1<=n/\n<=200)/\Nh l n=true:=by
 unfold IC
 split
 ·constructor
  ·intro e;omega
  ·intro e;omega
 ·split
  ·rename_i h1 h2;simp [h2];omega
  ·rename_i h1 h2;simp [h2]
theorem Xr {l:List Rn} {n:Int} (h:IC l n=0):l.length<=200:=by
 obtain ⟨h1,h2⟩:=Rx.1 h
 have:=kC (l:=l) (n:=n.toNat) (by rw [Int.toNat_of_nonneg (by omega)];exact h2)
 omega
theorem xB (N:Nat):∀ (t pre:List Int) (p:Int) (out:List Rn) (M:Nat),pre.length+t.length<=1000000->out.length+t.length<=1000000->t.length < M->BP (Nr N) M (pre++p::t,((pre.length+1:Nat):Int),out)=some (out++mkR (pre.length+1) p t)
 | [],pre,p,out,M+1,hl,ho,hM=>by
  rw [Ba]
  show IX _ _=_
  unfold IX
  dsimp only
  rw [AF (by simp),AJ]
  simp [mkR]
 | x::t,pre,p,out,M+1,hl,ho,hM=>by
  rw [Ba]
  show IX _ _=_
  unfold IX
  dsimp only
  simp only [Af] at hl ho hM
  have e1:BX (pre++p::x::t) ((pre.length+1:Nat):Int)=some x:=by
   rw [show pre++p::x::t=(pre++[p])++x::t by simp]
   exact vP (by simp)
  have e2:BX (pre++p::x::t) ((pre.length:Nat):Int)=some p:=vP rfl
  have e3:IntKind.i64.wrap (((pre.length+1:Nat):Int) - 1)=((pre.length:Nat):Int):=by rw [t64 (by omega) (by omega)];omega
  have e4:IntKind.i64.wrap (((pre.length+1:Nat):Int)+1)=(((pre++[p]).length+1:Nat):Int):=by rw [t64 (by omega) (by omega)];simp
  have ih:=λout' ho'=>xB N t (pre++[p]) x out' M (by simp;omega) ho' (by omega)
  simp only [Ab,List.singleton_append] at ih
  rw [AB (show ((pre.length+1:Nat):Int) < ((pre++p::x::t).length:Int) by simp;omega),AL,show (((pre.length+1:Nat):Int)==0)=false by simp;omega,AJ]
  simp only [e1,e2,e3,e4,AA]
  have e5:(pre++[p]).length+1=pre.length+1+1:=by simp
  unfold mkR
  by_cases h:x=p
  ·rw [show (x != p)=false by simp [h],AJ,AY h,ih out (by omega),e5,h]
  ·rw [show (x != p)=true by simpa using h,AL,AX h,show Nat.ble 1 2=true from rfl,EP (by simp;omega),Bool.and_self,AL]
   rw [show List.append out [(((pre.length+1:Nat):Int),(x,()))]=out++[(((pre.length+1:Nat):Int),(x,()))] from rfl,ih _ (by simp;omega),e5]
   simp
theorem QB1 (v:List Int) (hl:v.length<=1000000):Vh v=some (KN v):=by
 show SH (BP (Nr big) big) v=_
 unfold SH
 rw [gP,Ba]
 show IX _ _=_
 unfold IX
 dsimp only
 cases v with
 | nil=>rfl
 | cons x t=>
  simp only [Af] at hl
  rw [AB (show (0:Int) < ((x::t).length:Int) by simp only [Af];omega),AL,show ((0:Int)==0)=true from rfl,AL,QCp,AA,show Nat.ble 1 2=true from rfl,EP (by simp),Bool.and_self,AL]
  exact xB big t [] x [(0,x,())] (big - 1) (by simp;omega) (by simp only [Af,Av];omega) (by have:=QP4 (n:=t.length+1) (by omega);omega)
def QFh (v:List Int):List Rn×Int:=if v.length < 1\/v.length > 200 then ([],2) else (KN v,0)
def uR:Int->List Rn->List Int
 | _,[]=>[]
 | w,r::l=>vary (r.1 - w).toNat++(vary r.2.1.toNat++uR r.1 l)
def Es (l:List Rn):List Int:=vary l.length++uR 0 l
def V64 (l:List Rn):Prop:=∀ r∈l,0<=r.2.1/\r.2.1 < 18446744073709551616
theorem qx (N:Nat) {n:Int} (hn:n<=200):∀ (t pre:List Rn) (f v:Int) (out:List Int) (M:Nat),inc f v t n=true->-1<=f->(∀ r∈t,0<=r.2.1/\r.2.1 < 18446744073709551616)->pre.length+t.length<=1000000->out.length+20 * t.length<=1000000->t.length < M->∀ w:Int,(0<=w/\w<=200/\(w<=f+1))->BP (Lp N) M (pre++t,w,((pre.length:Nat):Int),out)=some (out++uR w t)
 | [],pre,f,v,out,M+1,hi,hf,hv,hl,ho,hM,w,hw=>by
  rw [Ba]
  show MJ _ _=_
  unfold MJ
  dsimp only
  rw [AF (by simp),AJ]
  simp [uR]
 | r::t,pre,f,v,out,M+1,hi,hf,hv,hl,ho,hM,w,hw=>by
  rw [Ba]
  show MJ _ _=_
  unfold MJ
  dsimp only
  simp only [Af] at hl ho hM
  obtain ⟨⟨h1,h2,h3⟩,h4⟩:=Ur.1 hi
  have hr:=hv r (by simp)
  have e4:IntKind.i64.wrap (((pre.length:Nat):Int)+1)=(((pre++[r]).length:Nat):Int):=by rw [t64 (by omega) (by omega)];simp
  have ea:IntKind.u64.wrap (IntKind.i64.wrap (r.1 - w))=(((r.1 - w).toNat:Nat):Int):=by rw [t64 (by omega) (by omega),wrap_u64];omega
  have eb:DZ r.2.1=some (vary r.2.1.toNat):=by
   have:=MO r.2.1.toNat (by omega)
   rwa [Int.toNat_of_nonneg hr.1] at this
  have la:=Ct (r.1 - w).toNat
  have lb:=Ct r.2.1.toNat
  have ih:=qx N hn t (pre++[r]) r.1 r.2.1 (out++vary (r.1 - w).toNat++vary r.2.1.toNat) M h4 (by omega) (λx hx=>hv x (by simp [hx])) (by simp;omega) (by simp only [AQ];omega) (by omega) r.1 (by omega)
  simp only [Ab,List.singleton_append] at ih
  rw [AB (show ((pre.length:Nat):Int) < ((pre++r::t).length:Int) by simp;omega),AL]
  simp only [vP rfl,AA,e4,ea,MO _ (show (r.1 - w).toNat < 18446744073709551616 by omega),eb]
  rw [b11,EP (by omega),Bool.and_self,AL,show List.append out (vary (r.1 - w).toNat)=out++vary (r.1 - w).toNat from rfl,EP (by simp only [AQ];omega),Bool.and_self,AL]
  rw [show List.append (out++vary (r.1 - w).toNat) (vary r.2.1.toNat)=out++(vary (r.1 - w).toNat++vary r.2.1.toNat) by simp]
  rw [ih]
  simp [uR]
theorem vQ {l:List Rn} {n:Int} (h:Nh l n=true) (hn:n<=200) (hv:V64 l):Te l=some (Es l):=by
 have hlen:l.length<=200:=by
  have h0:0 < n:=by
   cases l with
   | nil=>cases h
   | cons r t=>simp only [Nh,AP,AZ] at h;exact h.1.2
  have:=kC (l:=l) (n:=n.toNat) (by rw [Int.toNat_of_nonneg (by omega)];exact h)
  omega
 show QX (BP (Lp big) big) l=_
 unfold QX
 dsimp only
 have la:=Ct l.length
 rw [show IntKind.u64.wrap (l.length:Int)=(l.length:Int) by rw [wrap_u64];omega,MO _ (by omega),AA]
 have hinc:∃ v,inc (-1) v l n=true:=by
  cases l with
  | nil=>exact ⟨0,rfl⟩
  | cons r t=>
   simp only [Nh,AP,AZ] at h
   refine ⟨r.2.1 - 1,Ur.2 ⟨⟨by omega,by omega,by omega⟩,by rw [h.1.1];exact h.2⟩⟩
 obtain ⟨v,hinc⟩:=hinc
 exact qx big hn l [] (-1) v (vary l.length) big hinc (by omega) hv (by simp;omega) (by omega) (QP4 (by omega)) 0 (by omega)
def encR (l:List Rn) (n:Int):List Int×Int:=if IC l n≠0 then ([],IC l n) else (Es l,0)
theorem QU8 {α:Type}:∀ (xs:List α) (i:Nat),nth xs i=xs[i]?
 | [],0=>rfl
 | [],i+1=>rfl
 | _::_,0=>rfl
 | x::xs,i+1=>(QU8 xs i).trans List.getElem?_cons_succ.symm
theorem wG (n:Int):KA n=some (decide (1<=n/\n<=200)):=by
 show TN n=_
 unfold TN
 by_cases h:1<=n
 ·rw [AB (show n>=1 by omega),AL]
  congr 1
  by_cases h2:n<=200 <;> simp [h,h2]
 ·rw [AF (show ¬ n>=1 by omega),AJ]
  simp [h]
theorem QCc (a b:Rn):HY (a,b)=some (decide (a.2.1=b.2.1)):=by
 show some (R3 (.pair (.int .i64) (.pair (.int .u64) .unit)) (b.1,a.2) b)=_
 congr 1
 obtain ⟨a1,a2,a3⟩:=a
 obtain ⟨b1,b2,b3⟩:=b
 by_cases h:a2=b2
 ·subst h
  rw [AB rfl]
  exact Ud _ _
 ·rw [AF h]
  refine Oh λe=>h ?_
  have:=congrArg (λz:Rn=>z.2.1) e
  exact this
def zw:Int->Int->List Rn->Bool
 | _,_,[]=>true
 | f,v,r::l=>(decide (f < r.1)&&decide (v≠r.2.1))&&zw r.1 r.2.1 l
def sI:Int->List Rn->Int
 | f,[]=>f
 | _,r::l=>sI r.1 l
theorem QBx:∀ {l:List Rn} {f v:Int},zw f v l=true->f<=sI f l
 | [],f,v,_=>Int.le_refl _
 | r::l,f,v,h=>by
  simp only [zw,AP,AZ] at h
  have:=QBx h.2
  simp only [sI]
  omega
theorem kM:∀ {l:List Rn} {f v n:Int},f < n->(inc f v l n=true↔zw f v l=true/\sI f l < n)
 | [],f,v,n,hf=>by simp [inc,zw,sI,hf]
 | r::l,f,v,n,hf=>by
  rw [Ur]
  simp only [zw,sI,AP,AZ]
  constructor
  ·rintro ⟨⟨h1,h2,h3⟩,h4⟩
   have:=(kM h1).1 h4
   exact ⟨⟨⟨h2,h3⟩,this.1⟩,this.2⟩
  ·rintro ⟨⟨⟨h2,h3⟩,h4⟩,h5⟩
   have:=QBx h4
   have h1:r.1 < n:=by omega
   exact ⟨⟨h1,h2,h3⟩,(kM h1).2 ⟨h4,h5⟩⟩
theorem QBw:∀ (r:Rn) (t:List Rn),∃ z,(r::t)[t.length]? = some z/\z.1=sI r.1 t
 | r,[]=>⟨r,rfl,rfl⟩
 | r,b::t=>by
  obtain ⟨z,h1,h2⟩:=QBw b t
  exact ⟨z,by simpa using h1,h2⟩
theorem wF (N:Nat):∀ (t pre:List Rn) (a:Rn) (M:Nat),pre.length+t.length+1<=9223372036854775807->t.length < M->
  BP (KG N) M (pre++a::t,((pre.length+t.length:Nat):Int),((pre.length:Nat):Int))=some (if zw a.1 a.2.1 t=true then 0 else 8)
 | [],pre,a,M+1,hl,hM=>by
  rw [Ba]
  show KJ _ _=_
  unfold KJ
  dsimp only
  rw [AF (by simp),AJ]
  rfl
 | b::t,pre,a,M+1,hl,hM=>by
  rw [Ba]
  show KJ _ _=_
  unfold KJ
  dsimp only
  simp only [Af] at hl hM
  have e1:BX (pre++a::b::t) ((pre.length+1:Nat):Int)=some b:=by
   rw [show pre++a::b::t=(pre++[a])++b::t by simp]
   exact vP (by simp)
  have e2:BX (pre++a::b::t) ((pre.length:Nat):Int)=some a:=vP rfl
  have e4:IntKind.i64.wrap (((pre.length:Nat):Int)+1)=((pre.length+1:Nat):Int):=by rw [t64 (by omega) (by omega)];simp
  rw [AB (show ((pre.length:Nat):Int) < ((pre.length+(b::t).length:Nat):Int) by simp only [Af];omega),AL]
  simp only [e1,e2,e4,AA,QCc]
  have ih:=wF N t (pre++[a]) b M (by simp;omega) (by omega)
  rw [show (pre++[a])++b::t=pre++a::b::t by simp,show (pre++[a]).length+t.length=pre.length+(b::t).length by simp;omega,show (pre++[a]).length=pre.length+1 by simp] at ih
  unfold zw
  by_cases h1:a.1 < b.1
  ·rw [AF (show ¬ a.1>=b.1 by omega),AJ,AB h1,Ai]
   by_cases h2:a.2.1=b.2.1
   ·rw [AB h2,AL,AF (not_not_intro h2),Bool.false_and]
    rfl
   ·rw [AF h2,AJ,AB h2,Ai]
    exact ih
  ·rw [AB (show a.1>=b.1 by omega),AL,AF h1]
   rfl
theorem ko (l:List Rn) (n:Int) (hl:l.length<=9223372036854775807):IG (l,n)=some (IC l n):=by
 show OA (BP (KG big) big) (l,n)=_
 unfold OA IC
 dsimp only
 rw [wG,AA]
 by_cases hn:1<=n/\n<=200
 ·rw [AB hn,A8,AJ,AX (by omega)]
  cases l with
  | nil=>rfl
  | cons r t=>
   simp only [Af] at hl
   rw [show (((r::t).length:Int)==0)=false by simp;omega,AJ,QCp,AA]
   have hx:IntKind.i64.wrap (((r::t).length:Int) - 1)=((t.length:Nat):Int):=by
    simp only [Af]
    rw [t64 (by omega) (by omega)]
    omega
   obtain ⟨z,hz1,hz2⟩:=QBw r t
   simp only [hx,XC,hz1,AA]
   show _=some (if ((decide (r.1=0)&&decide (0 < n))&&inc 0 r.2.1 t n)=true then 0 else 8)
   by_cases h0:r.1=0
   ·rw [show (r.1 != 0)=false by simp [h0],AJ,AB h0,AB (show 0 < n by omega),Ai,Ai]
    have hs:=kM (l:=t) (f:=r.1) (v:=r.2.1) (n:=n) (by omega)
    rw [h0] at hs hz2
    by_cases hlast:z.1>=n
    ·rw [AB hlast,AL,AX (λh=>by have:=(hs.1 h).2;omega)]
    ·rw [AF hlast,AJ]
     have:=wF big t [] r big (by simp;omega) (QRQ (by omega))
     simp only [List.nil_append,Av,Nat.zero_add,h0] at this
     refine this.trans ?_
     congr 1
     by_cases hp:zw 0 r.2.1 t=true
     ·rw [AY hp,AY (hs.2 ⟨hp,by omega⟩)]
     ·rw [AX hp,AX (λh=>hp (hs.1 h).1)]
   ·rw [show (r.1 != 0)=true by simp [h0],AL,AF h0]
    rfl
 ·rw [AF hn,A9,AL,AY (by omega)]
theorem QDc {l:List Rn} {n:Int} (h:Nh l n=true):∃ r t,l=r::t/\r.1=0:=by
 cases l with
 | nil=>cases h
 | cons r t=>simp only [Nh,AP,AZ] at h;exact ⟨r,t,rfl,h.1.1⟩
theorem eU (N:Nat):∀ (t pre:List Int) (q p:Int) (out:List Rn) (M:Nat),pre.length+t.length<=1000000->out.length+t.length+1<=1000000->t.length < M->
  BP (Lr N) M (pre++t,((pre++t).length:Int),((pre.length:Nat):Int),out++[(q,p,())])=some (out++((q,p,())::mkR pre.length p t),0)
 | [],pre,q,p,out,M+1,hl,ho,hM=>by
  rw [Ba]
  show MK _ _=_
  unfold MK
  dsimp only
  rw [AF (by simp),AJ]
  rfl
 | x::t,pre,q,p,out,M+1,hl,ho,hM=>by
  rw [Ba]
  show MK _ _=_
  unfold MK
  dsimp only
  simp only [Af] at hl ho hM
  have e1:BX (pre++x::t) ((pre.length:Nat):Int)=some x:=vP rfl
  have e2:IntKind.i64.wrap (((out++[(q,p,())]).length:Int) - 1)=((out.length:Nat):Int):=by
   simp only [AQ,Af,Av]
   rw [t64 (by omega) (by omega)]
   omega
  have e3:nth (out++[(q,p,())]) out.length=some (q,p,()):=by
   rw [QU8]
   simp
  have e4:IntKind.i64.wrap (((pre.length:Nat):Int)+1)=(((pre++[x]).length:Nat):Int):=by rw [t64 (by omega) (by omega)];simp
  rw [AB (show ((pre.length:Nat):Int) < ((pre++x::t).length:Int) by simp;omega),AL]
  simp only [e1,e2,AA]
  rw [AB (show (0:Int)<=((out.length:Nat):Int) by omega),AB (show ((out.length:Nat):Int) < (((out++[(q,p,())]).length:Nat):Int) by simp;omega),Bool.and_self,AL,Aj,e3,AA,QCc,AA]
  unfold mkR
  by_cases h:p=x
  ·rw [AB h,A8,AJ,AY h.symm,e4]
   have ih:=eU N t (pre++[x]) q p out M (by simp;omega) (by omega) (by omega)
   rw [show (pre++[x])++t=pre++x::t by simp] at ih
   rw [ih]
   simp
  ·rw [AF h,A9,AL,AX (Ne.symm h),show Nat.ble 1 2=true from rfl,EP (by simp;omega),Bool.and_self,AL,e4]
   have ih:=eU N t (pre++[x]) ((pre.length:Nat):Int) x (out++[(q,p,())]) M (by simp;omega) (by simp;omega) (by omega)
   rw [show (pre++[x])++t=pre++x::t by simp] at ih
   refine ih.trans ?_
   simp
theorem QCJ (v:List Int):Tk v=some (QFh v):=by
 show Qe (BP (Lr big) big) v=_
 unfold Qe QFh
 dsimp only
 rw [wG,AA]
 by_cases h:v.length < 1\/v.length > 200
 ·rw [AF (by omega),A9,AL,AY h]
 ·rw [AB (by omega),A8,AJ,AX h]
  cases v with
  | nil=>simp at h
  | cons x t=>
   simp only [Af] at h
   rw [QCp,AA]
   rw [gP,Ba]
   have:=eU big (x::t) [] 0 x [] big (by simp;omega) (by simp;omega) (QP4 (by simp only [Af];omega))
   rw [gP,Ba] at this
   refine this.trans ?_
   simp [mkR,KN]
theorem wM (N:Nat) {n:Int} (hn:n<=200):∀ (t pre:List Rn) (f v:Int) (out:List Int) (M:Nat),inc f v t n=true->-1<=f->(∀ r∈t,0<=r.2.1/\r.2.1 < 18446744073709551616)->pre.length+t.length<=1000000->out.length+20 * t.length<=1000000->t.length < M->∀ w:Int,(0<=w/\w<=200/\(w<=f+1))->
  BP (JI N) M (w,pre++t,((pre++t).length:Int),((pre.length:Nat):Int),out)=some (out++uR w t,0)
 | [],pre,f,v,out,M+1,hi,hf,hv,hl,ho,hM,w,hw=>by
  rw [Ba]
  show JU _ _=_
  unfold JU
  dsimp only
  rw [AF (by simp),AJ]
  simp [uR]
 | r::t,pre,f,v,out,M+1,hi,hf,hv,hl,ho,hM,w,hw=>by
  rw [Ba]
  show JU _ _=_
  unfold JU
  dsimp only
  simp only [Af] at hl ho hM
  obtain ⟨⟨h1,h2,h3⟩,h4⟩:=Ur.1 hi
  have hr:=hv r (by simp)
  have e4:IntKind.i64.wrap (((pre.length:Nat):Int)+1)=(((pre++[r]).length:Nat):Int):=by rw [t64 (by omega) (by omega)];simp
  have ea:IntKind.u64.wrap (IntKind.i64.wrap (r.1 - w))=(((r.1 - w).toNat:Nat):Int):=by rw [t64 (by omega) (by omega),wrap_u64];omega
  have eb:GR r.2.1=some (vary r.2.1.toNat):=by
   have:=WB r.2.1.toNat (by omega)
   rwa [Int.toNat_of_nonneg hr.1] at this
  have la:=Ct (r.1 - w).toNat
  have lb:=Ct r.2.1.toNat
  have ih:=wM N hn t (pre++[r]) r.1 r.2.1 (out++vary (r.1 - w).toNat++vary r.2.1.toNat) M h4 (by omega) (λx hx=>hv x (by simp [hx])) (by simp;omega) (by simp only [AQ];omega) (by omega) r.1 (by omega)
  simp only [Ab,List.singleton_append] at ih
  rw [AB (show ((pre.length:Nat):Int) < ((pre++r::t).length:Int) by simp;omega),AL]
  simp only [vP rfl,AA,e4,ea,WB _ (show (r.1 - w).toNat < 18446744073709551616 by omega),eb]
  rw [b11,EP (by omega),Bool.and_self,AL,show List.append out (vary (r.1 - w).toNat)=out++vary (r.1 - w).toNat from rfl,EP (by simp only [AQ];omega),Bool.and_self,AL]
  rw [show List.append (out++vary (r.1 - w).toNat) (vary r.2.1.toNat)=out++(vary (r.1 - w).toNat++vary r.2.1.toNat) by simp]
  rw [ih]
  simp [uR]
theorem QE6 (l:List Rn) (n:Int) (hl:l.length<=9223372036854775807) (hv:V64 l):Ub (l,n)=some (encR l n):=by
 show MS (BP (JI big) big) (l,n)=_
 unfold MS encR
 dsimp only
 rw [ko l n hl,AA]
 by_cases h:IC l n=0
 ·obtain ⟨hn,hf⟩:=Rx.1 h
  have hlen:=Xr h
  have la:=Ct l.length
  rw [h,show ((0:Int) != 0)=false from rfl,AJ,AX (by simp),show IntKind.u64.wrap (l.length:Int)=(l.length:Int) by rw [wrap_u64];omega,WB _ (by omega),AA]
  obtain ⟨r,t,rfl,hr0⟩:=QDc hf
  have hinc:inc (-1) (r.2.1 - 1) (r::t) n=true:=by
   simp only [Nh,AP,AZ] at hf
   exact Ur.2 ⟨⟨by omega,by omega,by omega⟩,by rw [hf.1.1];exact hf.2⟩
  exact wM big hn.2 (r::t) [] (-1) _ (vary (r::t).length) big hinc (by omega) hv (by simp only [Av];omega) (by omega) (QP4 (by omega)) 0 (by omega)
 ·rw [show (IC l n != 0)=true by simpa using h,AL,AY h]
end Go.Proofs.YtjcnhegjiffgpaaGreatDoor.T
