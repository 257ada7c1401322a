import Derived.Test.YtbgmjjplddddnaaGreatDoorCwM0
set_option linter.unusedVariables false
set_option linter.unusedSimpArgs false
set_option linter.unusedSectionVars false
set_option maxRecDepth 100000
namespace Go.Proofs.YtbgmjjplddddnaaGreatDoor.T
open Go.Lift
abbrev Tc:=Int×Int×Unit
def QEy (d:Int) (l:List Tc) (i:Int):Int:=l.foldl (fun v r=>if r.1<=i then r.2.1 else v) d
def inc:Int->Int->List Tc->Int->Bool
 | _,_,[],_=>true
 | f,v,r::l,n=>(decide (r.1 < n)&&(decide (f < r.1)&&decide (v≠r.2.1)))&&inc r.1 r.2.1 l n
def oK:List Tc->Int->Bool
 | [],_=>false
 | r::l,n=>(decide (r.1=0)&&decide (0 < n))&&inc 0 r.2.1 l n
def mkR:Nat->Int->List Int->List Tc
 | _,_,[]=>[]
 | k,p,x::v=>if x=p then mkR (k+1) p v else ((k:Int),x,())::mkR (k+1) x v
def iM:List Int->List Tc
 | []=>[]
 | x::v=>(0,x,())::mkR 1 x v
@[simp] theorem QNB (d i:Int):QEy d [] i=d:=rfl
theorem vX (d:Int) (r:Tc) (l:List Tc) (i:Int):QEy d (r::l) i=QEy (if r.1<=i then r.2.1 else d) l i:=rfl
theorem tK {f v n:Int} {r:Tc} {l:List Tc}:inc f v (r::l) n=true↔(r.1 < n/\f < r.1/\v≠r.2.1)/\inc r.1 r.2.1 l n=true:=by
 simp only [inc,AP,AZ]
theorem QJs:∀ {l:List Tc} {f v n d i:Int},inc f v l n=true->i<=f->QEy d l i=d
 | [],_,_,_,_,_,_,_=>rfl
 | r::l,f,v,n,d,i,h,hi=>by
  obtain ⟨⟨_,h2,_⟩,h4⟩:=tK.1 h
  rw [vX,AX (by omega)]
  exact QJs h4 (by omega)
theorem QDx:∀ {v:List Int} {k:Nat} {p f n:Int},f < k->(k:Int)+v.length<=n->inc f p (mkR k p v) n=true
 | [],_,_,_,_,_,_=>rfl
 | x::v,k,p,f,n,hf,hn=>by
  simp only [Af] at hn
  unfold mkR
  split
  ·exact QDx (by omega) (by omega)
  ·rename_i e
   exact tK.2 ⟨⟨by omega,hf,fun h=>e h.symm⟩,QDx (by omega) (by omega)⟩
theorem QGb:∀ {v:List Int} {k i:Nat} {p:Int},QEy p (mkR k p v) (i:Int)=if i < k then p else (v[i - k]?).getD (QEy p (mkR k p v) (i:Int))
 | [],k,i,p=>by split <;> simp [mkR,QNB]
 | x::v,k,i,p=>by
  have low:∀ q d:Int,i < k+1->QEy d (mkR (k+1) q v) (i:Int)=d:=fun q d hi=>QJs (n:=(k:Int)+1+v.length) (QDx (f:=(k:Int)) (by omega) (by omega)) (by omega)
  by_cases hi:i < k
  ·rw [AY hi]
   unfold mkR
   split
   ·exact low _ _ (by omega)
   ·rw [vX,AX (show ¬ (k:Int)<=(i:Int) by omega)]
    exact low _ _ (by omega)
  ·rw [AX hi]
   by_cases he:i=k
   ·subst he
    rw [show i - i=0 by omega]
    simp only [List.getElem?_cons_zero,BG]
    unfold mkR
    split
    ·rename_i e;rw [low _ _ (by omega),e]
    ·rw [vX,AY (Int.le_refl _)];exact low _ _ (by omega)
   ·obtain ⟨j,hj⟩:∃ j,i - k=j+1:=⟨i - k - 1,by omega⟩
    rw [hj,List.getElem?_cons_succ]
    have hj2:j=i - (k+1):=by omega
    unfold mkR
    split
    ·have:=QGb (v:=v) (k:=k+1) (i:=i) (p:=p)
     rw [AX (by omega),← hj2] at this
     exact this
    ·have:=QGb (v:=v) (k:=k+1) (i:=i) (p:=x)
     rw [AX (by omega),← hj2] at this
     rw [vX,AY (show (k:Int)<=(i:Int) by omega)]
     exact this
theorem QIR {v:List Int} (h:v≠[]):oK (iM v) v.length=true:=by
 cases v with
 | nil=>exact absurd rfl h
 | cons x v=>
  simp only [iM,oK,AP,AZ,Af]
  exact ⟨⟨trivial,by omega⟩,QDx (by omega) (by omega)⟩
theorem QKk {v:List Int} {i:Nat} {x:Int} (h:v[i]? = some x):QEy 0 (iM v) (i:Int)=x:=by
 cases v with
 | nil=>simp at h
 | cons y v=>
  unfold iM
  rw [vX,AY (by omega)]
  have:=QGb (v:=v) (k:=1) (i:=i) (p:=y)
  rw [this]
  cases i with
  | zero=>simp at h;rw [AY (by omega)];exact h
  | succ i=>
   rw [AX (by omega)]
   simp only [List.getElem?_cons_succ] at h
   simp [h]
theorem QCl {l:List Tc} {n:Nat} (h:oK l n=true):l.length<=n:=by
 have key:∀ {t:List Tc} {f v:Int},inc f v t n=true->(t.length:Int)+f < n∨t=[]:=by
  intro t
  induction t with
  | nil=>intro f v _;exact .inr rfl
  | cons r t ih=>
   intro f v h
   obtain ⟨⟨h1,h2,_⟩,h4⟩:=tK.1 h
   left
   rcases ih h4 with h5 | rfl
   ·simp only [Af];omega
   ·simp only [Af,Au];omega
 cases l with
 | nil=>simp
 | cons r t=>
  simp only [oK,AP,AZ] at h
  rcases key h.2 with h5 | rfl
  ·simp only [Af];omega
  ·simp only [Af,Au];omega
theorem t64 {z:Int} (h : -9223372036854775808<=z) (h':z<=9223372036854775807):IntKind.i64.wrap z=z:=wrap_i64 h h'
theorem QOy {n:Nat} (h:n<=1000000):n < big:=by
 have:1000000 < big:=by decide
 omega
theorem QQX {n:Nat} (h:n<=9223372036854775807):n < big:=by
 have:9223372036854775807 < big:=by decide
 omega
theorem QGn {α:Type} {pre t:List α} {a:α} {i:Int} (h:i=(pre.length:Int)):Nk (pre++a::t) i=some a:=by
 subst h
 rw [TR]
 simp
theorem QK9 {α:Type} {t:List α} {a:α}:Nk (a::t) 0=some a:=QGn (pre:=[]) rfl
theorem QFJ (N:Nat) (n:Int):∀ (t pre:List Tc) (a:Tc) (M:Nat),pre.length+t.length+1<=9223372036854775807->t.length < M->Gb (sP N) M (pre++a::t,n,((pre.length+1:Nat):Int))=some (inc a.1 a.2.1 t n)
 | [],pre,a,M+1,hl,hM=>by
  rw [WZ]
  show iU _ _=_
  unfold iU
  dsimp only
  rw [AF (by simp),AJ]
  rfl
 | b::t,pre,a,M+1,hl,hM=>by
  rw [WZ]
  show iU _ _=_
  unfold iU
  dsimp only
  simp only [Af] at hl hM
  have e1:Nk (pre++a::b::t) ((pre.length+1:Nat):Int)=some b:=by
   rw [show pre++a::b::t=(pre++[a])++b::t by simp]
   exact QGn (by simp)
  have e2:Nk (pre++a::b::t) ((pre.length:Nat):Int)=some a:=QGn rfl
  have e3:IntKind.i64.wrap (((pre.length+1:Nat):Int) - 1)=((pre.length:Nat):Int):=by rw [t64 (by omega) (by omega)];omega
  have e4:IntKind.i64.wrap (((pre.length+1:Nat):Int)+1)=(((pre++[a]).length+1:Nat):Int):=by rw [t64 (by omega) (by omega)];simp
  rw [AB (show ((pre.length+1:Nat):Int) < ((pre++a::b::t).length:Int) by simp;omega),AL,AB (show ((pre.length+1:Nat):Int) > 0 by omega),AL]
  simp only [e1,e2,e3,e4,AA]
  have ih:=QFJ N n t (pre++[a]) b M (by simp;omega) (by omega)
  rw [show (pre++[a])++b::t=pre++a::b::t by simp] at ih
  unfold inc
  by_cases h1:b.1 < n
  ·rw [AF (show ¬ b.1≥n by omega),AJ,AB h1,Ai]
   by_cases h2:a.1 < b.1
   ·rw [AF (show ¬ a.1≥b.1 by omega),AJ,AB h2,Ai]
    by_cases h3:a.2.1=b.2.1
    ·rw [show (a.2.1==b.2.1)=true by simp [h3],AL,AF (not_not_intro h3),Bool.false_and]
    ·rw [show (a.2.1==b.2.1)=false by simpa using h3,AJ,AB h3,Ai]
     exact ih
   ·rw [AB (show a.1≥b.1 by omega),AL,AF h2]
    rfl
  ·rw [AB (show b.1≥n by omega),AL,AF h1]
   rfl
theorem QGy (l:List Tc) (n:Int) (hl:l.length<=9223372036854775807):xB (l,n)=some (oK l n):=by
 show xQ (Gb (sP big) big) (l,n)=_
 unfold xQ
 dsimp only
 cases l with
 | nil=>rfl
 | cons r t=>
  simp only [Af] at hl
  rw [AF (by simp;omega),AJ,QK9,AA]
  show _=some ((decide (r.1=0)&&decide (0 < n))&&inc 0 r.2.1 t n)
  by_cases h0:r.1=0
  ·rw [show (r.1 != 0)=false by simp [h0],AJ,AB h0,Ai]
   rw [YD,WZ]
   show iU _ _=_
   unfold iU
   dsimp only
   rw [AB (show (0:Int) < ((r::t).length:Int) by simp only [Af];omega),AL,QK9,AA,h0]
   by_cases h1:0 < n
   ·rw [AF (show ¬ (0:Int)≥n by omega),AJ,AF (show ¬ (0:Int) > 0 by omega),AJ,AB h1,Ai]
    have:=QFJ big n t [] r (big - 1) (by simp;omega) (by have:=QQX (n:=t.length+1) (by omega);omega)
    rw [h0] at this
    exact this
   ·rw [AB (show (0:Int)≥n by omega),AL,AF h1]
    rfl
  ·rw [show (r.1 != 0)=true by simpa using h0,AL,AF h0]
   rfl
def iP (l:List Tc) (n:Int):Int:=if n < 1∨n > 200 then 2 else if oK l n=true then 0 else 8
theorem QHp (N:Nat) (i:Int):∀ (t pre:List Tc) (d:Int) (M:Nat),pre.length+t.length<=1000000->t.length < M->Gb (vo N) M (pre++t,i,d,((pre.length:Nat):Int))=some (QEy d t i)
 | [],pre,d,M+1,hl,hM=>by
  rw [WZ]
  show mX _ _=_
  unfold mX
  dsimp only
  rw [AF (by simp),AJ]
  rfl
 | r::t,pre,d,M+1,hl,hM=>by
  rw [WZ]
  show mX _ _=_
  unfold mX
  dsimp only
  simp only [Af] at hl hM
  have e4:IntKind.i64.wrap (((pre.length:Nat):Int)+1)=(((pre++[r]).length:Nat):Int):=by rw [t64 (by omega) (by omega)];simp
  have ih:=fun d'=>QHp N i t (pre++[r]) d' M (by simp;omega) (by omega)
  simp only [Ab,List.singleton_append] at ih
  rw [AB (show ((pre.length:Nat):Int) < ((pre++r::t).length:Int) by simp;omega),AL]
  simp only [QGn rfl,AA,e4,ih,vX]
  by_cases h:r.1<=i
  ·rw [AB h,AY h];rfl
  ·rw [AF h,AX h];rfl
theorem QKa (l:List Tc) (i:Int) (hl:l.length<=1000000):gZ (l,i)=some (QEy 0 l i):=
 QHp big i l [] 0 big (by simpa using hl) (QOy hl)
theorem tF {l:List Tc} {n:Int}:iP l n=0↔(1<=n/\n<=200)/\oK l n=true:=by
 unfold iP
 split
 ·constructor
  ·intro e;omega
  ·intro e;omega
 ·split
  ·rename_i h1 h2;simp [h2];omega
  ·rename_i h1 h2;simp [h2]
theorem zB {l:List Tc} {n:Int} (h:iP l n=0):l.length<=200:=by
 obtain ⟨h1,h2⟩:=tF.1 h
 have:=QCl (l:=l) (n:=n.toNat) (by rw [Int.toNat_of_nonneg (by omega)];exact h2)
 omega
def QJw (v:List Int):List Tc×Int:=if v.length < 1∨v.length > 200 then ([],2) else (iM v,0)
def QEi:Int->List Tc->List Int
 | _,[]=>[]
 | w,r::l=>vary (r.1 - w).toNat++(vary r.2.1.toNat++QEi r.1 l)
def dK (l:List Tc):List Int:=vary l.length++QEi 0 l
def V64 (l:List Tc):Prop:=∀ r∈l,0<=r.2.1/\r.2.1 < 18446744073709551616
theorem QED (N:Nat) {n:Int} (hn:n<=200):∀ (t pre:List Tc) (f v:Int) (out:List Int) (M:Nat),inc f v t n=true->-1<=f->(∀ r∈t,0<=r.2.1/\r.2.1 < 18446744073709551616)->pre.length+t.length<=1000000->out.length+20 * t.length<=1000000->t.length < M->∀ w:Int,(0<=w/\w<=200/\(w<=f+1))->Gb (qU N) M (pre++t,w,((pre.length:Nat):Int),out)=some (out++QEi w t)
 | [],pre,f,v,out,M+1,hi,hf,hv,hl,ho,hM,w,hw=>by
  rw [WZ]
  show mW _ _=_
  unfold mW
  dsimp only
  rw [AF (by simp),AJ]
  simp [QEi]
 | r::t,pre,f,v,out,M+1,hi,hf,hv,hl,ho,hM,w,hw=>by
  rw [WZ]
  show mW _ _=_
  unfold mW
  dsimp only
  simp only [Af] at hl ho hM
  obtain ⟨⟨h1,h2,h3⟩,h4⟩:=tK.1 hi
  have hr:=hv r (by simp)
  have e4:IntKind.i64.wrap (((pre.length:Nat):Int)+1)=(((pre++[r]).length:Nat):Int):=by rw [t64 (by omega) (by omega)];simp
  have ea:IntKind.u64.wrap (IntKind.i64.wrap (r.1 - w))=(((r.1 - w).toNat:Nat):Int):=by rw [t64 (by omega) (by omega),wrap_u64];omega
  have eb:bF r.2.1=some (vary r.2.1.toNat):=by
   have:=mg r.2.1.toNat (by omega)
   rwa [Int.toNat_of_nonneg hr.1] at this
  have la:=aZ (r.1 - w).toNat
  have lb:=aZ r.2.1.toNat
  have ih:=QED N hn t (pre++[r]) r.1 r.2.1 (out++vary (r.1 - w).toNat++vary r.2.1.toNat) M h4 (by omega) (fun x hx=>hv x (by simp [hx])) (by simp;omega) (by simp only [AQ];omega) (by omega) r.1 (by omega)
  simp only [Ab,List.singleton_append] at ih
  rw [AB (show ((pre.length:Nat):Int) < ((pre++r::t).length:Int) by simp;omega),AL]
  simp only [QGn rfl,AA,e4,ea,mg _ (show (r.1 - w).toNat < 18446744073709551616 by omega),eb]
  rw [b11,d9 (by omega),Bool.and_self,AL,show List.append out (vary (r.1 - w).toNat)=out++vary (r.1 - w).toNat from rfl,d9 (by simp only [AQ];omega),Bool.and_self,AL]
  rw [show List.append (out++vary (r.1 - w).toNat) (vary r.2.1.toNat)=out++(vary (r.1 - w).toNat++vary r.2.1.toNat) by simp]
  rw [ih]
  simp [QEi]
theorem QF1 {l:List Tc} {n:Int} (h:oK l n=true) (hn:n<=200) (hv:V64 l):uh l=some (dK l):=by
 have hlen:l.length<=200:=by
  have h0:0 < n:=by
   cases l with
   | nil=>cases h
   | cons r t=>simp only [oK,AP,AZ] at h;exact h.1.2
  have:=QCl (l:=l) (n:=n.toNat) (by rw [Int.toNat_of_nonneg (by omega)];exact h)
  omega
 show vO (Gb (qU big) big) l=_
 unfold vO
 dsimp only
 have la:=aZ l.length
 rw [show IntKind.u64.wrap (l.length:Int)=(l.length:Int) by rw [wrap_u64];omega,mg _ (by omega),AA]
 have hinc:∃ v,inc (-1) v l n=true:=by
  cases l with
  | nil=>exact ⟨0,rfl⟩
  | cons r t=>
   simp only [oK,AP,AZ] at h
   refine ⟨r.2.1 - 1,tK.2 ⟨⟨by omega,by omega,by omega⟩,by rw [h.1.1];exact h.2⟩⟩
 obtain ⟨v,hinc⟩:=hinc
 exact QED big hn l [] (-1) v (vary l.length) big hinc (by omega) hv (by simp;omega) (by omega) (QOy (by omega)) 0 (by omega)
def encR (l:List Tc) (n:Int):List Int×Int:=if iP l n≠0 then ([],iP l n) else (dK l,0)
theorem QSc {α:Type}:∀ (xs:List α) (i:Nat),nth xs i=xs[i]?
 | [],0=>rfl
 | [],i+1=>rfl
 | _::_,0=>rfl
 | x::xs,i+1=>(QSc xs i).trans List.getElem?_cons_succ.symm
theorem QFA (n:Int):kH n=some (decide (1<=n/\n<=200)):=by
 show uP n=_
 unfold uP
 by_cases h:1<=n
 ·rw [AB (show n≥1 by omega),AL]
  congr 1
  by_cases h2:n<=200 <;> simp [h,h2]
 ·rw [AF (show ¬ n≥1 by omega),AJ]
  simp [h]
theorem QHg (a b:Tc):gq (a,b)=some (decide (a.2.1=b.2.1)):=by
 show some (JW (.pair (.int .i64) (.pair (.int .u64) .unit)) (b.1,a.2) b)=_
 congr 1
 obtain ⟨a1,a2,a3⟩:=a
 obtain ⟨b1,b2,b3⟩:=b
 by_cases h:a2=b2
 ·subst h
  rw [AB rfl]
  exact XZ _ _
 ·rw [AF h]
  refine Ww fun e=>h ?_
  have:=congrArg (fun z:Tc=>z.2.1) e
  exact this
def QGU:Int->Int->List Tc->Bool
 | _,_,[]=>true
 | f,v,r::l=>(decide (f < r.1)&&decide (v≠r.2.1))&&QGU r.1 r.2.1 l
def QES:Int->List Tc->Int
 | f,[]=>f
 | _,r::l=>QES r.1 l
theorem QHW:∀ {l:List Tc} {f v:Int},QGU f v l=true->f<=QES f l
 | [],f,v,_=>Int.le_refl _
 | r::l,f,v,h=>by
  simp only [QGU,AP,AZ] at h
  have:=QHW h.2
  simp only [QES]
  omega
theorem QCn:∀ {l:List Tc} {f v n:Int},f < n->(inc f v l n=true↔QGU f v l=true/\QES f l < n)
 | [],f,v,n,hf=>by simp [inc,QGU,QES,hf]
 | r::l,f,v,n,hf=>by
  rw [tK]
  simp only [QGU,QES,AP,AZ]
  constructor
  ·rintro ⟨⟨h1,h2,h3⟩,h4⟩
   have:=(QCn h1).1 h4
   exact ⟨⟨⟨h2,h3⟩,this.1⟩,this.2⟩
  ·rintro ⟨⟨⟨h2,h3⟩,h4⟩,h5⟩
   have:=QHW h4
   have h1:r.1 < n:=by omega
   exact ⟨⟨h1,h2,h3⟩,(QCn h1).2 ⟨h4,h5⟩⟩
theorem QHV:∀ (r:Tc) (t:List Tc),∃ z,(r::t)[t.length]? = some z/\z.1=QES r.1 t
 | r,[]=>⟨r,rfl,rfl⟩
 | r,b::t=>by
  obtain ⟨z,h1,h2⟩:=QHV b t
  exact ⟨z,by simpa using h1,h2⟩
theorem QF9 (N:Nat):∀ (t pre:List Tc) (a:Tc) (M:Nat),pre.length+t.length+1<=9223372036854775807->t.length < M->
  Gb (oU N) M (pre++a::t,((pre.length+t.length:Nat):Int),((pre.length:Nat):Int))=some (if QGU a.1 a.2.1 t=true then 0 else 8)
 | [],pre,a,M+1,hl,hM=>by
  rw [WZ]
  show kK _ _=_
  unfold kK
  dsimp only
  rw [AF (by simp),AJ]
  rfl
 | b::t,pre,a,M+1,hl,hM=>by
  rw [WZ]
  show kK _ _=_
  unfold kK
  dsimp only
  simp only [Af] at hl hM
  have e1:Nk (pre++a::b::t) ((pre.length+1:Nat):Int)=some b:=by
   rw [show pre++a::b::t=(pre++[a])++b::t by simp]
   exact QGn (by simp)
  have e2:Nk (pre++a::b::t) ((pre.length:Nat):Int)=some a:=QGn rfl
  have e4:IntKind.i64.wrap (((pre.length:Nat):Int)+1)=((pre.length+1:Nat):Int):=by rw [t64 (by omega) (by omega)];simp
  rw [AB (show ((pre.length:Nat):Int) < ((pre.length+(b::t).length:Nat):Int) by simp only [Af];omega),AL]
  simp only [e1,e2,e4,AA,QHg]
  have ih:=QF9 N t (pre++[a]) b M (by simp;omega) (by omega)
  rw [show (pre++[a])++b::t=pre++a::b::t by simp,show (pre++[a]).length+t.length=pre.length+(b::t).length by simp;omega,show (pre++[a]).length=pre.length+1 by simp] at ih
  unfold QGU
  by_cases h1:a.1 < b.1
  ·rw [AF (show ¬ a.1≥b.1 by omega),AJ,AB h1,Ai]
   by_cases h2:a.2.1=b.2.1
   ·rw [AB h2,AL,AF (not_not_intro h2),Bool.false_and]
    rfl
   ·rw [AF h2,AJ,AB h2,Ai]
    exact ih
  ·rw [AB (show a.1≥b.1 by omega),AL,AF h1]
   rfl
theorem QCt (l:List Tc) (n:Int) (hl:l.length<=9223372036854775807):iQ (l,n)=some (iP l n):=by
 show su (Gb (oU big) big) (l,n)=_
 unfold su iP
 dsimp only
 rw [QFA,AA]
 by_cases hn:1<=n/\n<=200
 ·rw [AB hn,Az,AJ,AX (by omega)]
  cases l with
  | nil=>rfl
  | cons r t=>
   simp only [Af] at hl
   rw [show (((r::t).length:Int)==0)=false by simp;omega,AJ,QK9,AA]
   have hx:IntKind.i64.wrap (((r::t).length:Int) - 1)=((t.length:Nat):Int):=by
    simp only [Af]
    rw [t64 (by omega) (by omega)]
    omega
   obtain ⟨z,hz1,hz2⟩:=QHV r t
   simp only [hx,TR,hz1,AA]
   show _=some (if ((decide (r.1=0)&&decide (0 < n))&&inc 0 r.2.1 t n)=true then 0 else 8)
   by_cases h0:r.1=0
   ·rw [show (r.1 != 0)=false by simp [h0],AJ,AB h0,AB (show 0 < n by omega),Ai,Ai]
    have hs:=QCn (l:=t) (f:=r.1) (v:=r.2.1) (n:=n) (by omega)
    rw [h0] at hs hz2
    by_cases hlast:z.1≥n
    ·rw [AB hlast,AL,AX (fun h=>by have:=(hs.1 h).2;omega)]
    ·rw [AF hlast,AJ]
     have:=QF9 big t [] r big (by simp;omega) (QQX (by omega))
     simp only [List.nil_append,Au,Nat.zero_add,h0] at this
     refine this.trans ?_
     congr 1
     by_cases hp:QGU 0 r.2.1 t=true
     ·rw [AY hp,AY (hs.2 ⟨hp,by omega⟩)]
     ·rw [AX hp,AX (fun h=>hp (hs.1 h).1)]
   ·rw [show (r.1 != 0)=true by simp [h0],AL,AF h0]
    rfl
 ·rw [AF hn,A8,AL,AY (by omega)]
theorem QIK {l:List Tc} {n:Int} (h:oK l n=true):∃ r t,l=r::t/\r.1=0:=by
 cases l with
 | nil=>cases h
 | cons r t=>simp only [oK,AP,AZ] at h;exact ⟨r,t,rfl,h.1.1⟩
theorem QBF (N:Nat):∀ (t pre:List Int) (q p:Int) (out:List Tc) (M:Nat),pre.length+t.length<=1000000->out.length+t.length+1<=1000000->t.length < M->
  Gb (qV N) M (pre++t,((pre++t).length:Int),((pre.length:Nat):Int),out++[(q,p,())])=some (out++((q,p,())::mkR pre.length p t),0)
 | [],pre,q,p,out,M+1,hl,ho,hM=>by
  rw [WZ]
  show mY _ _=_
  unfold mY
  dsimp only
  rw [AF (by simp),AJ]
  rfl
 | x::t,pre,q,p,out,M+1,hl,ho,hM=>by
  rw [WZ]
  show mY _ _=_
  unfold mY
  dsimp only
  simp only [Af] at hl ho hM
  have e1:Nk (pre++x::t) ((pre.length:Nat):Int)=some x:=QGn rfl
  have e2:IntKind.i64.wrap (((out++[(q,p,())]).length:Int) - 1)=((out.length:Nat):Int):=by
   simp only [AQ,Af,Au]
   rw [t64 (by omega) (by omega)]
   omega
  have e3:nth (out++[(q,p,())]) out.length=some (q,p,()):=by
   rw [QSc]
   simp
  have e4:IntKind.i64.wrap (((pre.length:Nat):Int)+1)=(((pre++[x]).length:Nat):Int):=by rw [t64 (by omega) (by omega)];simp
  rw [AB (show ((pre.length:Nat):Int) < ((pre++x::t).length:Int) by simp;omega),AL]
  simp only [e1,e2,AA]
  rw [AB (show (0:Int)<=((out.length:Nat):Int) by omega),AB (show ((out.length:Nat):Int) < (((out++[(q,p,())]).length:Nat):Int) by simp;omega),Bool.and_self,AL,Aj,e3,AA,QHg,AA]
  unfold mkR
  by_cases h:p=x
  ·rw [AB h,Az,AJ,AY h.symm,e4]
   have ih:=QBF N t (pre++[x]) q p out M (by simp;omega) (by omega) (by omega)
   rw [show (pre++[x])++t=pre++x::t by simp] at ih
   rw [ih]
   simp
  ·rw [AF h,A8,AL,AX (Ne.symm h),show Nat.ble 1 2=true from rfl,d9 (by simp;omega),Bool.and_self,AL,e4]
   have ih:=QBF N t (pre++[x]) ((pre.length:Nat):Int) x (out++[(q,p,())]) M (by simp;omega) (by simp;omega) (by omega)
   rw [show (pre++[x])++t=pre++x::t by simp] at ih
   refine ih.trans ?_
   simp
theorem QHd (v:List Int):um v=some (QJw v):=by
 show vS (Gb (qV big) big) v=_
 unfold vS QJw
 dsimp only
 rw [QFA,AA]
 by_cases h:v.length < 1∨v.length > 200
 ·rw [AF (by omega),A8,AL,AY h]
 ·rw [AB (by omega),Az,AJ,AX h]
  cases v with
  | nil=>simp at h
  | cons x t=>
   simp only [Af] at h
   rw [QK9,AA]
   rw [YD,WZ]
   have:=QBF big (x::t) [] 0 x [] big (by simp;omega) (by simp;omega) (QOy (by simp only [Af];omega))
   rw [YD,WZ] at this
   refine this.trans ?_
   simp [mkR,iM]
theorem QFD (N:Nat) {n:Int} (hn:n<=200):∀ (t pre:List Tc) (f v:Int) (out:List Int) (M:Nat),inc f v t n=true->-1<=f->(∀ r∈t,0<=r.2.1/\r.2.1 < 18446744073709551616)->pre.length+t.length<=1000000->out.length+20 * t.length<=1000000->t.length < M->∀ w:Int,(0<=w/\w<=200/\(w<=f+1))->
  Gb (nN N) M (w,pre++t,((pre++t).length:Int),((pre.length:Nat):Int),out)=some (out++QEi w t,0)
 | [],pre,f,v,out,M+1,hi,hf,hv,hl,ho,hM,w,hw=>by
  rw [WZ]
  show je _ _=_
  unfold je
  dsimp only
  rw [AF (by simp),AJ]
  simp [QEi]
 | r::t,pre,f,v,out,M+1,hi,hf,hv,hl,ho,hM,w,hw=>by
  rw [WZ]
  show je _ _=_
  unfold je
  dsimp only
  simp only [Af] at hl ho hM
  obtain ⟨⟨h1,h2,h3⟩,h4⟩:=tK.1 hi
  have hr:=hv r (by simp)
  have e4:IntKind.i64.wrap (((pre.length:Nat):Int)+1)=(((pre++[r]).length:Nat):Int):=by rw [t64 (by omega) (by omega)];simp
  have ea:IntKind.u64.wrap (IntKind.i64.wrap (r.1 - w))=(((r.1 - w).toNat:Nat):Int):=by rw [t64 (by omega) (by omega),wrap_u64];omega
  have eb:fU r.2.1=some (vary r.2.1.toNat):=by
   have:=xW r.2.1.toNat (by omega)
   rwa [Int.toNat_of_nonneg hr.1] at this
  have la:=aZ (r.1 - w).toNat
  have lb:=aZ r.2.1.toNat
  have ih:=QFD N hn t (pre++[r]) r.1 r.2.1 (out++vary (r.1 - w).toNat++vary r.2.1.toNat) M h4 (by omega) (fun x hx=>hv x (by simp [hx])) (by simp;omega) (by simp only [AQ];omega) (by omega) r.1 (by omega)
  simp only [Ab,List.singleton_append] at ih
  rw [AB (show ((pre.length:Nat):Int) < ((pre++r::t).length:Int) by simp;omega),AL]
  simp only [QGn rfl,AA,e4,ea,xW _ (show (r.1 - w).toNat < 18446744073709551616 by omega),eb]
  rw [b11,d9 (by omega),Bool.and_self,AL,show List.append out (vary (r.1 - w).toNat)=out++vary (r.1 - w).toNat from rfl,d9 (by simp only [AQ];omega),Bool.and_self,AL]
  rw [show List.append (out++vary (r.1 - w).toNat) (vary r.2.1.toNat)=out++(vary (r.1 - w).toNat++vary r.2.1.toNat) by simp]
  rw [ih]
  simp [QEi]
theorem QIV (l:List Tc) (n:Int) (hl:l.length<=9223372036854775807) (hv:V64 l):vg (l,n)=some (encR l n):=by
 show rC (Gb (nN big) big) (l,n)=_
 unfold rC encR
 dsimp only
 rw [QCt l n hl,AA]
 by_cases h:iP l n=0
 ·obtain ⟨hn,hf⟩:=tF.1 h
  have hlen:=zB h
  have la:=aZ l.length
  rw [h,show ((0:Int) != 0)=false from rfl,AJ,AX (by simp),show IntKind.u64.wrap (l.length:Int)=(l.length:Int) by rw [wrap_u64];omega,xW _ (by omega),AA]
  obtain ⟨r,t,rfl,hr0⟩:=QIK hf
  have hinc:inc (-1) (r.2.1 - 1) (r::t) n=true:=by
   simp only [oK,AP,AZ] at hf
   exact tK.2 ⟨⟨by omega,by omega,by omega⟩,by rw [hf.1.1];exact hf.2⟩
  exact QFD big hn.2 (r::t) [] (-1) _ (vary (r::t).length) big hinc (by omega) hv (by simp only [Au];omega) (by omega) (QOy (by omega)) 0 (by omega)
 ·rw [show (iP l n != 0)=true by simpa using h,AL,AY h]
end Go.Proofs.YtbgmjjplddddnaaGreatDoor.T
