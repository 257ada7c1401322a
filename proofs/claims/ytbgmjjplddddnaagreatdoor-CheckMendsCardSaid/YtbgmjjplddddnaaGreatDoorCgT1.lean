import Derived.Test.YtbgmjjplddddnaaGreatDoorCgM0
set_option linter.unusedVariables false
set_option linter.unusedSimpArgs false
set_option linter.unusedSectionVars false
set_option maxRecDepth 100000
namespace Go.Proofs.YtbgmjjplddddnaaGreatDoor.T
open Go.Lift
abbrev TT:=Int×Int×Unit
def inc:Int->Int->List TT->Int->Bool
 | _,_,[],_=>true
 | f,v,r::l,n=>(decide (r.1 < n)&&(decide (f < r.1)&&decide (v≠r.2.1)))&&inc r.1 r.2.1 l n
def nk:List TT->Int->Bool
 | [],_=>false
 | r::l,n=>(decide (r.1=0)&&decide (0 < n))&&inc 0 r.2.1 l n
def mkR:Nat->Int->List Int->List TT
 | _,_,[]=>[]
 | k,p,x::v=>if x=p then mkR (k+1) p v else ((k:Int),x,())::mkR (k+1) x v
def lF:List Int->List TT
 | []=>[]
 | x::v=>(0,x,())::mkR 1 x v
theorem vN {f v n:Int} {r:TT} {l:List TT}:inc f v (r::l) n=true↔(r.1 < n/\f < r.1/\v≠r.2.1)/\inc r.1 r.2.1 l n=true:=by
 simp only [inc,AP,AZ]
theorem QFs:∀ {v:List Int} {k:Nat} {p f n:Int},f < k->(k:Int)+v.length<=n->inc f p (mkR k p v) n=true
 | [],_,_,_,_,_,_=>rfl
 | x::v,k,p,f,n,hf,hn=>by
  simp only [Af] at hn
  unfold mkR
  split
  ·exact QFs (by omega) (by omega)
  ·rename_i e
   exact vN.2 ⟨⟨by omega,hf,fun h=>e h.symm⟩,QFs (by omega) (by omega)⟩
theorem QHi {v:List Int} (h:v≠[]):nk (lF v) v.length=true:=by
 cases v with
 | nil=>exact absurd rfl h
 | cons x v=>
  simp only [lF,nk,AP,AZ,Af]
  exact ⟨⟨trivial,by omega⟩,QFs (by omega) (by omega)⟩
theorem QC4 {l:List TT} {n:Nat} (h:nk l n=true):l.length<=n:=by
 have key:∀ {t:List TT} {f v:Int},inc f v t n=true->(t.length:Int)+f < n∨t=[]:=by
  intro t
  induction t with
  | nil=>intro f v _;exact .inr rfl
  | cons r t ih=>
   intro f v h
   obtain ⟨⟨h1,h2,_⟩,h4⟩:=vN.1 h
   left
   rcases ih h4 with h5 | rfl
   ·simp only [Af];omega
   ·simp only [Af,Au];omega
 cases l with
 | nil=>simp
 | cons r t=>
  simp only [nk,AP,AZ] at h
  rcases key h.2 with h5 | rfl
  ·simp only [Af];omega
  ·simp only [Af,Au];omega
theorem t64 {z:Int} (h : -9223372036854775808<=z) (h':z<=9223372036854775807):IntKind.i64.wrap z=z:=wrap_i64 h h'
theorem QRP {n:Nat} (h:n<=1000000):n < big:=by
 have:1000000 < big:=by decide
 omega
theorem QPK {n:Nat} (h:n<=9223372036854775807):n < big:=by
 have:9223372036854775807 < big:=by decide
 omega
theorem QH5 {α:Type} {pre t:List α} {a:α} {i:Int} (h:i=(pre.length:Int)):Nk (pre++a::t) i=some a:=by
 subst h
 rw [TR]
 simp
theorem QJ5 {α:Type} {t:List α} {a:α}:Nk (a::t) 0=some a:=QH5 (pre:=[]) rfl
theorem QEf (N:Nat) (n:Int):∀ (t pre:List TT) (a:TT) (M:Nat),pre.length+t.length+1<=9223372036854775807->t.length < M->Gb (rZ N) M (pre++a::t,n,((pre.length+1:Nat):Int))=some (inc a.1 a.2.1 t n)
 | [],pre,a,M+1,hl,hM=>by
  rw [WZ]
  show iK _ _=_
  unfold iK
  dsimp only
  rw [AF (by simp),AJ]
  rfl
 | b::t,pre,a,M+1,hl,hM=>by
  rw [WZ]
  show iK _ _=_
  unfold iK
  dsimp only
  simp only [Af] at hl hM
  have e1:Nk (pre++a::b::t) ((pre.length+1:Nat):Int)=some b:=by
   rw [show pre++a::b::t=(pre++[a])++b::t by simp]
   exact QH5 (by simp)
  have e2:Nk (pre++a::b::t) ((pre.length:Nat):Int)=some a:=QH5 rfl
  have e3:IntKind.i64.wrap (((pre.length+1:Nat):Int) - 1)=((pre.length:Nat):Int):=by rw [t64 (by omega) (by omega)];omega
  have e4:IntKind.i64.wrap (((pre.length+1:Nat):Int)+1)=(((pre++[a]).length+1:Nat):Int):=by rw [t64 (by omega) (by omega)];simp
  rw [AB (show ((pre.length+1:Nat):Int) < ((pre++a::b::t).length:Int) by simp;omega),AL,AB (show ((pre.length+1:Nat):Int) > 0 by omega),AL]
  simp only [e1,e2,e3,e4,AA]
  have ih:=QEf N n t (pre++[a]) b M (by simp;omega) (by omega)
  rw [show (pre++[a])++b::t=pre++a::b::t by simp] at ih
  unfold inc
  by_cases h1:b.1 < n
  ·rw [AF (show ¬ b.1≥n by omega),AJ,AB h1,Ai]
   by_cases h2:a.1 < b.1
   ·rw [AF (show ¬ a.1≥b.1 by omega),AJ,AB h2,Ai]
    by_cases h3:a.2.1=b.2.1
    ·rw [show (a.2.1==b.2.1)=true by simp [h3],AL,AF (not_not_intro h3),Bool.false_and]
    ·rw [show (a.2.1==b.2.1)=false by simpa using h3,AJ,AB h3,Ai]
     exact ih
   ·rw [AB (show a.1≥b.1 by omega),AL,AF h2]
    rfl
  ·rw [AB (show b.1≥n by omega),AL,AF h1]
   rfl
theorem QGB (l:List TT) (n:Int) (hl:l.length<=9223372036854775807):wE (l,n)=some (nk l n):=by
 show wY (Gb (rZ big) big) (l,n)=_
 unfold wY
 dsimp only
 cases l with
 | nil=>rfl
 | cons r t=>
  simp only [Af] at hl
  rw [AF (by simp;omega),AJ,QJ5,AA]
  show _=some ((decide (r.1=0)&&decide (0 < n))&&inc 0 r.2.1 t n)
  by_cases h0:r.1=0
  ·rw [show (r.1 != 0)=false by simp [h0],AJ,AB h0,Ai]
   rw [YD,WZ]
   show iK _ _=_
   unfold iK
   dsimp only
   rw [AB (show (0:Int) < ((r::t).length:Int) by simp only [Af];omega),AL,QJ5,AA,h0]
   by_cases h1:0 < n
   ·rw [AF (show ¬ (0:Int)≥n by omega),AJ,AF (show ¬ (0:Int) > 0 by omega),AJ,AB h1,Ai]
    have:=QEf big n t [] r (big - 1) (by simp;omega) (by have:=QPK (n:=t.length+1) (by omega);omega)
    rw [h0] at this
    exact this
   ·rw [AB (show (0:Int)≥n by omega),AL,AF h1]
    rfl
  ·rw [show (r.1 != 0)=true by simpa using h0,AL,AF h0]
   rfl
def iG (l:List TT) (n:Int):Int:=if n < 1∨n > 200 then 2 else if nk l n=true then 0 else 8
theorem sK {l:List TT} {n:Int}:iG l n=0↔(1<=n/\n<=200)/\nk l n=true:=by
 unfold iG
 split
 ·constructor
  ·intro e;omega
  ·intro e;omega
 ·split
  ·rename_i h1 h2;simp [h2];omega
  ·rename_i h1 h2;simp [h2]
theorem yS {l:List TT} {n:Int} (h:iG l n=0):l.length<=200:=by
 obtain ⟨h1,h2⟩:=sK.1 h
 have:=QC4 (l:=l) (n:=n.toNat) (by rw [Int.toNat_of_nonneg (by omega)];exact h2)
 omega
def QIy (v:List Int):List TT×Int:=if v.length < 1∨v.length > 200 then ([],2) else (lF v,0)
def QE3:Int->List TT->List Int
 | _,[]=>[]
 | w,r::l=>vary (r.1 - w).toNat++(vary r.2.1.toNat++QE3 r.1 l)
def dP (l:List TT):List Int:=vary l.length++QE3 0 l
def V64 (l:List TT):Prop:=∀ r∈l,0<=r.2.1/\r.2.1 < 18446744073709551616
theorem QDT (N:Nat) {n:Int} (hn:n<=200):∀ (t pre:List TT) (f v:Int) (out:List Int) (M:Nat),inc f v t n=true->-1<=f->(∀ r∈t,0<=r.2.1/\r.2.1 < 18446744073709551616)->pre.length+t.length<=1000000->out.length+20 * t.length<=1000000->t.length < M->∀ w:Int,(0<=w/\w<=200/\(w<=f+1))->Gb (qF N) M (pre++t,w,((pre.length:Nat):Int),out)=some (out++QE3 w t)
 | [],pre,f,v,out,M+1,hi,hf,hv,hl,ho,hM,w,hw=>by
  rw [WZ]
  show mJ _ _=_
  unfold mJ
  dsimp only
  rw [AF (by simp),AJ]
  simp [QE3]
 | r::t,pre,f,v,out,M+1,hi,hf,hv,hl,ho,hM,w,hw=>by
  rw [WZ]
  show mJ _ _=_
  unfold mJ
  dsimp only
  simp only [Af] at hl ho hM
  obtain ⟨⟨h1,h2,h3⟩,h4⟩:=vN.1 hi
  have hr:=hv r (by simp)
  have e4:IntKind.i64.wrap (((pre.length:Nat):Int)+1)=(((pre++[r]).length:Nat):Int):=by rw [t64 (by omega) (by omega)];simp
  have ea:IntKind.u64.wrap (IntKind.i64.wrap (r.1 - w))=(((r.1 - w).toNat:Nat):Int):=by rw [t64 (by omega) (by omega),wrap_u64];omega
  have eb:bG r.2.1=some (vary r.2.1.toNat):=by
   have:=mM r.2.1.toNat (by omega)
   rwa [Int.toNat_of_nonneg hr.1] at this
  have la:=aY (r.1 - w).toNat
  have lb:=aY r.2.1.toNat
  have ih:=QDT N hn t (pre++[r]) r.1 r.2.1 (out++vary (r.1 - w).toNat++vary r.2.1.toNat) M h4 (by omega) (fun x hx=>hv x (by simp [hx])) (by simp;omega) (by simp only [AQ];omega) (by omega) r.1 (by omega)
  simp only [Ab,List.singleton_append] at ih
  rw [AB (show ((pre.length:Nat):Int) < ((pre++r::t).length:Int) by simp;omega),AL]
  simp only [QH5 rfl,AA,e4,ea,mM _ (show (r.1 - w).toNat < 18446744073709551616 by omega),eb]
  rw [b11,eF (by omega),Bool.and_self,AL,show List.append out (vary (r.1 - w).toNat)=out++vary (r.1 - w).toNat from rfl,eF (by simp only [AQ];omega),Bool.and_self,AL]
  rw [show List.append (out++vary (r.1 - w).toNat) (vary r.2.1.toNat)=out++(vary (r.1 - w).toNat++vary r.2.1.toNat) by simp]
  rw [ih]
  simp [QE3]
theorem QEJ {l:List TT} {n:Int} (h:nk l n=true) (hn:n<=200) (hv:V64 l):uH l=some (dP l):=by
 have hlen:l.length<=200:=by
  have h0:0 < n:=by
   cases l with
   | nil=>cases h
   | cons r t=>simp only [nk,AP,AZ] at h;exact h.1.2
  have:=QC4 (l:=l) (n:=n.toNat) (by rw [Int.toNat_of_nonneg (by omega)];exact h)
  omega
 show uh (Gb (qF big) big) l=_
 unfold uh
 dsimp only
 have la:=aY l.length
 rw [show IntKind.u64.wrap (l.length:Int)=(l.length:Int) by rw [wrap_u64];omega,mM _ (by omega),AA]
 have hinc:∃ v,inc (-1) v l n=true:=by
  cases l with
  | nil=>exact ⟨0,rfl⟩
  | cons r t=>
   simp only [nk,AP,AZ] at h
   refine ⟨r.2.1 - 1,vN.2 ⟨⟨by omega,by omega,by omega⟩,by rw [h.1.1];exact h.2⟩⟩
 obtain ⟨v,hinc⟩:=hinc
 exact QDT big hn l [] (-1) v (vary l.length) big hinc (by omega) hv (by simp;omega) (by omega) (QRP (by omega)) 0 (by omega)
def encR (l:List TT) (n:Int):List Int×Int:=if iG l n≠0 then ([],iG l n) else (dP l,0)
theorem QRQ {α:Type}:∀ (xs:List α) (i:Nat),nth xs i=xs[i]?
 | [],0=>rfl
 | [],i+1=>rfl
 | _::_,0=>rfl
 | x::xs,i+1=>(QRQ xs i).trans List.getElem?_cons_succ.symm
theorem QEV (n:Int):jv n=some (decide (1<=n/\n<=200)):=by
 show tX n=_
 unfold tX
 by_cases h:1<=n
 ·rw [AB (show n≥1 by omega),AL]
  congr 1
  by_cases h2:n<=200 <;> simp [h,h2]
 ·rw [AF (show ¬ n≥1 by omega),AJ]
  simp [h]
theorem QGx (a b:TT):gX (a,b)=some (decide (a.2.1=b.2.1)):=by
 show some (JW (.pair (.int .i64) (.pair (.int .u64) .unit)) (b.1,a.2) b)=_
 congr 1
 obtain ⟨a1,a2,a3⟩:=a
 obtain ⟨b1,b2,b3⟩:=b
 by_cases h:a2=b2
 ·subst h
  rw [AB rfl]
  exact XZ _ _
 ·rw [AF h]
  refine Ww fun e=>h ?_
  have:=congrArg (fun z:TT=>z.2.1) e
  exact this
def QFk:Int->Int->List TT->Bool
 | _,_,[]=>true
 | f,v,r::l=>(decide (f < r.1)&&decide (v≠r.2.1))&&QFk r.1 r.2.1 l
def QDn:Int->List TT->Int
 | f,[]=>f
 | _,r::l=>QDn r.1 l
theorem QGo:∀ {l:List TT} {f v:Int},QFk f v l=true->f<=QDn f l
 | [],f,v,_=>Int.le_refl _
 | r::l,f,v,h=>by
  simp only [QFk,AP,AZ] at h
  have:=QGo h.2
  simp only [QDn]
  omega
theorem QC6:∀ {l:List TT} {f v n:Int},f < n->(inc f v l n=true↔QFk f v l=true/\QDn f l < n)
 | [],f,v,n,hf=>by simp [inc,QFk,QDn,hf]
 | r::l,f,v,n,hf=>by
  rw [vN]
  simp only [QFk,QDn,AP,AZ]
  constructor
  ·rintro ⟨⟨h1,h2,h3⟩,h4⟩
   have:=(QC6 h1).1 h4
   exact ⟨⟨⟨h2,h3⟩,this.1⟩,this.2⟩
  ·rintro ⟨⟨⟨h2,h3⟩,h4⟩,h5⟩
   have:=QGo h4
   have h1:r.1 < n:=by omega
   exact ⟨⟨h1,h2,h3⟩,(QC6 h1).2 ⟨h4,h5⟩⟩
theorem QGn:∀ (r:TT) (t:List TT),∃ z,(r::t)[t.length]? = some z/\z.1=QDn r.1 t
 | r,[]=>⟨r,rfl,rfl⟩
 | r,b::t=>by
  obtain ⟨z,h1,h2⟩:=QGn b t
  exact ⟨z,by simpa using h1,h2⟩
theorem QEU (N:Nat):∀ (t pre:List TT) (a:TT) (M:Nat),pre.length+t.length+1<=9223372036854775807->t.length < M->
  Gb (oJ N) M (pre++a::t,((pre.length+t.length:Nat):Int),((pre.length:Nat):Int))=some (if QFk a.1 a.2.1 t=true then 0 else 8)
 | [],pre,a,M+1,hl,hM=>by
  rw [WZ]
  show j3 _ _=_
  unfold j3
  dsimp only
  rw [AF (by simp),AJ]
  rfl
 | b::t,pre,a,M+1,hl,hM=>by
  rw [WZ]
  show j3 _ _=_
  unfold j3
  dsimp only
  simp only [Af] at hl hM
  have e1:Nk (pre++a::b::t) ((pre.length+1:Nat):Int)=some b:=by
   rw [show pre++a::b::t=(pre++[a])++b::t by simp]
   exact QH5 (by simp)
  have e2:Nk (pre++a::b::t) ((pre.length:Nat):Int)=some a:=QH5 rfl
  have e4:IntKind.i64.wrap (((pre.length:Nat):Int)+1)=((pre.length+1:Nat):Int):=by rw [t64 (by omega) (by omega)];simp
  rw [AB (show ((pre.length:Nat):Int) < ((pre.length+(b::t).length:Nat):Int) by simp only [Af];omega),AL]
  simp only [e1,e2,e4,AA,QGx]
  have ih:=QEU N t (pre++[a]) b M (by simp;omega) (by omega)
  rw [show (pre++[a])++b::t=pre++a::b::t by simp,show (pre++[a]).length+t.length=pre.length+(b::t).length by simp;omega,show (pre++[a]).length=pre.length+1 by simp] at ih
  unfold QFk
  by_cases h1:a.1 < b.1
  ·rw [AF (show ¬ a.1≥b.1 by omega),AJ,AB h1,Ai]
   by_cases h2:a.2.1=b.2.1
   ·rw [AB h2,AL,AF (not_not_intro h2),Bool.false_and]
    rfl
   ·rw [AF h2,AJ,AB h2,Ai]
    exact ih
  ·rw [AB (show a.1≥b.1 by omega),AL,AF h1]
   rfl
theorem QCA (l:List TT) (n:Int) (hl:l.length<=9223372036854775807):iH (l,n)=some (iG l n):=by
 show sJ (Gb (oJ big) big) (l,n)=_
 unfold sJ iG
 dsimp only
 rw [QEV,AA]
 by_cases hn:1<=n/\n<=200
 ·rw [AB hn,Az,AJ,AX (by omega)]
  cases l with
  | nil=>rfl
  | cons r t=>
   simp only [Af] at hl
   rw [show (((r::t).length:Int)==0)=false by simp;omega,AJ,QJ5,AA]
   have hx:IntKind.i64.wrap (((r::t).length:Int) - 1)=((t.length:Nat):Int):=by
    simp only [Af]
    rw [t64 (by omega) (by omega)]
    omega
   obtain ⟨z,hz1,hz2⟩:=QGn r t
   simp only [hx,TR,hz1,AA]
   show _=some (if ((decide (r.1=0)&&decide (0 < n))&&inc 0 r.2.1 t n)=true then 0 else 8)
   by_cases h0:r.1=0
   ·rw [show (r.1 != 0)=false by simp [h0],AJ,AB h0,AB (show 0 < n by omega),Ai,Ai]
    have hs:=QC6 (l:=t) (f:=r.1) (v:=r.2.1) (n:=n) (by omega)
    rw [h0] at hs hz2
    by_cases hlast:z.1≥n
    ·rw [AB hlast,AL,AX (fun h=>by have:=(hs.1 h).2;omega)]
    ·rw [AF hlast,AJ]
     have:=QEU big t [] r big (by simp;omega) (QPK (by omega))
     simp only [List.nil_append,Au,Nat.zero_add,h0] at this
     refine this.trans ?_
     congr 1
     by_cases hp:QFk 0 r.2.1 t=true
     ·rw [AY hp,AY (hs.2 ⟨hp,by omega⟩)]
     ·rw [AX hp,AX (fun h=>hp (hs.1 h).1)]
   ·rw [show (r.1 != 0)=true by simp [h0],AL,AF h0]
    rfl
 ·rw [AF hn,A8,AL,AY (by omega)]
theorem QHY {l:List TT} {n:Int} (h:nk l n=true):∃ r t,l=r::t/\r.1=0:=by
 cases l with
 | nil=>cases h
 | cons r t=>simp only [nk,AP,AZ] at h;exact ⟨r,t,rfl,h.1.1⟩
theorem QAm (N:Nat):∀ (t pre:List Int) (q p:Int) (out:List TT) (M:Nat),pre.length+t.length<=1000000->out.length+t.length+1<=1000000->t.length < M->
  Gb (qG N) M (pre++t,((pre++t).length:Int),((pre.length:Nat):Int),out++[(q,p,())])=some (out++((q,p,())::mkR pre.length p t),0)
 | [],pre,q,p,out,M+1,hl,ho,hM=>by
  rw [WZ]
  show mK _ _=_
  unfold mK
  dsimp only
  rw [AF (by simp),AJ]
  rfl
 | x::t,pre,q,p,out,M+1,hl,ho,hM=>by
  rw [WZ]
  show mK _ _=_
  unfold mK
  dsimp only
  simp only [Af] at hl ho hM
  have e1:Nk (pre++x::t) ((pre.length:Nat):Int)=some x:=QH5 rfl
  have e2:IntKind.i64.wrap (((out++[(q,p,())]).length:Int) - 1)=((out.length:Nat):Int):=by
   simp only [AQ,Af,Au]
   rw [t64 (by omega) (by omega)]
   omega
  have e3:nth (out++[(q,p,())]) out.length=some (q,p,()):=by
   rw [QRQ]
   simp
  have e4:IntKind.i64.wrap (((pre.length:Nat):Int)+1)=(((pre++[x]).length:Nat):Int):=by rw [t64 (by omega) (by omega)];simp
  rw [AB (show ((pre.length:Nat):Int) < ((pre++x::t).length:Int) by simp;omega),AL]
  simp only [e1,e2,AA]
  rw [AB (show (0:Int)<=((out.length:Nat):Int) by omega),AB (show ((out.length:Nat):Int) < (((out++[(q,p,())]).length:Nat):Int) by simp;omega),Bool.and_self,AL,Aj,e3,AA,QGx,AA]
  unfold mkR
  by_cases h:p=x
  ·rw [AB h,Az,AJ,AY h.symm,e4]
   have ih:=QAm N t (pre++[x]) q p out M (by simp;omega) (by omega) (by omega)
   rw [show (pre++[x])++t=pre++x::t by simp] at ih
   rw [ih]
   simp
  ·rw [AF h,A8,AL,AX (Ne.symm h),show Nat.ble 1 2=true from rfl,eF (by simp;omega),Bool.and_self,AL,e4]
   have ih:=QAm N t (pre++[x]) ((pre.length:Nat):Int) x (out++[(q,p,())]) M (by simp;omega) (by simp;omega) (by omega)
   rw [show (pre++[x])++t=pre++x::t by simp] at ih
   refine ih.trans ?_
   simp
theorem QGu (v:List Int):uI v=some (QIy v):=by
 show uo (Gb (qG big) big) v=_
 unfold uo QIy
 dsimp only
 rw [QEV,AA]
 by_cases h:v.length < 1∨v.length > 200
 ·rw [AF (by omega),A8,AL,AY h]
 ·rw [AB (by omega),Az,AJ,AX h]
  cases v with
  | nil=>simp at h
  | cons x t=>
   simp only [Af] at h
   rw [QJ5,AA]
   rw [YD,WZ]
   have:=QAm big (x::t) [] 0 x [] big (by simp;omega) (by simp;omega) (QRP (by simp only [Af];omega))
   rw [YD,WZ] at this
   refine this.trans ?_
   simp [mkR,lF]
theorem QEZ (N:Nat) {n:Int} (hn:n<=200):∀ (t pre:List TT) (f v:Int) (out:List Int) (M:Nat),inc f v t n=true->-1<=f->(∀ r∈t,0<=r.2.1/\r.2.1 < 18446744073709551616)->pre.length+t.length<=1000000->out.length+20 * t.length<=1000000->t.length < M->∀ w:Int,(0<=w/\w<=200/\(w<=f+1))->
  Gb (nD N) M (w,pre++t,((pre++t).length:Int),((pre.length:Nat):Int),out)=some (out++QE3 w t,0)
 | [],pre,f,v,out,M+1,hi,hf,hv,hl,ho,hM,w,hw=>by
  rw [WZ]
  show jR _ _=_
  unfold jR
  dsimp only
  rw [AF (by simp),AJ]
  simp [QE3]
 | r::t,pre,f,v,out,M+1,hi,hf,hv,hl,ho,hM,w,hw=>by
  rw [WZ]
  show jR _ _=_
  unfold jR
  dsimp only
  simp only [Af] at hl ho hM
  obtain ⟨⟨h1,h2,h3⟩,h4⟩:=vN.1 hi
  have hr:=hv r (by simp)
  have e4:IntKind.i64.wrap (((pre.length:Nat):Int)+1)=(((pre++[r]).length:Nat):Int):=by rw [t64 (by omega) (by omega)];simp
  have ea:IntKind.u64.wrap (IntKind.i64.wrap (r.1 - w))=(((r.1 - w).toNat:Nat):Int):=by rw [t64 (by omega) (by omega),wrap_u64];omega
  have eb:fZ r.2.1=some (vary r.2.1.toNat):=by
   have:=xB r.2.1.toNat (by omega)
   rwa [Int.toNat_of_nonneg hr.1] at this
  have la:=aY (r.1 - w).toNat
  have lb:=aY r.2.1.toNat
  have ih:=QEZ N hn t (pre++[r]) r.1 r.2.1 (out++vary (r.1 - w).toNat++vary r.2.1.toNat) M h4 (by omega) (fun x hx=>hv x (by simp [hx])) (by simp;omega) (by simp only [AQ];omega) (by omega) r.1 (by omega)
  simp only [Ab,List.singleton_append] at ih
  rw [AB (show ((pre.length:Nat):Int) < ((pre++r::t).length:Int) by simp;omega),AL]
  simp only [QH5 rfl,AA,e4,ea,xB _ (show (r.1 - w).toNat < 18446744073709551616 by omega),eb]
  rw [b11,eF (by omega),Bool.and_self,AL,show List.append out (vary (r.1 - w).toNat)=out++vary (r.1 - w).toNat from rfl,eF (by simp only [AQ];omega),Bool.and_self,AL]
  rw [show List.append (out++vary (r.1 - w).toNat) (vary r.2.1.toNat)=out++(vary (r.1 - w).toNat++vary r.2.1.toNat) by simp]
  rw [ih]
  simp [QE3]
theorem QHm (l:List TT) (n:Int) (hl:l.length<=9223372036854775807) (hv:V64 l):vB (l,n)=some (encR l n):=by
 show qd (Gb (nD big) big) (l,n)=_
 unfold qd encR
 dsimp only
 rw [QCA l n hl,AA]
 by_cases h:iG l n=0
 ·obtain ⟨hn,hf⟩:=sK.1 h
  have hlen:=yS h
  have la:=aY l.length
  rw [h,show ((0:Int) != 0)=false from rfl,AJ,AX (by simp),show IntKind.u64.wrap (l.length:Int)=(l.length:Int) by rw [wrap_u64];omega,xB _ (by omega),AA]
  obtain ⟨r,t,rfl,hr0⟩:=QHY hf
  have hinc:inc (-1) (r.2.1 - 1) (r::t) n=true:=by
   simp only [nk,AP,AZ] at hf
   exact vN.2 ⟨⟨by omega,by omega,by omega⟩,by rw [hf.1.1];exact hf.2⟩
  exact QEZ big hn.2 (r::t) [] (-1) _ (vary (r::t).length) big hinc (by omega) hv (by simp only [Au];omega) (by omega) (QRP (by omega)) 0 (by omega)
 ·rw [show (iG l n != 0)=true by simpa using h,AL,AY h]
end Go.Proofs.YtbgmjjplddddnaaGreatDoor.T
