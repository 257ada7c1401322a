import Derived.Test.YtjcnhegjiffgpaaGreatDoorCtF4
set_option linter.unusedVariables false
set_option linter.unusedSimpArgs false
set_option linter.unusedSectionVars false
set_option maxRecDepth 100000
namespace Go.Proofs.YtjcnhegjiffgpaaGreatDoor.C
open Go.Lift
structure Vf (n:Nat) (f:DX):Prop where
 sl:f.2.2.2.1.length<=16
 ty:∀ s∈f.2.2.2.1,0<=s.2.1/\s.2.1 < n
 par:0<=f.2.1/\f.2.1<=f.2.2.2.1.length
 res:f.2.2.1 = -1\/0<=f.2.2.1/\f.2.2.1 < n
 cd:1<=f.2.2.2.2.1.length/\f.2.2.2.2.1.length<=200
 ok:∀ x∈f.2.2.2.2.1,Qf x=true
structure Vm (m:DF):Prop where
 ty:m.1.length<=32
 tx:m.2.1.length<=32
 fn:1<=m.2.2.1.length/\m.2.2.1.length<=32
 ok:∀ f∈m.2.2.1,Vf m.1.length f
 sz:K.Valid m.1/\∀ i:Nat,i < m.1.length->K.sz (K.exS m.1) i<=256
theorem QL1 {x n:Int} (h:K.Fq x n=true):0<=x/\x < n:=by simpa [K.Fq] using h
theorem mo {m:DF} (h:Yq m=true):Vm m:=by
 simp only [Yq,T9,YQ,bQ,AP,AZ] at h
 obtain ⟨⟨hv,hsz⟩,⟨htx,_⟩,h1,h2,hf,_⟩:=h
 refine ⟨hv.1,htx,⟨h1,h2⟩,λf hf'=>?_,hv,λi hi=>?_⟩
 ·have:=List.all_eq_true.1 hf f hf'
  simp only [okF,Zz,gV,AP,Bool.or_eq_true,AZ] at this
  obtain ⟨⟨s1,s2,_⟩,p1,p2,r,⟨c1,c2,c3⟩,_⟩:=this
  exact ⟨s1,λs hs=>QL1 (List.all_eq_true.1 s2 s hs),⟨p1,p2⟩,r.imp id QL1,⟨c1,c2⟩,λx hx=>List.all_eq_true.1 c3 x hx⟩
 ·have:=List.all_eq_true.1 hsz i (by simp [List.mem_range'_1];exact hi)
  simpa using this
theorem FH {α:Type} {l:List α} {i:Int} (h0:0<=i) (h1:i < l.length):∃ x,BX l i=some x/\l[i.toNat]? = some x/\x∈l:=by
 obtain ⟨k,rfl⟩:=BL h0
 have hk:k < l.length:=by omega
 exact ⟨l[k],gI hk,by simp [hk],Ae hk⟩
def Gm (f:DX) (s:Int):Int:=((f.2.2.2.1[s.toNat]?).map λz=>z.2.1).getD 0
def WS (l:List K.ES) (t:Int):Int:=((l[t.toNat]?).map λz=>z.1).getD 0
def eF (f:DX) (s:Int):Prop:=0<=s/\s < f.2.2.2.1.length
theorem Je (m:DF) {f:DX} {s:Int} (h:eF f s):Bq ((m,f,()),s)=some (Gm f s):=by
 obtain ⟨x,h1,h2,_⟩:=FH h.1 h.2
 show NU _=_
 unfold NU
 dsimp only
 rw [h1,AA,Gm,h2]
 rfl
theorem WA {n:Nat} {f:DX} (v:Vf n f) {s:Int} (h:eF f s):0<=Gm f s/\Gm f s < n:=by
 obtain ⟨x,h1,h2,h3⟩:=FH h.1 h.2
 rw [Gm,h2]
 exact v.ty x h3
theorem UD {l:List K.ES} {t:Int} (h:0<=t/\t < l.length):∃ x,BX l t=some x/\l[t.toNat]? = some x/\x∈l/\WS l t=x.1:=by
 obtain ⟨x,h1,h2,h3⟩:=FH h.1 h.2
 exact ⟨x,h1,h2,h3,by rw [WS,h2];rfl⟩
theorem bG {m:DF} {f:DX} (v:Vf m.1.length f) {s:Int} (h:eF f s):DN ((m,f,()),s)=some (WS m.1 (Gm f s)):=by
 obtain ⟨x,h1,_,_,h2⟩:=UD (WA v h)
 show NS _=_
 unfold NS
 dsimp only
 rw [Je m h,AA,h1,AA,h2]
theorem QDL {m:DF} {f:DX} (v:Vf m.1.length f) (k:Int) (l:List Int) (hl:l.length<=1000) (h:∀ s∈l,eF f s):Bf ((m,f,()),k,l)=some (l.all λs=>decide (WS m.1 (Gm f s)=k)):=by
 show JZ (BP (EC big) big) _=_
 unfold JZ
 have:=CQ (g:=EC big) (mk:=λi=>(l,(l.length:Int),(i:Int),(m,f,()),k)) (p:=λi=>(l[i]?).all λs=>decide (WS m.1 (Gm f s)=k)) (no:=some false) (kk:=some true) (n:=l.length)
  (λself i hi=>by
   simp only [EC,OU,Dq hi,AL,gI hi,AA,bG v (h _ (Ae hi)),wS hi (by omega),pat hi]
   by_cases e:WS m.1 (Gm f l[i])=k
   ·simp [e]
   ·have e2:(WS m.1 (Gm f l[i]) != k)=true:=by simp [e]
    have e3:decide ((i:Int)>=0)=true:=AB (by omega)
    simp only [e2,e,decide_false,AL,AJ,e3]
    rfl)
  (λself=>by simp only [EC,OU,Dk,AJ];rfl) l.length 0 big (by omega) (Df (by omega))
 rw [cB,show ((0:Nat):Int)=0 from rfl] at this
 dsimp only
 rw [this]
 cases l.all _ <;> rfl
theorem rz (k:Int) (l:List Int) (hl:l.length<=1000):Jm (k,l)=some (decide (k∈l)):=by
 show (Dz (l,k)).bind _=_
 rw [K.lV l k hl]
 rfl
def uW (k:Int):Bool:=decide (k∈([2,1,4]:List Int))
theorem sD (k:Int):LY k=some (uW k):=by
 show U3 k=_
 unfold U3
 dsimp only
 rw [rz _ _ (by simp)]
 rfl
def j5 (l:List K.ES) (f:DX) (s o c:Int):Bool:=((l[(Gm f o).toNat]?).bind λt=>(t.2.2.2.1[c.toNat]?).map λg=>decide (g.2.1=Gm f s)).getD false
theorem ru {m:DF} {f:DX} (v:Vf m.1.length f) {s o c:Int} (hs:eF f s) (ho:eF f o) (hc:0<=c):FK ((m,f,()),s,o,c)=some (j5 m.1 f s o c):=by
 obtain ⟨x,h1,h2,_,_⟩:=UD (WA v ho)
 show MP _=_
 unfold MP j5
 dsimp only
 rw [Je m ho,AA,h1,AA,h2,AA]
 by_cases hlt:c < x.2.2.2.1.length
 ·obtain ⟨g,g1,g2,_⟩:=FH hc hlt
  rw [AB hlt,AL,g1,AA,Je m hs,AA,g2]
  rfl
 ·rw [AF hlt,AJ,Aw (by omega)]
  rfl
def mE (l:List K.ES) (f:DX) (s o:Int) (ks:List Int):Bool:=decide (WS l (Gm f o)∈ks)&&decide ((((l[(Gm f o).toNat]?).map λt=>t.2.1).getD 0)=Gm f s)
theorem bD {m:DF} {f:DX} (v:Vf m.1.length f) {s o:Int} {ks:List Int} (hs:eF f s) (ho:eF f o) (hk:ks.length<=1000):Dl ((m,f,()),s,o,ks)=some (mE m.1 f s o ks):=by
 obtain ⟨x,h1,h2,_,_⟩:=UD (WA v ho)
 show NR _=_
 unfold NR mE
 dsimp only
 rw [bG v ho,AA,rz _ _ hk,AA]
 by_cases hm:WS m.1 (Gm f o)∈ks
 ·rw [AB hm,AL,Je m ho,AA,h1,AA,Je m hs,AA,h2,Ai]
  rfl
 ·rw [AF hm,AJ,Bool.false_and]
def QCU (f:DX) (s r:Int):Bool:=decide (s = -1)||decide (Gm f s=r)
theorem aC (m:DF) {f:DX} {s:Int} (g:DX) (hs:s≠-1->eF f s):Dy ((m,f,()),s,g)=some (QCU f s g.2.2.1):=by
 show Ib _=_
 unfold Ib QCU
 dsimp only
 by_cases h:s = -1
 ·simp [h]
 ·have e:(s==(-1:Int))=false:=by simp [h]
  rw [e,AJ,Je m (hs h),AA,AF h,Bool.false_or]
  rfl
def QC1 (l:List K.ES) (g:DX):Bool:=decide (g.2.2.1 = -1)&&(decide (g.2.1=0)||decide (g.2.1=1)&&uW (WS l (Gm g 0)))
theorem yj {m:DF} (f:DX) {g:DX} (v:Vf m.1.length g):EX ((m,f,()),g)=some (QC1 m.1 g):=by
 show Jz _=_
 unfold Jz QC1
 dsimp only
 by_cases h:g.2.2.1 = -1
 rotate_left
 ·have e:(g.2.2.1 != (-1:Int))=true:=by simp [h]
  rw [e,AL,AF h,Bool.false_and]
 have e:(g.2.2.1 != (-1:Int))=false:=by simp [h]
 rw [e,AJ,AB h,Ai]
 by_cases h1:g.2.1 > 1
 ·rw [AB h1,AL,AF (by omega),AF (by omega)]
  rfl
 rw [AF h1,AJ]
 by_cases h2:g.2.1=0
 ·have e:(g.2.1==(0:Int))=true:=by simp [h2]
  rw [e,AL,AB h2,Bool.true_or]
 have h3:g.2.1=1:=by have:=v.par.1;omega
 have e:(g.2.1==(0:Int))=false:=by simp [h2]
 have h0:eF g 0:=⟨Int.le_refl _,by have:=v.par.2;omega⟩
 obtain ⟨z,z1,z2,z3⟩:=FH h0.1 h0.2
 have hz:Gm g 0=z.2.1:=by rw [Gm,z2];rfl
 obtain ⟨x,x1,_,_,x2⟩:=UD (WA v h0)
 rw [hz] at x1 x2
 rw [e,AJ,z1,AA,x1,AA,sD,AA,AF h2,AB h3,Bool.false_or,Ai,hz,x2]
def NH (x:Ins):Option Int:=if x.1=25 then some x.2.2.1 else if x.1=26\/x.1=27 then some x.2.1 else none
theorem wE (x:Ins):NW x=some ((NH x).getD 0,(NH x).isSome):=by
 show WU x=_
 unfold WU NH
 by_cases a:x.1=25
 ·simp [a]
 by_cases b:x.1=26
 ·simp [b]
 by_cases c:x.1=27
 ·simp [c]
 simp [a,b,c,EW]
theorem role {x:Ins} (h:Qf x=true) {k:Nat} (e:x.1=(k:Int)) {a b c:Int} (hr:Xc (k:Int)=[a,b,c]):fit a x.2.1=true/\fit b x.2.2.1=true/\fit c x.2.2.2.1=true/\F.rS x=rs1 a x.2.1++(rs1 b x.2.2.1++(rs1 c x.2.2.2.1++[]))/\F.wS x=ws1 a x.2.1++(ws1 b x.2.2.1++(ws1 c x.2.2.2.1++[])):=by
 obtain ⟨a',b',c',ho,er,ha,hb,hc,fa,fb,fc⟩:=Jc h
 rw [e,hr] at er
 simp only [List.cons.injEq,and_true] at er
 obtain ⟨rfl,rfl,rfl⟩:=er
 refine ⟨fa,fb,fc,?_,?_⟩
 ·show rsL (Xc x.1) (vals x)=_
  rw [e,hr];rfl
 ·show wsL (Xc x.1) (vals x)=_
  rw [e,hr];rfl
theorem Xm {x:Ins} (h:Qf x=true) {g:Int} (hg:NH x=some g):0<=g:=by
 unfold NH at hg
 split at hg
 ·rename_i e
  cases hg
  obtain ⟨_,fb,_⟩:=role h (k:=25) e (show Xc ((25:Nat):Int)=[4,9,0] by decide +kernel)
  simp [fit,idx] at fb;omega
 ·split at hg
  ·rename_i e
   cases hg
   rcases e with e | e
   ·obtain ⟨fa,_⟩:=role h (k:=26) e (show Xc ((26:Nat):Int)=[9,0,0] by decide +kernel)
    simp [fit,idx] at fa;omega
   ·obtain ⟨fa,_⟩:=role h (k:=27) e (show Xc ((27:Nat):Int)=[9,0,0] by decide +kernel)
    simp [fit,idx] at fa;omega
  ·cases hg
theorem QGI (l:List (List Int)) (hl:l.length<=1000) (h:l.flatten.length<=1000000):EY l=some l.flatten:=by
 have k1:∀ M BM,BP (DK (λ_=>List.replicate) M BM) big (l,(l.length:Int),((0:Nat):Int),([]:List Int))=some l.flatten:=by
  intro M BM
  have:=E8 (g:=DK (λ_=>List.replicate) M BM) (mk:=λi x=>(l,(l.length:Int),(i:Int),x)) (l:=l) (u7:=λx=>x) (kk:=λx=>some x) (B:=1000000)
   (λself i x hi hx=>by
    simp only [DK,IY,Dq hi,AL,gI hi,AA,wS hi (by omega),DW (show x.length+l[i].length<=Xa by simp only [Xa];omega)]
    rfl)
   (λself x _=>by simp only [DK,IY,Dk,AJ]) l.length 0 big [] (by omega) (Df (by omega)) (by simpa using h)
  simpa using this
 have k0:∀ M self (n:Nat),n<=1000000->M=big->DJ (λ_=>List.replicate) M self (l,(n:Int),l,(l.length:Int),(l.length:Int))=if n=l.flatten.length then some l.flatten else DJ (λ_=>List.replicate) M self (l,(n:Int),l,(l.length:Int),(l.length:Int)):=by
  intro M self n hn hM
  split
  ·rename_i e
   subst hM
   show DL _ _ _ _=_
   unfold DL
   dsimp only
   rw [Dk,AJ,AF (show ¬ (n:Int) < 0 by omega),AJ]
   have z:IntKind.i64.wrap ((0:Int) - (List.length ([]:List Int):Int))=0:=by decide
   have s:IntKind.i64.wrap ((n:Int) - 0)=(n:Int):=by rw [T.t64 (by omega) (by omega)];omega
   rw [z,s]
   by_cases h0:n=0
   ·rw [AF (show ¬ (n:Int) > 0 by omega),AJ]
    exact k1 _ _
   ·have e2:(decide (1<=(n:Int))&&decide ((n:Int)<=(lim:Int)))=true:=by
     rw [AB (show (1:Int)<=(n:Int) by omega),AB (show (n:Int)<=(lim:Int) by show _<=((68719476736:Nat):Int);omega)];rfl
    have e3:(Nat.ble 1 1&&Nat.ble (List.length ([]:List Int)+List.length (List.replicate (Int.toNat (n:Int)) (0:Int))) lim)=true:=DW (by rw [List.length_replicate,Aj];show 0+_<=68719476736;omega)
    have e4:(decide (0<=(List.length ([]:List Int):Int))&&decide ((List.length ([]:List Int):Int)<=(List.length (List.append ([]:List Int) (List.replicate (Int.toNat (n:Int)) (0:Int))):Int)))=true:=by simp
    rw [AB (show (n:Int) > 0 by omega),AL,AB (show (0:Int)=0 from rfl),AL,e2,AL,e3,AL,e4,AL]
    exact k1 _ _
  ·rfl
 have k2:∀ (k i N n:Nat),i+k=l.length->k < N->n+(l.drop i).flatten.length=l.flatten.length->BP (DJ (λ_=>List.replicate) big) N (l,(n:Int),l,(l.length:Int),(i:Int))=some l.flatten:=by
  intro k
  induction k with
  | zero=>
   intro i N n hi hN hn
   obtain ⟨N,rfl⟩:∃ M,N=M+1:=⟨N - 1,by omega⟩
   obtain rfl:i=l.length:=by omega
   rw [Ba,k0 _ _ _ (by omega) rfl,AY (by simpa using hn)]
  | succ k ih=>
   intro i N n hi hN hn
   obtain ⟨N,rfl⟩:∃ M,N=M+1:=⟨N - 1,by omega⟩
   have hi':i < l.length:=by omega
   rw [BA hi',List.flatten_cons,AQ] at hn
   have a1:IntKind.i64.wrap ((n:Int)+(List.length l[i]:Int))=((n+l[i].length:Nat):Int):=by rw [T.t64 (by omega) (by omega)];omega
   rw [Ba]
   show DL _ _ _ _=_
   unfold DL
   dsimp only
   rw [Dq hi',AL,gI hi',AA,a1,AF (show ¬ ((n+l[i].length:Nat):Int) < 0 by omega),AJ,wS hi' (by omega)]
   exact ih (i+1) N _ (by omega) (by omega) (by omega)
 show F8 (λ_=>List.replicate) (BP (DJ (λ_=>List.replicate) big) big) l=_
 unfold F8
 exact k2 l.length 0 big 0 (by omega) (Df (by omega)) (by simp)
theorem QEh (a b:List Int) (h:a.length+b.length<=1000000):EY [a,b]=some (a++b):=by
 rw [QGI _ (by simp) (by simpa using h)]
 simp
theorem uV {x:Ins} (h:Qf x=true):OT x=some (F.rS x,F.wS x,0):=by rw [QB3,AY h];rfl
def OC (m:DF) (f:DX) (x:Ins):Bool:=(F.rS x++F.wS x).all (λs=>decide (s < f.2.2.2.1.length))&&match NH x with
 | some g=>decide (g < m.2.2.1.length)
 | none=>!decide (x.1=2)||decide (x.2.2.1 < m.2.1.length)
theorem Tw (m:DF) (f:DX) {x:Ins} (h:Qf x=true):F5 ((m,f,()),x)=some (OC m f x):=by
 obtain ⟨s1,s2,s3,s4⟩:=F.VK h
 show El (BP (Cg big) big) _=_
 unfold El
 dsimp only
 rw [uV h,AA]
 dsimp only
 rw [QEh _ _ (by omega),AA]
 have hlen:(F.rS x++F.wS x).length<=6:=by simp;omega
 generalize hl:F.rS x++F.wS x=l at hlen
 have:=CQ (g:=Cg big) (mk:=λi=>((l.length:Int),(i:Int),(m,f,()),x,l)) (p:=λi=>(l[i]?).all λ(s:Int)=>decide (s < (f.2.2.2.1.length:Int))) (no:=some false)
  (kk:=some (match NH x with | some g=>decide (g < (m.2.2.1.length:Int)) | none=>!decide (x.1=2)||decide (x.2.2.1 < (m.2.1.length:Int)))) (n:=l.length)
  (λself i hi=>by
   simp only [Cg,IV,Dq hi,AL,F.ML hi,F.Jb (AU hi),AA,wS hi (by omega),pat hi]
   by_cases e:l[i] < (f.2.2.2.1.length:Int)
   ·rw [AB e,AF (show ¬ l[i]>=(f.2.2.2.1.length:Int) by omega)];rfl
   ·rw [AF e,AB (show l[i]>=(f.2.2.2.1.length:Int) by omega)];rfl)
  (λself=>by
   simp only [Cg,IV,Dk,AJ,wE,AA]
   cases hc:NH x with
   | some g=>simp
   | none=>
    by_cases e:x.1=2
    ·simp [e]
    ·simp [e,bne,EW]) l.length 0 big (by omega) (Df (by omega))
 rw [cB,show ((0:Nat):Int)=0 from rfl] at this
 rw [this,OC,hl]
 cases hc:NH x <;> cases l.all _ <;> rfl
def ZV (m:DF) (f:DX) (x:Ins):Bool:=
 if x.1=1\/x.1=32 then decide (WS m.1 (Gm f x.2.1)=2)
 else if x.1=2 then decide (WS m.1 (Gm f x.2.1)=3)
 else if x.1=3\/x.1=23 then decide (WS m.1 (Gm f x.2.1)=1)
 else if x.1=5 then decide (Gm f x.2.1=Gm f x.2.2.1)
 else if x.1=6\/x.1=7\/x.1=8\/x.1=9 then decide (WS m.1 (Gm f x.2.1)=2)&&(decide (WS m.1 (Gm f x.2.2.1)=2)&&decide (WS m.1 (Gm f x.2.2.2.1)=2))
 else if x.1=10 then decide (WS m.1 (Gm f x.2.1)=1)&&(decide (WS m.1 (Gm f x.2.2.1)=2)&&decide (WS m.1 (Gm f x.2.2.2.1)=2))
 else if x.1=11 then decide (WS m.1 (Gm f x.2.1)=1)&&(decide (Gm f x.2.2.1=Gm f x.2.2.2.1)&&uW (WS m.1 (Gm f x.2.2.1)))
 else if x.1=12 then decide (WS m.1 (Gm f x.2.1)=1)&&decide (WS m.1 (Gm f x.2.2.1)=1)
 else if x.1=13 then j5 m.1 f x.2.1 x.2.2.1 x.2.2.2.1
 else if x.1=14 then j5 m.1 f x.2.2.2.1 x.2.1 x.2.2.1
 else if x.1=15 then decide (WS m.1 (Gm f x.2.1)=4)
 else if x.1=16 then mE m.1 f x.2.1 x.2.2.1 [4]
 else if x.1=17 then mE m.1 f x.2.2.1 x.2.1 [4]
 else if x.1=18 then decide (WS m.1 (Gm f x.2.1)=7)&&decide (WS m.1 (Gm f x.2.2.1)=2)
 else if x.1=19 then mE m.1 f x.2.1 x.2.2.1 [7,6]&&decide (WS m.1 (Gm f x.2.2.2.1)=2)
 else if x.1=20 then mE m.1 f x.2.2.2.1 x.2.1 [7,6]&&decide (WS m.1 (Gm f x.2.2.1)=2)
 else if x.1=21 then decide (WS m.1 (Gm f x.2.1)=2)&&decide (WS m.1 (Gm f x.2.2.1)∈([3,7,6]:List Int))
 else if x.1=25 then ((m.2.2.1[x.2.2.1.toNat]?).map λg=>QCU f x.2.1 g.2.2.1).getD false
 else if x.1=26\/x.1=27 then ((m.2.2.1[x.2.1.toNat]?).map λg=>QC1 m.1 g).getD false
 else if x.1=28 then decide (WS m.1 (Gm f x.2.1)∈([2,1,3]:List Int))
 else if x.1=29\/x.1=33 then decide (WS m.1 (Gm f x.2.1)=1)&&decide (WS m.1 (Gm f x.2.2.1)=2)
 else if x.1=34 then QCU f x.2.1 f.2.2.1
 else true
theorem uI {m:DF} {f:DX} {x:Ins} (h:OC m f x=true) {s:Int} (hs:s∈F.rS x++F.wS x):s < f.2.2.2.1.length:=by
 simp only [OC,AP] at h
 simpa using List.all_eq_true.1 h.1 s hs
theorem YV {m:DF} {f:DX} {x:Ins} (h:OC m f x=true) {g:Int} (hg:NH x=some g):g < m.2.2.1.length:=by
 simp only [OC,AP,hg] at h
 simpa using h.2
theorem QLT {m:DF} {f:DX} {x:Ins} (hr:OC m f x=true) {r n:Int} (hf:fit r n=true) (hn:r=1\/r=2\/(r=3\/r=4)/\n≠-1) (hm:∀ v,v∈rs1 r n\/v∈ws1 r n->v∈F.rS x++F.wS x):eF f n:=by
 have h1:n≠-1:=by
  rcases hn with rfl | rfl | h
  ·simp [fit,idx] at hf;omega
  ·simp [fit,idx] at hf;omega
  ·exact h.2
 have hr':r=1\/r=3\/r=2\/r=4:=by rcases hn with h | h | ⟨h | h,_⟩ <;> simp [h]
 refine ⟨(Od hf hr' h1).1,uI hr (hm n ?_)⟩
 rcases hn with rfl | rfl | ⟨rfl | rfl,_⟩ <;> simp [rs1,ws1,h1]
theorem kg {m:DF} {f:DX} {x:Ins} (h:Qf x=true) (hr:OC m f x=true) {k:Nat} (e:x.1=(k:Int)) {a b c:Int} (hk:Xc (k:Int)=[a,b,c]) :
  ((a=1\/a=2\/(a=3\/a=4)/\x.2.1≠-1)->eF f x.2.1)/\((b=1\/b=2\/(b=3\/b=4)/\x.2.2.1≠-1)->eF f x.2.2.1)/\((c=1\/c=2\/(c=3\/c=4)/\x.2.2.2.1≠-1)->eF f x.2.2.2.1):=by
 obtain ⟨fa,fb,fc,er,ew⟩:=role h e hk
 refine ⟨λg=>QLT hr fa g λv hv=>?_,λg=>QLT hr fb g λv hv=>?_,λg=>QLT hr fc g λv hv=>?_⟩ <;>
  (rw [er,ew];simp only [List.mem_append];rcases hv with hv | hv <;> simp [hv])
def rl3:List (Int×Int×Int):=[(0,0,0),(2,5,0),(2,7,0),(2,6,0),(2,0,0),(2,1,0),(2,1,1),(2,1,1),(2,1,1),(2,1,1),(2,1,1),(2,1,1),(2,1,0),(2,1,8),(1,8,1),(2,0,0),(2,1,0),(1,1,0),(2,1,0),(2,1,1),(1,1,1),(2,1,0),(10,0,0),(1,10,0),(1,0,0),(4,9,0),(9,0,0),(9,0,0),(1,0,0),(2,2,0),(0,0,0),(0,0,0),(1,0,0),(2,1,0),(3,0,0)]
theorem QLh:∀ k:Nat,k < 35->1<=k->Xc (k:Int)=[(rl3.getD k (0,0,0)).1,(rl3.getD k (0,0,0)).2.1,(rl3.getD k (0,0,0)).2.2]:=by decide +kernel
theorem iE {m:DF} (V:Vm m) {f:DX} (v:Vf m.1.length f) {x:Ins} (h:Qf x=true) (hr:OC m f x=true):G7 ((m,f,()),x)=some (ZV m f x):=by
 have hop:ZY x.1=true:=by obtain ⟨_,_,_,ho,_⟩:=Jc h;exact ho
 obtain ⟨k,e,hk⟩:=kY hop
 have QKW:∀ (q:Int) (a:Int),eF f a->Bf ((m,f,()),q,[a])=some (decide (WS m.1 (Gm f a)=q)):=λq a ha=>by
  rw [QDL v q [a] (by simp) (by simpa using ha)];simp
 have QYj:∀ (q:Int) (a b:Int),eF f a->eF f b->Bf ((m,f,()),q,[a,b])=some (decide (WS m.1 (Gm f a)=q)&&decide (WS m.1 (Gm f b)=q)):=λq a b ha hb=>by
  rw [QDL v q [a,b] (by simp) (by simpa using ⟨ha,hb⟩)];simp
 have Qci:∀ (q:Int) (a b c:Int),eF f a->eF f b->eF f c->Bf ((m,f,()),q,[a,b,c])=some (decide (WS m.1 (Gm f a)=q)&&(decide (WS m.1 (Gm f b)=q)&&decide (WS m.1 (Gm f c)=q))):=λq a b c ha hb hc=>by
  rw [QDL v q [a,b,c] (by simp) (by simpa using ⟨ha,hb,hc⟩)];simp
 have bs:∀ b c:Bool,(bif b then some c else some false)=some (b&&c):=λb c=>by cases b <;> rfl
 have idb:∀ z:Option Bool,(z.bind λy=>some y)=z:=λz=>by cases z <;> rfl
 have er:=QLh k (by omega) (by omega)
 obtain ⟨iA,iB,iC⟩:=kg h hr e er
 obtain ⟨_,fb,fc,_⟩:=role h e er
 show QE _=_
 unfold QE ZV
 have QTk:k=1\/k=2\/k=3\/k=4\/k=5\/k=6\/k=7\/k=8\/k=9\/k=10\/k=11\/k=12\/k=13\/k=14\/k=15\/k=16\/k=17\/k=18\/k=19\/k=20\/k=21\/k=22\/k=23\/k=24\/k=25\/k=26\/k=27\/k=28\/k=29\/k=30\/k=31\/k=32\/k=33\/k=34:=by omega
 rcases QTk with rfl | rfl | rfl | rfl | rfl | rfl | rfl | rfl | rfl | rfl | rfl | rfl | rfl | rfl | rfl | rfl | rfl | rfl | rfl | rfl | rfl | rfl | rfl | rfl | rfl | rfl | rfl | rfl | rfl | rfl | rfl | rfl | rfl | rfl
 all_goals
  simp only [rl3,List.getD_cons_succ,List.getD_cons_zero] at iA iB iC fb fc
  have e':x.1=_:=e
  clear er e
 all_goals try (simp [e',EW,bs,idb,λq c=>QKW q _ (iA c),λq c=>QKW q _ (iB c),λq c=>QKW q _ (iC c),λq c d=>QYj q _ _ (iA c) (iB d),λq c d=>QYj q _ _ (iB c) (iC d),λq b c d=>Qci q _ _ _ (iA b) (iB c) (iC d),λc=>Je m (iA c),λc=>Je m (iB c),λc=>Je m (iC c),λc=>bG v (iA c),λc=>bG v (iB c),sD,rz _ _ (show List.length ([_,_,_]:List Int)<=1000 by simp)];done)
 ·simp [e',EW,bs,idb,ru v (iA (by simp)) (iB (by simp)) (show 0<=x.2.2.2.1 by simp [fit,idx] at fc;omega)]
 ·simp [e',EW,bs,idb,ru v (iC (by simp)) (iA (by simp)) (show 0<=x.2.2.1 by simp [fit,idx] at fb;omega)]
 ·simp [e',EW,bs,idb,bD v (iA (by simp)) (iB (by simp)) (ks:=[4]) (by simp)]
 ·simp [e',EW,bs,idb,bD v (iB (by simp)) (iA (by simp)) (ks:=[4]) (by simp)]
 ·simp [e',EW,bs,idb,bD v (iA (by simp)) (iB (by simp)) (ks:=[7,6]) (by simp),QKW 2 _ (iC (by simp))]
 ·simp [e',EW,bs,idb,bD v (iC (by simp)) (iA (by simp)) (ks:=[7,6]) (by simp),QKW 2 _ (iB (by simp))]
 ·have hc:NH x=some x.2.2.1:=by simp [NH,e']
  obtain ⟨g,g1,g2,g3⟩:=FH (Xm h hc) (YV hr hc)
  simp [e',EW,bs,idb,g1,g2,aC m g (s:=x.2.1) (f:=f) λhne=>iA (by simp [hne])]
 iterate 2
  ·have hc:NH x=some x.2.1:=by simp [NH,e']
   obtain ⟨g,g1,g2,g3⟩:=FH (Xm h hc) (YV hr hc)
   simp [e',EW,bs,idb,g1,g2,yj (m:=m) f (V.ok g g3)]
 ·simp [e',EW,bs,idb,aC m f (s:=x.2.1) (f:=f) λhne=>iA (by simp [hne])]
theorem QD6 (a b:List Int) (h:a.length<=1000000):Ez (a,b)=some (decide (a=b)):=by
 show E9 (BP (Cq big) big) _=_
 unfold E9
 dsimp only
 rw [Zg,Dr]
 by_cases hl:a.length=b.length
 ·rw [AB hl,AL]
  have:=CQ (g:=Cq big) (mk:=λi=>(a,b,(a.length:Int),(i:Int))) (p:=λi=>decide (a[i]? = b[i]?)) (no:=some false) (kk:=some true) (n:=a.length)
   (λself i hi=>by
    simp only [Cq,JR,Dq hi,AL,gI hi,gI (show i < b.length by omega),AA,wS hi (by omega),V5 hi (show i < b.length by omega),CX,Dr])
   (λself=>by simp only [Cq,JR,Dk,AJ]) a.length 0 big (by omega) (Df (by omega))
  rw [SY hl,Xi] at this
  exact this
 ·rw [AF hl,AJ,AF (λe=>hl (by rw [e]))]
theorem QIF (a b:List T.Rn) (h:a.length<=1000000):Dt (a,b)=some (decide (a=b)):=by
 show Cv (BP (CB big) big) _=_
 unfold Cv
 dsimp only
 rw [Zg,Dr]
 by_cases hl:a.length=b.length
 ·rw [AB hl,AL]
  have:=CQ (g:=CB big) (mk:=λi=>(a,b,(a.length:Int),(i:Int))) (p:=λi=>decide (a[i]? = b[i]?)) (no:=some false) (kk:=some true) (n:=a.length)
   (λself i hi=>by
    simp only [CB,Eu,Dq hi,AL,gI hi,gI (show i < b.length by omega),AA,wS hi (by omega),V5 hi (show i < b.length by omega)]
    rw [aN,Dr])
   (λself=>by simp only [CB,Eu,Dk,AJ]) a.length 0 big (by omega) (Df (by omega))
  rw [SY hl,Xi] at this
  exact this
 ·rw [AF hl,AJ,AF (λe=>hl (by rw [e]))]
def bq (m:DF) (f:DX) (x:Ins) (r:Bool):Int:=if OC m f x=false then 16 else if r=false then 6 else if ZV m f x=false then 30 else 0
def fwS (m:DF) (f:DX) (l:List Ins) (rs:List Bool):Nat->Nat->Int×Int
 | 0,_=>(0,0)
 | k+1,i=>match l[i]?,rs[i]? with
  | some x,some r=>if bq m f x r≠0 then ((i:Int),bq m f x r) else fwS m f l rs k (i+1)
  | _,_=>(0,0)
theorem vF {m:DF} (V:Vm m) {f:DX} (v:Vf m.1.length f) (hc:F.VP f.2.2.2.2.1=true):EG (m,f,())=some (fwS m f f.2.2.2.2.1 (F.NV f.2.2.2.2.1) f.2.2.2.2.1.length 0):=by
 show EN (BP (CZ big) big) _=_
 unfold EN
 dsimp only
 rw [F.QDC,AY hc,AA]
 dsimp only
 have hl:f.2.2.2.2.1.length<=200:=v.cd.2
 have hrl:(F.NV f.2.2.2.2.1).length=f.2.2.2.2.1.length:=F.fG _
 have hok:=v.ok
 generalize f.2.2.2.2.1=l at hl hrl hok
 generalize F.NV l=rs at hrl
 have key:∀ (k i N:Nat),i+k=l.length->k < N->BP (CZ big) N (l,(l.length:Int),(i:Int),(m,f,()),rs)=some (fwS m f l rs k i):=by
  intro k
  induction k with
  | zero=>
   intro i N hi hN
   obtain ⟨N,rfl⟩:∃ M,N=M+1:=⟨N - 1,by omega⟩
   obtain rfl:i=l.length:=by omega
   rw [Ba]
   simp only [CZ,Gt,Dk,AJ,fwS]
  | succ k ih=>
   intro i N hi hN
   obtain ⟨N,rfl⟩:∃ M,N=M+1:=⟨N - 1,by omega⟩
   have hi':i < l.length:=by omega
   have hx:l[i]? = some l[i]:=AU hi'
   have hr:rs[i]? = some rs[i]:=AU (by omega)
   have ho:=hok _ (Ae hi')
   rw [Ba]
   simp only [CZ,Gt,Dq hi',AL,gI hi',AA,Tw m f ho,fwS,hx,hr,wS hi' (by omega),F.Jb hr,F.ML (show i < rs.length by omega)]
   cases e1:OC m f l[i] with
   | false=>simp [bq,e1]
   | true=>
    cases e2:rs[i] with
    | false=>simp [bq,e1]
    | true=>
     rw [iE V v ho e1,AA]
     cases e3:ZV m f l[i] with
     | false=>simp [bq,e1,e3]
     | true=>simp [bq,e1,e3];exact ih (i+1) N (by omega) (by omega)
 exact key l.length 0 big (by omega) (Df (by omega))
theorem QFY {m:DF} {f:DX} {l:List Ins} {rs:List Bool}:∀ {k i:Nat},i+k=l.length->l.length=rs.length->(fwS m f l rs k i).2=0->∀ j,i<=j->(h:j < l.length)->∃ h':j < rs.length,bq m f l[j] rs[j]=0
 | 0,i,hi,_,_,j,hj,h=>by omega
 | k+1,i,hi,hr,hz,j,hj,h=>by
  have hi':i < l.length:=by omega
  simp only [fwS,AU hi',AU (show i < rs.length by omega)] at hz
  split at hz
  ·rename_i e;exact absurd hz e
  ·rename_i e
   by_cases hij:j=i
   ·subst hij;exact ⟨by omega,by simpa using e⟩
   ·exact QFY (by omega) hr hz j (by omega) h
def nP (f:DX) (x:Ins):List Int:=if x.1=24 then [Gm f x.2.1] else []
def tkn (m:DF) (x:Ins):List Int:=match NH x with
 | some g=>match m.2.2.1[g.toNat]? with
  | some h=>(h.2.2.2.1.take h.2.1.toNat).map λz=>z.2.1
  | none=>[]
 | none=>[]
theorem xU {m:DF} {f:DX} {x:Ins} (h:Qf x=true) (hr:OC m f x=true):Fy ((m,f,()),x)=some (nP f x):=by
 show NT _=_
 unfold NT nP
 dsimp only
 by_cases e:x.1=24
 ·have hA:=(kg h hr (k:=24) e (show Xc ((24:Nat):Int)=[1,0,0] by decide +kernel)).1 (by simp)
  simp [e,CX,Je m hA]
 ·simp [e,CX]
theorem QCo {m:DF} (V:Vm m) {f:DX} {x:Ins} (h:Qf x=true) (hr:OC m f x=true):Jp ((m,f,()),x)=some (tkn m x):=by
 show Gj (BP (Da big) big) _=_
 unfold Gj tkn
 dsimp only
 rw [wE,AA]
 dsimp only
 cases hc:NH x with
 | none=>rfl
 | some g=>
  obtain ⟨q,g1,g2,g3⟩:=FH (Xm h hc) (YV hr hc)
  have vq:=V.ok q g3
  have hp:(decide (0<=q.2.1)&&decide (q.2.1<=(List.length q.2.2.2.1:Int)))=true:=by simp;exact vq.par
  simp only [Option.isSome_some,A8,AJ,BH,g1,g2,AA,hp,AL]
  generalize hl:List.take (Int.toNat q.2.1) q.2.2.2.1=l
  have hll:l.length<=16:=by rw [<- hl,BK];have:=vq.sl;omega
  have:=E8 (g:=Da big) (mk:=λi z=>(l,(l.length:Int),(i:Int),z)) (l:=l) (u7:=λz=>[z.2.1]) (kk:=λz=>some z) (B:=100)
   (λself i z hi hx=>by
    simp only [Da,Lv,Dq hi,AL,gI hi,AA,wS hi (by omega),DW (show z.length+List.length [l[i].2.1]<=Xa by simp [Xa] at hx ⊢;omega)]
    rfl)
   (λself z _=>by simp only [Da,Lv,Dk,AJ]) l.length 0 big [] (by omega) (Df (by omega)) (by have:=Lc (f:=λz:K.Qo=>[z.2.1]) (k:=1) (l:=l) (by simp);simp only [List.drop_zero,Av];omega)
  rw [show ((0:Nat):Int)=0 from rfl] at this
  rw [this]
  simp only [List.drop_zero,List.nil_append,hl]
  exact congrArg some List.map_eq_flatMap.symm
def Jg (l:List K.ES):List Int:=(List.range l.length).map λ(i:Nat)=>K.jX (K.sz (K.exS l) (i:Int)) 8
def tot (ss ts:List Int):Int:=(ts.map λt=>ss.getD t.toNat 0).sum
structure Ssz (ss:List Int):Prop where
 lo:∀ s∈ss,0<=s/\s<=264
theorem QMA {ss:List Int} (hs:Ssz ss) (ts:List Int) (hl:ts.length<=1000) (ht:∀ t∈ts,0<=t/\t < ss.length):TW (ss,ts)=some (tot ss ts):=by
 show QF (BP (GV big) big) _=_
 unfold QF tot
 dsimp only
 have key:∀ (k i N:Nat) (n:Int),i+k=ts.length->k < N->0<=n->n<=264 * i->BP (GV big) N (ss,n,ts,(ts.length:Int),(i:Int))=some (n+((ts.drop i).map λt=>ss.getD t.toNat 0).sum):=by
  intro k
  induction k with
  | zero=>
   intro i N n hi hN h0 h1
   obtain ⟨N,rfl⟩:∃ M,N=M+1:=⟨N - 1,by omega⟩
   obtain rfl:i=ts.length:=by omega
   rw [Ba]
   simp [GV,Ug,Dk]
  | succ k ih=>
   intro i N n hi hN h0 h1
   obtain ⟨N,rfl⟩:∃ M,N=M+1:=⟨N - 1,by omega⟩
   have hi':i < ts.length:=by omega
   obtain ⟨z,z1,z2,z3⟩:=FH (ht _ (Ae hi')).1 (ht _ (Ae hi')).2
   have hz:=hs.lo z z3
   rw [Ba,BA hi',List.map_cons,List.sum_cons]
   simp only [GV,Ug,Dq hi',AL,gI hi',AA,z1,wS hi' (by omega)]
   rw [T.t64 (show -9223372036854775808<=n+z by omega) (by omega),ih (i+1) N (n+z) (by omega) (by omega) (by omega) (by simp;omega)]
   rw [Ad,z2,BH,Int.add_assoc]
 have:=key ts.length 0 big 0 (by omega) (Df (by omega)) (Int.le_refl _) (by simp)
 simpa using this
theorem YZ (l:List K.ES):(Jg l).length=l.length:=by simp [Jg]
theorem QLm {l:List K.ES} {i:Nat} (h:i < l.length):(Jg l)[i]? = some (K.jX (K.sz (K.exS l) (i:Int)) 8):=by simp [Jg,h]
theorem up8 {n:Int} (h:1<=n) (h':n<=256):8<=K.jX n 8/\K.jX n 8<=256:=by
 simp only [K.jX,show ¬ (8:Int)=1 by decide,if_false];omega
theorem uM {m:DF} (V:Vm m):(∀ s∈Jg m.1,8<=s/\s<=256):=by
 intro s hs
 simp only [Jg,List.mem_map,List.mem_range] at hs
 obtain ⟨i,hi,rfl⟩:=hs
 obtain ⟨h1,_⟩:=K.zA V.sz.1 (i:=(i:Int)) (by omega) (by omega)
 exact up8 h1 (V.sz.2 i hi)
theorem QU7 {m:DF} (V:Vm m):Ssz (Jg m.1):=⟨λs hs=>by have:=uM V s hs;omega⟩
theorem QCh {m:DF} (V:Vm m):Ik m.1=some (Jg m.1):=by
 have hl:m.1.length<=32:=V.ty
 show Io (λ_=>List.replicate) (BP (Dw (λ_=>List.replicate) big) big) m.1=_
 unfold Io
 rw [F.Yo (by omega),AL,Aj]
 have key:∀ (k i N:Nat) (x:List Int),i+k=m.1.length->k < N->x.length=m.1.length->BP (Dw (λ_=>List.replicate) big) N (m.1,(m.1.length:Int),(i:Int),x)=some (x.take i++(Jg m.1).drop i):=by
  intro k
  induction k with
  | zero=>
   intro i N x hi hN hx
   obtain ⟨N,rfl⟩:∃ M,N=M+1:=⟨N - 1,by omega⟩
   obtain rfl:i=m.1.length:=by omega
   rw [Ba]
   simp only [Dw,Ku,Dk,AJ]
   rw [BD (by omega),List.drop_of_length_le (by rw [YZ];omega),List.append_nil]
  | succ k ih=>
   intro i N x hi hN hx
   obtain ⟨N,rfl⟩:∃ M,N=M+1:=⟨N - 1,by omega⟩
   have hi':i < m.1.length:=by omega
   obtain ⟨h1,_⟩:=K.zA V.sz.1 (i:=(i:Int)) (by omega) (by omega)
   have h2:=V.sz.2 i hi'
   have he:=K.jh V.sz.1 (i:=(i:Int)) (by omega) (by omega) h2
   rw [Ba]
   simp only [Dw,Ku,Dq hi',AL,K.QF1,he,if_true,AA,K.QJe,F.ML (show i < x.length by omega),wS hi' (by omega)]
   rw [AX (by omega),Aj,ih (i+1) N _ (by omega) (by omega) (by rw [BJ];exact hx)]
   rw [Ko _ _ _ (by omega),Ab]
   congr 2
   rw [BA (show i < (Jg m.1).length by rw [YZ];omega)]
   have:=QLm hi'
   rw [AU (by rw [YZ];omega)] at this
   rw [Au this]
   rfl
 have:=key m.1.length 0 big (List.replicate m.1.length 0) (by omega) (Df (by omega)) List.length_replicate
 simpa using this
def ZJ (tk pu b:List Int):Option (List Int):=if tk.length<=b.length/\b.drop (b.length - tk.length)=tk then some (b.take (b.length - tk.length)++pu) else none
theorem QF8 {tk pu b s:List Int} (h:ZJ tk pu b=some s):s.length<=b.length+pu.length:=by
 unfold ZJ at h
 split at h
 ·cases h;simp
 ·cases h
theorem iq (f:DX) (x:Ins):(nP f x).length<=1:=by unfold nP;split <;> simp
theorem qK {m:DF} (V:Vm m) (x:Ins):(tkn m x).length<=16:=by
 unfold tkn
 split
 ·split
  ·rename_i h hq
   have:=(V.ok h (BF hq)).sl
   simp;omega
  ·simp
 ·simp
theorem QKT {m:DF} (V:Vm m) {f:DX} {x:Ins} (h:Qf x=true) (hr:OC m f x=true) (b:List Int) (hb:b.length<=100000) :
  Jo ((m,f,()),x,b)=some (match ZJ (tkn m x) (nP f x) b with | some s=>(s,true) | none=>([],false)):=by
 show OZ _=_
 unfold OZ ZJ
 dsimp only
 rw [QCo V h hr,AA]
 have h1:=qK V x
 have h2:=iq f x
 have hp:=xU h hr
 rw [T.t64 (show -9223372036854775808<=(b.length:Int) - ((tkn m x).length:Int) by omega) (by omega)]
 generalize tkn m x=t at h1 ⊢
 by_cases hlt:t.length<=b.length
 ·have e1:(b.length:Int) - (t.length:Int)=((b.length - t.length:Nat):Int):=by omega
  have e2:(decide (0<=((b.length - t.length:Nat):Int))&&decide (((b.length - t.length:Nat):Int)<=(b.length:Int)))=true:=by simp
  rw [e1,AF (show ¬ ((b.length - t.length:Nat):Int) < 0 by omega),AJ,e2,AL,Aj,QD6 _ _ (by rw [List.length_drop];omega),AA]
  by_cases he:b.drop (b.length - t.length)=t
  ·rw [AB he,A8,AJ,AL,hp,AA,QEh _ _ (by rw [BK];omega),AA,AY ⟨hlt,he⟩]
  ·rw [AF he,A9,AL,AX (λh=>he h.2)]
 ·rw [AB (show (b.length:Int) - (t.length:Int) < 0 by omega),AL,AX (λh=>hlt h.1)]
def kv (kn:List (List Int)) (i:Nat):List Int:=kn.getD i []
theorem QDq {kn:List (List Int)} {i:Nat} (h:i < kn.length):kn[i]? = some (kv kn i):=getD_at h []
theorem kP {kn:List (List Int)} {i:Nat} (h:i < kn.length):nth kn (Int.toNat (i:Int))=some (kv kn i):=F.Jb (QDq h)
theorem TG {kn:List (List Int)} {i j:Nat} {s:List Int} (h:j < kn.length):kv (kn.set j s) i=if i=j then s else kv kn i:=by
 unfold kv
 rw [Ad,Ad,F.ER h]
 split <;> rfl
def emp (kn:List (List Int)):Nat:=kn.countP List.isEmpty
theorem QFO:∀ {kn:List (List Int)} {j:Nat} {s:List Int},j < kn.length->kv kn j=[]->s≠[]->emp (kn.set j s)+1=emp kn
 | [],_,_,h,_,_=>by simp at h
 | a::kn,0,s,_,h,hs=>by
  have:a=[]:=h
  subst this
  cases s with
  | nil=>exact absurd rfl hs
  | cons x s=>simp [emp,List.countP_cons]
 | a::kn,j+1,s,h,hk,hs=>by
  have:=QFO (kn:=kn) (j:=j) (s:=s) (by simpa using h) hk hs
  simp only [emp,List.set_cons_succ,List.countP_cons] at this ⊢
  omega
theorem QKj (kn:List (List Int)):emp kn<=kn.length:=List.countP_le_length
section
variable (ss:List Int)
structure Sok:Prop where
 big:∀ s∈ss,8<=s/\s<=256
def qQ (s:List Int):Prop:=∀ t∈s,0<=t/\t < ss.length
end
variable {ss:List Int}
theorem jM:tot ss []=0:=rfl
theorem QG8 (a b:List Int):tot ss (a++b)=tot ss a+tot ss b:=by simp [tot]
theorem jL (t:Int) (a:List Int):tot ss (t::a)=ss.getD t.toNat 0+tot ss a:=rfl
theorem bZ (h:Sok ss):∀ {s:List Int},qQ ss s->0<=tot ss s/\(s≠[]->8<=tot ss s)
 | [],_=>⟨Int.le_refl _,λh=>absurd rfl h⟩
 | t::s,ht=>by
  obtain ⟨h1,_⟩:=bZ h (s:=s) λu hu=>ht u (by simp [hu])
  obtain ⟨z,_,z2,z3⟩:=FH (ht t (by simp)).1 (ht t (by simp)).2
  have:=h.big z z3
  rw [jL,Ad,z2,BH]
  exact ⟨by omega,λ_=>by omega⟩
theorem aD (h:Sok ss) {s:List Int} (hs:qQ ss s) (e:tot ss s=0):s=[]:=by
 cases s with
 | nil=>rfl
 | cons t s=>have:=(bZ h hs).2 (by simp);omega
theorem aJ {tk pu b s:List Int} (h:ZJ tk pu b=some s):tot ss s=tot ss b+(tot ss pu - tot ss tk):=by
 unfold ZJ at h
 split at h
 ·rename_i g
  cases h
  have e:b=b.take (b.length - tk.length)++tk:=by
   have:=(List.take_append_drop (b.length - tk.length) b).symm
   rwa [g.2] at this
  have e2:tot ss b=tot ss (b.take (b.length - tk.length))+tot ss tk:=by rw [<- QG8,<- e]
  rw [QG8]
  omega
 ·cases h
theorem yR {tk pu b s:List Int} (h:ZJ tk pu b=some s) (hb:qQ ss b) (hp:qQ ss pu):qQ ss s:=by
 unfold ZJ at h
 split at h
 ·cases h
  intro t ht
  rcases List.mem_append.1 ht with ht | ht
  ·exact hb t (List.mem_of_mem_take ht)
  ·exact hp t ht
 ·cases h
structure Cx (ss:List Int) (g:Nat->List Nat) (n:Nat) (tk pu:Nat->List Int) (D:Nat->Int):Prop where
 ok:Sok ss
 ty:∀ i,qQ ss (pu i)
 one:∀ i,(pu i).length<=1
 rt:F.Right g (λi=>tot ss (pu i) - tot ss (tk i)) n D
 lt:∀ i,F.Rc g i->i < n
variable {g:Nat->List Nat} {n:Nat} {tk pu:Nat->List Int} {D:Nat->Int}
def vU (g:Nat->List Nat) (tk pu:Nat->List Int) (S:Nat->List Int):Prop:=S 0=[]/\∀ i,F.Rc g i->∃ s,ZJ (tk i) (pu i) (S i)=some s/\∀ j∈g i,S j=s
theorem vU.dep (c:Cx ss g n tk pu D) {S:Nat->List Int} (h:vU g tk pu S) {i:Nat} (hi:F.Rc g i):tot ss (S i)=D i/\qQ ss (S i):=by
 induction hi with
 | zero=>rw [h.1,c.rt.z];exact ⟨rfl,λ_ h=>by cases h⟩
 | step hi hj ih=>
  obtain ⟨s,h1,h2⟩:=h.2 _ hi
  rw [h2 _ hj,aJ h1,ih.1]
  exact ⟨(c.rt.e _ _ hi hj).1.symm,yR h1 ih.2 (c.ty _)⟩
theorem vU.empty (c:Cx ss g n tk pu D) {S:Nat->List Int} (h:vU g tk pu S) {i:Nat} (hi:F.Rc g i) (e:D i=0):S i=[]:=aD c.ok (h.dep c hi).2 ((h.dep c hi).1.trans e)
structure KI (ss:List Int) (g:Nat->List Nat) (n:Nat) (D:Nat->Int) (kn:List (List Int)):Prop where
 len:kn.length=n
 ty:∀ k,qQ ss (kv kn k)
 dep:∀ k,kv kn k≠[]->F.Rc g k/\tot ss (kv kn k)=D k
 short:∀ k,(kv kn k).length+emp kn<=n
def Le (a b:List (List Int)):Prop:=∀ k,kv a k≠[]->kv b k=kv a k
theorem Le.refl (a:List (List Int)):Le a a:=λ_ _=>rfl
theorem Le.trans {a b c:List (List Int)} (h:Le a b) (h':Le b c):Le a c:=λk hk=>by rw [h' k (by rw [h k hk];exact hk),h k hk]
def Cl (g:Nat->List Nat) (tk pu:Nat->List Int) (kn:List (List Int)) (i:Nat):Prop:=∃ s,ZJ (tk i) (pu i) (kv kn i)=some s/\(s=[]\/∀ j∈g i,kv kn j=s)
theorem Cl.mono {a b:List (List Int)} {i:Nat} (h:Cl g tk pu a i) (hi:kv b i=kv a i) (hl:Le a b):Cl g tk pu b i:=by
 obtain ⟨s,h1,h2⟩:=h
 refine ⟨s,by rw [hi];exact h1,?_⟩
 by_cases e:s=[]
 ·exact .inl e
 ·refine .inr λj hj=>?_
  have:=(h2.resolve_left e) j hj
  rw [hl j (by rw [this];exact e),this]
def Agr (kn:List (List Int)) (S:Nat->List Int):Prop:=∀ k,kv kn k≠[]->kv kn k=S k
theorem KI.keep (c:Cx ss g n tk pu D) {a b:List (List Int)} (hb:KI ss g n D b) (hl:Le a b) {i:Nat} (ha:qQ ss (kv a i)) (e:tot ss (kv a i)=D i):kv b i=kv a i:=by
 by_cases h:kv a i=[]
 ·rw [h]
  by_cases h2:kv b i=[]
  ·exact h2
  ·exfalso
   have h3:=(hb.dep i h2).2
   rw [h,jM] at e
   exact h2 (aD c.ok (hb.ty i) (h3.trans e.symm))
 ·exact hl i h
theorem KI.put (c:Cx ss g n tk pu D) {kn:List (List Int)} (h:KI ss g n D kn) {j:Nat} {s:List Int} (hj:j < n) (hk:kv kn j=[]) (hs:s≠[]) (hty:qQ ss s) (hr:F.Rc g j) (hd:tot ss s=D j) (hlen:s.length+emp kn<=n+1) :
  KI ss g n D (kn.set j s)/\Le kn (kn.set j s)/\emp (kn.set j s)+1=emp kn/\kv (kn.set j s) j=s:=by
 have hj':j < kn.length:=by rw [h.len];exact hj
 have he:=QFO hj' hk hs
 refine ⟨⟨by rw [BJ];exact h.len,λk=>?_,λk hne=>?_,λk=>?_⟩,λk hne=>?_,he,by rw [TG hj',AY rfl]⟩
 ·rw [TG hj'];split
  ·exact hty
  ·exact h.ty k
 ·rw [TG hj'] at hne ⊢
  split
  ·rename_i e;subst e;exact ⟨hr,hd⟩
  ·rename_i e;rw [AX e] at hne;exact h.dep k hne
 ·have:=h.short k
  rw [TG hj'];split <;> omega
 ·rw [TG hj',AX (λe=>by subst e;exact hne hk)]
def Yz (m:DF) (l:List Ins) (i:Nat):List Int:=((l[i]?).map (tkn m)).getD []
def Yr (f:DX) (l:List Ins) (i:Nat):List Int:=((l[i]?).map (nP f)).getD []
structure Ck (m:DF) (f:DX) (D:Nat->Int):Prop where
 V:Vm m
 v:Vf m.1.length f
 hc:F.VP f.2.2.2.2.1=true
 hr:∀ x∈f.2.2.2.2.1,OC m f x=true
 c:Cx (Jg m.1) (F.G f.2.2.2.2.1) f.2.2.2.2.1.length (Yz m f.2.2.2.2.1) (Yr f f.2.2.2.2.1) D
def QD8 (m:DF) (f:DX) (D:Nat->Int) (kn:List (List Int)) (i:Nat) (r:Option (List (List Int)×Bool)):Prop:=
 ∃ kn' b,r=some (kn',b)/\KI (Jg m.1) (F.G f.2.2.2.2.1) f.2.2.2.2.1.length D kn'/\Le kn kn'/\emp kn'<=emp kn/\
  (b=true->Cl (F.G f.2.2.2.2.1) (Yz m f.2.2.2.2.1) (Yr f f.2.2.2.2.1) kn' i/\∀ j,kv kn j=[]->kv kn' j≠[]->Cl (F.G f.2.2.2.2.1) (Yz m f.2.2.2.2.1) (Yr f f.2.2.2.2.1) kn' j)/\
  ∀ S,vU (F.G f.2.2.2.2.1) (Yz m f.2.2.2.2.1) (Yr f f.2.2.2.2.1) S->Agr kn S->(F.Rc (F.G f.2.2.2.2.1) i->kv kn i=S i)->Agr kn' S/\b=true
def QPI (m:DF) (f:DX) (D:Nat->Int) (kn:List (List Int)) (i:Nat):Prop:=
 KI (Jg m.1) (F.G f.2.2.2.2.1) f.2.2.2.2.1.length D kn/\i < f.2.2.2.2.1.length/\(F.Rc (F.G f.2.2.2.2.1) i/\tot (Jg m.1) (kv kn i)=D i\/¬ F.Rc (F.G f.2.2.2.2.1) i/\i=f.2.2.2.2.1.length - 1/\kv kn i=[])
abbrev Sc0:=DF×(DX×Unit)
abbrev QXl:Ty:=.pair QJO (.pair QIq .unit)
theorem go_eq {m:DF} {f:DX} {D:Nat->Int} (C:Ck m f D):∀ (k:Nat) (kn:List (List Int)) (i:Nat),QPI m f D kn i->emp kn < k->QD8 m f D kn i (CF k ((i:Int),((),((),((),())))) ((m,(f,())),((),(kn,((),()))))):=by
 intro k
 induction k with
 | zero=>intro kn i _ h;omega
 | succ k ih=>
  intro kn i hpre hk
  obtain ⟨hki,hi,hst⟩:=hpre
  have hx:f.2.2.2.2.1[i]? = some f.2.2.2.2.1[i]:=AU hi
  have hm:=Ae hi
  have ho:=C.v.ok _ hm
  have hrx:=C.hr _ hm
  have htk:Yz m f.2.2.2.2.1 i=tkn m f.2.2.2.2.1[i]:=by simp [Yz,hx]
  have hpu:Yr f f.2.2.2.2.1 i=nP f f.2.2.2.2.1[i]:=by simp [Yr,hx]
  have hsh:=hki.short i
  have hcd:=C.v.cd.2
  have hlast:¬ F.Rc (F.G f.2.2.2.2.1) i->ZJ (Yz m f.2.2.2.2.1 i) (Yr f f.2.2.2.2.1 i) (kv kn i)=some []:=by
   intro hn
   rcases hst with h | ⟨_,h1,h2⟩
   ·exact absurd h.1 hn
   ·obtain ⟨_,_,_,h4⟩:=F.Eo C.hc
    rw [<- h1,hx] at h4
    rw [htk,hpu,Au h4,h2]
    rfl
  show QD8 m f D kn i (Ey (CF k) ((m,(f,())),((),(kn,((),())))) (BP (Ch (CF k) ((m,(f,())),((),(kn,((),())))) big) big) ((i:Int),((),((),((),())))))
  unfold Ey
  dsimp only
  rw [gI hi,AA,F.ML (show i < kn.length by rw [hki.len];exact hi),AL,kP (by rw [hki.len];exact hi),AA,QKT C.V ho hrx _ (by omega),AA]
  rw [<- htk,<- hpu]
  have hself:∀ t:Sc0,@R3 QXl t t=true:=λt=>Ud QXl t
  cases ha:ZJ (Yz m f.2.2.2.2.1 i) (Yr f f.2.2.2.2.1 i) (kv kn i) with
  | none=>
   dsimp only
   rw [A9,AL,hself,AL]
   refine ⟨kn,false,rfl,hki,Le.refl _,Nat.le_refl _,(λh=>by cases h),λS hS hA hRc=>?_⟩
   exfalso
   by_cases hn:F.Rc (F.G f.2.2.2.2.1) i
   ·obtain ⟨s,h1,_⟩:=hS.2 i hn
    rw [<- hRc hn,ha] at h1
    cases h1
   ·rw [hlast hn] at ha;cases ha
  | some s=>
   dsimp only
   rw [A8,AJ]
   by_cases hs:s=[]
   ·subst hs
    rw [show ((List.length ([]:List Int):Int)==(0:Int))=true from rfl,AL,hself,AL]
    exact ⟨kn,true,rfl,hki,Le.refl _,Nat.le_refl _,(λ_=>⟨⟨[],ha,.inl rfl⟩,λj h1 h2=>absurd h1 h2⟩),λS _ hA _=>⟨hA,rfl⟩⟩
   have hs0:((List.length s:Int)==(0:Int))=false:=by
    rw [Az]
    intro h
    exact hs (Ar (by omega))
   have hRc:F.Rc (F.G f.2.2.2.2.1) i:=Classical.byContradiction λhn=>by rw [hlast hn] at ha;cases ha;exact hs rfl
   have hdi:tot (Jg m.1) (kv kn i)=D i:=by rcases hst with h | h;exact h.2;exact absurd hRc h.1
   have hbytes:=aJ (ss:=Jg m.1) ha
   have Qd3:=yR ha (hki.ty i) (C.c.ty i)
   have Qdo:=QF8 ha
   have hone:=C.c.one i
   rw [hs0,AJ,F.QMm,AY C.hc,AY (by omega),AA,Aj]
   dsimp only
   rw [F.Bo]
   generalize hnx:F.G f.2.2.2.2.1 i=nx
   have hgl:∀ j∈nx,j < f.2.2.2.2.1.length:=λj hj=>F.QAw C.hc hi (by rw [hnx];exact hj)
   have Qd0:∀ j∈nx,F.Rc (F.G f.2.2.2.2.1) j/\tot (Jg m.1) s=D j:=λj hj=>by
    have hj':j∈F.G f.2.2.2.2.1 i:=by rw [hnx];exact hj
    exact ⟨.step hRc hj',by rw [hbytes,hdi];exact (C.c.rt.e i j hRc hj').1.symm⟩
   have QZM:∀ S,vU (F.G f.2.2.2.2.1) (Yz m f.2.2.2.2.1) (Yr f f.2.2.2.2.1) S->kv kn i=S i->∀ j∈nx,S j=s:=by
    intro S hS he j hj
    obtain ⟨s',h1,h2⟩:=hS.2 i hRc
    rw [<- he,ha] at h1
    cases h1
    exact h2 j (by rw [hnx];exact hj)
   have hnl:nx.length<=2:=by rw [<- hnx];exact F.qM _ _
   refine Bg (g:=Ch (CF k) ((m,(f,())),((),(kn,((),())))) big) (n:=nx.length) (λ(sH:List (List Int)) (q:Nat)=>(s,F.ints nx,(nx.length:Int),(q:Int),sH,(m,(f,()))))
    (λq sH=>KI (Jg m.1) (F.G f.2.2.2.2.1) f.2.2.2.2.1.length D sH/\Le kn sH/\emp sH<=emp kn/\(∀ p,p < q->∀ j,nx[p]? = some j->kv sH j=s)/\(∀ j,kv kn j=[]->kv sH j≠[]->Cl (F.G f.2.2.2.2.1) (Yz m f.2.2.2.2.1) (Yr f f.2.2.2.2.1) sH j)/\
     ∀ S,vU (F.G f.2.2.2.2.1) (Yz m f.2.2.2.2.1) (Yr f f.2.2.2.2.1) S->Agr kn S->kv kn i=S i->Agr sH S)
    (QD8 m f D kn i) ?_ ?_ nx.length 0 big (by omega) (Df (by omega)) kn ⟨hki,Le.refl _,Nat.le_refl _,(λp h=>by omega),(λj h1 h2=>absurd h1 h2),λS _ hA _=>hA⟩
   ·rintro self sH ⟨g1,g2,g3,g4,g5,g6⟩
    simp only [Ch,F7,Dk,AJ,hself,AL]
    refine ⟨sH,true,rfl,g1,g2,g3,λ_=>⟨⟨s,?_,.inr λj hj=>?_⟩,g5⟩,λS hS hA hR=>⟨g6 S hS hA (hR hRc),rfl⟩⟩
    ·rw [g1.keep C.c g2 (hki.ty i) hdi];exact ha
    ·rw [hnx] at hj
     obtain ⟨p,hp⟩:=List.getElem?_of_mem hj
     exact g4 p (Aq.1 hp).1 j hp
   ·rintro self sH q hq ⟨g1,g2,g3,g4,g5,g6⟩
    have hj:nx[q]? = some nx[q]:=AU hq
    have hjm:=Ae hq
    generalize nx[q]=j at hj hjm
    have hjn:=hgl j hjm
    obtain ⟨hjr,hjd⟩:=Qd0 j hjm
    have hjk:j < sH.length:=by rw [g1.len];exact hjn
    simp only [Ch,F7,Dq hq,AL,F.Gn (F.ints_at hj),AA,F.ML hjk,kP hjk,hself,wS hq (by omega)]
    by_cases he:kv sH j=[]
    ·rw [he]
     obtain ⟨p1,p2,p3,p4⟩:=g1.put C.c hjn he hs Qd3 hjr hjd (by omega)
     have hse:List.isEmpty s=false:=by cases s with | nil=>exact absurd rfl hs | cons _ _=>rfl
     have hne1:(Nat.ble 1 (List.length (sH.set j s))&&true)=true:=by rw [BJ,Bool.and_true];exact Nat.ble_eq_true_of_le (by omega)
     simp only [List.isEmpty_nil,AL,hse,AJ,Aj,hne1]
     obtain ⟨kn2,b,e2,q1,q2,q3,q4,q5⟩:=ih (sH.set j s) j ⟨p1,hjn,.inl ⟨hjr,by rw [p4];exact hjd⟩⟩ (by omega)
     have hle:Le sH kn2:=p2.trans q2
     rw [e2,AA]
     dsimp only
     have QKv:∀ S,vU (F.G f.2.2.2.2.1) (Yz m f.2.2.2.2.1) (Yr f f.2.2.2.2.1) S->Agr kn S->kv kn i=S i->Agr kn2 S/\b=true:=by
      intro S hS hA hR
      have hSj:=QZM S hS hR j hjm
      refine q5 S hS (λz hz=>?_) (λ_=>by rw [p4,hSj])
      rw [TG hjk] at hz ⊢
      split
      ·rename_i ez;subst ez;exact hSj.symm
      ·rename_i ez;rw [AX ez] at hz;exact g6 S hS hA hR z hz
     cases b with
     | false=>
      right
      rw [A9,AL]
      exact ⟨kn2,false,rfl,q1,g2.trans hle,by omega,(λh=>by cases h),λS hS hA hR=>by have:=(QKv S hS hA (hR hRc)).2;cases this⟩
     | true=>
      left
      have hj2:kv kn2 j=s:=by rw [q2 j (by rw [p4];exact hs),p4]
      obtain ⟨c1,c2⟩:=q4 rfl
      refine ⟨kn2,⟨q1,g2.trans hle,by omega,λp hp z hz=>?_,λz h1 h2=>?_,λS hS hA hR=>(QKv S hS hA hR).1⟩,?_⟩
      ·by_cases hpq:p=q
       ·subst hpq;rw [hj] at hz;cases hz;exact hj2
       ·have:=g4 p (by omega) z hz
        rw [hle z (by rw [this];exact hs),this]
      ·by_cases hz1:kv sH z=[]
       ·by_cases hz2:z=j
        ·subst hz2;exact c1
        ·exact c2 z (by rw [TG hjk,AX hz2];exact hz1) h2
       ·exact (g5 z h1 hz1).mono (hle z hz1) hle
      ·have hn2:nth kn2 j=some s:=by rw [F.M8,QDq (by rw [q1.len];exact hjn),hj2]
       rw [A8,AJ,F.ML (show j < kn2.length by rw [q1.len];exact hjn),AL,hn2,AA,QD6 _ _ (by omega),AA,AB rfl,A8,AJ]
    ·have hje:List.isEmpty (kv sH j)=false:=by
      cases hz:kv sH j with
      | nil=>exact absurd hz he
      | cons _ _=>rfl
     rw [hje,AJ,QD6 _ _ (by have:=g1.short j;omega),AA]
     by_cases heq:kv sH j=s
     ·left
      refine ⟨sH,⟨g1,g2,g3,λp hp z hz=>?_,g5,g6⟩,?_⟩
      ·by_cases hpq:p=q
       ·subst hpq;rw [hj] at hz;cases hz;exact heq
       ·exact g4 p (by omega) z hz
      ·rw [AB heq,A8,AJ]
     ·right
      rw [AF heq,A9,AL]
      refine ⟨sH,false,rfl,g1,g2,g3,(λh=>by cases h),λS hS hA hR=>?_⟩
      exfalso
      exact heq ((g6 S hS hA (hR hRc) j he).trans (QZM S hS (hR hRc) j hjm))
theorem KI.zero {ss:List Int} {g:Nat->List Nat} {n:Nat} {tk pu:Nat->List Int} {D:Nat->Int} (c:Cx ss g n tk pu D) {kn:List (List Int)} (h:KI ss g n D kn) {dep:List Int} (hd:∀ i,i < n->(F.Rc g i->F.da dep i=D i)/\(¬ F.Rc g i->F.da dep i=0)) {j:Nat} (hj:j < n) (hz:F.da dep j=0):kv kn j=[]:=by
 by_cases he:kv kn j=[]
 ·exact he
 ·obtain ⟨h1,h2⟩:=h.dep j he
  exact aD c.ok (h.ty j) (h2.trans (((hd j hj).1 h1).symm.trans hz))
theorem Zc (n i:Nat):kv (List.replicate n []) i=[]:=by
 unfold kv
 rw [Ad,List.getElem?_replicate]
 split <;> rfl
theorem KI.start (ss:List Int) (g:Nat->List Nat) (n:Nat) (D:Nat->Int):KI ss g n D (List.replicate n []):=by
 refine ⟨List.length_replicate,λk t ht=>?_,λk h=>absurd (Zc n k) h,λk=>?_⟩
 ·rw [Zc] at ht;cases ht
 ·have:=QKj (List.replicate n [])
  rw [List.length_replicate] at this
  rw [Zc]
  simpa using this
theorem QL7 {m:DF} {f:DX} {D:Nat->Int} (C:Ck m f D) {dep:List Int} (hdl:dep.length=f.2.2.2.2.1.length) (hre:∀ i,i < f.2.2.2.2.1.length->F.Rc (F.G f.2.2.2.2.1) i\/i=f.2.2.2.2.1.length - 1)
  (hd:∀ i,i < f.2.2.2.2.1.length->(F.Rc (F.G f.2.2.2.2.1) i->F.da dep i=D i)/\(¬ F.Rc (F.G f.2.2.2.2.1) i->F.da dep i=0)) :
  ∃ b,Iu ((m,(f,())),dep)=some b/\(b=true↔∃ S,vU (F.G f.2.2.2.2.1) (Yz m f.2.2.2.2.1) (Yr f f.2.2.2.2.1) S):=by
 have hcd:=C.v.cd
 show ∃ b,FY (λ_=>List.replicate) (BP (Cw (λ_=>List.replicate) big) big) _=some b/\_
 unfold FY
 dsimp only
 rw [F.Yo (by omega),AL,Aj]
 refine Bg (g:=Cw (λ_=>List.replicate) big) (n:=dep.length) (λ(kn:List (List Int)) (i:Nat)=>(dep,(dep.length:Int),(i:Int),(m,(f,())),kn))
  (λi kn=>KI (Jg m.1) (F.G f.2.2.2.2.1) f.2.2.2.2.1.length D kn/\(∀ j,j < i->F.da dep j=0->Cl (F.G f.2.2.2.2.1) (Yz m f.2.2.2.2.1) (Yr f f.2.2.2.2.1) kn j)/\(∀ j,kv kn j≠[]->Cl (F.G f.2.2.2.2.1) (Yz m f.2.2.2.2.1) (Yr f f.2.2.2.2.1) kn j)/\
   ∀ S,vU (F.G f.2.2.2.2.1) (Yz m f.2.2.2.2.1) (Yr f f.2.2.2.2.1) S->Agr kn S)
  (λr=>∃ b,r=some b/\(b=true↔∃ S,vU (F.G f.2.2.2.2.1) (Yz m f.2.2.2.2.1) (Yr f f.2.2.2.2.1) S)) ?_ ?_ dep.length 0 big (by omega) (Df (by omega)) _
  ⟨by rw [hdl];exact KI.start _ _ _ _,(λj h=>by omega),(λj h=>absurd (Zc _ j) h),λS _ k hk=>absurd (Zc _ k) hk⟩
 ·rintro self kn ⟨g1,g2,g3,g4⟩
  simp only [Cw,Gu,Dk,AJ]
  refine ⟨true,rfl,λ_=>⟨kv kn,?_,?_⟩,λ_=>rfl⟩
  ·have h0:F.da dep 0=0:=((hd 0 (by omega)).1 .zero).trans C.c.rt.z
   exact g1.zero C.c hd (by omega) h0
  ·have all:∀ i,F.Rc (F.G f.2.2.2.2.1) i->Cl (F.G f.2.2.2.2.1) (Yz m f.2.2.2.2.1) (Yr f f.2.2.2.2.1) kn i/\tot (Jg m.1) (kv kn i)=D i:=by
    have z:∀ i,F.Rc (F.G f.2.2.2.2.1) i->D i=0->Cl (F.G f.2.2.2.2.1) (Yz m f.2.2.2.2.1) (Yr f f.2.2.2.2.1) kn i/\tot (Jg m.1) (kv kn i)=D i:=λi hi e=>by
     have hin:=C.c.lt i hi
     have h0:F.da dep i=0:=((hd i hin).1 hi).trans e
     exact ⟨g2 i (by omega) h0,by rw [g1.zero C.c hd hin h0,e];rfl⟩
    intro i hi
    induction hi with
    | zero=>exact z 0 .zero C.c.rt.z
    | step hi hj ih=>
     rename_i i j
     obtain ⟨⟨s,h1,h2⟩,h3⟩:=ih
     have h4:=aJ (ss:=Jg m.1) h1
     have h5:=(C.c.rt.e _ _ hi hj).1
     by_cases e:s=[]
     ·subst e
      exact z j (.step hi hj) (by rw [h5,<- h3,<- h4];rfl)
     ·have h6:=(h2.resolve_left e) j hj
      exact ⟨g3 j (by rw [h6];exact e),by rw [h6,h4,h3,h5]⟩
   intro i hi
   obtain ⟨⟨s,h1,h2⟩,h3⟩:=all i hi
   refine ⟨s,h1,λj hj=>?_⟩
   by_cases e:s=[]
   ·subst e
    have h4:=aJ (ss:=Jg m.1) h1
    have h5:=(C.c.rt.e _ _ hi hj).1
    have hr:F.Rc (F.G f.2.2.2.2.1) j:=.step hi hj
    exact aD C.c.ok (g1.ty j) (by rw [(all j hr).2,h5,<- h3,<- h4];rfl)
   ·exact (h2.resolve_left e) j hj
 ·rintro self kn i hi ⟨g1,g2,g3,g4⟩
  have hin:i < f.2.2.2.2.1.length:=by omega
  simp only [Cw,Gu,Dq hi,AL,F.QFJ hi,AA,wS hi (by omega)]
  by_cases hz:F.da dep i=0
  ·have e0:(F.da dep i==(0:Int))=true:=by rw [hz];rfl
   have hne:(Nat.ble 1 (List.length kn)&&true)=true:=by rw [g1.len,Bool.and_true];exact Nat.ble_eq_true_of_le hcd.1
   have hki:=g1.zero C.c hd hin hz
   have hpre:QPI m f D kn i:=by
    refine ⟨g1,hin,?_⟩
    by_cases hr:F.Rc (F.G f.2.2.2.2.1) i
    ·exact .inl ⟨hr,by rw [hki,<- (hd i hin).1 hr,hz];rfl⟩
    ·exact .inr ⟨hr,(hre i hin).resolve_left hr,hki⟩
   have hem:=QKj kn
   rw [g1.len] at hem
   obtain ⟨kn',b,q0,q1,q2,q3,q4,q5⟩:=go_eq C big kn i hpre (Df (by omega))
   have q0:Gs ((i:Int),((),((),((),())))) ((m,(f,())),((),(kn,((),()))))=some (kn',b):=q0
   rw [e0,AL,hne,AL,q0,AA]
   dsimp only
   have QKv:∀ S,vU (F.G f.2.2.2.2.1) (Yz m f.2.2.2.2.1) (Yr f f.2.2.2.2.1) S->Agr kn' S/\b=true:=λS hS=>q5 S hS (g4 S hS) λhr=>by
    rw [hki,hS.empty C.c hr (((hd i hin).1 hr).symm.trans hz)]
   cases b with
   | false=>
    right
    rw [A9,AL]
    exact ⟨false,rfl,(λh=>by cases h),λ⟨S,hS⟩=>(QKv S hS).2⟩
   | true=>
    left
    rw [A8,AJ]
    obtain ⟨c1,c2⟩:=q4 rfl
    refine ⟨kn',⟨q1,λj hj h0=>?_,λj hj=>?_,λS hS=>(QKv S hS).1⟩,rfl⟩
    ·by_cases hji:j=i
     ·subst hji;exact c1
     ·exact (g2 j (by omega) h0).mono (by rw [q1.zero C.c hd (by omega) h0,g1.zero C.c hd (by omega) h0]) q2
    ·by_cases h1:kv kn j=[]
     ·exact c2 j h1 hj
     ·exact (g3 j h1).mono (q2 j h1) q2
  ·left
   have e0:(F.da dep i==(0:Int))=false:=by rw [Az];exact hz
   rw [e0,AJ]
   exact ⟨kn,⟨g1,λj hj h0=>by
    by_cases hji:j=i
    ·subst hji;exact absurd h0 hz
    ·exact g2 j (by omega) h0,g3,g4⟩,rfl⟩
def jW (m:DF) (f:DX):List Int:=f.2.2.2.2.1.map λx=>tot (Jg m.1) (nP f x) - tot (Jg m.1) (tkn m x)
structure Ci (m:DF) (f:DX):Prop where
 V:Vm m
 v:Vf m.1.length f
 hc:F.VP f.2.2.2.2.1=true
 hr:∀ x∈f.2.2.2.2.1,OC m f x=true
 re:∀ i,i < f.2.2.2.2.1.length->F.Rc (F.G f.2.2.2.2.1) i\/i=f.2.2.2.2.1.length - 1
theorem Ci.tys {m:DF} {f:DX} (C:Ci m f) {x:Ins} (hx:x∈f.2.2.2.2.1):qQ (Jg m.1) (nP f x)/\qQ (Jg m.1) (tkn m x):=by
 constructor
 ·unfold nP
  split
  ·rename_i e
   have hA:=(kg (C.v.ok x hx) (C.hr x hx) (k:=24) e (show Xc ((24:Nat):Int)=[1,0,0] by decide +kernel)).1 (by simp)
   intro t ht
   obtain rfl:t=Gm f x.2.1:=by simpa using ht
   rw [YZ]
   exact WA C.v hA
  ·intro t ht;cases ht
 ·unfold tkn
  split
  ·split
   ·rename_i h hq
    have:=(C.V.ok h (BF hq)).ty
    intro t ht
    obtain ⟨z,hz,rfl⟩:=List.mem_map.1 ht
    rw [YZ]
    exact this z (List.mem_of_mem_take hz)
   ·intro t ht;cases ht
  ·intro t ht;cases ht
theorem QEa {ss:List Int} (h:Sok ss):∀ {s:List Int},qQ ss s->tot ss s<=256 * s.length
 | [],_=>by simp [tot]
 | t::s,ht=>by
  have h1:=QEa h (s:=s) λu hu=>ht u (by simp [hu])
  obtain ⟨z,_,z2,z3⟩:=FH (ht t (by simp)).1 (ht t (by simp)).2
  have:=h.big z z3
  rw [jL,Ad,z2,BH,Af]
  omega
theorem Ci.by {m:DF} {f:DX} (C:Ci m f) {x:Ins} (hx:x∈f.2.2.2.2.1) : -4096<=tot (Jg m.1) (nP f x) - tot (Jg m.1) (tkn m x)/\tot (Jg m.1) (nP f x) - tot (Jg m.1) (tkn m x)<=4096/\0<=tot (Jg m.1) (nP f x)/\tot (Jg m.1) (nP f x)<=256/\0<=tot (Jg m.1) (tkn m x)/\tot (Jg m.1) (tkn m x)<=4096:=by
 have hs:Sok (Jg m.1):=⟨uM C.V⟩
 obtain ⟨h1,h2⟩:=C.tys hx
 have a1:=QEa hs h1
 have a2:=QEa hs h2
 have b1:=(bZ hs h1).1
 have b2:=(bZ hs h2).1
 have c1:=iq f x
 have c2:=qK C.V x
 omega
theorem QDO (m:DF) (f:DX):(jW m f).length=f.2.2.2.2.1.length:=by simp [jW]
theorem QYp {m:DF} {f:DX} (C:Ci m f):F.QDU (jW m f)=true:=by
 simp only [F.QDU,List.all_eq_true,jW,List.mem_map]
 rintro b ⟨x,hx,rfl⟩
 have:=C.by hx
 simp
 omega
theorem Ci.ck {m:DF} {f:DX} (C:Ci m f) {D:Nat->Int} (h:F.Right (F.G f.2.2.2.2.1) (F.da (jW m f)) f.2.2.2.2.1.length D):Ck m f D:=by
 refine ⟨C.V,C.v,C.hc,C.hr,⟨uM C.V⟩,λi=>?_,λi=>?_,⟨h.z,λi j hi hj=>?_⟩,λi hi=>hi.lt C.hc⟩
 ·unfold Yr
  cases hx:f.2.2.2.2.1[i]? with
  | none=>intro t ht;cases ht
  | some x=>exact (C.tys (BF hx)).1
 ·unfold Yr
  cases hx:f.2.2.2.2.1[i]? with
  | none=>simp
  | some x=>exact iq f x
 ·have hin:=hi.lt C.hc
  have e:F.da (jW m f) i=tot (Jg m.1) (Yr f f.2.2.2.2.1 i) - tot (Jg m.1) (Yz m f.2.2.2.2.1 i):=by
   simp [F.da,jW,Yr,Yz,hin]
  rw [<- e]
  exact h.e i j hi hj
def UQ (m:DF) (f:DX):Prop:=(∃ dep,F.uz f.2.2.2.2.1 (jW m f) dep)/\∃ S,vU (F.G f.2.2.2.2.1) (Yz m f.2.2.2.2.1) (Yr f f.2.2.2.2.1) S
theorem QGi {m:DF} {f:DX} (C:Ci m f):∃ dep b,Fx ((m,(f,())),Jg m.1)=some (dep,b)/\(b=true↔UQ m f)/\(b=true->F.uz f.2.2.2.2.1 (jW m f) dep):=by
 have hcd:=C.v.cd
 have hs:=QU7 C.V
 show ∃ dep b,Ip (λ_=>List.replicate) (BP (Dx (λ_=>List.replicate) big) big) _=some (dep,b)/\_
 unfold Ip
 dsimp only
 rw [F.Yo (by omega),AL,Aj]
 refine Bg (g:=Dx (λ_=>List.replicate) big) (n:=f.2.2.2.2.1.length) (λ(x:List Int) (i:Nat)=>(Jg m.1,f.2.2.2.2.1,(f.2.2.2.2.1.length:Int),(i:Int),(m,(f,())),x))
  (λi x=>x.length=f.2.2.2.2.1.length/\x.take i=(jW m f).take i) (λr=>∃ dep b,r=some (dep,b)/\(b=true↔UQ m f)/\(b=true->F.uz f.2.2.2.2.1 (jW m f) dep)) ?_ ?_ f.2.2.2.2.1.length 0 big (by omega) (Df (by omega)) _ ⟨List.length_replicate,rfl⟩
 ·rintro self x ⟨h1,h2⟩
  rw [BD (by omega),BD (by rw [QDO];omega)] at h2
  subst h2
  simp only [Dx,Kv,Dk,AJ]
  have hD:=F.QGJ f.2.2.2.2.1 (jW m f)
  unfold F.VU at hD
  rw [AY C.hc,AY ⟨QDO m f,QYp C⟩] at hD
  rcases hD with ⟨dep,e,hi⟩ | ⟨hn,e⟩
  ·rw [e,AA]
   dsimp only
   obtain ⟨hl,D,hR,hd⟩:=hi
   obtain ⟨b,hb,hiff⟩:=QL7 (C.ck hR) hl C.re hd
   rw [show ((0:Int)==(0:Int))=true from rfl,AL,hb,AA]
   exact ⟨dep,b,rfl,hiff.trans ⟨λh=>⟨⟨dep,hl,D,hR,hd⟩,h⟩,λh=>h.2⟩,λ_=>⟨hl,D,hR,hd⟩⟩
  ·rw [e,AA]
   dsimp only
   rw [show ((36:Int)==(0:Int))=false from rfl,AJ]
   exact ⟨[],false,rfl,⟨(λh=>by cases h),λ⟨⟨dep,_,D,hR,_⟩,_⟩=>absurd hR (hn D)⟩,λh=>by cases h⟩
 ·rintro self x i hi ⟨h1,h2⟩
  left
  have hm:=Ae hi
  obtain ⟨b1,b2,b3,b4,b5,b6⟩:=C.by hm
  obtain ⟨t1,t2⟩:=C.tys hm
  refine ⟨x.set i (tot (Jg m.1) (nP f f.2.2.2.2.1[i]) - tot (Jg m.1) (tkn m f.2.2.2.2.1[i])),⟨by rw [BJ];exact h1,?_⟩,?_⟩
  ·rw [Ko _ _ _ (by omega),h2,Ah (by rw [QDO];exact hi)]
   simp [jW]
  ·simp only [Dx,Kv,Dq hi,AL,gI hi,AA,xU (C.v.ok _ hm) (C.hr _ hm),QCo C.V (C.v.ok _ hm) (C.hr _ hm),QMA hs _ (by have:=iq f f.2.2.2.2.1[i];omega) t1,QMA hs _ (by have:=qK C.V f.2.2.2.2.1[i];omega) t2,F.ML (show i < x.length by omega),wS hi (by omega)]
   rw [T.t64 (by omega) (by omega),Aj]
def dB (fs:List Nat) (i:Nat) (s:Int):Bool:=decide ((F.ma fs i &&& 2 ^ s.toNat)=0)
def vL (l:List Ins) (fs:List Nat):Nat->Nat->Int
 | 0,_=>-1
 | k+1,i=>if ((l[i]?).any λx=>(F.rS x).any (dB fs i))=true then (i:Int) else vL l fs k (i+1)
theorem QE2 {l:List Ins} (hok:∀ x∈l,Qf x=true) (hl:l.length<=200) {fs:List Nat} (hf:fs.length=l.length) (h16:∀ i,F.ma fs i < 65536):Fw (l,F.ints fs)=some (vL l fs l.length 0):=by
 show F3 (BP (Co big) big) _=_
 unfold F3
 dsimp only
 have key:∀ (k i N:Nat),i+k=l.length->k < N->BP (Co big) N (l,(l.length:Int),(i:Int),F.ints fs)=some (vL l fs k i):=by
  intro k
  induction k with
  | zero=>
   intro i N hi hN
   obtain ⟨N,rfl⟩:∃ M,N=M+1:=⟨N - 1,by omega⟩
   obtain rfl:i=l.length:=by omega
   rw [Ba]
   simp only [Co,Gp,Dk,AJ]
   rfl
  | succ k ih=>
   intro i N hi hN
   obtain ⟨N,rfl⟩:∃ M,N=M+1:=⟨N - 1,by omega⟩
   have hi':i < l.length:=by omega
   have ho:=hok _ (Ae hi')
   obtain ⟨s1,_,s3,_⟩:=F.VK ho
   rw [Ba]
   simp only [Co,Gp,Dq hi',AL,gI hi',AA,uV ho]
   have hany:((l[i]?).any λx=>(F.rS x).any (dB fs i))=(F.rS l[i]).any (dB fs i):=by simp [hi']
   unfold vL
   rw [hany]
   generalize F.rS l[i]=r at s1 s3
   have:=CQ (g:=E5 big (BP (Co big) N)) (mk:=λq=>((r.length:Int),(q:Int),r,F.ints fs,(i:Int),l,(l.length:Int),(i:Int))) (p:=λq=>(r[q]?).all λ(s:Int)=>!dB fs i s) (no:=some (i:Int)) (kk:=some (vL l fs k (i+1))) (n:=r.length)
    (λself q hq=>by
     have hs:=s1 _ (Ae hq)
     simp only [E5,Kt,Dq hq,AL,F.ML hq,F.Jb (AU hq),AA,F.qG (show i < fs.length by omega),AF (show ¬ r[q] < 0 by omega),AJ,F.QLw hs.1 (show r[q]<=16 by omega),F.QSk (h16 i) (F.QFr hs.1 hs.2),wS hq (by omega),pat hq,dB]
     by_cases hz:(F.ma fs i &&& 2 ^ (r[q]).toNat)=0
     ·have e0:(((F.ma fs i &&& 2 ^ (r[q]).toNat:Nat):Int)==(0:Int))=true:=by rw [hz];rfl
      rw [e0,AL,AB (show ((q:Int)>=0) by omega),AL,AB hz]
      rfl
     ·have e0:(((F.ma fs i &&& 2 ^ (r[q]).toNat:Nat):Int)==(0:Int))=false:=by rw [Az];omega
      rw [e0,AJ,AF hz]
      rfl)
    (λself=>by
     simp only [E5,Kt,Dk,AJ,wS hi' (by omega)]
     exact ih (i+1) N (by omega) (by omega)) r.length 0 big (by omega) (Df (by omega))
   rw [cB,show ((0:Nat):Int)=0 from rfl] at this
   rw [this]
   have e:r.all (λs=>!dB fs i s)=!r.any (dB fs i):=by rw [List.not_any_eq_all_not]
   rw [e]
   cases r.any (dB fs i) <;> rfl
 exact key l.length 0 big (by omega) (Df (by omega))
theorem QLo {v:List Int} (h1:1<=v.length) (h2:v.length<=200):GN v=some (T.KN v):=by
 show Jy (λ_=>List.replicate) (BP (EH (λ_=>List.replicate) big) big) v=_
 unfold Jy
 rw [F.Yo (by omega),AL,Aj]
 have key:∀ (k i N:Nat) (x:List Int),i+k=v.length->k < N->x.length=v.length->x.take i=v.take i->BP (EH (λ_=>List.replicate) big) N (v,(v.length:Int),(i:Int),x)=some (T.KN v):=by
  intro k
  induction k with
  | zero=>
   intro i N x hi hN hx ht
   obtain ⟨N,rfl⟩:∃ M,N=M+1:=⟨N - 1,by omega⟩
   obtain rfl:i=v.length:=by omega
   rw [BD (by omega),BD (by omega)] at ht
   subst ht
   rw [Ba]
   simp only [EH,Lu,Dk,AJ,T.QCJ,AA,T.QFh]
   rw [AX (by omega)]
  | succ k ih=>
   intro i N x hi hN hx ht
   obtain ⟨N,rfl⟩:∃ M,N=M+1:=⟨N - 1,by omega⟩
   have hi':i < v.length:=by omega
   rw [Ba]
   simp only [EH,Lu,Dq hi',AL,gI hi',AA,F.ML (show i < x.length by omega),wS hi' (by omega)]
   rw [Aj]
   exact ih (i+1) N _ (by omega) (by omega) (by rw [BJ];exact hx) (by rw [Ko _ _ _ (by omega),ht,Ah hi'])
 exact key v.length 0 big _ (by omega) (Df (by omega)) List.length_replicate rfl
theorem QLn {v:List Int} (h1:1<=v.length) (h2:v.length<=200) (hv:∀ x∈v,0<=x/\x<=1000000):J7 v=some (T.KN v):=by
 show OO (λ_=>List.replicate) (BP (FR (λ_=>List.replicate) big) big) v=_
 unfold OO
 rw [F.Yo (by omega),AL,Aj]
 have key:∀ (k i N:Nat) (x:List Int),i+k=v.length->k < N->x.length=v.length->x.take i=v.take i->BP (FR (λ_=>List.replicate) big) N (v,(v.length:Int),(i:Int),x)=some (T.KN v):=by
  intro k
  induction k with
  | zero=>
   intro i N x hi hN hx ht
   obtain ⟨N,rfl⟩:∃ M,N=M+1:=⟨N - 1,by omega⟩
   obtain rfl:i=v.length:=by omega
   rw [BD (by omega),BD (by omega)] at ht
   subst ht
   rw [Ba]
   simp only [FR,Pk,Dk,AJ,T.QCJ,AA,T.QFh]
   rw [AX (by omega)]
  | succ k ih=>
   intro i N x hi hN hx ht
   obtain ⟨N,rfl⟩:∃ M,N=M+1:=⟨N - 1,by omega⟩
   have hi':i < v.length:=by omega
   have hb:=hv _ (Ae hi')
   rw [Ba]
   simp only [FR,Pk,Dq hi',AL,gI hi',AA,F.ML (show i < x.length by omega),wS hi' (by omega)]
   rw [Aj,show IntKind.u64.wrap v[i]=v[i] by rw [wrap_u64];omega]
   exact ih (i+1) N _ (by omega) (by omega) (by rw [BJ];exact hx) (by rw [Ko _ _ _ (by omega),ht,Ah hi'])
 exact key v.length 0 big _ (by omega) (Df (by omega)) List.length_replicate rfl
open Classical in
noncomputable def gY (m:DF) (f:DX):List Int:=if h:∃ dep,F.uz f.2.2.2.2.1 (jW m f) dep then Classical.choose h else []
theorem yx {m:DF} {f:DX} {dep:List Int} (h:F.uz f.2.2.2.2.1 (jW m f) dep):gY m f=dep:=by
 unfold gY
 rw [dif_pos ⟨dep,h⟩]
 exact (Classical.choose_spec (⟨dep,h⟩:∃ dep,F.uz f.2.2.2.2.1 (jW m f) dep)).same h
open Classical in
noncomputable def R8 (f:DX):List Nat:=if h:∃ fs,F.IsM f.2.2.2.2.1 (F.wm f.2.2.2.2.1) (F.low f.2.1) (F.low (f.2.2.2.1.length:Int)) fs then Classical.choose h else []
theorem QA7 {f:DX} {fs:List Nat} (h:F.IsM f.2.2.2.2.1 (F.wm f.2.2.2.2.1) (F.low f.2.1) (F.low (f.2.2.2.1.length:Int)) fs):R8 f=fs:=by
 unfold R8
 rw [dif_pos ⟨fs,h⟩]
 exact (Classical.choose_spec (⟨fs,h⟩:∃ fs,F.IsM f.2.2.2.2.1 (F.wm f.2.2.2.2.1) (F.low f.2.1) (F.low (f.2.2.2.1.length:Int)) fs)).same h
noncomputable def fwF (m:DF) (f:DX):Int×Int:=fwS m f f.2.2.2.2.1 (F.NV f.2.2.2.2.1) f.2.2.2.2.1.length 0
open Classical in
noncomputable def flt (m:DF) (fi:Int) (f:DX):Int×Int:=
 if F.VP f.2.2.2.2.1=false then (-1,12)
 else if fi=0/\(0 < f.2.1\/f.2.2.1≠-1) then (-1,30)
 else if (fwF m f).2≠0 then fwF m f
 else if ¬ UQ m f then (-1,36)
 else if vL f.2.2.2.2.1 (R8 f) f.2.2.2.2.1.length 0≠-1 then (vL f.2.2.2.2.1 (R8 f) f.2.2.2.2.1.length 0,38)
 else (0,0)
noncomputable def RO (m:DF) (f:DX):DX:=(f.1,(f.2.1,(f.2.2.1,(f.2.2.2.1,(f.2.2.2.2.1,(T.KN (gY m f),(T.KN (F.ints (R8 f)),())))))))
def Yu:DX:=([],(0,(0,([],([],([],([],())))))))
noncomputable def wtS (m:DF) (fi:Int) (f:DX):DX×Int×Int:=(if (flt m fi f).2=0 then RO m f else Yu,flt m fi f)
theorem QKt {m:DF} (V:Vm m) {f:DX} (v:Vf m.1.length f) (hc:F.VP f.2.2.2.2.1=true) (hz:(fwF m f).2=0):Ci m f/\∀ x∈f.2.2.2.2.1,ZV m f x=true:=by
 have hrl:=F.fG f.2.2.2.2.1
 have key:=QFY (by omega) hrl.symm hz
 have one:∀ j,(h:j < f.2.2.2.2.1.length)->OC m f f.2.2.2.2.1[j]=true/\(F.NV f.2.2.2.2.1)[j]? = some true/\ZV m f f.2.2.2.2.1[j]=true:=by
  intro j h
  obtain ⟨h',e⟩:=key j (by omega) h
  unfold bq at e
  split at e
  ·exact absurd e (by decide)
  ·split at e
   ·exact absurd e (by decide)
   ·split at e
    ·exact absurd e (by decide)
    ·rename_i e1 e2 e3
     refine ⟨by simpa using e1,?_,by simpa using e3⟩
     rw [AU h']
     simpa using e2
 refine ⟨⟨V,v,hc,λx hx=>?_,λi hi=>(F.xY hc hi).1 (one i hi).2.1⟩,λx hx=>?_⟩
 ·obtain ⟨j,hj,rfl⟩:=List.mem_iff_getElem.1 hx
  exact (one j hj).1
 ·obtain ⟨j,hj,rfl⟩:=List.mem_iff_getElem.1 hx
  exact (one j hj).2.2
theorem Ci.low {m:DF} {f:DX} (C:Ci m f):F.iD f.2.2.2.2.1 f.2.1 (f.2.2.2.1.length:Int)=0:=by
 rw [F.QGn]
 refine ⟨⟨C.v.par.1,C.v.par.2,by have:=C.v.sl;omega⟩,List.all_eq_true.2 λx hx=>?_⟩
 have:=C.hr x hx
 simp only [OC,AP,List.all_append] at this
 simp only [F.vI,AP]
 exact this.1
theorem QDn {m:DF} {f:DX} (C:Ci m f):Og (f.2.2.2.2.1,f.2.1,(f.2.2.2.1.length:Int))=some (F.ints (R8 f),0)/\F.IsM f.2.2.2.2.1 (F.wm f.2.2.2.2.1) (F.low f.2.1) (F.low (f.2.2.2.1.length:Int)) (R8 f):=by
 have:=F.QJb (l:=f.2.2.2.2.1) f.2.1 (f.2.2.2.1.length:Int)
 unfold F.WC at this
 rw [AY C.hc,AY C.low] at this
 obtain ⟨fs,h1,h2⟩:=this
 rw [QA7 h2]
 exact ⟨h1,h2⟩
theorem QFc {l:List Ins} {bs dep:List Int} (hc:F.VP l=true) (h:F.uz l bs dep):∀ x∈dep,0<=x/\x<=1000000:=by
 obtain ⟨hl,D,hR,hd⟩:=h
 intro x hx
 obtain ⟨i,hi,rfl⟩:=List.mem_iff_getElem.1 hx
 have e:dep[i]=F.da dep i:=by simp [F.da,hi]
 rw [e]
 by_cases hr:F.Rc (F.G l) i
 ·rw [(hd i (by omega)).1 hr];have:=hR.bd hr;omega
 ·rw [(hd i (by omega)).2 hr];omega
theorem dV {m:DF} (V:Vm m) {fi:Nat} {f:DX} (hf:m.2.2.1[fi]? = some f):G9 (m,(fi:Int),Jg m.1)=some (wtS m fi f):=by
 have hfi:=(Aq.1 hf).1
 have v:=V.ok f (BF hf)
 have hcd:=v.cd
 show QG _=_
 unfold QG
 dsimp only
 have hg:BX m.2.2.1 (fi:Int)=some f:=by rw [gI hfi,<- AU hfi,hf]
 rw [hg,AA,F.Wu,AA]
 have wz:∀ q:Int×Int,flt m fi f=q->q.2≠0->some (Yu,q.1,q.2)=some (wtS m fi f):=λq e h=>by unfold wtS;rw [e,AX h]
 cases hc:F.VP f.2.2.2.2.1 with
 | false=>
  rw [AX (by simp),show ((8:Int) != (0:Int))=true from rfl,AL]
  exact wz (-1,12) (by unfold flt;rw [AY hc]) (by decide)
 | true=>
  rw [AY rfl,show ((0:Int) != (0:Int))=false from rfl,AJ]
  have rest:¬ ((fi:Int)=0/\(0 < f.2.1\/f.2.2.1≠-1))->((EG (m,(f,()))).bind λH7=>(bif (H7.2 != (0:Int)) then (let Qn:DX:=(([]:List Int),((0:Int),((0:Int),(([]:List K.Qo),(([]:List Ins),(([]:List T.Rn),(([]:List T.Rn),())))))));(some (Qn,H7.1,H7.2))) else ((Fx ((m,(f,())),Jg m.1)).bind λSg=>(bif (!Sg.2) then (let VR:DX:=(([]:List Int),((0:Int),((0:Int),(([]:List K.Qo),(([]:List Ins),(([]:List T.Rn),(([]:List T.Rn),())))))));(some (VR,(-1:Int),(36:Int)))) else ((Og (f.2.2.2.2.1,f.2.1,(List.length f.2.2.2.1:Int))).bind λVL=>((Fw (f.2.2.2.2.1,VL.1)).bind λVT=>(bif (VT != (-1:Int)) then (let x21:DX:=(([]:List Int),((0:Int),((0:Int),(([]:List K.Qo),(([]:List Ins),(([]:List T.Rn),(([]:List T.Rn),())))))));(some (x21,VT,(38:Int)))) else ((J7 Sg.1).bind λXd=>((GN VL.1).bind λx23=>(some ((f.1,(f.2.1,(f.2.2.1,(f.2.2.2.1,(f.2.2.2.2.1,(Xd,(x23,f.2.2.2.2.2.2.2))))))),(0:Int),(0:Int))))))))))))=some (wtS m fi f):=by
   intro hn
   rw [vF V v hc,AA]
   show (bif (fwF m f).2 != 0 then _ else _)=_
   by_cases hz:(fwF m f).2=0
   rotate_left
   ·rw [CX,AF hz,A9,AL]
    exact wz (fwF m f) (by unfold flt;rw [AX (by simp [hc]),AX hn,AY hz]) hz
   rw [CX,AB hz,A8,AJ]
   obtain ⟨C,_⟩:=QKt V v hc hz
   obtain ⟨dep,b,e1,hb,hd⟩:=QGi C
   obtain ⟨e2,hM⟩:=QDn C
   have h16:=hM.up hc (F.qC (by have:=v.sl;omega))
   rw [e1,AA]
   dsimp only
   cases b with
   | false=>
    rw [A9,AL]
    have hs:¬ UQ m f:=λh=>by have:=hb.2 h;cases this
    exact wz (-1,36) (by unfold flt;rw [AX (by simp [hc]),AX hn,AX (by simp [hz]),AY hs]) (by simp)
   | true=>
    have hs:=hb.1 rfl
    have hD:=hd rfl
    rw [A8,AJ,e2,AA]
    dsimp only
    rw [QE2 v.ok hcd.2 hM.1 h16,AA]
    by_cases hnl:vL f.2.2.2.2.1 (R8 f) f.2.2.2.2.1.length 0 = -1
    rotate_left
    ·rw [CX,AF hnl,A9,AL]
     exact wz (vL f.2.2.2.2.1 (R8 f) f.2.2.2.2.1.length 0,38) (by unfold flt;rw [AX (by simp [hc]),AX hn,AX (by simp [hz]),AX (by simp [hs]),AY hnl]) (by simp)
    ·have hdl:=hD.1
     rw [CX,AB hnl,A8,AJ,QLn (by omega) (by omega) (QFc hc hD),AA,QLo (by rw [F.Bo,hM.1];exact hcd.1) (by rw [F.Bo,hM.1];exact hcd.2),AA]
     have e:flt m fi f=(0,0):=by unfold flt;rw [AX (by simp [hc]),AX hn,AX (by simp [hz]),AX (by simp [hs]),AX (by simp [hnl])]
     unfold wtS
     rw [e,AY rfl,RO,yx hD]
  by_cases h0:(fi:Int)=0
  ·have e0:((fi:Int)==(0:Int))=true:=by rw [h0];rfl
   rw [e0,AL]
   by_cases hp:f.2.1 > 0
   ·rw [AB hp,AL]
    exact wz (-1,30) (by unfold flt;rw [AX (by simp [hc]),AY ⟨h0,.inl hp⟩]) (by decide)
   rw [AF hp,AJ,CX]
   by_cases hr:f.2.2.1 = -1
   ·rw [AB hr,A8,AJ]
    exact rest λh=>by rcases h.2 with h | h;exact hp h;exact h hr
   ·rw [AF hr,A9,AL]
    exact wz (-1,30) (by unfold flt;rw [AX (by simp [hc]),AY ⟨h0,.inr hr⟩]) (by decide)
  ·have e0:((fi:Int)==(0:Int))=false:=by rw [Az];exact h0
   rw [e0,AJ]
   exact rest λh=>h0 h.1
noncomputable def rH (m:DF):Nat->Nat->Int×Int×Int
 | 0,_=>(0,0,0)
 | k+1,i=>match m.2.2.1[i]? with
  | some f=>if (flt m i f).2≠0 then ((i:Int),flt m i f) else if f=RO m f then rH m k (i+1) else ((i:Int),-1,32)
  | none=>(0,0,0)
theorem uf {m:DF} {f:DX}:f=RO m f↔f.2.2.2.2.2.1=T.KN (gY m f)/\f.2.2.2.2.2.2.1=T.KN (F.ints (R8 f)):=by
 obtain ⟨a,b,c,d,e,g,h,u⟩:=f
 constructor
 ·intro e
  have e2:=congrArg (λq:DX=>(q.2.2.2.2.2.1,q.2.2.2.2.2.2.1)) e
  simp only [RO,Prod.mk.injEq] at e2
  exact e2
 ·rintro ⟨h1,h2⟩
  unfold RO
  dsimp only at h1 h2 ⊢
  rw [<- h1,<- h2]
theorem QAu {m:DF} (h:uy m):Ma m=some (if Yi m=0 then rH m m.2.2.1.length 0 else (0,0,Yi m)):=by
 show QD (BP (GU big) big) m=_
 unfold QD
 rw [Ig m h,AA]
 by_cases hc:Yi m=0
 rotate_left
 ·rw [CX,AF hc,A9,AL,AX hc]
 have V:=mo (ZM hc).1
 have hn:=V.fn.2
 rw [CX,AB hc,A8,AJ,AY hc,QCh V,AA]
 have key:∀ (k i N:Nat),i+k=m.2.2.1.length->k < N->BP (GU big) N (Jg m.1,m.2.2.1,(m.2.2.1.length:Int),(i:Int),m)=some (rH m k i):=by
  intro k
  induction k with
  | zero=>
   intro i N hi hN
   obtain ⟨N,rfl⟩:∃ M,N=M+1:=⟨N - 1,by omega⟩
   obtain rfl:i=m.2.2.1.length:=by omega
   rw [Ba]
   simp only [GU,Uf,Dk,AJ]
   rfl
  | succ k ih=>
   intro i N hi hN
   obtain ⟨N,rfl⟩:∃ M,N=M+1:=⟨N - 1,by omega⟩
   have hi':i < m.2.2.1.length:=by omega
   have hx:m.2.2.1[i]? = some m.2.2.1[i]:=AU hi'
   have hb:=h.fn _ (Ae hi')
   rw [Ba]
   simp only [GU,Uf,Dq hi',AL,gI hi',AA,dV V hx,rH,hx,wS hi' (by omega)]
   generalize m.2.2.1[i]=f at hb
   by_cases hz:(flt m i f).2=0
   ·simp only [wtS,hz,if_true,CX,decide_true,A8,AJ]
    rw [QIF _ _ hb.1,AA,QIF _ _ hb.2,AA]
    have e1:(RO m f).2.2.2.2.2.1=T.KN (gY m f):=rfl
    have e2:(RO m f).2.2.2.2.2.2.1=T.KN (F.ints (R8 f)):=rfl
    rw [e1,e2,AX (by simp)]
    by_cases s1:f.2.2.2.2.2.1=T.KN (gY m f)
    ·rw [AB s1,A8,AJ]
     by_cases s2:f.2.2.2.2.2.2.1=T.KN (F.ints (R8 f))
     ·rw [AB s2,A8,AJ,AY (uf.2 ⟨s1,s2⟩)]
      exact ih (i+1) N (by omega) (by omega)
     ·rw [AF s2,A9,AL,AX (λe=>s2 (uf.1 e).2)]
    ·rw [AF s1,A9,AL,AX (λe=>s1 (uf.1 e).1)]
   ·simp only [wtS,AX hz,CX,AF hz,A9,AL]
    rw [AY hz]
 exact key m.2.2.1.length 0 big (by omega) (Df (by omega))
theorem QGH {m:DF} (h:uy m):Oy m=some (if Yi m=0 then (rH m m.2.2.1.length 0).2.2 else Yi m):=by
 show (Ma m).bind _=_
 rw [QAu h,AA]
 split <;> rfl
theorem QRT (x:List K.Qo) (h:x.length<=1000000):C9 x=some x:=by
 show ET x=_
 unfold ET
 cases x with
 | nil=>rfl
 | cons a x=>
  dsimp only
  rw [show List.isEmpty (a::x)=false from rfl,AJ,TI 2 rfl _ h]
  rfl
theorem QRU (x:List Ins) (h:x.length<=1000000):DC x=some x:=by
 show EU x=_
 unfold EU
 cases x with
 | nil=>rfl
 | cons a x=>
  dsimp only
  rw [show List.isEmpty (a::x)=false from rfl,AJ,TI 4 rfl _ h]
  rfl
theorem FL (x n:Int):Ir (x,n)=some (K.Fq x n):=by
 show U2 (x,n)=_
 unfold U2 K.Fq
 by_cases h:0<=x
 ·simp [h]
 ·simp [h]
theorem QDD {m:DF} (h:uy m) (hc:Yi m≠0) (fi:Int):H9 (m,fi)=some (Yu,Yi m):=by
 show Ia (m,fi)=_
 unfold Ia
 dsimp only
 rw [Ig m h,AA,CX,AF hc,A9,AL]
 rfl
theorem QGU {m:DF} (h:uy m) (hc:Yi m=0) {fi:Nat} {f:DX} (hf:m.2.2.1[fi]? = some f):H9 (m,(fi:Int))=some (if (flt m fi f).2=0 then (RO m f,0) else (Yu,(flt m fi f).2)):=by
 have V:=mo (ZM hc).1
 have hfi:=(Aq.1 hf).1
 have v:=V.ok f (BF hf)
 show Ia (m,(fi:Int))=_
 unfold Ia
 dsimp only
 have hi:K.Fq (fi:Int) (m.2.2.1.length:Int)=true:=by simp [K.Fq];omega
 rw [Ig m h,AA,CX,AB hc,A8,AJ,FL,AA,hi,A8,AJ,QCh V,AA,dV V hf,AA]
 by_cases hz:(flt m fi f).2=0
 ·simp only [wtS,hz,if_true,CX,decide_true,A8,AJ]
  have e1:(RO m f).2.2.2.1=f.2.2.2.1:=rfl
  have e2:(RO m f).2.2.2.2.1=f.2.2.2.2.1:=rfl
  rw [e1,e2,QRT _ (by have:=v.sl;omega),AA,QRU _ (by have:=v.cd.2;omega),AA]
  rfl
 ·simp only [wtS,AX hz,CX,AF hz,A9,AL]
  rfl
theorem w9 {v:List Int} (h:1<=v.length):(T.KN v).length<=v.length:=T.kC (T.QDv (by intro e;rw [e] at h;simp at h))
theorem QEX {m:DF} {fi:Int} {f:DX} (V:Vm m) (v:Vf m.1.length f) (hz:(flt m fi f).2=0):Ci m f/\UQ m f/\vL f.2.2.2.2.1 (R8 f) f.2.2.2.2.1.length 0 = -1/\(∀ x∈f.2.2.2.2.1,ZV m f x=true)/\¬ (fi=0/\(0 < f.2.1\/f.2.2.1≠-1)):=by
 unfold flt at hz
 split at hz
 ·exact absurd hz (by decide)
 rename_i h1
 split at hz
 ·exact absurd hz (by decide)
 rename_i h2
 split at hz
 ·rename_i h3;exact absurd hz h3
 rename_i h3
 split at hz
 ·exact absurd hz (by decide)
 rename_i h4
 split at hz
 ·exact absurd hz (by simp)
 rename_i h5
 obtain ⟨C,hfit⟩:=QKt V v (by simpa using h1) (by simpa using h3)
 exact ⟨C,by simpa using h4,by simpa using h5,hfit,h2⟩
theorem UQ.isD {m:DF} {f:DX} (h:UQ m f):F.uz f.2.2.2.2.1 (jW m f) (gY m f):=by
 obtain ⟨⟨dep,h⟩,_⟩:=h
 rw [yx h]
 exact h
theorem lQ {m:DF} {fi:Int} {f:DX} (V:Vm m) (v:Vf m.1.length f) (hz:(flt m fi f).2=0):QIp (RO m f)/\(gY m f).length=f.2.2.2.2.1.length/\(R8 f).length=f.2.2.2.2.1.length/\(T.KN (gY m f)).length<=200/\(T.KN (F.ints (R8 f))).length<=200:=by
 obtain ⟨C,hs,_⟩:=QEX V v hz
 have h1:=hs.isD.1
 have h2:=(QDn C).2.1
 have hcd:=v.cd
 have l1:=w9 (v:=gY m f) (by omega)
 have l2:=w9 (v:=F.ints (R8 f)) (by rw [F.Bo];omega)
 rw [F.Bo] at l2
 refine ⟨⟨by have:=v.sl;show f.2.2.2.1.length<=_;omega,by show f.2.2.2.2.1.length<=_;omega,?_,?_⟩,h1,h2,by omega,by omega⟩
 ·show (T.KN (gY m f)).length<=_;omega
 ·show (T.KN (F.ints (R8 f))).length<=_;omega
def sf (f:DX):DX:=(f.1,(f.2.1,(f.2.2.1,(f.2.2.2.1,(f.2.2.2.2.1,([],([],())))))))
def sm (m:DF):DF:=(m.1,(m.2.1,(m.2.2.1.map sf,())))
theorem QU1 (m:DF) (f:DX) (x:Ins):OC (sm m) (sf f) x=OC m f x:=by
 unfold OC
 show (_&&match NH x with | some g=>decide (g < (m.2.2.1.map sf).length) | none=>_)=_
 rw [Ay]
 rfl
theorem QTa (m:DF) (f:DX) (x:Ins):ZV (sm m) (sf f) x=ZV m f x:=by
 have e:∀ k:Int,(sm m).2.2.1[k.toNat]? = (m.2.2.1[k.toNat]?).map sf:=λk=>by simp [sm]
 unfold ZV
 rw [e,e,Option.map_map,Option.map_map]
 rfl
theorem QTr (m:DF) (f:DX) (x:Ins) (r:Bool):bq (sm m) (sf f) x r=bq m f x r:=by
 unfold bq
 rw [QU1,QTa]
theorem QR9 (m:DF) (f:DX) (l:List Ins) (rs:List Bool):∀ k i,fwS (sm m) (sf f) l rs k i=fwS m f l rs k i
 | 0,i=>rfl
 | k+1,i=>by
  unfold fwS
  simp only [QTr,QR9 m f l rs k]
theorem QM8 (m:DF) (x:Ins):tkn (sm m) x=tkn m x:=by
 have e:∀ k:Int,(sm m).2.2.1[k.toNat]? = (m.2.2.1[k.toNat]?).map sf:=λk=>by simp [sm]
 unfold tkn
 cases NH x with
 | none=>rfl
 | some g=>
  dsimp only
  rw [e]
  cases m.2.2.1[g.toNat]? <;> rfl
theorem QR3 (m:DF) (f:DX):jW (sm m) (sf f)=jW m f:=by
 unfold jW
 simp only [QM8]
 rfl
theorem QTR (m:DF) (f:DX):gY (sm m) (sf f)=gY m f:=by
 have key:∀ b,b=jW m f->(open Classical in if h:∃ dep,F.uz f.2.2.2.2.1 b dep then Classical.choose h else [])=gY m f:=by
  rintro _ rfl;rfl
 exact key _ (QR3 m f)
theorem QZr (m:DF) (l:List Ins):Yz (sm m) l=Yz m l:=by
 funext i
 unfold Yz
 cases l[i]? with
 | none=>rfl
 | some x=>exact QM8 m x
theorem QU3 (m:DF) (f:DX):UQ (sm m) (sf f)=UQ m f:=by
 unfold UQ
 rw [QR3,QZr]
 rfl
theorem QKq (m:DF) (i:Int) (f:DX):flt (sm m) i (sf f)=flt m i f:=by
 have e:fwF (sm m) (sf f)=fwF m f:=QR9 m f _ _ _ _
 have key:∀ (w:Int×Int) (P:Prop),w=fwF m f->P=UQ m f->(open Classical in if F.VP f.2.2.2.2.1=false then ((-1,12):Int×Int)
  else if i=0/\(0 < f.2.1\/f.2.2.1≠-1) then (-1,30)
  else if w.2≠0 then w
  else if ¬ P then (-1,36)
  else if vL f.2.2.2.2.1 (R8 f) f.2.2.2.2.1.length 0≠-1 then (vL f.2.2.2.2.1 (R8 f) f.2.2.2.2.1.length 0,38)
  else (0,0))=flt m i f:=by
  rintro _ _ rfl rfl;rfl
 have k:=key _ _ e (QU3 m f)
 have hm:R8 (sf f)=R8 f:=rfl
 rw [<- k]
 unfold flt
 rfl
theorem QM6 (m:DF) (f:DX):RO (sm m) (sf f)=RO m f:=by
 unfold RO
 rw [QTR]
 rfl
noncomputable def mend (m:DF) (k:Nat) (f:DX):DX:=if (flt m k f).2=0 then RO m f else f
theorem QA4 (m:DF) (k:Nat) (f:DX):sf (mend m k f)=sf f:=by
 unfold mend
 split <;> rfl
structure Mnd (m n:DF):Prop where
 ty:n.1=m.1
 tx:n.2.1=m.2.1
 fn:∀ k,n.2.2.1[k]? = (m.2.2.1[k]?).map (mend m k)
theorem Mnd.sm {m n:DF} (h:Mnd m n):sm n=sm m:=by
 have:n.2.2.1.map sf=m.2.2.1.map sf:=by
  apply List.ext_getElem?
  intro k
  rw [List.getElem?_map,List.getElem?_map,h.fn]
  cases m.2.2.1[k]? with
  | none=>rfl
  | some f=>exact congrArg some (QA4 m k f)
 unfold C.sm
 rw [h.ty,h.tx,this]
theorem Mnd.flt {m n:DF} (h:Mnd m n) (k:Nat) (f:DX):flt n k (mend m k f)=C.flt m k f:=by
 rw [<- QKq,h.sm,QA4,QKq]
theorem Mnd.tab {m n:DF} (h:Mnd m n) (k:Nat) (f:DX):RO n (mend m k f)=RO m f:=by
 rw [<- QM6,h.sm,QA4,QM6]
theorem QOf {k:Nat} {p:Int} {v:List Int}:∀ r∈T.mkR k p v,r.2.1∈v:=by
 induction v generalizing k p with
 | nil=>intro r h;cases h
 | cons x v ih=>
  intro r h
  unfold T.mkR at h
  split at h
  ·exact List.mem_cons_of_mem _ (ih r h)
  ·rcases List.mem_cons.1 h with rfl | h
   ·exact List.mem_cons_self
   ·exact List.mem_cons_of_mem _ (ih r h)
theorem xA {v:List Int}:∀ r∈T.KN v,r.2.1∈v:=by
 cases v with
 | nil=>intro r h;cases h
 | cons x v=>
  intro r h
  rcases List.mem_cons.1 h with rfl | h
  ·exact List.mem_cons_self
  ·exact List.mem_cons_of_mem _ (QOf r h)
theorem Mnd.all {m n:DF} (h:Mnd m n) (V:Vm m) (ha:Qp m):Qp n:=by
 have mem:∀ f∈n.2.2.1,f∈m.2.2.1\/∃ (k:Nat) (g:DX),g∈m.2.2.1/\(C.flt m k g).2=0/\f=RO m g:=by
  intro f hf
  obtain ⟨k,hk,rfl⟩:=List.mem_iff_getElem.1 hf
  have e:=h.fn k
  rw [AU hk] at e
  cases hg:m.2.2.1[k]? with
  | none=>rw [hg] at e;cases e
  | some g=>
   rw [hg,BI,Ac] at e
   have hm:=BF hg
   rw [e]
   unfold mend
   by_cases hz:(C.flt m k g).2=0
   ·rw [AY hz];exact .inr ⟨k,g,hm,hz,rfl⟩
   ·rw [AX hz];exact .inl hm
 refine ⟨by rw [h.ty];exact ha.ty,λf hf=>?_,λf hf=>?_⟩
 ·rcases mem f hf with hf | ⟨k,g,hg,hz,rfl⟩
  ·exact ha.fn f hf
  ·obtain ⟨_,_,_,l1,l2⟩:=lQ V (V.ok g hg) hz
   exact ⟨(ha.fn g hg).1,by show (T.KN _).length<=_;omega,by show (T.KN _).length<=_;omega⟩
 ·rcases mem f hf with hf | ⟨k,g,hg,hz,rfl⟩
  ·exact ha.mem f hf
  ·obtain ⟨b1,b2,b3,b4⟩:=ha.mem g hg
   obtain ⟨Cc,hs,_⟩:=QEX V (V.ok g hg) hz
   refine ⟨b1,b2,λr hr=>?_,λr hr=>?_⟩
   ·have:=QFc Cc.hc hs.isD _ (xA r hr)
    exact ⟨this.1,by omega⟩
   ·have hx:=xA r hr
    obtain ⟨i,hi,e⟩:=List.mem_iff_getElem.1 hx
    have hu:=(QDn Cc).2.up Cc.hc (F.qC (by have:=Cc.v.sl;omega)) i
    rw [F.Bo] at hi
    have e2:=F.qG (ms:=R8 g) hi
    rw [<- e]
    have e3:BX (F.ints (R8 g)) (i:Int)=some (F.ints (R8 g))[i]:=gI (by rw [F.Bo];exact hi)
    rw [e3,Ac] at e2
    rw [e2]
    omega
theorem ug (m:DF) {f:DX} {l:List Int} (hl:l.length<=1000) (h:∀ s∈l,eF f s):G8 ((m,f,()),l)=some (l.map (Gm f)):=by
 show FP (BP (Cy big) big) _=_
 unfold FP
 dsimp only
 have:=E8 (g:=Cy big) (mk:=λi z=>(l,(l.length:Int),(i:Int),(m,f,()),z)) (l:=l) (u7:=λs=>[Gm f s]) (kk:=λz=>some z) (B:=1000)
  (λself i z hi hx=>by
   simp only [Cy,Jt,Dq hi,AL,gI hi,AA,Je m (h _ (Ae hi)),wS hi (by omega),DW (show z.length+List.length [Gm f l[i]]<=Xa by simp [Xa] at hx ⊢;omega)]
   rfl)
  (λself z _=>by simp only [Cy,Jt,Dk,AJ]) l.length 0 big [] (by omega) (Df (by omega)) (by have:=Lc (f:=λs:Int=>[Gm f s]) (k:=1) (l:=l) (by simp);simp only [List.drop_zero,Av];omega)
 rw [show ((0:Nat):Int)=0 from rfl] at this
 rw [this]
 simp only [List.drop_zero,List.nil_append]
 exact congrArg some List.map_eq_flatMap.symm
theorem QG5 {m:DF} {f:DX} {x:Ins} (ho:Qf x=true) (hr:OC m f x=true):(∀ s∈F.rS x,eF f s)/\∀ s∈F.wS x,eF f s:=by
 obtain ⟨s1,s2,_⟩:=F.VK ho
 exact ⟨λs hs=>⟨(s1 s hs).1,uI hr (by simp [hs])⟩,λs hs=>⟨(s2 s hs).1,uI hr (by simp [hs])⟩⟩
theorem QJf {m:DF} (h:uy m) (hc:Yi m=0) {fi i:Nat} {f:DX} (hf:m.2.2.1[fi]? = some f) {x:Ins} (hx:f.2.2.2.2.1[i]? = some x) (hr:OC m f x=true) (ht:ZV m f x=true) :
  Mc (m,(fi:Int),(i:Int))=some ((F.rS x).map (Gm f),(F.wS x).map (Gm f),0):=by
 have V:=mo (ZM hc).1
 have hfi:=(Aq.1 hf).1
 have hxi:=(Aq.1 hx).1
 have v:=V.ok f (BF hf)
 have ho:=v.ok x (BF hx)
 have hg:BX m.2.2.1 (fi:Int)=some f:=by rw [gI hfi,<- AU hfi,hf]
 have hgx:BX f.2.2.2.2.1 (i:Int)=some x:=by rw [gI hxi,<- AU hxi,hx]
 obtain ⟨_,_,l1,l2⟩:=F.VK ho
 obtain ⟨i1,i2⟩:=QG5 ho hr
 show Di (m,(fi:Int),(i:Int))=_
 unfold Di
 dsimp only
 have e1:K.Fq (fi:Int) (m.2.2.1.length:Int)=true:=by simp [K.Fq];omega
 have e2:K.Fq (i:Int) (f.2.2.2.2.1.length:Int)=true:=by simp [K.Fq];omega
 rw [Ig m h,AA,CX,AB hc,A8,AJ,FL,AA,e1,A8,AJ,hg,AA,FL,AA,e2,A8,AJ,AA]
 rw [hgx,AA,Tw m f ho,AA,hr,A8,AJ,iE V v ho hr,AA,ht,A8,AJ,uV ho,AA]
 dsimp only
 rw [ug m (by omega) i1,AA,ug m (by omega) i2,AA]
theorem tq (x:Ins):Nc x=some ((NH x).getD (-1)):=by
 show Wj x=_
 unfold Wj NH
 by_cases a:x.1=25
 ·simp [a]
 by_cases b:x.1=26
 ·simp [b]
 by_cases c:x.1=27
 ·simp [c]
 simp [a,b,c,EW]
theorem QEF {m:DF} (V:Vm m) {fi:Nat} {f:DX} (hf:m.2.2.1[fi]? = some f) {x:Ins} (ho:Qf x=true) (hr:OC m f x=true):WI (m,(fi:Int),x)=some (tkn m x,((nP f x)[0]?).getD (-1)):=by
 have hfi:=(Aq.1 hf).1
 have hg:BX m.2.2.1 (fi:Int)=some f:=by rw [gI hfi,<- AU hfi,hf]
 show N8 (BP (Fh big) big) _=_
 unfold N8 nP tkn
 dsimp only
 by_cases e:x.1=24
 ·have hA:=(kg ho hr (k:=24) e (show Xc ((24:Nat):Int)=[1,0,0] by decide +kernel)).1 (by simp)
  obtain ⟨z,z1,z2,_⟩:=FH hA.1 hA.2
  have hc:NH x=none:=by unfold NH;simp [e]
  have es:F9 (m,(fi:Int),x.2.1)=some (Gm f x.2.1):=by
   show SS _=_
   unfold SS
   dsimp only
   rw [AF (show ¬ x.2.1 < 0 by have:=hA.1;omega),AJ,hg,AA,AF (show ¬ x.2.1>=(f.2.2.2.1.length:Int) by have:=hA.2;omega),AJ,AA,z1,AA,Gm,z2]
   rfl
  rw [show (x.1==(24:Int))=true by simp [e],AL,es,AA,hc,AY e]
  rfl
 rw [show (x.1==(24:Int))=false by simp [e],AJ,tq,AA,AX e]
 cases hc:NH x with
 | none=>rfl
 | some g=>
  have g0:=Xm ho hc
  obtain ⟨q,g1,g2,g3⟩:=FH g0 (YV hr hc)
  have vq:=V.ok q g3
  obtain ⟨p,hp⟩:=BL vq.par.1
  have QeV:p<=q.2.2.2.1.length:=by have:=vq.par.2;omega
  rw [BH,AB (show g>=0 from g0),AL]
  dsimp only
  rw [g2]
  dsimp only
  rw [hp,Aj]
  generalize hl:List.take p q.2.2.2.1=l
  have hll:l.length=p:=by rw [<- hl,BK];omega
  have QeT:p<=16:=by have:=vq.sl;omega
  have hget:∀ i,(h:i < l.length)->BX q.2.2.2.1 (i:Int)=some l[i]:=λi h=>by
   rw [gI (by omega)]
   congr 1
   subst hl
   rw [List.getElem_take]
  have:=E8 (g:=Fh big) (mk:=λi z=>(g,(i:Int),m,z)) (l:=l) (u7:=λz:K.Qo=>[z.2.1]) (kk:=λz=>some (z,(-1:Int))) (B:=100)
   (λself i z hi hx=>by
    simp only [Fh,TD,g1,AA,hp,AB (show (i:Int) < (p:Int) by omega),AL,hget i hi,wS hi (by omega),DW (show z.length+List.length [l[i].2.1]<=Xa by simp [Xa] at hx ⊢;omega)]
    rfl)
   (λself z _=>by simp only [Fh,TD,g1,AA,hp,hll,Dk,AJ]) l.length 0 big [] (by omega) (Df (by omega)) (by have:=Lc (f:=λz:K.Qo=>[z.2.1]) (k:=1) (l:=l) (by simp);simp only [List.drop_zero,Av];omega)
  rw [show ((0:Nat):Int)=0 from rfl] at this
  rw [this]
  simp only [List.drop_zero,List.nil_append]
  rw [List.map_eq_flatMap]
  rfl
theorem ku {m:DF} (V:Vm m) {s:List Int} (hl:s.length<=1000) (ht:qQ (Jg m.1) s):PL (m,s)=some (tot (Jg m.1) s):=by
 have hs:Sok (Jg m.1):=⟨uM V⟩
 show Qa (BP (Ga big) big) _=_
 unfold Qa
 dsimp only
 rw [K.xW V.sz.1,AA]
 dsimp only
 have key:∀ (k i N:Nat) (n:Int),i+k=s.length->k < N->0<=n->n<=264 * i->BP (Ga big) N (s,n,(i:Int),K.szs (K.exS m.1))=some (n+tot (Jg m.1) (s.drop i)):=by
  intro k
  induction k with
  | zero=>
   intro i N n hi hN h0 h1
   obtain ⟨N,rfl⟩:∃ M,N=M+1:=⟨N - 1,by omega⟩
   obtain rfl:i=s.length:=by omega
   rw [Ba]
   simp only [Ga,Ul,Dk,AJ,List.drop_length,jM,Int.add_zero]
  | succ k ih=>
   intro i N n hi hN h0 h1
   obtain ⟨N,rfl⟩:∃ M,N=M+1:=⟨N - 1,by omega⟩
   have hi':i < s.length:=by omega
   obtain ⟨t0,t1⟩:=ht _ (Ae hi')
   rw [YZ] at t1
   obtain ⟨t,et⟩:=BL t0
   have ht':t < m.1.length:=by omega
   have hsz:=V.sz.2 t ht'
   obtain ⟨e1,_⟩:=K.zA V.sz.1 (i:=(t:Int)) (by omega) (by omega)
   have hu:=up8 e1 hsz
   have hR:PD (K.sz (K.exS m.1) (t:Int))=some (K.jX (K.sz (K.exS m.1) (t:Int)) 8):=by
    show VF _=_
    unfold VF
    rw [K.QEP (.inr rfl) (by omega) (by omega),AA]
   have hq:nth (K.szs (K.exS m.1)) (Int.toNat (t:Int))=some (K.sz (K.exS m.1) (t:Int)):=by
    rw [F.M8,Aj,<- XC]
    exact K.QBj (by omega) (by rw [K.Tm];omega)
   have hle:(K.szs (K.exS m.1)).length=m.1.length:=by simp [K.Tm]
   rw [Ba]
   simp only [Ga,Ul,Dq hi',AL,gI hi',AA,et,hle,F.ML ht',hq,hR,wS hi' (by omega)]
   rw [T.t64 (by omega) (by omega),ih (i+1) N _ (by omega) (by omega) (by omega) (by omega)]
   rw [BA hi',jL,et,Aj,Ad,QLm ht',BH,Int.add_assoc]
 have:=key s.length 0 big 0 (by omega) (Df (by omega)) (by omega) (by omega)
 simpa using this
theorem qD {ss:List Int} (hs:Sok ss):∀ {s:List Int},qQ ss s->8 * (s.length:Int)<=tot ss s
 | [],_=>by simp [tot]
 | t::s,ht=>by
  have h1:=qD hs (s:=s) λu hu=>ht u (by simp [hu])
  obtain ⟨z,_,z2,z3⟩:=FH (ht t (by simp)).1 (ht t (by simp)).2
  have:=hs.big z z3
  rw [jL,Ad,z2,BH,Af]
  omega
open Classical in
def slR (f:DX) (s:Int):Int:=if 0<=s/\s < f.2.2.2.1.length then Gm f s else -1
def kdR (l:List K.ES) (t:Int):Int:=if t < 0 then 0 else WS l t
theorem Fv {f:DX} {s:Int} (h:eF f s):slR f s=Gm f s:=AY h
theorem jI {m:DF} {fi:Nat} {f:DX} (hf:m.2.2.1[fi]? = some f) (s:Int):F9 (m,(fi:Int),s)=some (slR f s):=by
 have hfi:=(Aq.1 hf).1
 have hg:BX m.2.2.1 (fi:Int)=some f:=by rw [gI hfi,<- AU hfi,hf]
 show SS _=_
 unfold SS
 dsimp only
 by_cases h0:s < 0
 ·rw [AB h0,AL,slR,AX (by omega)]
 rw [AF h0,AJ,hg,AA]
 by_cases h1:s>=(f.2.2.2.1.length:Int)
 ·rw [AB h1,AL,slR,AX (by omega)]
 have hin:eF f s:=⟨by omega,by omega⟩
 obtain ⟨z,z1,z2,_⟩:=FH hin.1 hin.2
 rw [AF h1,AJ,AA,z1,AA,Fv hin,Gm,z2]
 rfl
theorem QET {n:Nat} {f:DX} (v:Vf n f) (s:Int):slR f s = -1\/0<=slR f s/\slR f s < n:=by
 unfold slR
 split
 ·rename_i h;exact .inr (WA v h)
 ·exact .inl rfl
theorem kind_eq {m:DF} {t:Int} (h:t = -1\/0<=t/\t < m.1.length):Jh (m,t)=some (kdR m.1 t):=by
 show Zj _=_
 unfold Zj kdR
 dsimp only
 rcases h with rfl | h
 ·rfl
 ·obtain ⟨x,h1,_,_,h2⟩:=UD h
  rw [AF (show ¬ t < 0 by omega),AJ,h1,AA,AX (by omega),h2]
theorem Za {m:DF} {f:DX} (v:Vf m.1.length f) {s:Int} (h:eF f s):kdR m.1 (Gm f s)=WS m.1 (Gm f s):=AX (by have:=WA v h;omega)
theorem QGF {m:DF} {t:Int} {x:K.ES} (h:WS m.1 t=x.1):Rz x=some (uW (WS m.1 t)):=by
 show Zi x=_
 unfold Zi uW
 rw [h]
 by_cases a:x.1=1
 ·simp [a]
 by_cases b:x.1=2
 ·simp [b]
 simp [a,b,EW]
theorem yg {t:K.ES} {i n:Int} (h:K.EB t i n=true) (hl:t.2.2.2.1.length≠0):t.1=5:=by
 unfold K.EB at h
 split at h
 ·simp only [AP,AZ] at h;exact absurd h.2.2 hl
 split at h
 ·simp only [AP,AZ] at h;exact absurd h.2.2 hl
 split at h
 ·simp only [AP,AZ] at h;exact absurd h.2.2 hl
 split at h
 ·assumption
 ·cases h
theorem xD {m:DF} (V:Vm m) {f:DX} (v:Vf m.1.length f) {s o c:Int} (hs:eF f s) (ho:eF f o) (hc:0<=c):∃ z,Ng (m,Gm f o,c)=some z/\decide (z=Gm f s)=j5 m.1 f s o c:=by
 have ht:=WA v ho
 have hts:=WA v hs
 obtain ⟨x,h1,h2,hm,h3⟩:=UD ht
 show ∃ z,Wn _=some z/\_
 unfold Wn j5
 dsimp only
 rw [kind_eq (.inr ht),AA,CX,h2,AA]
 have ek:kdR m.1 (Gm f o)=x.1:=by rw [<- h3];exact Za v ho
 rw [ek]
 by_cases h5:x.1=5
 ·rw [AB h5,A8,AJ,AF (show ¬ c < 0 by omega),AJ,h1,AA]
  by_cases hlt:c < x.2.2.2.1.length
  ·obtain ⟨g,g1,g2,_⟩:=FH hc hlt
   rw [AF (show ¬ c>=(x.2.2.2.1.length:Int) by omega),AJ,AA,g1,AA,g2]
   exact ⟨_,rfl,rfl⟩
  ·rw [AB (show c>=(x.2.2.2.1.length:Int) by omega),AL,Aw (by omega)]
   exact ⟨_,rfl,AF (by omega)⟩
 ·rw [AF h5,A9,AL]
  have hb:K.EB x (Gm f o).toNat m.1.length=true:=by
   obtain ⟨k,hk⟩:=BL ht.1
   have hkl:k < m.1.length:=by omega
   have:=V.sz.1.2.1 k hkl
   rw [hk,Aj] at h2 ⊢
   rw [AU hkl,Ac] at h2
   rw [<- h2];exact this
  have hl:x.2.2.2.1.length=0:=by
   apply Classical.byContradiction
   intro hl
   exact h5 (yg hb hl)
  rw [Aw (by omega)]
  exact ⟨_,rfl,AF (by omega)⟩
theorem of_eq {m:DF} {f:DX} (v:Vf m.1.length f) {s o a b:Int} (hs:eF f s) (ho:eF f o) {ks:List Int} (hk:∀ k,k∈ks↔k=a\/k=b):∃ z,Qz (m,Gm f o,a,b)=some z/\decide (z=Gm f s)=mE m.1 f s o ks:=by
 have ht:=WA v ho
 have hts:=WA v hs
 obtain ⟨x,h1,h2,hm,h3⟩:=UD ht
 show ∃ z,kW _=some z/\_
 unfold kW mE
 dsimp only
 have ek:kdR m.1 (Gm f o)=x.1:=by rw [<- h3];exact Za v ho
 rw [kind_eq (.inr ht),AA,ek,h2,h3,AF (show ¬ Gm f o < 0 by omega),AJ,CX,CX,h1,AA]
 have e:decide (x.1∈ks)=decide (x.1=a\/x.1=b):=by
  by_cases q:x.1∈ks
  ·rw [AB q,AB ((hk _).1 q)]
  ·rw [AF q,AF (λh=>q ((hk _).2 h))]
 rw [e]
 by_cases qa:x.1=a
 ·rw [AB qa,A8,AJ,AB (.inl qa)]
  exact ⟨_,rfl,by simp⟩
 ·rw [AF qa,A9,AL]
  by_cases qb:x.1=b
  ·rw [AB qb,A8,AJ,AB (.inr qb)]
   exact ⟨_,rfl,by simp⟩
  ·rw [AF qb,A9,AL,AF (by simp [qa,qb]),Bool.false_and]
   exact ⟨_,rfl,AF (by omega)⟩
theorem QBy {m:DF} (V:Vm m) {g:Int} {q:DX} (hg:BX m.2.2.1 g=some q) (hq:q∈m.2.2.1):PO (m,g)=some (QC1 m.1 q):=by
 have vq:=V.ok q hq
 show YM _=_
 unfold YM QC1
 dsimp only
 rw [hg,AA,EW]
 by_cases h:q.2.2.1 = -1
 rotate_left
 ·rw [AF h,AJ,Bool.false_and]
 rw [AB h,AL,Ai,EW]
 by_cases h0:q.2.1=0
 ·rw [AB h0,AL,Bool.true_or]
 rw [AF h0,AJ,Bool.false_or,EW]
 by_cases h1:q.2.1=1
 rotate_left
 ·rw [AF h1,AJ,Bool.false_and]
 rw [AB h1,AL,Ai]
 have hi:eF q 0:=⟨Int.le_refl _,by have:=vq.par.2;omega⟩
 obtain ⟨z,z1,z2,z3⟩:=FH hi.1 hi.2
 have hz:Gm q 0=z.2.1:=by rw [Gm,z2];rfl
 obtain ⟨x,x1,_,_,x2⟩:=UD (WA vq hi)
 rw [hz] at x1 x2
 rw [z1,AA,x1,AA,QGF x2,AA,hz]
theorem xX {m:DF} (V:Vm m) {fi:Nat} {f:DX} (hf:m.2.2.1[fi]? = some f) {x:Ins} (h:Qf x=true) (hr:OC m f x=true):PU (m,(fi:Int),x)=some (ZV m f x):=by
 have v:=V.ok f (BF hf)
 have hfi:=(Aq.1 hf).1
 have hg:BX m.2.2.1 (fi:Int)=some f:=by rw [gI hfi,<- AU hfi,hf]
 have hop:ZY x.1=true:=by obtain ⟨_,_,_,ho,_⟩:=Jc h;exact ho
 obtain ⟨k,e,hk⟩:=kY hop
 have bs:∀ b c:Bool,(bif b then some c else some false)=some (b&&c):=λb c=>by cases b <;> rfl
 have bt:∀ b c:Bool,(bif b then some true else some c)=some (b||c):=λb c=>by cases b <;> rfl
 have idb:∀ z:Option Bool,(z.bind λy=>some y)=z:=λz=>by cases z <;> rfl
 show YN _=_
 unfold YN
 dsimp only
 rw [jI hf,AA,jI hf,AA,jI hf,AA,kind_eq (QET v _),AA,kind_eq (QET v _),AA,kind_eq (QET v _),AA]
 have er:=QLh k (by omega) (by omega)
 obtain ⟨iA,iB,iC⟩:=kg h hr e er
 obtain ⟨_,fb,fc,_⟩:=role h e er
 unfold ZV
 have QTk:k=1\/k=2\/k=3\/k=4\/k=5\/k=6\/k=7\/k=8\/k=9\/k=10\/k=11\/k=12\/k=13\/k=14\/k=15\/k=16\/k=17\/k=18\/k=19\/k=20\/k=21\/k=22\/k=23\/k=24\/k=25\/k=26\/k=27\/k=28\/k=29\/k=30\/k=31\/k=32\/k=33\/k=34:=by omega
 rcases QTk with rfl | rfl | rfl | rfl | rfl | rfl | rfl | rfl | rfl | rfl | rfl | rfl | rfl | rfl | rfl | rfl | rfl | rfl | rfl | rfl | rfl | rfl | rfl | rfl | rfl | rfl | rfl | rfl | rfl | rfl | rfl | rfl | rfl | rfl
 all_goals
  simp only [rl3,List.getD_cons_succ,List.getD_cons_zero] at iA iB iC fb fc
  have e':x.1=_:=e
  clear er e
 all_goals try (simp [e',EW,bs,bt,idb,λc=>Fv (iA c),λc=>Fv (iB c),λc=>Fv (iC c),λc=>Za v (iA c),λc=>Za v (iB c),λc=>Za v (iC c)];done)
 ·have hB:=iB (by simp)
  obtain ⟨q,q1,_,_,q2⟩:=UD (WA v hB)
  simp [e',EW,bs,bt,idb,Fv (iA (by simp)),Fv hB,Fv (iC (by simp)),Za v (iA (by simp)),q1,QGF q2]
 ·obtain ⟨z,z1,z2⟩:=xD V v (iA (by simp)) (iB (by simp)) (show 0<=x.2.2.2.1 by simp [fit,idx] at fc;omega)
  simp [e',EW,Fv (iA (by simp)),Fv (iB (by simp)),z1,z2]
 ·obtain ⟨z,z1,z2⟩:=xD V v (iC (by simp)) (iA (by simp)) (show 0<=x.2.2.1 by simp [fit,idx] at fb;omega)
  simp [e',EW,Fv (iA (by simp)),Fv (iC (by simp)),z1,z2]
 ·obtain ⟨z,z1,z2⟩:=of_eq v (iA (by simp)) (iB (by simp)) (a:=4) (b:=4) (ks:=[4]) (by simp)
  simp [e',EW,Fv (iA (by simp)),Fv (iB (by simp)),z1,z2]
 ·obtain ⟨z,z1,z2⟩:=of_eq v (iB (by simp)) (iA (by simp)) (a:=4) (b:=4) (ks:=[4]) (by simp)
  simp [e',EW,Fv (iA (by simp)),Fv (iB (by simp)),z1,z2]
 ·obtain ⟨z,z1,z2⟩:=of_eq v (iA (by simp)) (iB (by simp)) (a:=7) (b:=6) (ks:=[7,6]) (by simp)
  simp [e',EW,bs,Fv (iA (by simp)),Fv (iB (by simp)),Fv (iC (by simp)),Za v (iC (by simp)),z1,z2]
 ·obtain ⟨z,z1,z2⟩:=of_eq v (iC (by simp)) (iA (by simp)) (a:=7) (b:=6) (ks:=[7,6]) (by simp)
  simp [e',EW,bs,Fv (iA (by simp)),Fv (iB (by simp)),Fv (iC (by simp)),Za v (iB (by simp)),z1,z2]
 ·have g0:NH x=some x.2.2.1:=by simp [NH,e']
  obtain ⟨q,g1,g2,g3⟩:=FH (Xm h g0) (YV hr g0)
  by_cases ha:x.2.1 = -1
  ·simp [e',EW,ha,QCU,g1,g2]
  ·simp [e',EW,bs,bt,idb,ha,QCU,Fv (iA (by simp [ha])),g1,g2]
   exact eq_comm
 ·have g0:NH x=some x.2.1:=by simp [NH,e']
  obtain ⟨q,g1,g2,g3⟩:=FH (Xm h g0) (YV hr g0)
  simp [e',EW,idb,QBy V g1 g3,g2]
 ·have g0:NH x=some x.2.1:=by simp [NH,e']
  obtain ⟨q,g1,g2,g3⟩:=FH (Xm h g0) (YV hr g0)
  simp [e',EW,idb,QBy V g1 g3,g2]
 ·by_cases ha:x.2.1 = -1
  ·simp [e',EW,ha,QCU]
  ·simp [e',EW,bs,bt,idb,ha,QCU,Fv (iA (by simp [ha])),hg]
   exact eq_comm
theorem QCN {m:DF} (V:Vm m) {fi:Nat} {f:DX} (hf:m.2.2.1[fi]? = some f) {x:Ins} (ho:Qf x=true) (h8:0<=x.1/\x.1<=255):Vk (m,(fi:Int),x)=some (OC m f x):=by
 have hfi:=(Aq.1 hf).1
 have hg:BX m.2.2.1 (fi:Int)=some f:=by rw [gI hfi,<- AU hfi,hf]
 obtain ⟨_,_,l1,l2⟩:=F.VK ho
 show SQ (BP (GA big) big) _=_
 unfold SQ
 dsimp only
 rw [F.Xg ho h8.1 h8.2,AA]
 dsimp only
 rw [DW (show List.length ([]:List Int)+(F.rS x).length<=Xa by simp [Xa];omega),AL,DW (show (List.append ([]:List Int) (F.rS x)).length+(F.wS x).length<=Xa by simp [Xa];omega),AL]
 show BP (GA big) big ((fi:Int),0,m,x,F.rS x++F.wS x)=_
 have hlen:(F.rS x++F.wS x).length<=6:=by simp;omega
 unfold OC
 generalize F.rS x++F.wS x=l at hlen
 have:=CQ (g:=GA big) (mk:=λi=>((fi:Int),(i:Int),m,x,l)) (p:=λi=>(l[i]?).all λ(s:Int)=>decide (s < (f.2.2.2.1.length:Int))) (no:=some false) (kk:=some (match NH x with | some g=>decide (g < m.2.2.1.length) | none=>!decide (x.1=2)||decide (x.2.2.1 < m.2.1.length))) (n:=l.length)
  (λself i hi=>by
   simp only [GA,WQ,Dq hi,AL,AB (show (0:Int)<=(i:Int) by omega),Bool.and_self,F.Jb (AU hi),AA,hg,wS hi (by omega),pat hi]
   by_cases hs:l[i] < (f.2.2.2.1.length:Int)
   ·rw [AF (show ¬ l[i]>=(f.2.2.2.1.length:Int) by omega),AB hs];rfl
   ·rw [AB (show l[i]>=(f.2.2.2.1.length:Int) by omega),AF hs];rfl)
  (λself=>by
   simp only [GA,WQ,Dk,AJ,tq,AA]
   have hn:=V.fn.1
   cases hc:NH x with
   | some g=>
    have hx2:x.1≠2:=by unfold NH at hc;intro e;simp [e] at hc
    dsimp only
    rw [BH,CX,AF hx2,A9,AL]
    cases decide (g < (m.2.2.1.length:Int)) <;> rfl
   | none=>
    dsimp only
    rw [Option.getD_none,AB (show (-1:Int) < (m.2.2.1.length:Int) by omega),AL,CX]
    by_cases e:x.1=2
    ·rw [AB e];rfl
    ·rw [AF e];rfl) l.length 0 big (by omega) (Df (by omega))
 rw [cB,show ((0:Nat):Int)=0 from rfl] at this
 rw [this]
 cases l.all _ <;> rfl
theorem QHQ {m:DF} (V:Vm m) {fi:Nat} {f:DX} (hf:m.2.2.1[fi]? = some f) {x:Ins} (ho:Qf x=true) (hr:OC m f x=true) {s:List Int} (hl:s.length<=900) (ht:qQ (Jg m.1) s) :
  Tj (m,(fi:Int),x,s)=some (match ZJ (tkn m x) (nP f x) s with | some z=>(z,decide (tot (Jg m.1) z<=4096)) | none=>([],false)):=by
 have v:=V.ok f (BF hf)
 have hkl:=qK V x
 show YP _=_
 unfold YP
 dsimp only
 rw [QEF V hf ho hr,AA]
 dsimp only
 unfold ZJ
 by_cases h1:(tkn m x).length<=s.length
 rotate_left
 ·rw [F.fQ (by omega) (by omega),AB (by omega),AL,AX (λh=>h1 h.1)]
 have e30:IntKind.i64.wrap ((s.length:Int) - ((tkn m x).length:Int))=((s.length - (tkn m x).length:Nat):Int):=by rw [F.fQ (by omega) (by omega)];omega
 rw [e30,AF (show ¬ ((s.length - (tkn m x).length:Nat):Int) < 0 by omega),AJ,AB (show (0:Int)<=((s.length - (tkn m x).length:Nat):Int) by omega),AB (show ((s.length - (tkn m x).length:Nat):Int)<=(s.length:Int) by omega),Bool.and_self,AL,Aj,K.UA _ _ (by rw [List.length_drop];omega),AA]
 by_cases h2:s.drop (s.length - (tkn m x).length)=tkn m x
 rotate_left
 ·rw [AF h2,A9,AL,AX (λh=>h2 h.2)]
 rw [AB h2,A8,AJ,AY ⟨h1,h2⟩]
 rw [DW (show List.length ([]:List Int)+(List.take (s.length - (tkn m x).length) s).length<=Xa by simp [Xa];omega),AL]
 have tk:qQ (Jg m.1) (List.take (s.length - (tkn m x).length) s):=λt h=>ht t (List.mem_of_mem_take h)
 by_cases e24:x.1=24
 ·have hp:nP f x=[Gm f x.2.1]:=by unfold nP;rw [AY e24]
  have hA:=(kg ho hr (k:=24) e24 (show Xc ((24:Nat):Int)=[1,0,0] by decide +kernel)).1 (by simp)
  have hty:=WA v hA
  rw [hp,show (([Gm f x.2.1]:List Int)[0]?).getD (-1)=Gm f x.2.1 from rfl,AB (show Gm f x.2.1>=0 from hty.1),AL,DW (show (List.append [] (List.take (s.length - (tkn m x).length) s)).length+List.length [Gm f x.2.1]<=Xa by simp [Xa];omega),AL]
  have hb:=ku V (s:=List.take (s.length - (tkn m x).length) s++[Gm f x.2.1]) (by simp;omega) (λt h=>by
   rcases List.mem_append.1 h with h | h
   ·exact tk t h
   ·rw [List.mem_singleton.1 h,YZ];exact hty)
  exact (congrArg (λz=>z.bind λx8=>some (List.take (s.length - (tkn m x).length) s++[Gm f x.2.1],decide (x8<=(4096:Int)))) hb)
 ·have hp:nP f x=[]:=by unfold nP;rw [AX e24]
  rw [hp,show ((([]:List Int)[0]?).getD (-1)) = -1 from rfl,show decide ((-1:Int)>=0)=false from rfl,AJ,List.append_nil]
  have hb:=ku V (s:=List.take (s.length - (tkn m x).length) s) (by rw [BK];omega) tk
  exact (congrArg (λz=>z.bind λx8=>some (List.take (s.length - (tkn m x).length) s,decide (x8<=(4096:Int)))) hb)
structure SI (m:DF) (f:DX) (out:List (List Int)) (kn:List Bool):Prop where
 lo:out.length=f.2.2.2.2.1.length
 lk:kn.length=f.2.2.2.2.1.length
 k0:kn[0]? = some true/\kv out 0=[]
 kr:∀ i,kn[i]? = some true->F.Rc (F.G f.2.2.2.2.1) i/\tot (Jg m.1) (kv out i)<=4096/\qQ (Jg m.1) (kv out i)/\∀ S,vU (F.G f.2.2.2.2.1) (Yz m f.2.2.2.2.1) (Yr f f.2.2.2.2.1) S->kv out i=S i
 un:∀ i,kn[i]? = some false->kv out i=[]
def Cn (m:DF) (f:DX) (out:List (List Int)) (kn:List Bool) (i:Nat):Prop:=∃ s,ZJ (Yz m f.2.2.2.2.1 i) (Yr f f.2.2.2.2.1 i) (kv out i)=some s/\∀ j∈F.G f.2.2.2.2.1 i,kn[j]? = some true/\kv out j=s
def SP (m:DF) (f:DX) (r:Option (List (List Int)×Bool)):Prop:=
 (∃ out,r=some (out,true)/\UQ m f/\out.length=f.2.2.2.2.1.length/\(∀ i,¬ F.Rc (F.G f.2.2.2.2.1) i->kv out i=[])/\(∀ i,qQ (Jg m.1) (kv out i)/\tot (Jg m.1) (kv out i)<=4096)/\F.uz f.2.2.2.2.1 (jW m f) (out.map (tot (Jg m.1))))\/(¬ UQ m f/\∃ out,r=some (out,false))
theorem QZ1 {m:DF} {f:DX} {i:Nat} (hin:i < f.2.2.2.2.1.length):F.da (jW m f) i=tot (Jg m.1) (Yr f f.2.2.2.2.1 i) - tot (Jg m.1) (Yz m f.2.2.2.2.1 i):=by
 simp [F.da,jW,Yr,Yz,hin]
theorem qI {m:DF} {f:DX} (C:Ci m f) (h:UQ m f):∃ S D,vU (F.G f.2.2.2.2.1) (Yz m f.2.2.2.2.1) (Yr f f.2.2.2.2.1) S/\F.Right (F.G f.2.2.2.2.1) (F.da (jW m f)) f.2.2.2.2.1.length D/\∀ i,F.Rc (F.G f.2.2.2.2.1) i->tot (Jg m.1) (S i)=D i/\qQ (Jg m.1) (S i):=by
 obtain ⟨⟨dep,_,D,hR,_⟩,S,hS⟩:=h
 exact ⟨S,D,hS,hR,λi hi=>hS.dep (C.ck hR).c hi⟩
theorem QOj {m:DF} {f:DX} (C:Ci m f) {i:Nat} (hi:i < f.2.2.2.2.1.length) (hg:F.G f.2.2.2.2.1 i=[]):Yz m f.2.2.2.2.1 i=[]/\Yr f f.2.2.2.2.1 i=[]:=by
 have hx:f.2.2.2.2.1[i]? = some f.2.2.2.2.1[i]:=AU hi
 have hop:f.2.2.2.2.1[i].1=34\/f.2.2.2.2.1[i].1=28\/f.2.2.2.2.1[i].1=30:=by
  unfold F.G at hg
  rw [hx] at hg
  unfold F.bh at hg
  apply Classical.byContradiction
  intro hno
  simp only [not_or] at hno
  dsimp only at hg
  repeat' split at hg
  all_goals first | (cases hg;done) | (rename_i q;exact absurd q (by simp [hno])) | (simp at hg;done) | (simp_all;done)
 unfold Yz Yr
 rw [hx]
 simp only [BI,BH]
 unfold tkn nP NH
 rcases hop with e | e | e <;> simp [e]
theorem yN {m:DF} (V:Vm m):Sok (Jg m.1):=⟨uM V⟩
theorem QRE {kn:List Bool} {i:Nat} {b:Bool} (h:kn[i]? = some b):i < kn.length:=(Aq.1 h).1
theorem SI.step {m:DF} {f:DX} (C:Ci m f) {out kn} (h:SI m f out kn) {i j:Nat} (hi:kn[i]? = some true) (hj:j∈F.G f.2.2.2.2.1 i) (hkj:kn[j]? = some false) {s:List Int} (hs:ZJ (Yz m f.2.2.2.2.1 i) (Yr f f.2.2.2.2.1 i) (kv out i)=some s) (h4:tot (Jg m.1) s<=4096) :
  SI m f (out.set j s) (kn.set j true):=by
 have hjl:=QRE hkj
 have hjo:j < out.length:=by rw [h.lo,<- h.lk];exact hjl
 obtain ⟨r1,r2,r3,r4⟩:=h.kr i hi
 have hil:=r1.lt C.hc
 have hpt:qQ (Jg m.1) (Yr f f.2.2.2.2.1 i):=by
  unfold Yr
  rw [AU hil]
  exact (C.tys (Ae hil)).1
 have hst:=yR hs r3 hpt
 have hj0:¬ j=0:=λe=>by subst e;rw [h.k0.1] at hkj;cases hkj
 refine ⟨by rw [BJ];exact h.lo,by rw [BJ];exact h.lk,⟨?_,?_⟩,λa ha=>?_,λa ha=>?_⟩
 ·rw [List.getElem?_set,AX hj0];exact h.k0.1
 ·rw [TG hjo,AX (λe=>hj0 e.symm)];exact h.k0.2
 ·rw [TG hjo]
  by_cases e:a=j
  ·subst e
   rw [AY rfl]
   refine ⟨.step r1 hj,h4,hst,λS hS=>?_⟩
   obtain ⟨s',h1,h2⟩:=hS.2 i r1
   rw [<- r4 S hS,hs,Ac] at h1
   rw [h2 a hj,h1]
  ·rw [AX e]
   rw [List.getElem?_set,AX (λq=>e q.symm)] at ha
   exact h.kr a ha
 ·rw [List.getElem?_set] at ha
  rw [TG hjo]
  by_cases e:a=j
  ·subst e;rw [AY rfl,AY hjl] at ha;cases ha
  ·rw [AX (λq=>e q.symm)] at ha
   rw [AX e]
   exact h.un a ha
theorem SI.start {m:DF} {f:DX} (h1:1<=f.2.2.2.2.1.length):SI m f (List.replicate f.2.2.2.2.1.length []) ((List.replicate f.2.2.2.2.1.length false).set 0 true):=by
 refine ⟨by simp,by simp,⟨by rw [List.getElem?_set,AY rfl,AY (by rw [List.length_replicate];omega)],Zc _ _⟩,λi hi=>?_,λi _=>Zc _ _⟩
 rw [Zc]
 have:i=0:=by
  rw [List.getElem?_set] at hi
  apply Classical.byContradiction
  intro e
  rw [AX (λq=>e q.symm),List.getElem?_replicate] at hi
  split at hi <;> cases hi
 subst this
 exact ⟨.zero,(by rw [jM];decide),(λt h=>by cases h),λS hS=>hS.1.symm⟩
theorem SI.done {m:DF} {f:DX} (C:Ci m f) {out kn} (h:SI m f out kn) (hc:∀ i,kn[i]? = some true->Cn m f out kn i) (hz:kv out (f.2.2.2.2.1.length - 1)=[]) :
  UQ m f/\(∀ i,¬ F.Rc (F.G f.2.2.2.2.1) i->kv out i=[])/\(∀ i,qQ (Jg m.1) (kv out i)/\tot (Jg m.1) (kv out i)<=4096)/\F.uz f.2.2.2.2.1 (jW m f) (out.map (tot (Jg m.1))):=by
 have all:∀ i,F.Rc (F.G f.2.2.2.2.1) i->kn[i]? = some true:=λi hi=>by
  induction hi with
  | zero=>exact h.k0.1
  | step hi hj ih=>
   obtain ⟨s,_,h2⟩:=hc _ ih
   exact (h2 _ hj).1
 have un:∀ i,¬ F.Rc (F.G f.2.2.2.2.1) i->kv out i=[]:=λi hi=>by
  by_cases hl:i < kn.length
  ·cases hb:kn[i] with
   | false=>exact h.un i (by rw [AU hl,hb])
   | true=>exact absurd (h.kr i (by rw [AU hl,hb])).1 hi
  ·unfold kv
   rw [Ad,Aw (by rw [h.lo,<- h.lk];omega)]
   rfl
 have hall:∀ i,qQ (Jg m.1) (kv out i)/\tot (Jg m.1) (kv out i)<=4096:=λi=>by
  by_cases hi:F.Rc (F.G f.2.2.2.2.1) i
  ·have:=h.kr i (all i hi);exact ⟨this.2.2.1,this.2.1⟩
  ·rw [un i hi];exact ⟨(λt h=>by cases h),by rw [jM];decide⟩
 have hS:vU (F.G f.2.2.2.2.1) (Yz m f.2.2.2.2.1) (Yr f f.2.2.2.2.1) (kv out):=⟨h.k0.2,λi hi=>by
  obtain ⟨s,h1,h2⟩:=hc i (all i hi)
  exact ⟨s,h1,λj hj=>(h2 j hj).2⟩⟩
 have hR:F.Right (F.G f.2.2.2.2.1) (F.da (jW m f)) f.2.2.2.2.1.length (λi=>tot (Jg m.1) (kv out i)):=⟨by show tot _ (kv out 0)=0;rw [h.k0.2];rfl,λi j hi hj=>by
  obtain ⟨s,h1,h2⟩:=hS.2 i hi
  have e:=aJ (ss:=Jg m.1) h1
  rw [QZ1 (hi.lt C.hc),h2 j hj,e]
  have hb:=hall j
  rw [h2 j hj,e] at hb
  have hp:=(bZ (yN C.V) (hall j).1).1
  rw [h2 j hj,e] at hp
  refine ⟨rfl,hp,hb.2,λhj'=>?_⟩
  subst hj'
  rw [h2 _ hj] at hz
  rw [<- e,hz];rfl⟩
 have hD:F.uz f.2.2.2.2.1 (jW m f) (out.map (tot (Jg m.1))):=by
  refine ⟨by rw [Ay];exact h.lo,_,hR,λi hi=>?_⟩
  have e:F.da (out.map (tot (Jg m.1))) i=tot (Jg m.1) (kv out i):=by
   unfold F.da kv
   rw [Ad,Ad,List.getElem?_map,AU (by rw [h.lo];exact hi)]
   rfl
  rw [e]
  exact ⟨λ_=>rfl,λhn=>by rw [un i hn];rfl⟩
 exact ⟨⟨⟨_,hD⟩,_,hS⟩,un,hall,hD⟩
theorem mV {m:DF} {fi:Nat} {f:DX} (hf:m.2.2.1[fi]? = some f) (C:Ci m f):SP m f (PS (m,(fi:Int))):=by
 have hfi:=(Aq.1 hf).1
 have hg:BX m.2.2.1 (fi:Int)=some f:=by rw [gI hfi,<- AU hfi,hf]
 have V:=C.V
 have hok:=yN V
 have h1:1<=f.2.2.2.2.1.length:=C.v.cd.1
 have h2:f.2.2.2.2.1.length<=200:=C.v.cd.2
 show SP m f (Qc (λ_=>List.replicate) (BP (Mt (λ_=>List.replicate) big) big) (m,(fi:Int)))
 unfold Qc
 dsimp only
 rw [hg,AA]
 simp only [F.Yo (show f.2.2.2.2.1.length<=68719476736 by omega),F.start_lt h1,AL,Aj,Int.toNat_zero]
 generalize hl:f.2.2.2.2.1=l at h1 h2
 have hcl:∀ {i:Nat},i < l.length->f.2.2.2.2.1[i]? = some (f.2.2.2.2.1.getD i (0,(0,(0,(0,()))))):=λ{i} hi=>by
  rw [hl,Ad,AU hi];rfl
 have hrl:∀ i,F.Rc (F.G l) i->i < l.length:=λi hi=>by subst hl;exact hi.lt C.hc
 refine F.MV (g:=Mt (λ_=>List.replicate) big)
  (λv=>∃ ch out kn,v=((fi:Int),l,ch,m,out,kn)/\SI m f out kn/\(ch=false->∀ i,kn[i]? = some true->Cn m f out kn i))
  (λv=>2 * v.2.2.2.2.2.count false+(if v.2.2.1 then 1 else 0)) (SP m f) ?_ big _ ?_ ?_
 ·rintro self v ⟨ch,out,kn,rfl,hp,hc⟩ ih
  show SP m f (M5 (λ_=>List.replicate) (BP (Mv (λ_=>List.replicate) big self) big) self ((fi:Int),l,ch,m,out,kn))
  unfold M5
  dsimp only
  have hlo:=hp.lo
  rw [hl] at hlo
  cases ch with
  | false=>
   have hc:=hc rfl
   have ew:IntKind.i64.wrap ((l.length:Int) - 1)=((l.length - 1:Nat):Int):=by rw [F.fQ (by omega) (by omega)];omega
   rw [AJ,ew,hlo,F.RA (show l.length - 1 < l.length by omega),AL,kP (show l.length - 1 < out.length by omega),AA]
   by_cases hz:kv out (l.length - 1)=[]
   ·left
    obtain ⟨d1,d2,d3,d4⟩:=hp.done C hc (by rw [hl];exact hz)
    exact ⟨out,by rw [hz];rfl,d1,hp.lo,d2,d3,d4⟩
   ·right
    refine ⟨λhs=>hz ?_,out,by
     rw [show (((kv out (l.length - 1)).length:Int)==0)=false by
      rw [Az]
      intro e
      exact hz (Ar (by omega))]⟩
    obtain ⟨S,D,hS,hR,hD⟩:=qI C hs
    by_cases hk:kn[l.length - 1]? = some true
    ·obtain ⟨r1,_,r3,r4⟩:=hp.kr _ hk
     have e:=hR.last (by rw [hl] at r1 ⊢;exact r1)
     rw [hl] at e
     have d:=hD _ r1
     rw [r4 S hS]
     exact aD hok d.2 (d.1.trans e)
    ·refine hp.un _ ?_
     have hkl:l.length - 1 < kn.length:=by rw [hp.lk,hl];omega
     rw [AU hkl] at hk ⊢
     cases hb:kn[l.length - 1] with
     | true=>exact absurd (by rw [hb]) hk
     | false=>rfl
  | true=>
   rw [AL]
   refine Bg (σ:=Bool×List (List Int)×List Bool) (g:=Mv (λ_=>List.replicate) big self) (n:=l.length) (λs i=>((fi:Int),l,s.1,(i:Int),m,s.2.1,s.2.2))
    (λi s=>SI m f s.2.1 s.2.2/\s.2.2.count false<=kn.count false/\(s.1=true->s.2.2.count false < kn.count false)/\(s.1=false->∀ a,a < i->s.2.2[a]? = some true->Cn m f s.2.1 s.2.2 a))
    (SP m f) ?_ ?_ l.length 0 big (by simp) (Df (by omega)) (false,out,kn) ⟨hp,Nat.le_refl _,(λe=>nomatch e),λ_ a ha=>absurd ha (Nat.not_lt_zero _)⟩
   ·rintro BQ ⟨c,d,t⟩ ⟨g1,g2,g3,g4⟩
    dsimp only at g1 g2 g3 g4
    show SP m f (FD (λ_=>List.replicate) _ self BQ ((fi:Int),l,c,(l.length:Int),m,d,t))
    unfold FD
    dsimp only
    rw [Dk,AJ]
    refine ih _ ⟨c,d,t,rfl,g1,λhf a ha=>g4 hf a ?_ ha⟩ ?_
    ·have:=g1.lk;rw [hl] at this;have:=QRE ha;omega
    ·show 2 * t.count false+(if c then 1 else 0) < 2 * kn.count false+1
     cases c with
     | false=>simp only [Bool.false_eq_true,if_false];omega
     | true=>have:=g3 rfl;simp only [if_true];omega
   ·rintro BQ ⟨c,d,t⟩ i hi ⟨g1,g2,g3,g4⟩
    dsimp only at g1 g2 g3 g4
    have hlk:=g1.lk
    have hld:=g1.lo
    rw [hl] at hlk hld
    have hx:=hcl hi
    have hgx:BX l (i:Int)=some (f.2.2.2.2.1.getD i (0,(0,(0,(0,()))))):=by
     rw [hl] at hx;rw [gI hi,<- AU hi,hx,hl]
    generalize f.2.2.2.2.1.getD i (0,(0,(0,(0,()))))=x at hx hgx
    have hxm:=BF hx
    show (∃ s':Bool×List (List Int)×List Bool,_/\FD (λ_=>List.replicate) (BP (JG (λ_=>List.replicate) big self BQ) big) self BQ ((fi:Int),l,c,(i:Int),m,d,t)=_)\/SP m f (FD (λ_=>List.replicate) (BP (JG (λ_=>List.replicate) big self BQ) big) self BQ ((fi:Int),l,c,(i:Int),m,d,t))
    unfold FD
    dsimp only
    rw [Dq hi,AL,hlk,F.RA hi,AL]
    by_cases hk:t[i]? = some true
    rotate_left
    ·left
     have hkf:t[i]? = some false:=by
      rw [AU (by omega)] at hk ⊢
      cases hb:t[i] with
      | true=>exact absurd (by rw [hb]) hk
      | false=>rfl
     rw [F.Jb hkf,AA,A9,AL,wS hi (by omega)]
     refine ⟨(c,d,t),⟨g1,g2,g3,λhf a ha h3=>?_⟩,rfl⟩
     by_cases e:a=i
     ·subst e;exact absurd h3 hk
     ·exact g4 hf a (by omega) h3
    obtain ⟨r1,r2,r3,r4⟩:=g1.kr i hk
    have hlen:=qD hok r3
    rw [F.Jb hk,AA,A8,AJ,hgx,AA,hld,F.RA hi,AL,kP (show i < d.length by omega),AA,QHQ V hf (C.v.ok x hxm) (C.hr x hxm) (by omega) r3,AA]
    have etk:Yz m f.2.2.2.2.1 i=tkn m x:=by simp [Yz,hx]
    have epu:Yr f f.2.2.2.2.1 i=nP f x:=by simp [Yr,hx]
    have hB:IE (l,(i:Int))=some (F.ints (F.G l i)):=by
     have:=F.jY C.hc (i:=i) (by rw [hl];exact hi)
     rw [hl] at this;exact this
    cases hs:ZJ (tkn m x) (nP f x) (kv d i) with
    | none=>
     right;right
     refine ⟨λhsc=>?_,[],rfl⟩
     obtain ⟨S,D,hS,_⟩:=qI C hsc
     obtain ⟨s',e1,_⟩:=hS.2 i r1
     rw [etk,epu,<- r4 S hS,hs] at e1
     cases e1
    | some z=>
     dsimp only
     by_cases hz:tot (Jg m.1) z<=4096
     rotate_left
     ·right;right
      refine ⟨λhsc=>hz ?_,[],by rw [AF hz];rfl⟩
      obtain ⟨S,D,hS,hR,hD⟩:=qI C hsc
      obtain ⟨s',e1,e2⟩:=hS.2 i r1
      rw [etk,epu,<- r4 S hS,hs,Ac] at e1
      subst e1
      cases hG:F.G f.2.2.2.2.1 i with
      | nil=>
       obtain ⟨n1,n2⟩:=QOj C (by rw [hl];exact hi) hG
       rw [etk] at n1
       rw [epu] at n2
       have:=aJ (ss:=Jg m.1) hs
       rw [n1,n2] at this
       simp only [jM] at this
       omega
      | cons j g=>
       have hj:j∈F.G f.2.2.2.2.1 i:=by rw [hG];exact List.mem_cons_self
       have hb:=hR.bd (.step r1 hj)
       rw [<- (hD j (.step r1 hj)).1,e2 j hj] at hb
       exact hb.2
     rw [AB hz,A8,AJ,hB,AA]
     have hgl:=F.qM l i
     have hGl:F.G f.2.2.2.2.1 i=F.G l i:=by rw [hl]
     refine Bg (σ:=Bool×List (List Int)×List Bool) (g:=JG (λ_=>List.replicate) big self BQ) (n:=(F.G l i).length) (λs k=>((fi:Int),l,s.1,(i:Int),z,(k:Int),m,s.2.1,s.2.2,F.ints (F.G l i)))
      (λk s=>(SI m f s.2.1 s.2.2/\s.2.2.count false<=kn.count false/\(s.1=true->s.2.2.count false < kn.count false)/\(s.1=false->∀ a,a < i->s.2.2[a]? = some true->Cn m f s.2.1 s.2.2 a))/\(s.2.2[i]? = some true/\kv s.2.1 i=kv d i)/\∀ b∈(F.G l i).take k,s.2.2[b]? = some true/\kv s.2.1 b=z)
      (λr=>(∃ s':Bool×List (List Int)×List Bool,(SI m f s'.2.1 s'.2.2/\s'.2.2.count false<=kn.count false/\(s'.1=true->s'.2.2.count false < kn.count false)/\(s'.1=false->∀ a,a < i+1->s'.2.2[a]? = some true->Cn m f s'.2.1 s'.2.2 a))/\r=BQ ((fi:Int),l,s'.1,((i+1:Nat):Int),m,s'.2.1,s'.2.2))\/SP m f r)
      ?_ ?_ (F.G l i).length 0 big (by simp) (Df (by omega)) (c,d,t) ⟨⟨g1,g2,g3,g4⟩,⟨hk,rfl⟩,λb hb=>by simp at hb⟩
     ·rintro Bp ⟨c,d',t'⟩ ⟨⟨g1,g2,g3,g4⟩,⟨g5,g6⟩,g7⟩
      dsimp only at g1 g2 g3 g4 g5 g6 g7
      left
      show ∃ s':Bool×List (List Int)×List Bool,_/\EM (λ_=>List.replicate) self BQ Bp ((fi:Int),l,c,(i:Int),z,((F.G l i).length:Int),m,d',t',F.ints (F.G l i))=_
      unfold EM
      dsimp only
      rw [F.Bo (F.G l i),Dk,AJ,wS hi (by omega)]
      refine ⟨(c,d',t'),⟨g1,g2,g3,λhf a ha h3=>?_⟩,rfl⟩
      by_cases e:a=i
      ·subst e
       refine ⟨z,by rw [etk,epu,g6];exact hs,λj hj=>g7 j ?_⟩
       rw [List.take_length,<- hGl];exact hj
      ·exact g4 hf a (by omega) h3
     ·rintro Bp ⟨c,d',t'⟩ k hkl ⟨⟨g1,g2,g3,g4⟩,⟨g5,g6⟩,g7⟩
      dsimp only at g1 g2 g3 g4 g5 g6 g7
      have hj:(F.G l i)[k]? = some (F.G l i)[k]:=AU hkl
      have hjm:(F.G l i)[k]∈F.G l i:=Ae hkl
      have hjl:(F.G l i)[k] < l.length:=by
       have:=F.QAw C.hc (i:=i) (j:=(F.G l i)[k]) (by rw [hl];exact hi) (by rw [hl];exact hjm)
       rw [hl] at this;exact this
      generalize (F.G l i)[k]=j at *
      have hld:=g1.lo
      have hlk:=g1.lk
      rw [hl] at hld hlk
      have hgk:=F.Jb (F.ints_at hj)
      have hzl:z.length<=1000:=by
       have:=QF8 hs
       have:=iq f x
       omega
      show (∃ s':Bool×List (List Int)×List Bool,_/\EM (λ_=>List.replicate) self BQ Bp ((fi:Int),l,c,(i:Int),z,(k:Int),m,d',t',F.ints (F.G l i))=_)\/((∃ s':Bool×List (List Int)×List Bool,_/\EM (λ_=>List.replicate) self BQ Bp ((fi:Int),l,c,(i:Int),z,(k:Int),m,d',t',F.ints (F.G l i))=_)\/SP m f (EM (λ_=>List.replicate) self BQ Bp ((fi:Int),l,c,(i:Int),z,(k:Int),m,d',t',F.ints (F.G l i))))
      generalize hX:EM (λ_=>List.replicate) self BQ Bp ((fi:Int),l,c,(i:Int),z,(k:Int),m,d',t',F.ints (F.G l i))=X
      unfold EM at hX
      dsimp only at hX
      simp only [F.Bo,hld,hlk,F.RA hkl,F.RA hjl,AL,hgk,kP (show j < d'.length by omega),AA] at hX
      simp only [Dq hkl,AL,wS hkl (show (F.G l i).length<=1000000000 by omega),Aj,F.M8] at hX
      by_cases hkj:t'[j]? = some true
      ·rw [hkj] at hX
       have r':=g1.kr j hkj
       have hl':=qD hok r'.2.2.1
       simp only [AA,AL,A8,AJ,K.UA _ _ (show (kv d' j).length<=1000 by omega)] at hX
       by_cases e:kv d' j=z
       ·rw [AB e,A8,AJ] at hX
        left
        refine ⟨(c,d',t'),⟨⟨g1,g2,g3,g4⟩,⟨g5,g6⟩,λb hbm=>?_⟩,hX.symm⟩
        rcases F.XY hj hbm with h5 | rfl
        ·exact g7 b h5
        ·exact ⟨hkj,e⟩
       ·rw [AF e,A9,AL] at hX
        right;right;right
        refine ⟨λhsc=>e ?_,[],hX.symm⟩
        obtain ⟨S,D,hS,hR,hD⟩:=qI C hsc
        obtain ⟨s',e1,e2⟩:=hS.2 i r1
        rw [etk,epu,<- r4 S hS,hs,Ac] at e1
        rw [r'.2.2.2 S hS,e2 j (by rw [hGl];exact hjm),e1]
      ·have hkf:t'[j]? = some false:=by
        rw [AU (by omega)] at hkj ⊢
        cases hb:t'[j] with
        | true=>exact absurd (by rw [hb]) hkj
        | false=>rfl
       rw [hkf] at hX
       simp only [AA,AL,A9,AJ] at hX
       left
       have hcn:=F.Mh hkf
       have hst:=g1.step C g5 (j:=j) (by rw [hGl];exact hjm) hkf (s:=z) (by rw [etk,epu,g6];exact hs) hz
       have hij:¬ i=j:=λe=>by subst e;rw [g5] at hkf;cases hkf
       refine ⟨(true,d'.set j z,t'.set j true),⟨⟨hst,(show (t'.set j true).count false<=kn.count false by omega),(λ_=>show (t'.set j true).count false < kn.count false by omega),(λe=>nomatch e)⟩,⟨?_,?_⟩,λb hbm=>?_⟩,hX.symm⟩
       ·show (t'.set j true)[i]? = some true
        rw [List.getElem?_set,AX (λe=>hij e.symm)];exact g5
       ·show kv (d'.set j z) i=_
        rw [TG (by omega),AX hij];exact g6
       ·show (t'.set j true)[b]? = some true/\kv (d'.set j z) b=z
        rw [List.getElem?_set,TG (by omega)]
        by_cases e:b=j
        ·subst e;rw [AY rfl,AY (by omega),AY rfl];exact ⟨rfl,rfl⟩
        ·rw [AX (λq=>e q.symm),AX e]
         rcases F.XY hj hbm with h5 | h5
         ·exact g7 b h5
         ·exact absurd h5 e
 ·exact ⟨true,_,_,rfl,by subst hl;exact SI.start h1,λe=>by cases e⟩
 ·have:=F.Oi l.length h1
  refine Df ?_
  show 2 * ((List.replicate l.length false).set 0 true).count false+1<=_
  omega
theorem QTP (fs:List Nat) (i:Nat) (s:Int):dB fs i s=!(F.ma fs i).testBit s.toNat:=by
 unfold dB
 cases hb:(F.ma fs i).testBit s.toNat with
 | false=>
  refine AB (Nat.eq_of_testBit_eq λt=>?_)
  rw [Nat.testBit_and,Nat.testBit_two_pow,Nat.zero_testBit]
  by_cases e:s.toNat=t
  ·rw [<- e,hb,Bool.false_and]
  ·rw [AF e,Bool.and_false]
 | true=>
  refine AF λh=>?_
  have:=congrArg (λn=>n.testBit s.toNat) h
  rw [Nat.testBit_and,Nat.testBit_two_pow,Nat.zero_testBit,hb,AB rfl] at this
  cases this
theorem QOz {h:Nat} {s:Int} (h0:0<=s) (h1:s<=15):((((h:Int).fdiv (2 ^ (min (Int.toNat s) 64))).tmod (2:Int))==(0:Int))=!h.testBit s.toNat:=by
 obtain ⟨k,rfl⟩:=BL h0
 rw [Aj,Nat.testBit_eq_decide_div_mod_eq]
 have e:(h:Int).fdiv (2 ^ (min k 64))=((h / 2 ^ k:Nat):Int):=by
  rw [show min k 64=k by omega,Int.fdiv_eq_ediv_of_nonneg _ (by exact Int.le_of_lt (Int.pow_pos (by decide)))]
  simp
 rw [e,Int.tmod_eq_emod_of_nonneg (Int.natCast_nonneg _),EW]
 by_cases q:h / 2 ^ k % 2=1
 ·rw [AB q,AF (by omega)];rfl
 ·rw [AF q,AB (by omega)];rfl
theorem rY {m:DF} (V:Vm m) {fi i:Nat} {f:DX} (hf:m.2.2.1[fi]? = some f) {x:Ins} (hx:f.2.2.2.2.1[i]? = some x) (h8:0<=x.1/\x.1<=255) (r:Bool):GQ (m,(fi:Int),(i:Int),r)=some (bq m f x r):=by
 have hfi:=(Aq.1 hf).1
 have hxi:=(Aq.1 hx).1
 have v:=V.ok f (BF hf)
 have ho:=v.ok x (BF hx)
 have hg:BX m.2.2.1 (fi:Int)=some f:=by rw [gI hfi,<- AU hfi,hf]
 have hgx:BX f.2.2.2.2.1 (i:Int)=some x:=by rw [gI hxi,<- AU hxi,hx]
 show Oa _=_
 unfold Oa bq
 dsimp only
 rw [hg,AA,hgx,AA,QCN V hf ho h8,AA]
 cases hr:OC m f x with
 | false=>rfl
 | true=>
  rw [A8,AJ,AX (by simp)]
  cases r with
  | false=>rfl
  | true=>
   rw [A8,AJ,AX (by simp),xX V hf ho hr,AA]
   cases ZV m f x <;> rfl
theorem QH7 {m:DF} {f:DX} (V:Vm m) (v:Vf m.1.length f) (h8:F.WfC f.2.2.2.2.1) {fs:List Nat} (hfl:fs.length=f.2.2.2.2.1.length) (BM) :
  BP (Eh big BM) big (0,f,F.ints fs)=some (if vL f.2.2.2.2.1 fs f.2.2.2.2.1.length 0≠-1 then (vL f.2.2.2.2.1 fs f.2.2.2.2.1.length 0,38) else (0,0)):=by
 have h2:=v.cd.2
 have key:∀ (k i N:Nat),i+k=f.2.2.2.2.1.length->k < N->BP (Eh big BM) N ((i:Int),f,F.ints fs)=some (if vL f.2.2.2.2.1 fs k i≠-1 then (vL f.2.2.2.2.1 fs k i,38) else (0,0)):=by
  intro k
  induction k with
  | zero=>
   intro i N hi hN
   obtain ⟨N,rfl⟩:∃ M,N=M+1:=⟨N - 1,by omega⟩
   obtain rfl:i=f.2.2.2.2.1.length:=by omega
   rw [Ba]
   simp only [Eh,LB,Dk,AJ]
   rfl
  | succ k ih=>
   intro i N hi hN
   obtain ⟨N,rfl⟩:∃ M,N=M+1:=⟨N - 1,by omega⟩
   have hi':i < f.2.2.2.2.1.length:=by omega
   have hm:=Ae hi'
   have ho:=v.ok _ hm
   obtain ⟨s1,_,s3,_⟩:=F.VK ho
   rw [Ba]
   simp only [Eh,LB,Dq hi',AL,gI hi',AA,F.Xg ho (h8 _ hm).1 (h8 _ hm).2]
   have hany:((f.2.2.2.2.1[i]?).any λx=>(F.rS x).any (dB fs i))=(F.rS f.2.2.2.2.1[i]).any (dB fs i):=by simp [hi']
   unfold vL
   rw [hany]
   generalize F.rS f.2.2.2.2.1[i]=r at s1 s3
   have hgi:BX (F.ints fs) (i:Int)=some ((F.ma fs i:Nat):Int):=F.qG (by omega)
   have:=CQ (g:=Hl big BM (BP (Eh big BM) N)) (mk:=λq=>((i:Int),(q:Int),f,F.ints fs,r)) (p:=λq=>(r[q]?).all λ(s:Int)=>!dB fs i s) (no:=some ((i:Int),38)) (kk:=some (if vL f.2.2.2.2.1 fs k (i+1)≠-1 then (vL f.2.2.2.2.1 fs k (i+1),38) else (0,0))) (n:=r.length)
    (λself q hq=>by
     have hs:=s1 _ (Ae hq)
     have eb:=QOz (h:=F.ma fs i) hs.1 hs.2
     simp only [Hl,P8,F.Bo,F.RA (show i < fs.length by omega),AL,F.QC3 (show i < fs.length by omega),AA,F.RA hq,F.Jb (AU hq),AF (show ¬ r[q] < 0 by omega),AJ,eb,pat hq,QTP]
     simp only [Dq hq,AL,wS hq (by omega)]
     cases (F.ma fs i).testBit (r[q]).toNat <;> rfl)
    (λself=>by
     simp only [Hl,P8,Dk,AJ,wS hi' (by omega)]
     exact ih (i+1) N (by omega) (by omega)) r.length 0 big (by omega) (Df (by omega))
   rw [cB,show ((0:Nat):Int)=0 from rfl] at this
   rw [this]
   have e:r.all (λs=>!dB fs i s)=!r.any (dB fs i):=by rw [List.not_any_eq_all_not]
   rw [e]
   cases r.any (dB fs i) with
   | true=>
    have hne:(i:Int)≠-1:=by omega
    simp [hne]
   | false=>rfl
 exact key f.2.2.2.2.1.length 0 big (by omega) (Df (by omega))
theorem lZ {m:DF} (ha:Qp m) (V:Vm m) {fi:Nat} {f:DX} (hf:m.2.2.1[fi]? = some f):OI (m,(fi:Int))=some (flt m fi f):=by
 have hfi:=(Aq.1 hf).1
 have hfm:=BF hf
 have v:=V.ok f hfm
 have h8:F.WfC f.2.2.2.2.1:=(ha.fn f hfm).1
 have hg:BX m.2.2.1 (fi:Int)=some f:=by rw [gI hfi,<- AU hfi,hf]
 have hcd:=v.cd
 show KX (BP (Du big) big) _=_
 unfold KX
 dsimp only
 rw [hg,AA,F.QEC _ h8,AA]
 cases hc:F.VP f.2.2.2.2.1 with
 | false=>
  rw [AX (by simp),show ((8:Int) != (0:Int))=true from rfl,AL]
  unfold flt
  rw [AY hc]
 | true=>
  rw [AY rfl,show ((0:Int) != (0:Int))=false from rfl,AJ]
  have e20:IntKind.i64.wrap ((f.2.2.2.2.1.length:Int) - 1)=((f.2.2.2.2.1.length - 1:Nat):Int):=by rw [F.fQ (by omega) (by omega)];omega
  have hrl:=F.fG f.2.2.2.2.1
  have hll:=F.KM f.2.2.2.2.1
  have rest:¬ ((fi:Int)=0/\(0 < f.2.1\/f.2.2.1≠-1))->∀ (k i N:Nat),i+k=f.2.2.2.2.1.length->k < N->fwF m f=fwS m f f.2.2.2.2.1 (F.NV f.2.2.2.2.1) k i->BP (Du big) N ((fi:Int),((f.2.2.2.2.1.length - 1:Nat):Int),(i:Int),m,f,F.KL f.2.2.2.2.1)=some (flt m fi f):=by
   intro hn k
   induction k with
   | zero=>
    intro i N hi hN hw
    obtain ⟨N,rfl⟩:∃ M,N=M+1:=⟨N - 1,by omega⟩
    obtain rfl:i=f.2.2.2.2.1.length:=by omega
    have hz:(fwF m f).2=0:=by rw [hw];rfl
    obtain ⟨C,_⟩:=QKt V v hc hz
    rw [Ba]
    simp only [Du,LA,Dk,AJ]
    rcases mV hf C with ⟨out,e,hs,_⟩ | ⟨hs,out,e⟩
    ·obtain ⟨fs,e2,hM⟩:=F.QEz hc h8 v.par.1 v.par.2 (by have:=v.sl;omega)
     have ef:flt m fi f=if vL f.2.2.2.2.1 (R8 f) f.2.2.2.2.1.length 0≠-1 then (vL f.2.2.2.2.1 (R8 f) f.2.2.2.2.1.length 0,38) else (0,0):=by
      unfold flt
      rw [AX (by simp [hc]),AX hn,AX (by simp [hz]),AX (by simp [hs])]
     rw [e,AA]
     dsimp only
     rw [A8,AJ,e2,AA,QH7 V v h8 hM.1,ef,QA7 hM]
    ·rw [e,AA]
     dsimp only
     rw [A9,AL]
     unfold flt
     rw [AX (by simp [hc]),AX hn,AX (by simp [hz]),AY hs]
   | succ k ih=>
    intro i N hi hN hw
    obtain ⟨N,rfl⟩:∃ M,N=M+1:=⟨N - 1,by omega⟩
    have hi':i < f.2.2.2.2.1.length:=by omega
    have hx:f.2.2.2.2.1[i]? = some f.2.2.2.2.1[i]:=AU hi'
    have hm:=Ae hi'
    have hr:(F.NV f.2.2.2.2.1)[i]? = some (F.NV f.2.2.2.2.1)[i]:=AU (by omega)
    have hl:(F.KL f.2.2.2.2.1)[i]? = some (F.KL f.2.2.2.2.1)[i]:=AU (by omega)
    have ra:=F.xY hc hi'
    have la:=F.bI hi'
    rw [hr,Ac] at ra
    rw [hl,Ac] at la
    have rl:(F.NV f.2.2.2.2.1)[i]=((F.KL f.2.2.2.2.1)[i]||decide ((i:Int)=((f.2.2.2.2.1.length - 1:Nat):Int))):=by
     rw [Bool.eq_iff_iff,ra,Bool.or_eq_true,la,AZ]
     exact or_congr Iff.rfl (by omega)
    simp only [fwS,hx,hr] at hw
    rw [Ba]
    simp only [Du,LA,Dq hi',AL,hll,AB (show (0:Int)<=(i:Int) by omega),Bool.and_self,F.Jb hl,AA,rY V hf hx (h8 _ hm),wS hi' (by omega),EW]
    have go:∀ (r:Bool),r=(F.NV f.2.2.2.2.1)[i]->(bif bq m f f.2.2.2.2.1[i] r != 0 then some ((i:Int),bq m f f.2.2.2.2.1[i] r) else BP (Du big) N ((fi:Int),((f.2.2.2.2.1.length - 1:Nat):Int),((i+1:Nat):Int),m,f,F.KL f.2.2.2.2.1))=some (flt m fi f):=by
     rintro r rfl
     rw [CX]
     by_cases hz:bq m f f.2.2.2.2.1[i] (F.NV f.2.2.2.2.1)[i]=0
     ·rw [AB hz,A8,AJ]
      rw [AX (by simp [hz])] at hw
      exact ih (i+1) N (by omega) (by omega) hw
     ·rw [AF hz,A9,AL]
      rw [AY hz] at hw
      unfold flt
      rw [AX (by simp [hc]),AX hn,hw,AY hz]
    cases hb:(F.KL f.2.2.2.2.1)[i] with
    | true=>rw [AL];exact go true (by rw [rl,hb];rfl)
    | false=>rw [AJ];exact go _ (by rw [rl,hb];rfl)
  have start:=λhn=>rest hn f.2.2.2.2.1.length 0 big (by omega) (Df (by omega)) rfl
  have hp:=v.par.1
  rw [F.QJQ hc,AA]
  rw [e20,EW,CX,CX]
  by_cases h0:(fi:Int)=0
  ·rw [AB h0,AL]
   by_cases hp0:f.2.1=0
   ·rw [AB hp0,A8,AJ]
    by_cases hr:f.2.2.1 = -1
    ·rw [AB hr,A8,AJ]
     exact start λh=>by rcases h.2 with h | h;omega;exact h hr
    ·rw [AF hr,A9,AL]
     unfold flt
     rw [AX (by simp [hc]),AY ⟨h0,.inr hr⟩]
   ·rw [AF hp0,A9,AL]
    unfold flt
    rw [AX (by simp [hc]),AY ⟨h0,.inl (by omega)⟩]
  ·rw [AF h0,AJ]
   exact start λh=>h0 h.1
theorem vV {m:DF} (ha:Qp m) (hb:QD9 m) (V:Vm m) {fi:Nat} {f:DX} (hf:m.2.2.1[fi]? = some f) (hz:(flt m fi f).2=0):Ra (m,(fi:Int))=some (RO m f):=by
 have hfi:=(Aq.1 hf).1
 have hfm:=BF hf
 have v:=V.ok f hfm
 have hn:=V.fn.2
 have h8:F.WfC f.2.2.2.2.1:=(ha.fn f hfm).1
 obtain ⟨C,hs,_⟩:=QEX V v hz
 show N9 (BP (Fj big) big) _=_
 unfold N9
 dsimp only
 rw [K.QCO _ (by have:=V.ty;omega) ha.ty.2,AA,TI 1 rfl _ (by have:=V.tx;omega),AL]
 refine Bg (g:=Fj big) (n:=m.2.2.1.length) (λ(s:List DX) (i:Nat)=>((i:Int),m,(),([]:List K.ES),([]:List (List Int)),([]:List DX),m.1,m.2.1,s,m,([]:List Int),(0:Int),(0:Int),(),([]:List K.Qo),([]:List Ins),([]:List T.Rn),([]:List T.Rn),(fi:Int)))
  (λi s=>s=m.2.2.1.take i) (λr=>r=some (RO m f)) ?_ ?_ m.2.2.1.length 0 big (by omega) (Df (by omega)) [] rfl
 ·rintro self s rfl
  have hg:nth m.2.2.1 (Int.toNat (fi:Int))=some f:=F.Jb hf
  rw [BD (by omega)]
  rcases mV hf C with ⟨out,e,_,ho,_,hall,hD⟩ | ⟨hs',_⟩
  rotate_left
  ·exact absurd hs hs'
  obtain ⟨fs,e2,hM⟩:=F.QEz C.hc h8 v.par.1 v.par.2 (by have:=v.sl;omega)
  have hcd:=v.cd
  simp only [Fj,OM,Dk,AJ,F.RA hfi,AL,hg,AA,e]
  refine Bg (g:=KF big self) (n:=out.length) (λ(s:List Int) (i:Nat)=>((i:Int),m,([]:List Int),(0:Int),(0:Int),(),([]:List K.Qo),([]:List Ins),([]:List T.Rn),([]:List T.Rn),f,out,s))
   (λi s=>s=(out.map (tot (Jg m.1))).take i) (λr=>r=some (RO m f)) ?_ ?_ out.length 0 big (by omega) (Df (by omega)) [] rfl
  ·rintro QZp s rfl
   simp only [KF,TF,Dk,AJ]
   rw [BD (by rw [Ay];omega),T.QB1 _ (by rw [Ay];omega),AA,e2,AA,T.QB1 _ (by rw [F.Bo,hM.1];omega),AA]
   unfold RO
   rw [yx hD,QA7 hM]
  ·rintro QZp s i hi rfl
   left
   refine ⟨(out.map (tot (Jg m.1))).take (i+1),rfl,?_⟩
   obtain ⟨a1,a2⟩:=hall i
   have hl:=qD (yN V) a1
   have hp:=(bZ (yN V) a1).1
   have hw:IntKind.u64.wrap (tot (Jg m.1) (kv out i))=tot (Jg m.1) (kv out i):=by rw [wrap_u64];omega
   have hik:i < (out.map (tot (Jg m.1))).length:=by rw [Ay];exact hi
   have hkv:kv out i=out[i]:=by have:=QDq hi;rw [AU hi] at this;exact (Au this).symm
   simp only [KF,TF,F.RA hi,AL,kP hi,AA,ku V (show (kv out i).length<=1000 by omega) a1,hw]
   rw [Dq hi,AL,QEN 1 rfl _ _ (by rw [BK];omega),AL,wS hi (by omega),Ah hik,List.getElem_map,hkv]
   rfl
 ·rintro self s i hi rfl
  left
  have hm:=Ae hi
  have hr:=hb.fn.2 _ hm
  refine ⟨m.2.2.1.take (i+1),rfl,?_⟩
  simp only [Fj,OM,Dq hi,AL,gI hi,AA,wS hi (by omega)]
  rw [TI 2 rfl _ hr.sl,AL,TI 4 rfl _ hr.code,AL,TI 2 rfl _ hr.s1,AL,TI 2 rfl _ hr.s2,AL,QEN 7 rfl _ _ (by rw [BK];omega),AL]
  rw [Ah hi]
  rfl
theorem QKO {m:DF} (ha:Qp m) (hb:QD9 m) (V:Vm m) {fi:Nat} {f:DX} (hf:m.2.2.1[fi]? = some f):Ti (m,(fi:Int))=some (if (flt m fi f).2=0/\RO m f≠f then (-1,32) else flt m fi f):=by
 have hfi:=(Aq.1 hf).1
 have v:=V.ok f (BF hf)
 have hg:BX m.2.2.1 (fi:Int)=some f:=by rw [gI hfi,<- AU hfi,hf]
 show YO _=_
 unfold YO
 dsimp only
 rw [lZ ha V hf,AA,EW]
 by_cases hz:(flt m fi f).2=0
 ·rw [AB hz,AL,vV ha hb V hf hz,AA,hg,AA,uP _ _ (lQ V v hz).1,AA]
  by_cases e:RO m f=f
  ·rw [AB e,A8,AJ,AX (λh=>h.2 e)]
  ·rw [AF e,A9,AL,AY ⟨hz,e⟩]
 ·rw [AF hz,AJ,AX (λh=>hz h.1)]
theorem xV {m:DF} (ha:Qp m) (hb:QD9 m):PN m=some (if Yi m=0 then rH m m.2.2.1.length 0 else (0,0,Yi m)):=by
 show Qb (BP (Gb big) big) m=_
 unfold Qb
 rw [QAH m ha,AA,CX]
 by_cases hc:Yi m=0
 rotate_left
 ·rw [AF hc,A9,AL,AX hc]
 have V:=mo (ZM hc).1
 have hn:=V.fn.2
 rw [AB hc,A8,AJ,AY hc]
 have key:∀ (k i N:Nat),i+k=m.2.2.1.length->k < N->BP (Gb big) N ((i:Int),m)=some (rH m k i):=by
  intro k
  induction k with
  | zero=>
   intro i N hi hN
   obtain ⟨N,rfl⟩:∃ M,N=M+1:=⟨N - 1,by omega⟩
   obtain rfl:i=m.2.2.1.length:=by omega
   rw [Ba]
   simp only [Gb,Um,Dk,AJ]
   rfl
  | succ k ih=>
   intro i N hi hN
   obtain ⟨N,rfl⟩:∃ M,N=M+1:=⟨N - 1,by omega⟩
   have hi':i < m.2.2.1.length:=by omega
   have hx:m.2.2.1[i]? = some m.2.2.1[i]:=AU hi'
   rw [Ba]
   simp only [Gb,Um,Dq hi',AL,QKO ha hb V hx,AA,rH,hx,wS hi' (by omega),CX]
   by_cases hz:(flt m i m.2.2.1[i]).2=0
   ·rw [AX (show ¬ (flt m i m.2.2.1[i]).2≠0 by simp [hz])]
    by_cases e:RO m m.2.2.1[i]=m.2.2.1[i]
    ·rw [AX (λh=>h.2 e),AB hz,A8,AJ,AY e.symm]
     exact ih (i+1) N (by omega) (by omega)
    ·rw [AY ⟨hz,e⟩,AX (λh=>e h.symm)]
     rfl
   ·rw [AX (λh=>hz h.1),AF hz,A9,AL,AY hz]
 exact key m.2.2.1.length 0 big (by omega) (Df (by omega))
def tyS (m:DF) (fi i:Int):List Int×List Int×Int:=
 if Yi m≠0 then ([],[],Yi m) else match (if 0<=fi then m.2.2.1[fi.toNat]? else none) with
 | none=>([],[],2)
 | some f=>match (if 0<=i then f.2.2.2.2.1[i.toNat]? else none) with
  | none=>([],[],2)
  | some x=>if OC m f x=false then ([],[],16) else if ZV m f x=false then ([],[],30) else ((F.rS x).map (Gm f),(F.wS x).map (Gm f),0)
noncomputable def tbS (m:DF) (fi:Int):DX×Int:=
 if Yi m≠0 then (Yu,Yi m) else match (if 0<=fi then m.2.2.1[fi.toNat]? else none) with
 | none=>(Yu,2)
 | some f=>if (flt m fi f).2=0 then (RO m f,0) else (Yu,(flt m fi f).2)
theorem Ox {α:Type} (l:List α) (i:Int):(∃ k:Nat,∃ x,i=(k:Int)/\l[k]? = some x/\k < l.length/\BX l i=some x/\K.Fq i (l.length:Int)=true/\(if 0<=i then l[i.toNat]? else none)=some x)\/((i < 0\/i>=(l.length:Int))/\K.Fq i (l.length:Int)=false/\(if 0<=i then l[i.toNat]? else none)=none):=by
 by_cases h0:0<=i
 ·obtain ⟨k,rfl⟩:=BL h0
  by_cases h1:k < l.length
  ·left
   refine ⟨k,l[k],rfl,AU h1,h1,gI h1,by simp [K.Fq];omega,?_⟩
   rw [AY h0,Aj,AU h1]
  ·right
   refine ⟨.inr (by omega),by simp [K.Fq];omega,?_⟩
   rw [AY h0,Aj,Aw (by omega)]
 ·right
  exact ⟨.inl (by omega),by simp [K.Fq];omega,by rw [AX h0]⟩
theorem QHK {m:DF} (h:uy m) (fi i:Int):Mc (m,fi,i)=some (tyS m fi i):=by
 by_cases hc:Yi m=0
 rotate_left
 ·show Di (m,fi,i)=_
  unfold Di tyS
  rw [AY hc]
  dsimp only
  rw [Ig m h,AA,CX,AF hc,A9,AL]
 have V:=mo (ZM hc).1
 unfold tyS
 rw [AX (by simp [hc])]
 rcases Ox m.2.2.1 fi with ⟨k,f,rfl,hf,hfi,hg,hi,e⟩ | ⟨_,hi,e⟩
 rotate_left
 ·rw [e]
  show Di (m,fi,i)=_
  unfold Di
  dsimp only
  rw [Ig m h,AA,CX,AB hc,A8,AJ,FL,AA,hi,A9,AL]
 rw [e]
 dsimp only
 have v:=V.ok f (BF hf)
 rcases Ox f.2.2.2.2.1 i with ⟨j,x,rfl,hx,hxi,hgx,hj,e'⟩ | ⟨_,hj,e'⟩
 rotate_left
 ·rw [e']
  show Di (m,(k:Int),i)=_
  unfold Di
  dsimp only
  rw [Ig m h,AA,CX,AB hc,A8,AJ,FL,AA,hi,A8,AJ,hg,AA,FL,AA,hj,A9,AL]
 rw [e']
 dsimp only
 have ho:=v.ok x (BF hx)
 by_cases hr:OC m f x=true
 ·by_cases ht:ZV m f x=true
  ·rw [AX (by simp [hr]),AX (by simp [ht])]
   exact QJf h hc hf hx hr ht
  ·simp only [Bool.not_eq_true] at ht
   rw [AX (by simp [hr]),AY ht]
   show Di (m,(k:Int),(j:Int))=_
   unfold Di
   dsimp only
   rw [Ig m h,AA,CX,AB hc,A8,AJ,FL,AA,hi,A8,AJ,hg,AA,FL,AA,hj,A8,AJ,AA]
   rw [hgx,AA,Tw m f ho,AA,hr,A8,AJ,iE V v ho hr,AA,ht,A9,AL]
 ·simp only [Bool.not_eq_true] at hr
  rw [AY hr]
  show Di (m,(k:Int),(j:Int))=_
  unfold Di
  dsimp only
  rw [Ig m h,AA,CX,AB hc,A8,AJ,FL,AA,hi,A8,AJ,hg,AA,FL,AA,hj,A8,AJ,AA]
  rw [hgx,AA,Tw m f ho,AA,hr,A9,AL]
theorem QE7 {m:DF} (h:uy m) (fi:Int):H9 (m,fi)=some (tbS m fi):=by
 by_cases hc:Yi m=0
 rotate_left
 ·rw [QDD h hc];unfold tbS;rw [AY hc]
 unfold tbS
 rw [AX (by simp [hc])]
 rcases Ox m.2.2.1 fi with ⟨k,f,rfl,hf,hfi,hg,hi,e⟩ | ⟨_,hi,e⟩
 ·rw [e];exact QGU h hc hf
 ·rw [e]
  show Ia (m,fi)=_
  unfold Ia
  dsimp only
  rw [Ig m h,AA,CX,AB hc,A8,AJ,FL,AA,hi,A9,AL]
  rfl
theorem QEH {m:DF} (ha:Qp m) (hb:QD9 m) (fi:Int):Rb (m,fi)=some (tbS m fi):=by
 show Wm (m,fi)=_
 unfold Wm tbS
 dsimp only
 rw [QAH m ha,AA,CX]
 by_cases hc:Yi m=0
 rotate_left
 ·rw [AF hc,A9,AL,AY hc];rfl
 have V:=mo (ZM hc).1
 rw [AB hc,A8,AJ,AX (by simp [hc])]
 rcases Ox m.2.2.1 fi with ⟨k,f,rfl,hf,hfi,hg,hi,e⟩ | ⟨hn,hi,e⟩
 ·rw [e,AF (by omega),AJ,AF (by omega),AJ,lZ ha V hf,AA,CX]
  dsimp only
  by_cases hz:(flt m k f).2=0
  ·rw [AB hz,A8,AJ,vV ha hb V hf hz,AA,AY hz]
  ·rw [AF hz,A9,AL,AX hz];rfl
 ·rw [e]
  by_cases h0:fi < 0
  ·rw [AB h0,AL];rfl
  ·rw [AF h0,AJ,AB (by omega),AL];rfl
theorem QHW {m:DF} (ha:Qp m) (fi i:Int):X3 (m,fi,i)=some (tyS m fi i):=by
 show Qd (BP (Gc big) big) (m,fi,i)=_
 unfold Qd tyS
 dsimp only
 rw [QAH m ha,AA,CX]
 by_cases hc:Yi m=0
 rotate_left
 ·rw [AF hc,A9,AL,AY hc]
 have V:=mo (ZM hc).1
 rw [AB hc,A8,AJ,AX (by simp [hc])]
 rcases Ox m.2.2.1 fi with ⟨k,f,rfl,hf,hfi,hg,hi,e⟩ | ⟨hn,hi,e⟩
 rotate_left
 ·rw [e]
  by_cases h0:fi < 0
  ·rw [AB h0,AL]
  ·rw [AF h0,AJ,AB (by omega),AL]
 have v:=V.ok f (BF hf)
 have h8:F.WfC f.2.2.2.2.1:=(ha.fn f (BF hf)).1
 rw [e,AF (by omega),AJ,AF (by omega),AJ]
 dsimp only
 rcases Ox f.2.2.2.2.1 i with ⟨j,x,rfl,hx,hxi,hgx,hj,e'⟩ | ⟨hn,hj,e'⟩
 rotate_left
 ·rw [e']
  by_cases h0:i < 0
  ·rw [AB h0,AL]
  ·rw [AF h0,AJ,hg,AA,AB (by omega),AL]
 have hxm:=BF hx
 have ho:=v.ok x hxm
 rw [e',AF (by omega),AJ,hg,AA,AF (by omega),AJ,AA,hgx,AA,QCN V hf ho (h8 x hxm),AA]
 dsimp only
 by_cases hr:OC m f x=true
 rotate_left
 ·simp only [Bool.not_eq_true] at hr
  rw [hr,A9,AL,AY rfl]
 rw [AX (by simp [hr]),hr,A8,AJ,xX V hf ho hr,AA]
 by_cases ht:ZV m f x=true
 rotate_left
 ·simp only [Bool.not_eq_true] at ht
  rw [ht,A9,AL,AY rfl]
 rw [AX (by simp [ht]),ht,A8,AJ,F.Xg ho (h8 x hxm).1 (h8 x hxm).2,AA]
 obtain ⟨_,_,l1,l2⟩:=F.VK ho
 obtain ⟨i1,i2⟩:=QG5 ho hr
 have Ca:∀ (BM) (R:List Int),BP (JH big BM) big ((k:Int),F.wS x,0,m,R,([]:List Int))=some (R,(F.wS x).map (Gm f),0):=λBM R=>by
  generalize F.wS x=w at l2 i2
  have:=E8 (g:=JH big BM) (mk:=λi z=>((k:Int),w,(i:Int),m,R,z)) (l:=w) (u7:=λs=>[Gm f s]) (kk:=λz=>some (R,z,(0:Int))) (B:=100)
   (λself i z hi hx=>by
    have hin:=i2 _ (Ae hi)
    simp only [JH,Un,Dq hi,AL,gI hi,AA,jI hf,Fv hin,wS hi (by omega),DW (show z.length+List.length [Gm f w[i]]<=Xa by simp [Xa] at hx ⊢;omega)]
    rfl)
   (λself z _=>by simp only [JH,Un,Dk,AJ]) w.length 0 big [] (by omega) (Df (by omega)) (by have:=Lc (f:=λs:Int=>[Gm f s]) (k:=1) (l:=w) (by simp);simp only [List.drop_zero,Av];omega)
  rw [show ((0:Nat):Int)=0 from rfl] at this
  rw [this]
  simp only [List.drop_zero,List.nil_append]
  rw [List.map_eq_flatMap]
 generalize F.rS x=r at l1 i1
 have:=E8 (g:=Gc big) (mk:=λi z=>((k:Int),F.wS x,(i:Int),m,z,([]:List Int),r)) (l:=r) (u7:=λs=>[Gm f s]) (kk:=λz=>some (z,(F.wS x).map (Gm f),(0:Int))) (B:=100)
  (λself i z hi hx=>by
   have hin:=i1 _ (Ae hi)
   simp only [Gc,P7,F.RA hi,AL,F.Jb (AU hi),AA,jI hf,Fv hin,DW (show z.length+List.length [Gm f r[i]]<=Xa by simp [Xa] at hx ⊢;omega)]
   rw [Dq hi,AL,wS hi (by omega)]
   rfl)
  (λself z _=>by
   simp only [Gc,P7,Dk,AJ]
   exact Ca self z) r.length 0 big [] (by omega) (Df (by omega)) (by have:=Lc (f:=λs:Int=>[Gm f s]) (k:=1) (l:=r) (by simp);simp only [List.drop_zero,Av];omega)
 rw [show ((0:Nat):Int)=0 from rfl] at this
 refine this.trans ?_
 simp only [List.drop_zero,List.nil_append,List.map_eq_flatMap]
theorem QP9 (m:DF) (h:Yi m=0->Vm m) (fi i:Int):(tyS m fi i).1.length<=1000/\(tyS m fi i).2.1.length<=1000:=by
 unfold tyS
 split
 ·exact ⟨by simp,by simp⟩
 rename_i hc
 have V:=h (by simpa using hc)
 rcases Ox m.2.2.1 fi with ⟨k,f,rfl,hf,hfi,hg,hi,e⟩ | ⟨hn,hi,e⟩
 rotate_left
 ·rw [e];exact ⟨by simp,by simp⟩
 rw [e]
 dsimp only
 rcases Ox f.2.2.2.2.1 i with ⟨j,x,rfl,hx,hxi,hgx,hj,e'⟩ | ⟨hn,hj,e'⟩
 rotate_left
 ·rw [e'];exact ⟨by simp,by simp⟩
 rw [e']
 dsimp only
 obtain ⟨_,_,l1,l2⟩:=F.VK ((V.ok f (BF hf)).ok x (BF hx))
 split
 ·exact ⟨by simp,by simp⟩
 split
 ·exact ⟨by simp,by simp⟩
 ·simp only [Ay];exact ⟨by omega,by omega⟩
theorem QP3 (m:DF) (h:Yi m=0->Vm m) (fi:Int):QIp (tbS m fi).1:=by
 have hz:QIp Yu:=⟨by simp [Yu],by simp [Yu],by simp [Yu],by simp [Yu]⟩
 unfold tbS
 split
 ·exact hz
 rename_i hc
 have V:=h (by simpa using hc)
 rcases Ox m.2.2.1 fi with ⟨k,f,rfl,hf,hfi,hg,hi,e⟩ | ⟨hn,hi,e⟩
 rotate_left
 ·rw [e];exact hz
 rw [e]
 dsimp only
 split
 ·rename_i h0
  exact (lQ V (V.ok f (BF hf)) h0).1
 ·exact hz
theorem QAa (y:DF×Int×Int) (w:WfL [QJO,.int .i64,.int .i64] y):Va y=some true:=by
 obtain ⟨m,fi,i⟩:=y
 show Hz (BP (Dn big) big) (m,fi,i)=_
 unfold Hz
 dsimp only
 obtain ⟨b,h1,h2⟩:=QEE m
 rw [h1,AA]
 cases b with
 | true=>rfl
 | false=>
  obtain ⟨ha,hb⟩:Qp m/\QD9 m:=QUF w.1 (h2 rfl)
  have hV:Yi m=0->Vm m:=λhc=>mo (ZM hc).1
  have hB:=hb.fn.1
  have hg:=(h2 rfl).ty.1
  rw [AJ,K.QCO _ (show m.1.length<=1000 by omega) ha.ty.2,AA,TI 1 rfl _ hb.tx,AL]
  refine Bg (g:=Dn big) (n:=m.2.2.1.length) (λ(s:List DX) (q:Nat)=>((q:Int),m,(),([]:List K.ES),([]:List (List Int)),([]:List DX),m.1,m.2.1,s,m,fi,i))
   (λq s=>s=m.2.2.1.take q) (λr=>r=some true) ?_ ?_ m.2.2.1.length 0 big (by omega) (Df (by omega)) [] rfl
  ·rintro self s rfl
   rw [BD (by omega)]
   have hck:Tf m=some (if Yi m=0 then (rH m m.2.2.1.length 0).2.2 else Yi m):=by
    show (PN m).bind _=_
    rw [xV ha hb,AA]
    split <;> rfl
   have e1:Ma (m.1,(m.2.1,(m.2.2.1,())))=some (if Yi m=0 then rH m m.2.2.1.length 0 else (0,0,Yi m)):=QAu ha.l
   have e2:Mc ((m.1,(m.2.1,(m.2.2.1,()))),fi,i)=some (tyS m fi i):=QHK ha.l fi i
   have e3:H9 ((m.1,(m.2.1,(m.2.2.1,()))),fi)=some (tbS m fi):=QE7 ha.l fi
   have e4:Oy (m.1,(m.2.1,(m.2.2.1,())))=some (if Yi m=0 then (rH m m.2.2.1.length 0).2.2 else Yi m):=QGH ha.l
   have e5:Vj ((m.1,(m.2.1,(m.2.2.1,()))),m)=some true:=by
    have:=QOw m m hb
    rw [AB rfl] at this
    exact this
   obtain ⟨l1,l2⟩:=QP9 m hV fi i
   simp only [Dn,NK,Dk,AJ,e1,e2,e3,e4,xV ha hb,QHW ha,QEH ha hb,hck,AA,beq_self_eq_true,AL,K.UA _ _ l1,K.UA _ _ l2,decide_true,uP _ _ (QP3 m hV fi),e5]
  ·rintro self s q hq rfl
   left
   have hr:=hb.fn.2 _ (Ae hq)
   refine ⟨m.2.2.1.take (q+1),rfl,?_⟩
   simp only [Dn,NK,Dq hq,AL,gI hq,AA,wS hq (by omega)]
   rw [TI 2 rfl _ hr.sl,AL,TI 4 rfl _ hr.code,AL,TI 2 rfl _ hr.s1,AL,TI 2 rfl _ hr.s2,AL,QEN 7 rfl _ _ (by rw [BK];omega),AL]
   rw [Ah hq]
   rfl
end Go.Proofs.YtjcnhegjiffgpaaGreatDoor.C
