import Derived.Test.YtbgmjjplddddnaaGreatDoorCgF4
set_option linter.unusedVariables false
set_option linter.unusedSimpArgs false
set_option linter.unusedSectionVars false
set_option maxRecDepth 100000
namespace Go.Proofs.YtbgmjjplddddnaaGreatDoor.C
open Go.Lift
structure Tc (n:Nat) (f:dM):Prop where
 sl:f.2.2.2.1.length<=16
 ty:∀ s∈f.2.2.2.1,0<=s.2.1/\s.2.1 < n
 par:0<=f.2.1/\f.2.1<=f.2.2.2.1.length
 res:f.2.2.1 = -1∨0<=f.2.2.1/\f.2.2.1 < n
 cd:1<=f.2.2.2.2.1.length/\f.2.2.2.2.1.length<=200
 ok:∀ x∈f.2.2.2.2.1,uz x=true
structure Tg (m:cB):Prop where
 ty:m.1.length<=32
 tx:m.2.1.length<=32
 fn:1<=m.2.2.1.length/\m.2.2.1.length<=32
 ok:∀ f∈m.2.2.1,Tc m.1.length f
 sz:K.Valid m.1/\∀ i:Nat,i < m.1.length->K.sz (K.exS m.1) i<=256
theorem QLZ {x n:Int} (h:K.iP x n=true):0<=x/\x < n:=by simpa [K.iP] using h
theorem QJ8 {m:cB} (h:zR m=true):Tg m:=by
 simp only [zR,uw,zC,QAJ,AP,AZ] at h
 obtain ⟨⟨hv,hsz⟩,⟨htx,_⟩,h1,h2,hf,_⟩:=h
 refine ⟨hv.1,htx,⟨h1,h2⟩,fun f hf'=>?_,hv,fun i hi=>?_⟩
 ·have:=List.all_eq_true.1 hf f hf'
  simp only [okF,QA3,QAz,AP,Bool.or_eq_true,AZ] at this
  obtain ⟨⟨s1,s2,_⟩,p1,p2,r,⟨c1,c2,c3⟩,_⟩:=this
  exact ⟨s1,fun s hs=>QLZ (List.all_eq_true.1 s2 s hs),⟨p1,p2⟩,r.imp id QLZ,⟨c1,c2⟩,fun x hx=>List.all_eq_true.1 c3 x hx⟩
 ·have:=List.all_eq_true.1 hsz i (by simp [List.mem_range'_1];exact hi)
  simpa using this
theorem mg {α:Type} {l:List α} {i:Int} (h0:0<=i) (h1:i < l.length):∃ x,Nk l i=some x/\l[i.toNat]? = some x/\x∈l:=by
 obtain ⟨k,rfl⟩:=BK h0
 have hk:k < l.length:=by omega
 exact ⟨l[k],gI hk,by simp [hk],Ae hk⟩
def rG (f:dM) (s:Int):Int:=((f.2.2.2.1[s.toNat]?).map fun z=>z.2.1).getD 0
def y5 (l:List K.cK) (t:Int):Int:=((l[t.toNat]?).map fun z=>z.1).getD 0
def lQ (f:dM) (s:Int):Prop:=0<=s/\s < f.2.2.2.1.length
theorem jS (m:cB) {f:dM} {s:Int} (h:lQ f s):aO ((m,f,()),s)=some (rG f s):=by
 obtain ⟨x,h1,h2,_⟩:=mg h.1 h.2
 show nX _=_
 unfold nX
 dsimp only
 rw [h1,AA,rG,h2]
 rfl
theorem QH9 {n:Nat} {f:dM} (v:Tc n f) {s:Int} (h:lQ f s):0<=rG f s/\rG f s < n:=by
 obtain ⟨x,h1,h2,h3⟩:=mg h.1 h.2
 rw [rG,h2]
 exact v.ty x h3
theorem QDH {l:List K.cK} {t:Int} (h:0<=t/\t < l.length):∃ x,Nk l t=some x/\l[t.toNat]? = some x/\x∈l/\y5 l t=x.1:=by
 obtain ⟨x,h1,h2,h3⟩:=mg h.1 h.2
 exact ⟨x,h1,h2,h3,by rw [y5,h2];rfl⟩
theorem yG {m:cB} {f:dM} (v:Tc m.1.length f) {s:Int} (h:lQ f s):bB ((m,f,()),s)=some (y5 m.1 (rG f s)):=by
 obtain ⟨x,h1,_,_,h2⟩:=QDH (QH9 v h)
 show nV _=_
 unfold nV
 dsimp only
 rw [jS m h,AA,h1,AA,h2]
theorem QHN {m:cB} {f:dM} (v:Tc m.1.length f) (k:Int) (l:List Int) (hl:l.length<=1000) (h:∀ s∈l,lQ f s):aL ((m,f,()),k,l)=some (l.all fun s=>decide (y5 m.1 (rG f s)=k)):=by
 show nH (Gb (dX big) big) _=_
 unfold nH
 have:=aU (g:=dX big) (mk:=fun i=>(l,(l.length:Int),(i:Int),(m,f,()),k)) (p:=fun i=>(l[i]?).all fun s=>decide (y5 m.1 (rG f s)=k)) (no:=some false) (kk:=some true) (n:=l.length)
  (fun self i hi=>by
   simp only [dX,oh,dh hi,AL,gI hi,AA,yG v (h _ (Ae hi)),wS hi (by omega),pat hi]
   by_cases e:y5 m.1 (rG f l[i])=k
   ·simp [e]
   ·have e2:(y5 m.1 (rG f l[i]) != k)=true:=by simp [e]
    have e3:decide ((i:Int)≥0)=true:=AB (by omega)
    simp only [e2,e,decide_false,AL,AJ,e3]
    rfl)
  (fun self=>by simp only [dX,oh,dZ,AJ];rfl) l.length 0 big (by omega) (dS (by omega))
 rw [QB8,show ((0:Nat):Int)=0 from rfl] at this
 dsimp only
 rw [this]
 cases l.all _ <;> rfl
theorem QB7 (k:Int) (l:List Int) (hl:l.length<=1000):jW (k,l)=some (decide (k∈l)):=by
 show (bS (l,k)).bind _=_
 rw [K.QCF l k hl]
 rfl
def QHv (k:Int):Bool:=decide (k∈([2,1,4]:List Int))
theorem QDk (k:Int):lT k=some (QHv k):=by
 show vS k=_
 unfold vS
 dsimp only
 rw [QB7 _ _ (by simp)]
 rfl
def QFh (l:List K.cK) (f:dM) (s o c:Int):Bool:=((l[(rG f o).toNat]?).bind fun t=>(t.2.2.2.1[c.toNat]?).map fun g=>decide (g.2.1=rG f s)).getD false
theorem QDi {m:cB} {f:dM} (v:Tc m.1.length f) {s o c:Int} (hs:lQ f s) (ho:lQ f o) (hc:0<=c):d9 ((m,f,()),s,o,c)=some (QFh m.1 f s o c):=by
 obtain ⟨x,h1,h2,_,_⟩:=QDH (QH9 v ho)
 show mO _=_
 unfold mO QFh
 dsimp only
 rw [jS m ho,AA,h1,AA,h2,AA]
 by_cases hlt:c < x.2.2.2.1.length
 ·obtain ⟨g,g1,g2,_⟩:=mg hc hlt
  rw [AB hlt,AL,g1,AA,jS m hs,AA,g2]
  rfl
 ·rw [AF hlt,AJ,Av (by omega)]
  rfl
def QEY (l:List K.cK) (f:dM) (s o:Int) (ks:List Int):Bool:=decide (y5 l (rG f o)∈ks)&&decide ((((l[(rG f o).toNat]?).map fun t=>t.2.1).getD 0)=rG f s)
theorem QAH {m:cB} {f:dM} (v:Tc m.1.length f) {s o:Int} {ks:List Int} (hs:lQ f s) (ho:lQ f o) (hk:ks.length<=1000):bK ((m,f,()),s,o,ks)=some (QEY m.1 f s o ks):=by
 obtain ⟨x,h1,h2,_,_⟩:=QDH (QH9 v ho)
 show nU _=_
 unfold nU QEY
 dsimp only
 rw [yG v ho,AA,QB7 _ _ hk,AA]
 by_cases hm:y5 m.1 (rG f o)∈ks
 ·rw [AB hm,AL,jS m ho,AA,h1,AA,jS m hs,AA,h2,Ai]
  rfl
 ·rw [AF hm,AJ,Bool.false_and]
def QNr (f:dM) (s r:Int):Bool:=decide (s = -1)||decide (rG f s=r)
theorem QA4 (m:cB) {f:dM} {s:Int} (g:dM) (hs:s≠-1->lQ f s):bR ((m,f,()),s,g)=some (QNr f s g.2.2.1):=by
 show iM _=_
 unfold iM QNr
 dsimp only
 by_cases h:s = -1
 ·simp [h]
 ·have e:(s==(-1:Int))=false:=by simp [h]
  rw [e,AJ,jS m (hs h),AA,AF h,Bool.false_or]
  rfl
def QLg (l:List K.cK) (g:dM):Bool:=decide (g.2.2.1 = -1)&&(decide (g.2.1=0)||decide (g.2.1=1)&&QHv (y5 l (rG g 0)))
theorem QAy {m:cB} (f:dM) {g:dM} (v:Tc m.1.length g):cZ ((m,f,()),g)=some (QLg m.1 g):=by
 show jg _=_
 unfold jg QLg
 dsimp only
 by_cases h:g.2.2.1 = -1
 rotate_left
 ·have e:(g.2.2.1 != (-1:Int))=true:=by simp [h]
  rw [e,AL,AF h,Bool.false_and]
 have e:(g.2.2.1 != (-1:Int))=false:=by simp [h]
 rw [e,AJ,AB h,Ai]
 by_cases h1:g.2.1 > 1
 ·rw [AB h1,AL,AF (by omega),AF (by omega)]
  rfl
 rw [AF h1,AJ]
 by_cases h2:g.2.1=0
 ·have e:(g.2.1==(0:Int))=true:=by simp [h2]
  rw [e,AL,AB h2,Bool.true_or]
 have h3:g.2.1=1:=by have:=v.par.1;omega
 have e:(g.2.1==(0:Int))=false:=by simp [h2]
 have h0:lQ g 0:=⟨Int.le_refl _,by have:=v.par.2;omega⟩
 obtain ⟨z,z1,z2,z3⟩:=mg h0.1 h0.2
 have hz:rG g 0=z.2.1:=by rw [rG,z2];rfl
 obtain ⟨x,x1,_,_,x2⟩:=QDH (QH9 v h0)
 rw [hz] at x1 x2
 rw [e,AJ,z1,AA,x1,AA,QDk,AA,AF h2,AB h3,Bool.false_or,Ai,hz,x2]
def yA (x:Ins):Option Int:=if x.1=25 then some x.2.2.1 else if x.1=26∨x.1=27 then some x.2.1 else none
theorem QET (x:Ins):nY x=some ((yA x).getD 0,(yA x).isSome):=by
 show xO x=_
 unfold xO yA
 by_cases a:x.1=25
 ·simp [a]
 by_cases b:x.1=26
 ·simp [b]
 by_cases c:x.1=27
 ·simp [c]
 simp [a,b,c,dz]
theorem role {x:Ins} (h:uz x=true) {k:Nat} (e:x.1=(k:Int)) {a b c:Int} (hr:mP (k:Int)=[a,b,c]):fit a x.2.1=true/\fit b x.2.2.1=true/\fit c x.2.2.2.1=true/\F.rS x=rs1 a x.2.1++(rs1 b x.2.2.1++(rs1 c x.2.2.2.1++[]))/\F.wS x=ws1 a x.2.1++(ws1 b x.2.2.1++(ws1 c x.2.2.2.1++[])):=by
 obtain ⟨a',b',c',ho,er,ha,hb,hc,fa,fb,fc⟩:=nK h
 rw [e,hr] at er
 simp only [List.cons.injEq,and_true] at er
 obtain ⟨rfl,rfl,rfl⟩:=er
 refine ⟨fa,fb,fc,?_,?_⟩
 ·show rsL (mP x.1) (vals x)=_
  rw [e,hr];rfl
 ·show wsL (mP x.1) (vals x)=_
  rw [e,hr];rfl
theorem QCj {x:Ins} (h:uz x=true) {g:Int} (hg:yA x=some g):0<=g:=by
 unfold yA at hg
 split at hg
 ·rename_i e
  cases hg
  obtain ⟨_,fb,_⟩:=role h (k:=25) e (show mP ((25:Nat):Int)=[4,9,0] by decide +kernel)
  simp [fit,idx] at fb;omega
 ·split at hg
  ·rename_i e
   cases hg
   rcases e with e | e
   ·obtain ⟨fa,_⟩:=role h (k:=26) e (show mP ((26:Nat):Int)=[9,0,0] by decide +kernel)
    simp [fit,idx] at fa;omega
   ·obtain ⟨fa,_⟩:=role h (k:=27) e (show mP ((27:Nat):Int)=[9,0,0] by decide +kernel)
    simp [fit,idx] at fa;omega
  ·cases hg
theorem QJB (l:List (List Int)) (hl:l.length<=1000) (h:l.flatten.length<=1000000):cu l=some l.flatten:=by
 have k1:∀ M aG,Gb (ay (fun _=>List.replicate) M aG) big (l,(l.length:Int),((0:Nat):Int),([]:List Int))=some l.flatten:=by
  intro M aG
  have:=iE (g:=ay (fun _=>List.replicate) M aG) (mk:=fun i x=>(l,(l.length:Int),(i:Int),x)) (l:=l) (cod:=fun x=>x) (kk:=fun x=>some x) (B:=1000000)
   (fun self i x hi hx=>by
    simp only [ay,iL,dh hi,AL,gI hi,AA,wS hi (by omega),dN (show x.length+l[i].length<=L36 by simp only [L36];omega)]
    rfl)
   (fun self x _=>by simp only [ay,iL,dZ,AJ]) l.length 0 big [] (by omega) (dS (by omega)) (by simpa using h)
  simpa using this
 have k0:∀ M self (n:Nat),n<=1000000->M=big->av (fun _=>List.replicate) M self (l,(n:Int),l,(l.length:Int),(l.length:Int))=if n=l.flatten.length then some l.flatten else av (fun _=>List.replicate) M self (l,(n:Int),l,(l.length:Int),(l.length:Int)):=by
  intro M self n hn hM
  split
  ·rename_i e
   subst hM
   show bA _ _ _ _=_
   unfold bA
   dsimp only
   rw [dZ,AJ,AF (show ¬ (n:Int) < 0 by omega),AJ]
   have z:IntKind.i64.wrap ((0:Int) - (List.length ([]:List Int):Int))=0:=by decide
   have s:IntKind.i64.wrap ((n:Int) - 0)=(n:Int):=by rw [T.t64 (by omega) (by omega)];omega
   rw [z,s]
   by_cases h0:n=0
   ·rw [AF (show ¬ (n:Int) > 0 by omega),AJ]
    exact k1 _ _
   ·have e2:(decide (1<=(n:Int))&&decide ((n:Int)<=(lim:Int)))=true:=by
     rw [AB (show (1:Int)<=(n:Int) by omega),AB (show (n:Int)<=(lim:Int) by show _<=((68719476736:Nat):Int);omega)];rfl
    have e3:(Nat.ble 1 1&&Nat.ble (List.length ([]:List Int)+List.length (List.replicate (Int.toNat (n:Int)) (0:Int))) lim)=true:=dN (by rw [List.length_replicate,Aj];show 0+_<=68719476736;omega)
    have e4:(decide (0<=(List.length ([]:List Int):Int))&&decide ((List.length ([]:List Int):Int)<=(List.length (List.append ([]:List Int) (List.replicate (Int.toNat (n:Int)) (0:Int))):Int)))=true:=by simp
    rw [AB (show (n:Int) > 0 by omega),AL,AB (show (0:Int)=0 from rfl),AL,e2,AL,e3,AL,e4,AL]
    exact k1 _ _
  ·rfl
 have k2:∀ (k i N n:Nat),i+k=l.length->k < N->n+(l.drop i).flatten.length=l.flatten.length->Gb (av (fun _=>List.replicate) big) N (l,(n:Int),l,(l.length:Int),(i:Int))=some l.flatten:=by
  intro k
  induction k with
  | zero=>
   intro i N n hi hN hn
   obtain ⟨N,rfl⟩:∃ M,N=M+1:=⟨N - 1,by omega⟩
   obtain rfl:i=l.length:=by omega
   rw [WZ,k0 _ _ _ (by omega) rfl,AY (by simpa using hn)]
  | succ k ih=>
   intro i N n hi hN hn
   obtain ⟨N,rfl⟩:∃ M,N=M+1:=⟨N - 1,by omega⟩
   have hi':i < l.length:=by omega
   rw [A9 hi',List.flatten_cons,AQ] at hn
   have a1:IntKind.i64.wrap ((n:Int)+(List.length l[i]:Int))=((n+l[i].length:Nat):Int):=by rw [T.t64 (by omega) (by omega)];omega
   rw [WZ]
   show bA _ _ _ _=_
   unfold bA
   dsimp only
   rw [dh hi',AL,gI hi',AA,a1,AF (show ¬ ((n+l[i].length:Nat):Int) < 0 by omega),AJ,wS hi' (by omega)]
   exact ih (i+1) N _ (by omega) (by omega) (by omega)
 show fO (fun _=>List.replicate) (Gb (av (fun _=>List.replicate) big) big) l=_
 unfold fO
 exact k2 l.length 0 big 0 (by omega) (dS (by omega)) (by simp)
theorem QI4 (a b:List Int) (h:a.length+b.length<=1000000):cu [a,b]=some (a++b):=by
 rw [QJB _ (by simp) (by simpa using h)]
 simp
theorem QH0 {x:Ins} (h:uz x=true):qy x=some (F.rS x,F.wS x,0):=by rw [QGD,AY h];rfl
def xY (m:cB) (f:dM) (x:Ins):Bool:=(F.rS x++F.wS x).all (fun s=>decide (s < f.2.2.2.1.length))&&match yA x with
 | some g=>decide (g < m.2.2.1.length)
 | none=>!decide (x.1=2)||decide (x.2.2.1 < m.2.1.length)
theorem QFl (m:cB) (f:dM) {x:Ins} (h:uz x=true):jY ((m,f,()),x)=some (xY m f x):=by
 obtain ⟨s1,s2,s3,s4⟩:=F.QG3 h
 show fM (Gb (au big) big) _=_
 unfold fM
 dsimp only
 rw [QH0 h,AA]
 dsimp only
 rw [QI4 _ _ (by omega),AA]
 have hlen:(F.rS x++F.wS x).length<=6:=by simp;omega
 generalize hl:F.rS x++F.wS x=l at hlen
 have:=aU (g:=au big) (mk:=fun i=>((l.length:Int),(i:Int),(m,f,()),x,l)) (p:=fun i=>(l[i]?).all fun (s:Int)=>decide (s < (f.2.2.2.1.length:Int))) (no:=some false)
  (kk:=some (match yA x with | some g=>decide (g < (m.2.2.1.length:Int)) | none=>!decide (x.1=2)||decide (x.2.2.1 < (m.2.1.length:Int)))) (n:=l.length)
  (fun self i hi=>by
   simp only [au,iJ,dh hi,AL,F.oF hi,F.QC9 (AU hi),AA,wS hi (by omega),pat hi]
   by_cases e:l[i] < (f.2.2.2.1.length:Int)
   ·rw [AB e,AF (show ¬ l[i]≥(f.2.2.2.1.length:Int) by omega)];rfl
   ·rw [AF e,AB (show l[i]≥(f.2.2.2.1.length:Int) by omega)];rfl)
  (fun self=>by
   simp only [au,iJ,dZ,AJ,QET,AA]
   cases hc:yA x with
   | some g=>simp
   | none=>
    by_cases e:x.1=2
    ·simp [e]
    ·simp [e,bne,dz]) l.length 0 big (by omega) (dS (by omega))
 rw [QB8,show ((0:Nat):Int)=0 from rfl] at this
 rw [this,xY,hl]
 cases hc:yA x <;> cases l.all _ <;> rfl
def iI (m:cB) (f:dM) (x:Ins):Bool:=
 if x.1=1∨x.1=32 then decide (y5 m.1 (rG f x.2.1)=2)
 else if x.1=2 then decide (y5 m.1 (rG f x.2.1)=3)
 else if x.1=3∨x.1=23 then decide (y5 m.1 (rG f x.2.1)=1)
 else if x.1=5 then decide (rG f x.2.1=rG f x.2.2.1)
 else if x.1=6∨x.1=7∨x.1=8∨x.1=9 then decide (y5 m.1 (rG f x.2.1)=2)&&(decide (y5 m.1 (rG f x.2.2.1)=2)&&decide (y5 m.1 (rG f x.2.2.2.1)=2))
 else if x.1=10 then decide (y5 m.1 (rG f x.2.1)=1)&&(decide (y5 m.1 (rG f x.2.2.1)=2)&&decide (y5 m.1 (rG f x.2.2.2.1)=2))
 else if x.1=11 then decide (y5 m.1 (rG f x.2.1)=1)&&(decide (rG f x.2.2.1=rG f x.2.2.2.1)&&QHv (y5 m.1 (rG f x.2.2.1)))
 else if x.1=12 then decide (y5 m.1 (rG f x.2.1)=1)&&decide (y5 m.1 (rG f x.2.2.1)=1)
 else if x.1=13 then QFh m.1 f x.2.1 x.2.2.1 x.2.2.2.1
 else if x.1=14 then QFh m.1 f x.2.2.2.1 x.2.1 x.2.2.1
 else if x.1=15 then decide (y5 m.1 (rG f x.2.1)=4)
 else if x.1=16 then QEY m.1 f x.2.1 x.2.2.1 [4]
 else if x.1=17 then QEY m.1 f x.2.2.1 x.2.1 [4]
 else if x.1=18 then decide (y5 m.1 (rG f x.2.1)=7)&&decide (y5 m.1 (rG f x.2.2.1)=2)
 else if x.1=19 then QEY m.1 f x.2.1 x.2.2.1 [7,6]&&decide (y5 m.1 (rG f x.2.2.2.1)=2)
 else if x.1=20 then QEY m.1 f x.2.2.2.1 x.2.1 [7,6]&&decide (y5 m.1 (rG f x.2.2.1)=2)
 else if x.1=21 then decide (y5 m.1 (rG f x.2.1)=2)&&decide (y5 m.1 (rG f x.2.2.1)∈([3,7,6]:List Int))
 else if x.1=25 then ((m.2.2.1[x.2.2.1.toNat]?).map fun g=>QNr f x.2.1 g.2.2.1).getD false
 else if x.1=26∨x.1=27 then ((m.2.2.1[x.2.1.toNat]?).map fun g=>QLg m.1 g).getD false
 else if x.1=28 then decide (y5 m.1 (rG f x.2.1)∈([2,1,3]:List Int))
 else if x.1=29∨x.1=33 then decide (y5 m.1 (rG f x.2.1)=1)&&decide (y5 m.1 (rG f x.2.2.1)=2)
 else if x.1=34 then QNr f x.2.1 f.2.2.1
 else true
theorem QLs {m:cB} {f:dM} {x:Ins} (h:xY m f x=true) {s:Int} (hs:s∈F.rS x++F.wS x):s < f.2.2.2.1.length:=by
 simp only [xY,AP] at h
 simpa using List.all_eq_true.1 h.1 s hs
theorem QDF {m:cB} {f:dM} {x:Ins} (h:xY m f x=true) {g:Int} (hg:yA x=some g):g < m.2.2.1.length:=by
 simp only [xY,AP,hg] at h
 simpa using h.2
theorem QLn {m:cB} {f:dM} {x:Ins} (hr:xY m f x=true) {r n:Int} (hf:fit r n=true) (hn:r=1∨r=2∨(r=3∨r=4)/\n≠-1) (hm:∀ v,v∈rs1 r n∨v∈ws1 r n->v∈F.rS x++F.wS x):lQ f n:=by
 have h1:n≠-1:=by
  rcases hn with rfl | rfl | h
  ·simp [fit,idx] at hf;omega
  ·simp [fit,idx] at hf;omega
  ·exact h.2
 have hr':r=1∨r=3∨r=2∨r=4:=by rcases hn with h | h | ⟨h | h,_⟩ <;> simp [h]
 refine ⟨(ou hf hr' h1).1,QLs hr (hm n ?_)⟩
 rcases hn with rfl | rfl | ⟨rfl | rfl,_⟩ <;> simp [rs1,ws1,h1]
theorem bD {m:cB} {f:dM} {x:Ins} (h:uz x=true) (hr:xY m f x=true) {k:Nat} (e:x.1=(k:Int)) {a b c:Int} (hk:mP (k:Int)=[a,b,c]) :
  ((a=1∨a=2∨(a=3∨a=4)/\x.2.1≠-1)->lQ f x.2.1)/\((b=1∨b=2∨(b=3∨b=4)/\x.2.2.1≠-1)->lQ f x.2.2.1)/\((c=1∨c=2∨(c=3∨c=4)/\x.2.2.2.1≠-1)->lQ f x.2.2.2.1):=by
 obtain ⟨fa,fb,fc,er,ew⟩:=role h e hk
 refine ⟨fun g=>QLn hr fa g fun v hv=>?_,fun g=>QLn hr fb g fun v hv=>?_,fun g=>QLn hr fc g fun v hv=>?_⟩ <;>
  (rw [er,ew];simp only [List.mem_append];rcases hv with hv | hv <;> simp [hv])
theorem QFi {m:cB} (V:Tg m) {f:dM} (v:Tc m.1.length f) {x:Ins} (h:uz x=true) (hr:xY m f x=true):kU ((m,f,()),x)=some (iI m f x):=by
 have hop:QAi x.1=true:=by obtain ⟨_,_,_,ho,_⟩:=nK h;exact ho
 obtain ⟨k,e,hk⟩:=QDv hop
 have zY:∀ (q:Int) (a:Int),lQ f a->aL ((m,f,()),q,[a])=some (decide (y5 m.1 (rG f a)=q)):=fun q a ha=>by
  rw [QHN v q [a] (by simp) (by simpa using ha)];simp
 have QVA:∀ (q:Int) (a b:Int),lQ f a->lQ f b->aL ((m,f,()),q,[a,b])=some (decide (y5 m.1 (rG f a)=q)&&decide (y5 m.1 (rG f b)=q)):=fun q a b ha hb=>by
  rw [QHN v q [a,b] (by simp) (by simpa using ⟨ha,hb⟩)];simp
 have QMw:∀ (q:Int) (a b c:Int),lQ f a->lQ f b->lQ f c->aL ((m,f,()),q,[a,b,c])=some (decide (y5 m.1 (rG f a)=q)&&(decide (y5 m.1 (rG f b)=q)&&decide (y5 m.1 (rG f c)=q))):=fun q a b c ha hb hc=>by
  rw [QHN v q [a,b,c] (by simp) (by simpa using ⟨ha,hb,hc⟩)];simp
 have bs:∀ b c:Bool,(bif b then some c else some false)=some (b&&c):=fun b c=>by cases b <;> rfl
 have idb:∀ z:Option Bool,(z.bind fun y=>some y)=z:=fun z=>by cases z <;> rfl
 show aI _=_
 have QYs:k=1∨k=2∨k=3∨k=4∨k=5∨k=6∨k=7∨k=8∨k=9∨k=10∨k=11∨k=12∨k=13∨k=14∨k=15∨k=16∨k=17∨k=18∨k=19∨k=20∨k=21∨k=22∨k=23∨k=24∨k=25∨k=26∨k=27∨k=28∨k=29∨k=30∨k=31∨k=32∨k=33∨k=34:=by omega
 rcases QYs with rfl | rfl | rfl | rfl | rfl | rfl | rfl | rfl | rfl | rfl | rfl | rfl | rfl | rfl | rfl | rfl | rfl | rfl | rfl | rfl | rfl | rfl | rfl | rfl | rfl | rfl | rfl | rfl | rfl | rfl | rfl | rfl | rfl | rfl
 ·have e':x.1=(1:Int):=e
  have er:mP ((1:Nat):Int)=[2,5,0]:=by decide +kernel
  obtain ⟨iA,iB,iC⟩:=bD h hr e er
  have hA:lQ f x.2.1:=iA (by simp)
  unfold aI iI
  simp [e',dz,bs,idb,zY 2 _ hA]
 ·have e':x.1=(2:Int):=e
  have er:mP ((2:Nat):Int)=[2,7,0]:=by decide +kernel
  obtain ⟨iA,iB,iC⟩:=bD h hr e er
  have hA:lQ f x.2.1:=iA (by simp)
  unfold aI iI
  simp [e',dz,bs,idb,zY 3 _ hA]
 ·have e':x.1=(3:Int):=e
  have er:mP ((3:Nat):Int)=[2,6,0]:=by decide +kernel
  obtain ⟨iA,iB,iC⟩:=bD h hr e er
  have hA:lQ f x.2.1:=iA (by simp)
  unfold aI iI
  simp [e',dz,bs,idb,zY 1 _ hA]
 ·have e':x.1=(4:Int):=e
  have er:mP ((4:Nat):Int)=[2,0,0]:=by decide +kernel
  obtain ⟨iA,iB,iC⟩:=bD h hr e er
  have hA:lQ f x.2.1:=iA (by simp)
  unfold aI iI
  simp [e',dz,bs,idb]
 ·have e':x.1=(5:Int):=e
  have er:mP ((5:Nat):Int)=[2,1,0]:=by decide +kernel
  obtain ⟨iA,iB,iC⟩:=bD h hr e er
  have hA:lQ f x.2.1:=iA (by simp)
  have hB:lQ f x.2.2.1:=iB (by simp)
  unfold aI iI
  simp [e',dz,bs,idb,jS m hA,jS m hB]
 ·have e':x.1=(6:Int):=e
  have er:mP ((6:Nat):Int)=[2,1,1]:=by decide +kernel
  obtain ⟨iA,iB,iC⟩:=bD h hr e er
  have hA:lQ f x.2.1:=iA (by simp)
  have hB:lQ f x.2.2.1:=iB (by simp)
  have hC:lQ f x.2.2.2.1:=iC (by simp)
  unfold aI iI
  simp [e',dz,bs,idb,QMw 2 _ _ _ hA hB hC]
 ·have e':x.1=(7:Int):=e
  have er:mP ((7:Nat):Int)=[2,1,1]:=by decide +kernel
  obtain ⟨iA,iB,iC⟩:=bD h hr e er
  have hA:lQ f x.2.1:=iA (by simp)
  have hB:lQ f x.2.2.1:=iB (by simp)
  have hC:lQ f x.2.2.2.1:=iC (by simp)
  unfold aI iI
  simp [e',dz,bs,idb,QMw 2 _ _ _ hA hB hC]
 ·have e':x.1=(8:Int):=e
  have er:mP ((8:Nat):Int)=[2,1,1]:=by decide +kernel
  obtain ⟨iA,iB,iC⟩:=bD h hr e er
  have hA:lQ f x.2.1:=iA (by simp)
  have hB:lQ f x.2.2.1:=iB (by simp)
  have hC:lQ f x.2.2.2.1:=iC (by simp)
  unfold aI iI
  simp [e',dz,bs,idb,QMw 2 _ _ _ hA hB hC]
 ·have e':x.1=(9:Int):=e
  have er:mP ((9:Nat):Int)=[2,1,1]:=by decide +kernel
  obtain ⟨iA,iB,iC⟩:=bD h hr e er
  have hA:lQ f x.2.1:=iA (by simp)
  have hB:lQ f x.2.2.1:=iB (by simp)
  have hC:lQ f x.2.2.2.1:=iC (by simp)
  unfold aI iI
  simp [e',dz,bs,idb,QMw 2 _ _ _ hA hB hC]
 ·have e':x.1=(10:Int):=e
  have er:mP ((10:Nat):Int)=[2,1,1]:=by decide +kernel
  obtain ⟨iA,iB,iC⟩:=bD h hr e er
  have hA:lQ f x.2.1:=iA (by simp)
  have hB:lQ f x.2.2.1:=iB (by simp)
  have hC:lQ f x.2.2.2.1:=iC (by simp)
  unfold aI iI
  simp [e',dz,bs,idb,zY 1 _ hA,QVA 2 _ _ hB hC]
 ·have e':x.1=(11:Int):=e
  have er:mP ((11:Nat):Int)=[2,1,1]:=by decide +kernel
  obtain ⟨iA,iB,iC⟩:=bD h hr e er
  have hA:lQ f x.2.1:=iA (by simp)
  have hB:lQ f x.2.2.1:=iB (by simp)
  have hC:lQ f x.2.2.2.1:=iC (by simp)
  unfold aI iI
  simp [e',dz,bs,idb,jS m hB,jS m hC,yG v hB,zY 1 _ hA,QDk]
 ·have e':x.1=(12:Int):=e
  have er:mP ((12:Nat):Int)=[2,1,0]:=by decide +kernel
  obtain ⟨iA,iB,iC⟩:=bD h hr e er
  have hA:lQ f x.2.1:=iA (by simp)
  have hB:lQ f x.2.2.1:=iB (by simp)
  unfold aI iI
  simp [e',dz,bs,idb,QVA 1 _ _ hA hB]
 ·have e':x.1=(13:Int):=e
  have er:mP ((13:Nat):Int)=[2,1,8]:=by decide +kernel
  obtain ⟨iA,iB,iC⟩:=bD h hr e er
  have hA:lQ f x.2.1:=iA (by simp)
  have hB:lQ f x.2.2.1:=iB (by simp)
  have f0:0<=x.2.2.2.1:=by obtain ⟨_,_,fc,_⟩:=role h e er;simp [fit,idx] at fc;omega
  have q:=QDi v hA hB f0
  unfold aI iI
  simp [e',dz,bs,idb,q]
 ·have e':x.1=(14:Int):=e
  have er:mP ((14:Nat):Int)=[1,8,1]:=by decide +kernel
  obtain ⟨iA,iB,iC⟩:=bD h hr e er
  have hA:lQ f x.2.1:=iA (by simp)
  have hC:lQ f x.2.2.2.1:=iC (by simp)
  have f0:0<=x.2.2.1:=by obtain ⟨_,fb,_⟩:=role h e er;simp [fit,idx] at fb;omega
  have q:=QDi v hC hA f0
  unfold aI iI
  simp [e',dz,bs,idb,q]
 ·have e':x.1=(15:Int):=e
  have er:mP ((15:Nat):Int)=[2,0,0]:=by decide +kernel
  obtain ⟨iA,iB,iC⟩:=bD h hr e er
  have hA:lQ f x.2.1:=iA (by simp)
  unfold aI iI
  simp [e',dz,bs,idb,zY 4 _ hA]
 ·have e':x.1=(16:Int):=e
  have er:mP ((16:Nat):Int)=[2,1,0]:=by decide +kernel
  obtain ⟨iA,iB,iC⟩:=bD h hr e er
  have hA:lQ f x.2.1:=iA (by simp)
  have hB:lQ f x.2.2.1:=iB (by simp)
  have q:=QAH v hA hB (ks:=[4]) (by simp)
  unfold aI iI
  simp [e',dz,bs,idb,q]
 ·have e':x.1=(17:Int):=e
  have er:mP ((17:Nat):Int)=[1,1,0]:=by decide +kernel
  obtain ⟨iA,iB,iC⟩:=bD h hr e er
  have hA:lQ f x.2.1:=iA (by simp)
  have hB:lQ f x.2.2.1:=iB (by simp)
  have q:=QAH v hB hA (ks:=[4]) (by simp)
  unfold aI iI
  simp [e',dz,bs,idb,q]
 ·have e':x.1=(18:Int):=e
  have er:mP ((18:Nat):Int)=[2,1,0]:=by decide +kernel
  obtain ⟨iA,iB,iC⟩:=bD h hr e er
  have hA:lQ f x.2.1:=iA (by simp)
  have hB:lQ f x.2.2.1:=iB (by simp)
  unfold aI iI
  simp [e',dz,bs,idb,zY 7 _ hA,zY 2 _ hB]
 ·have e':x.1=(19:Int):=e
  have er:mP ((19:Nat):Int)=[2,1,1]:=by decide +kernel
  obtain ⟨iA,iB,iC⟩:=bD h hr e er
  have hA:lQ f x.2.1:=iA (by simp)
  have hB:lQ f x.2.2.1:=iB (by simp)
  have hC:lQ f x.2.2.2.1:=iC (by simp)
  have q:=QAH v hA hB (ks:=[7,6]) (by simp)
  unfold aI iI
  simp [e',dz,bs,idb,q,zY 2 _ hC]
 ·have e':x.1=(20:Int):=e
  have er:mP ((20:Nat):Int)=[1,1,1]:=by decide +kernel
  obtain ⟨iA,iB,iC⟩:=bD h hr e er
  have hA:lQ f x.2.1:=iA (by simp)
  have hB:lQ f x.2.2.1:=iB (by simp)
  have hC:lQ f x.2.2.2.1:=iC (by simp)
  have q:=QAH v hC hA (ks:=[7,6]) (by simp)
  unfold aI iI
  simp [e',dz,bs,idb,q,zY 2 _ hB]
 ·have e':x.1=(21:Int):=e
  have er:mP ((21:Nat):Int)=[2,1,0]:=by decide +kernel
  obtain ⟨iA,iB,iC⟩:=bD h hr e er
  have hA:lQ f x.2.1:=iA (by simp)
  have hB:lQ f x.2.2.1:=iB (by simp)
  unfold aI iI
  simp [e',dz,bs,idb,yG v hB,zY 2 _ hA,QB7 _ _ (show List.length ([_,_,_]:List Int)<=1000 by simp)]
 ·have e':x.1=(22:Int):=e
  have er:mP ((22:Nat):Int)=[10,0,0]:=by decide +kernel
  obtain ⟨iA,iB,iC⟩:=bD h hr e er
  unfold aI iI
  simp [e',dz,bs,idb]
 ·have e':x.1=(23:Int):=e
  have er:mP ((23:Nat):Int)=[1,10,0]:=by decide +kernel
  obtain ⟨iA,iB,iC⟩:=bD h hr e er
  have hA:lQ f x.2.1:=iA (by simp)
  unfold aI iI
  simp [e',dz,bs,idb,zY 1 _ hA]
 ·have e':x.1=(24:Int):=e
  have er:mP ((24:Nat):Int)=[1,0,0]:=by decide +kernel
  obtain ⟨iA,iB,iC⟩:=bD h hr e er
  have hA:lQ f x.2.1:=iA (by simp)
  unfold aI iI
  simp [e',dz,bs,idb]
 ·have e':x.1=(25:Int):=e
  have er:mP ((25:Nat):Int)=[4,9,0]:=by decide +kernel
  obtain ⟨iA,iB,iC⟩:=bD h hr e er
  have hc:yA x=some x.2.2.1:=by simp [yA,e']
  obtain ⟨g,g1,g2,g3⟩:=mg (QCj h hc) (QDF hr hc)
  have q:=QA4 m g (s:=x.2.1) (f:=f) fun hne=>iA (by simp [hne])
  unfold aI iI
  simp [e',dz,bs,idb,g1,g2,q]
 ·have e':x.1=(26:Int):=e
  have er:mP ((26:Nat):Int)=[9,0,0]:=by decide +kernel
  obtain ⟨iA,iB,iC⟩:=bD h hr e er
  have hc:yA x=some x.2.1:=by simp [yA,e']
  obtain ⟨g,g1,g2,g3⟩:=mg (QCj h hc) (QDF hr hc)
  have q:=QAy (m:=m) f (V.ok g g3)
  unfold aI iI
  simp [e',dz,bs,idb,g1,g2,q]
 ·have e':x.1=(27:Int):=e
  have er:mP ((27:Nat):Int)=[9,0,0]:=by decide +kernel
  obtain ⟨iA,iB,iC⟩:=bD h hr e er
  have hc:yA x=some x.2.1:=by simp [yA,e']
  obtain ⟨g,g1,g2,g3⟩:=mg (QCj h hc) (QDF hr hc)
  have q:=QAy (m:=m) f (V.ok g g3)
  unfold aI iI
  simp [e',dz,bs,idb,g1,g2,q]
 ·have e':x.1=(28:Int):=e
  have er:mP ((28:Nat):Int)=[1,0,0]:=by decide +kernel
  obtain ⟨iA,iB,iC⟩:=bD h hr e er
  have hA:lQ f x.2.1:=iA (by simp)
  unfold aI iI
  simp [e',dz,bs,idb,yG v hA,QB7 _ _ (show List.length ([_,_,_]:List Int)<=1000 by simp)]
 ·have e':x.1=(29:Int):=e
  have er:mP ((29:Nat):Int)=[2,2,0]:=by decide +kernel
  obtain ⟨iA,iB,iC⟩:=bD h hr e er
  have hA:lQ f x.2.1:=iA (by simp)
  have hB:lQ f x.2.2.1:=iB (by simp)
  unfold aI iI
  simp [e',dz,bs,idb,zY 1 _ hA,zY 2 _ hB]
 ·have e':x.1=(30:Int):=e
  have er:mP ((30:Nat):Int)=[0,0,0]:=by decide +kernel
  obtain ⟨iA,iB,iC⟩:=bD h hr e er
  unfold aI iI
  simp [e',dz,bs,idb]
 ·have e':x.1=(31:Int):=e
  have er:mP ((31:Nat):Int)=[0,0,0]:=by decide +kernel
  obtain ⟨iA,iB,iC⟩:=bD h hr e er
  unfold aI iI
  simp [e',dz,bs,idb]
 ·have e':x.1=(32:Int):=e
  have er:mP ((32:Nat):Int)=[1,0,0]:=by decide +kernel
  obtain ⟨iA,iB,iC⟩:=bD h hr e er
  have hA:lQ f x.2.1:=iA (by simp)
  unfold aI iI
  simp [e',dz,bs,idb,zY 2 _ hA]
 ·have e':x.1=(33:Int):=e
  have er:mP ((33:Nat):Int)=[2,1,0]:=by decide +kernel
  obtain ⟨iA,iB,iC⟩:=bD h hr e er
  have hA:lQ f x.2.1:=iA (by simp)
  have hB:lQ f x.2.2.1:=iB (by simp)
  unfold aI iI
  simp [e',dz,bs,idb,zY 1 _ hA,zY 2 _ hB]
 ·have e':x.1=(34:Int):=e
  have er:mP ((34:Nat):Int)=[3,0,0]:=by decide +kernel
  obtain ⟨iA,iB,iC⟩:=bD h hr e er
  have q:=QA4 m f (s:=x.2.1) (f:=f) fun hne=>iA (by simp [hne])
  unfold aI iI
  simp [e',dz,bs,idb,q]
theorem QHG (a b:List Int) (h:a.length<=1000000):dU (a,b)=some (decide (a=b)):=by
 show gH (Gb (bE big) big) _=_
 unfold gH
 dsimp only
 rw [zy,bM]
 by_cases hl:a.length=b.length
 ·rw [AB hl,AL]
  have:=aU (g:=bE big) (mk:=fun i=>(a,b,(a.length:Int),(i:Int))) (p:=fun i=>decide (a[i]? = b[i]?)) (no:=some false) (kk:=some true) (n:=a.length)
   (fun self i hi=>by
    simp only [bE,jQ,dh hi,AL,gI hi,gI (show i < b.length by omega),AA,wS hi (by omega),wu hi (show i < b.length by omega),cO,bM])
   (fun self=>by simp only [bE,jQ,dZ,AJ]) a.length 0 big (by omega) (dS (by omega))
  rw [sO hl,yO] at this
  exact this
 ·rw [AF hl,AJ,AF (fun e=>hl (by rw [e]))]
theorem QKJ (a b:List T.TT) (h:a.length<=1000000):bN (a,b)=some (decide (a=b)):=by
 show bO (Gb (aT big) big) _=_
 unfold bO
 dsimp only
 rw [zy,bM]
 by_cases hl:a.length=b.length
 ·rw [AB hl,AL]
  have:=aU (g:=aT big) (mk:=fun i=>(a,b,(a.length:Int),(i:Int))) (p:=fun i=>decide (a[i]? = b[i]?)) (no:=some false) (kk:=some true) (n:=a.length)
   (fun self i hi=>by
    simp only [aT,dQ,dh hi,AL,gI hi,gI (show i < b.length by omega),AA,wS hi (by omega),wu hi (show i < b.length by omega)]
    rw [QA9,bM])
   (fun self=>by simp only [aT,dQ,dZ,AJ]) a.length 0 big (by omega) (dS (by omega))
  rw [sO hl,yO] at this
  exact this
 ·rw [AF hl,AJ,AF (fun e=>hl (by rw [e]))]
def QDg (m:cB) (f:dM) (x:Ins) (r:Bool):Int:=if xY m f x=false then 16 else if r=false then 6 else if iI m f x=false then 30 else 0
def fwS (m:cB) (f:dM) (l:List Ins) (rs:List Bool):Nat->Nat->Int×Int
 | 0,_=>(0,0)
 | k+1,i=>match l[i]?,rs[i]? with
  | some x,some r=>if QDg m f x r≠0 then ((i:Int),QDg m f x r) else fwS m f l rs k (i+1)
  | _,_=>(0,0)
theorem QEE {m:cB} (V:Tg m) {f:dM} (v:Tc m.1.length f) (hc:F.okC f.2.2.2.2.1=true):bW (m,f,())=some (fwS m f f.2.2.2.2.1 (F.xX f.2.2.2.2.1) f.2.2.2.2.1.length 0):=by
 show fA (Gb (aZ big) big) _=_
 unfold fA
 dsimp only
 rw [F.QHK,AY hc,AA]
 dsimp only
 have hl:f.2.2.2.2.1.length<=200:=v.cd.2
 have hrl:(F.xX f.2.2.2.2.1).length=f.2.2.2.2.1.length:=F.QE0 _
 have hok:=v.ok
 generalize f.2.2.2.2.1=l at hl hrl hok
 generalize F.xX l=rs at hrl
 have key:∀ (k i N:Nat),i+k=l.length->k < N->Gb (aZ big) N (l,(l.length:Int),(i:Int),(m,f,()),rs)=some (fwS m f l rs k i):=by
  intro k
  induction k with
  | zero=>
   intro i N hi hN
   obtain ⟨N,rfl⟩:∃ M,N=M+1:=⟨N - 1,by omega⟩
   obtain rfl:i=l.length:=by omega
   rw [WZ]
   simp only [aZ,gL,dZ,AJ,fwS]
  | succ k ih=>
   intro i N hi hN
   obtain ⟨N,rfl⟩:∃ M,N=M+1:=⟨N - 1,by omega⟩
   have hi':i < l.length:=by omega
   have hx:l[i]? = some l[i]:=AU hi'
   have hr:rs[i]? = some rs[i]:=AU (by omega)
   have ho:=hok _ (Ae hi')
   rw [WZ]
   simp only [aZ,gL,dh hi',AL,gI hi',AA,QFl m f ho,fwS,hx,hr,wS hi' (by omega),F.QC9 hr,F.oF (show i < rs.length by omega)]
   cases e1:xY m f l[i] with
   | false=>simp [QDg,e1]
   | true=>
    cases e2:rs[i] with
    | false=>simp [QDg,e1]
    | true=>
     rw [QFi V v ho e1,AA]
     cases e3:iI m f l[i] with
     | false=>simp [QDg,e1,e3]
     | true=>simp [QDg,e1,e3];exact ih (i+1) N (by omega) (by omega)
 exact key l.length 0 big (by omega) (dS (by omega))
theorem QIw {m:cB} {f:dM} {l:List Ins} {rs:List Bool}:∀ {k i:Nat},i+k=l.length->l.length=rs.length->(fwS m f l rs k i).2=0->∀ j,i<=j->(h:j < l.length)->∃ h':j < rs.length,QDg m f l[j] rs[j]=0
 | 0,i,hi,_,_,j,hj,h=>by omega
 | k+1,i,hi,hr,hz,j,hj,h=>by
  have hi':i < l.length:=by omega
  simp only [fwS,AU hi',AU (show i < rs.length by omega)] at hz
  split at hz
  ·rename_i e;exact absurd hz e
  ·rename_i e
   by_cases hij:j=i
   ·subst hij;exact ⟨by omega,by simpa using e⟩
   ·exact QIw (by omega) hr hz j (by omega) h
def psh (f:dM) (x:Ins):List Int:=if x.1=24 then [rG f x.2.1] else []
def tkn (m:cB) (x:Ins):List Int:=match yA x with
 | some g=>match m.2.2.1[g.toNat]? with
  | some h=>(h.2.2.2.1.take h.2.1.toNat).map fun z=>z.2.1
  | none=>[]
 | none=>[]
theorem QEp {m:cB} {f:dM} {x:Ins} (h:uz x=true) (hr:xY m f x=true):fI ((m,f,()),x)=some (psh f x):=by
 show nW _=_
 unfold nW psh
 dsimp only
 by_cases e:x.1=24
 ·have hA:=(bD h hr (k:=24) e (show mP ((24:Nat):Int)=[1,0,0] by decide +kernel)).1 (by simp)
  simp [e,cO,jS m hA]
 ·simp [e,cO]
theorem QH4 {m:cB} (V:Tg m) {f:dM} {x:Ins} (h:uz x=true) (hr:xY m f x=true):jZ ((m,f,()),x)=some (tkn m x):=by
 show jh (Gb (bY big) big) _=_
 unfold jh tkn
 dsimp only
 rw [QET,AA]
 dsimp only
 cases hc:yA x with
 | none=>rfl
 | some g=>
  obtain ⟨q,g1,g2,g3⟩:=mg (QCj h hc) (QDF hr hc)
  have vq:=V.ok q g3
  have hp:(decide (0<=q.2.1)&&decide (q.2.1<=(List.length q.2.2.2.1:Int)))=true:=by simp;exact vq.par
  simp only [Option.isSome_some,Az,AJ,BG,g1,g2,AA,hp,AL]
  generalize hl:List.take (Int.toNat q.2.1) q.2.2.2.1=l
  have hll:l.length<=16:=by rw [← hl,BJ];have:=vq.sl;omega
  have:=iE (g:=bY big) (mk:=fun i z=>(l,(l.length:Int),(i:Int),z)) (l:=l) (cod:=fun z=>[z.2.1]) (kk:=fun z=>some z) (B:=100)
   (fun self i z hi hx=>by
    simp only [bY,l6,dh hi,AL,gI hi,AA,wS hi (by omega),dN (show z.length+List.length [l[i].2.1]<=L36 by simp [L36] at hx ⊢;omega)]
    rfl)
   (fun self z _=>by simp only [bY,l6,dZ,AJ]) l.length 0 big [] (by omega) (dS (by omega)) (by have:=vD (f:=fun z:K.sS=>[z.2.1]) (k:=1) (l:=l) (by simp);simp only [List.drop_zero,Au];omega)
  rw [show ((0:Nat):Int)=0 from rfl] at this
  rw [this]
  simp only [List.drop_zero,List.nil_append,hl]
  exact congrArg some List.map_eq_flatMap.symm
def vo (l:List K.cK):List Int:=(List.range l.length).map fun (i:Nat)=>K.upS (K.sz (K.exS l) (i:Int)) 8
def tot (ss ts:List Int):Int:=(ts.map fun t=>ss.getD t.toNat 0).sum
structure Ssz (ss:List Int):Prop where
 lo:∀ s∈ss,0<=s/\s<=264
theorem QM8 {ss:List Int} (hs:Ssz ss) (ts:List Int) (hl:ts.length<=1000) (ht:∀ t∈ts,0<=t/\t < ss.length):tu (ss,ts)=some (tot ss ts):=by
 show uP (Gb (jA big) big) _=_
 unfold uP tot
 dsimp only
 have key:∀ (k i N:Nat) (n:Int),i+k=ts.length->k < N->0<=n->n<=264 * i->Gb (jA big) N (ss,n,ts,(ts.length:Int),(i:Int))=some (n+((ts.drop i).map fun t=>ss.getD t.toNat 0).sum):=by
  intro k
  induction k with
  | zero=>
   intro i N n hi hN h0 h1
   obtain ⟨N,rfl⟩:∃ M,N=M+1:=⟨N - 1,by omega⟩
   obtain rfl:i=ts.length:=by omega
   rw [WZ]
   simp [jA,vF,dZ]
  | succ k ih=>
   intro i N n hi hN h0 h1
   obtain ⟨N,rfl⟩:∃ M,N=M+1:=⟨N - 1,by omega⟩
   have hi':i < ts.length:=by omega
   obtain ⟨z,z1,z2,z3⟩:=mg (ht _ (Ae hi')).1 (ht _ (Ae hi')).2
   have hz:=hs.lo z z3
   rw [WZ,A9 hi',List.map_cons,List.sum_cons]
   simp only [jA,vF,dh hi',AL,gI hi',AA,z1,wS hi' (by omega)]
   rw [T.t64 (show -9223372036854775808<=n+z by omega) (by omega),ih (i+1) N (n+z) (by omega) (by omega) (by omega) (by simp;omega)]
   rw [Ad,z2,BG,Int.add_assoc]
 have:=key ts.length 0 big 0 (by omega) (dS (by omega)) (Int.le_refl _) (by simp)
 simpa using this
theorem QBh (l:List K.cK):(vo l).length=l.length:=by simp [vo]
theorem QRL {l:List K.cK} {i:Nat} (h:i < l.length):(vo l)[i]? = some (K.upS (K.sz (K.exS l) (i:Int)) 8):=by simp [vo,h]
theorem up8 {n:Int} (h:1<=n) (h':n<=256):8<=K.upS n 8/\K.upS n 8<=256:=by
 simp only [K.upS,show ¬ (8:Int)=1 by decide,if_false];omega
theorem QHu {m:cB} (V:Tg m):(∀ s∈vo m.1,8<=s/\s<=256):=by
 intro s hs
 simp only [vo,List.mem_map,List.mem_range] at hs
 obtain ⟨i,hi,rfl⟩:=hs
 obtain ⟨h1,_⟩:=K.QHW V.sz.1 (i:=(i:Int)) (by omega) (by omega)
 exact up8 h1 (V.sz.2 i hi)
theorem QRO {m:cB} (V:Tg m):Ssz (vo m.1):=⟨fun s hs=>by have:=QHu V s hs;omega⟩
theorem QGz {m:cB} (V:Tg m):iQ m.1=some (vo m.1):=by
 have hl:m.1.length<=32:=V.ty
 show iW (fun _=>List.replicate) (Gb (bP (fun _=>List.replicate) big) big) m.1=_
 unfold iW
 rw [F.QBJ (by omega),AL,Aj]
 have key:∀ (k i N:Nat) (x:List Int),i+k=m.1.length->k < N->x.length=m.1.length->Gb (bP (fun _=>List.replicate) big) N (m.1,(m.1.length:Int),(i:Int),x)=some (x.take i++(vo m.1).drop i):=by
  intro k
  induction k with
  | zero=>
   intro i N x hi hN hx
   obtain ⟨N,rfl⟩:∃ M,N=M+1:=⟨N - 1,by omega⟩
   obtain rfl:i=m.1.length:=by omega
   rw [WZ]
   simp only [bP,kR,dZ,AJ]
   rw [BA (by omega),List.drop_of_length_le (by rw [QBh];omega),List.append_nil]
  | succ k ih=>
   intro i N x hi hN hx
   obtain ⟨N,rfl⟩:∃ M,N=M+1:=⟨N - 1,by omega⟩
   have hi':i < m.1.length:=by omega
   obtain ⟨h1,_⟩:=K.QHW V.sz.1 (i:=(i:Int)) (by omega) (by omega)
   have h2:=V.sz.2 i hi'
   have he:=K.QBs V.sz.1 (i:=(i:Int)) (by omega) (by omega) h2
   rw [WZ]
   simp only [bP,kR,dh hi',AL,K.QIX,he,if_true,AA,K.QKo,F.oF (show i < x.length by omega),wS hi' (by omega)]
   rw [AX (by omega),Aj,ih (i+1) N _ (by omega) (by omega) (by rw [BI];exact hx)]
   rw [MQ _ _ _ (by omega),Ab]
   congr 2
   rw [A9 (show i < (vo m.1).length by rw [QBh];omega)]
   have:=QRL hi'
   rw [AU (by rw [QBh];omega)] at this
   rw [Ar this]
   rfl
 have:=key m.1.length 0 big (List.replicate m.1.length 0) (by omega) (dS (by omega)) List.length_replicate
 simpa using this
def QCe (tk pu b:List Int):Option (List Int):=if tk.length<=b.length/\b.drop (b.length - tk.length)=tk then some (b.take (b.length - tk.length)++pu) else none
theorem QMv {tk pu b s:List Int} (h:QCe tk pu b=some s):s.length<=b.length+pu.length:=by
 unfold QCe at h
 split at h
 ·cases h;simp
 ·cases h
theorem QDE (f:dM) (x:Ins):(psh f x).length<=1:=by unfold psh;split <;> simp
theorem QG5 {m:cB} (V:Tg m) (x:Ins):(tkn m x).length<=16:=by
 unfold tkn
 split
 ·split
  ·rename_i h hq
   have:=(V.ok h (BD hq)).sl
   simp;omega
  ·simp
 ·simp
theorem QLM {m:cB} (V:Tg m) {f:dM} {x:Ins} (h:uz x=true) (hr:xY m f x=true) (b:List Int) (hb:b.length<=100000) :
  jX ((m,f,()),x,b)=some (match QCe (tkn m x) (psh f x) b with | some s=>(s,true) | none=>([],false)):=by
 show oo _=_
 unfold oo QCe
 dsimp only
 rw [QH4 V h hr,AA]
 have h1:=QG5 V x
 have h2:=QDE f x
 have hp:=QEp h hr
 rw [T.t64 (show -9223372036854775808<=(b.length:Int) - ((tkn m x).length:Int) by omega) (by omega)]
 generalize tkn m x=t at h1 ⊢
 by_cases hlt:t.length<=b.length
 ·have e1:(b.length:Int) - (t.length:Int)=((b.length - t.length:Nat):Int):=by omega
  have e2:(decide (0<=((b.length - t.length:Nat):Int))&&decide (((b.length - t.length:Nat):Int)<=(b.length:Int)))=true:=by simp
  rw [e1,AF (show ¬ ((b.length - t.length:Nat):Int) < 0 by omega),AJ,e2,AL,Aj,QHG _ _ (by rw [List.length_drop];omega),AA]
  by_cases he:b.drop (b.length - t.length)=t
  ·rw [AB he,Az,AJ,AL,hp,AA,QI4 _ _ (by rw [BJ];omega),AA,AY ⟨hlt,he⟩]
  ·rw [AF he,A8,AL,AX (fun h=>he h.2)]
 ·rw [AB (show (b.length:Int) - (t.length:Int) < 0 by omega),AL,AX (fun h=>hlt h.1)]
def kv (kn:List (List Int)) (i:Nat):List Int:=kn.getD i []
theorem QLc {kn:List (List Int)} {i:Nat} (h:i < kn.length):kn[i]? = some (kv kn i):=getD_at h []
theorem QLd {kn:List (List Int)} {i:Nat} (h:i < kn.length):nth kn (Int.toNat (i:Int))=some (kv kn i):=F.QC9 (QLc h)
theorem QAk {kn:List (List Int)} {i j:Nat} {s:List Int} (h:j < kn.length):kv (kn.set j s) i=if i=j then s else kv kn i:=by
 unfold kv
 rw [Ad,Ad,F.dw h]
 split <;> rfl
def emp (kn:List (List Int)):Nat:=kn.countP List.isEmpty
theorem QIk:∀ {kn:List (List Int)} {j:Nat} {s:List Int},j < kn.length->kv kn j=[]->s≠[]->emp (kn.set j s)+1=emp kn
 | [],_,_,h,_,_=>by simp at h
 | a::kn,0,s,_,h,hs=>by
  have:a=[]:=h
  subst this
  cases s with
  | nil=>exact absurd rfl hs
  | cons x s=>simp [emp,List.countP_cons]
 | a::kn,j+1,s,h,hk,hs=>by
  have:=QIk (kn:=kn) (j:=j) (s:=s) (by simpa using h) hk hs
  simp only [emp,List.set_cons_succ,List.countP_cons] at this ⊢
  omega
theorem QLP (kn:List (List Int)):emp kn<=kn.length:=List.countP_le_length
section
variable (ss:List Int)
structure Sok:Prop where
 big:∀ s∈ss,8<=s/\s<=256
def Tys (s:List Int):Prop:=∀ t∈s,0<=t/\t < ss.length
end
variable {ss:List Int}
theorem QNv:tot ss []=0:=rfl
theorem QJ6 (a b:List Int):tot ss (a++b)=tot ss a+tot ss b:=by simp [tot]
theorem QH8 (t:Int) (a:List Int):tot ss (t::a)=ss.getD t.toNat 0+tot ss a:=rfl
theorem QDG (h:Sok ss):∀ {s:List Int},Tys ss s->0<=tot ss s/\(s≠[]->8<=tot ss s)
 | [],_=>⟨Int.le_refl _,fun h=>absurd rfl h⟩
 | t::s,ht=>by
  obtain ⟨h1,_⟩:=QDG h (s:=s) fun u hu=>ht u (by simp [hu])
  obtain ⟨z,_,z2,z3⟩:=mg (ht t (by simp)).1 (ht t (by simp)).2
  have:=h.big z z3
  rw [QH8,Ad,z2,BG]
  exact ⟨by omega,fun _=>by omega⟩
theorem QBj (h:Sok ss) {s:List Int} (hs:Tys ss s) (e:tot ss s=0):s=[]:=by
 cases s with
 | nil=>rfl
 | cons t s=>have:=(QDG h hs).2 (by simp);omega
theorem QCi {tk pu b s:List Int} (h:QCe tk pu b=some s):tot ss s=tot ss b+(tot ss pu - tot ss tk):=by
 unfold QCe at h
 split at h
 ·rename_i g
  cases h
  have e:b=b.take (b.length - tk.length)++tk:=by
   have:=(List.take_append_drop (b.length - tk.length) b).symm
   rwa [g.2] at this
  have e2:tot ss b=tot ss (b.take (b.length - tk.length))+tot ss tk:=by rw [← QJ6,← e]
  rw [QJ6]
  omega
 ·cases h
theorem QIe {tk pu b s:List Int} (h:QCe tk pu b=some s) (hb:Tys ss b) (hp:Tys ss pu):Tys ss s:=by
 unfold QCe at h
 split at h
 ·cases h
  intro t ht
  rcases List.mem_append.1 ht with ht | ht
  ·exact hb t (List.mem_of_mem_take ht)
  ·exact hp t ht
 ·cases h
structure M0 (ss:List Int) (g:Nat->List Nat) (n:Nat) (tk pu:Nat->List Int) (D:Nat->Int):Prop where
 ok:Sok ss
 ty:∀ i,Tys ss (pu i)
 one:∀ i,(pu i).length<=1
 rt:F.Right g (fun i=>tot ss (pu i) - tot ss (tk i)) n D
 lt:∀ i,F.Rc g i->i < n
variable {g:Nat->List Nat} {n:Nat} {tk pu:Nat->List Int} {D:Nat->Int}
def Sol (g:Nat->List Nat) (tk pu:Nat->List Int) (S:Nat->List Int):Prop:=S 0=[]/\∀ i,F.Rc g i->∃ s,QCe (tk i) (pu i) (S i)=some s/\∀ j∈g i,S j=s
theorem Sol.dep (c:M0 ss g n tk pu D) {S:Nat->List Int} (h:Sol g tk pu S) {i:Nat} (hi:F.Rc g i):tot ss (S i)=D i/\Tys ss (S i):=by
 induction hi with
 | zero=>rw [h.1,c.rt.z];exact ⟨rfl,fun _ h=>by cases h⟩
 | step hi hj ih=>
  obtain ⟨s,h1,h2⟩:=h.2 _ hi
  rw [h2 _ hj,QCi h1,ih.1]
  exact ⟨(c.rt.e _ _ hi hj).1.symm,QIe h1 ih.2 (c.ty _)⟩
theorem Sol.empty (c:M0 ss g n tk pu D) {S:Nat->List Int} (h:Sol g tk pu S) {i:Nat} (hi:F.Rc g i) (e:D i=0):S i=[]:=QBj c.ok (h.dep c hi).2 ((h.dep c hi).1.trans e)
structure Pt (ss:List Int) (g:Nat->List Nat) (n:Nat) (D:Nat->Int) (kn:List (List Int)):Prop where
 len:kn.length=n
 ty:∀ k,Tys ss (kv kn k)
 dep:∀ k,kv kn k≠[]->F.Rc g k/\tot ss (kv kn k)=D k
 short:∀ k,(kv kn k).length+emp kn<=n
def RV (a b:List (List Int)):Prop:=∀ k,kv a k≠[]->kv b k=kv a k
theorem RV.refl (a:List (List Int)):RV a a:=fun _ _=>rfl
theorem RV.trans {a b c:List (List Int)} (h:RV a b) (h':RV b c):RV a c:=fun k hk=>by rw [h' k (by rw [h k hk];exact hk),h k hk]
def Cl (g:Nat->List Nat) (tk pu:Nat->List Int) (kn:List (List Int)) (i:Nat):Prop:=∃ s,QCe (tk i) (pu i) (kv kn i)=some s/\(s=[]∨∀ j∈g i,kv kn j=s)
theorem Cl.mono {a b:List (List Int)} {i:Nat} (h:Cl g tk pu a i) (hi:kv b i=kv a i) (hl:RV a b):Cl g tk pu b i:=by
 obtain ⟨s,h1,h2⟩:=h
 refine ⟨s,by rw [hi];exact h1,?_⟩
 by_cases e:s=[]
 ·exact .inl e
 ·refine .inr fun j hj=>?_
  have:=(h2.resolve_left e) j hj
  rw [hl j (by rw [this];exact e),this]
def Agr (kn:List (List Int)) (S:Nat->List Int):Prop:=∀ k,kv kn k≠[]->kv kn k=S k
theorem Pt.keep (c:M0 ss g n tk pu D) {a b:List (List Int)} (hb:Pt ss g n D b) (hl:RV a b) {i:Nat} (ha:Tys ss (kv a i)) (e:tot ss (kv a i)=D i):kv b i=kv a i:=by
 by_cases h:kv a i=[]
 ·rw [h]
  by_cases h2:kv b i=[]
  ·exact h2
  ·exfalso
   have h3:=(hb.dep i h2).2
   rw [h,QNv] at e
   exact h2 (QBj c.ok (hb.ty i) (h3.trans e.symm))
 ·exact hl i h
theorem Pt.put (c:M0 ss g n tk pu D) {kn:List (List Int)} (h:Pt ss g n D kn) {j:Nat} {s:List Int} (hj:j < n) (hk:kv kn j=[]) (hs:s≠[]) (hty:Tys ss s) (hr:F.Rc g j) (hd:tot ss s=D j) (hlen:s.length+emp kn<=n+1) :
  Pt ss g n D (kn.set j s)/\RV kn (kn.set j s)/\emp (kn.set j s)+1=emp kn/\kv (kn.set j s) j=s:=by
 have hj':j < kn.length:=by rw [h.len];exact hj
 have he:=QIk hj' hk hs
 refine ⟨⟨by rw [BI];exact h.len,fun k=>?_,fun k hne=>?_,fun k=>?_⟩,fun k hne=>?_,he,by rw [QAk hj',AY rfl]⟩
 ·rw [QAk hj'];split
  ·exact hty
  ·exact h.ty k
 ·rw [QAk hj'] at hne ⊢
  split
  ·rename_i e;subst e;exact ⟨hr,hd⟩
  ·rename_i e;rw [AX e] at hne;exact h.dep k hne
 ·have:=h.short k
  rw [QAk hj'];split <;> omega
 ·rw [QAk hj',AX (fun e=>by subst e;exact hne hk)]
def tkF (m:cB) (l:List Ins) (i:Nat):List Int:=((l[i]?).map (tkn m)).getD []
def puF (f:dM) (l:List Ins) (i:Nat):List Int:=((l[i]?).map (psh f)).getD []
structure LQ (m:cB) (f:dM) (D:Nat->Int):Prop where
 V:Tg m
 v:Tc m.1.length f
 hc:F.okC f.2.2.2.2.1=true
 hr:∀ x∈f.2.2.2.2.1,xY m f x=true
 c:M0 (vo m.1) (F.G f.2.2.2.2.1) f.2.2.2.2.1.length (tkF m f.2.2.2.2.1) (puF f f.2.2.2.2.1) D
def QHI (m:cB) (f:dM) (D:Nat->Int) (kn:List (List Int)) (i:Nat) (r:Option (List (List Int)×Bool)):Prop:=
 ∃ kn' b,r=some (kn',b)/\Pt (vo m.1) (F.G f.2.2.2.2.1) f.2.2.2.2.1.length D kn'/\RV kn kn'/\emp kn'<=emp kn/\
  (b=true->Cl (F.G f.2.2.2.2.1) (tkF m f.2.2.2.2.1) (puF f f.2.2.2.2.1) kn' i/\∀ j,kv kn j=[]->kv kn' j≠[]->Cl (F.G f.2.2.2.2.1) (tkF m f.2.2.2.2.1) (puF f f.2.2.2.2.1) kn' j)/\
  ∀ S,Sol (F.G f.2.2.2.2.1) (tkF m f.2.2.2.2.1) (puF f f.2.2.2.2.1) S->Agr kn S->(F.Rc (F.G f.2.2.2.2.1) i->kv kn i=S i)->Agr kn' S/\b=true
def QO4 (m:cB) (f:dM) (D:Nat->Int) (kn:List (List Int)) (i:Nat):Prop:=
 Pt (vo m.1) (F.G f.2.2.2.2.1) f.2.2.2.2.1.length D kn/\i < f.2.2.2.2.1.length/\(F.Rc (F.G f.2.2.2.2.1) i/\tot (vo m.1) (kv kn i)=D i∨¬ F.Rc (F.G f.2.2.2.2.1) i/\i=f.2.2.2.2.1.length - 1/\kv kn i=[])
abbrev Sc0:=cB×(dM×Unit)
abbrev QUO:Ty:=.pair QKe (.pair QKL .unit)
theorem go_eq {m:cB} {f:dM} {D:Nat->Int} (C:LQ m f D):∀ (k:Nat) (kn:List (List Int)) (i:Nat),QO4 m f D kn i->emp kn < k->QHI m f D kn i (aR k ((i:Int),((),((),((),())))) ((m,(f,())),((),(kn,((),()))))):=by
 intro k
 induction k with
 | zero=>intro kn i _ h;omega
 | succ k ih=>
  intro kn i hpre hk
  obtain ⟨hki,hi,hst⟩:=hpre
  have hx:f.2.2.2.2.1[i]? = some f.2.2.2.2.1[i]:=AU hi
  have hm:=Ae hi
  have ho:=C.v.ok _ hm
  have hrx:=C.hr _ hm
  have htk:tkF m f.2.2.2.2.1 i=tkn m f.2.2.2.2.1[i]:=by simp [tkF,hx]
  have hpu:puF f f.2.2.2.2.1 i=psh f f.2.2.2.2.1[i]:=by simp [puF,hx]
  have hsh:=hki.short i
  have hcd:=C.v.cd.2
  have hlast:¬ F.Rc (F.G f.2.2.2.2.1) i->QCe (tkF m f.2.2.2.2.1 i) (puF f f.2.2.2.2.1 i) (kv kn i)=some []:=by
   intro hn
   rcases hst with h | ⟨_,h1,h2⟩
   ·exact absurd h.1 hn
   ·obtain ⟨_,_,_,h4⟩:=F.fC C.hc
    rw [← h1,hx] at h4
    rw [htk,hpu,Ar h4,h2]
    rfl
  show QHI m f D kn i (dR (aR k) ((m,(f,())),((),(kn,((),())))) (Gb (aW (aR k) ((m,(f,())),((),(kn,((),())))) big) big) ((i:Int),((),((),((),())))))
  unfold dR
  dsimp only
  rw [gI hi,AA,F.oF (show i < kn.length by rw [hki.len];exact hi),AL,QLd (by rw [hki.len];exact hi),AA,QLM C.V ho hrx _ (by omega),AA]
  rw [← htk,← hpu]
  have hself:∀ t:Sc0,@JW QUO t t=true:=fun t=>XZ QUO t
  cases ha:QCe (tkF m f.2.2.2.2.1 i) (puF f f.2.2.2.2.1 i) (kv kn i) with
  | none=>
   dsimp only
   rw [A8,AL,hself,AL]
   refine ⟨kn,false,rfl,hki,RV.refl _,Nat.le_refl _,(fun h=>by cases h),fun S hS hA hRc=>?_⟩
   exfalso
   by_cases hn:F.Rc (F.G f.2.2.2.2.1) i
   ·obtain ⟨s,h1,_⟩:=hS.2 i hn
    rw [← hRc hn,ha] at h1
    cases h1
   ·rw [hlast hn] at ha;cases ha
  | some s=>
   dsimp only
   rw [Az,AJ]
   by_cases hs:s=[]
   ·subst hs
    rw [show ((List.length ([]:List Int):Int)==(0:Int))=true from rfl,AL,hself,AL]
    exact ⟨kn,true,rfl,hki,RV.refl _,Nat.le_refl _,(fun _=>⟨⟨[],ha,.inl rfl⟩,fun j h1 h2=>absurd h1 h2⟩),fun S _ hA _=>⟨hA,rfl⟩⟩
   have hs0:((List.length s:Int)==(0:Int))=false:=by
    rw [Ay]
    intro h
    exact hs (Aq (by omega))
   have hRc:F.Rc (F.G f.2.2.2.2.1) i:=Classical.byContradiction fun hn=>by rw [hlast hn] at ha;cases ha;exact hs rfl
   have hdi:tot (vo m.1) (kv kn i)=D i:=by rcases hst with h | h;exact h.2;exact absurd hRc h.1
   have hbytes:=QCi (ss:=vo m.1) ha
   have QYw:=QIe ha (hki.ty i) (C.c.ty i)
   have Qa3:=QMv ha
   have hone:=C.c.one i
   rw [hs0,AJ,F.QMq,AY C.hc,AY (by omega),AA,Aj]
   dsimp only
   rw [F.aQ]
   generalize hnx:F.G f.2.2.2.2.1 i=nx
   have hgl:∀ j∈nx,j < f.2.2.2.2.1.length:=fun j hj=>F.QJL C.hc hi (by rw [hnx];exact hj)
   have QYv:∀ j∈nx,F.Rc (F.G f.2.2.2.2.1) j/\tot (vo m.1) s=D j:=fun j hj=>by
    have hj':j∈F.G f.2.2.2.2.1 i:=by rw [hnx];exact hj
    exact ⟨.step hRc hj',by rw [hbytes,hdi];exact (C.c.rt.e i j hRc hj').1.symm⟩
   have QVX:∀ S,Sol (F.G f.2.2.2.2.1) (tkF m f.2.2.2.2.1) (puF f f.2.2.2.2.1) S->kv kn i=S i->∀ j∈nx,S j=s:=by
    intro S hS he j hj
    obtain ⟨s',h1,h2⟩:=hS.2 i hRc
    rw [← he,ha] at h1
    cases h1
    exact h2 j (by rw [hnx];exact hj)
   have hnl:nx.length<=2:=by rw [← hnx];exact F.QKN _ _
   refine Qi (g:=aW (aR k) ((m,(f,())),((),(kn,((),())))) big) (n:=nx.length) (fun (kn1:List (List Int)) (q:Nat)=>(s,F.ints nx,(nx.length:Int),(q:Int),kn1,(m,(f,()))))
    (fun q kn1=>Pt (vo m.1) (F.G f.2.2.2.2.1) f.2.2.2.2.1.length D kn1/\RV kn kn1/\emp kn1<=emp kn/\(∀ p,p < q->∀ j,nx[p]? = some j->kv kn1 j=s)/\(∀ j,kv kn j=[]->kv kn1 j≠[]->Cl (F.G f.2.2.2.2.1) (tkF m f.2.2.2.2.1) (puF f f.2.2.2.2.1) kn1 j)/\
     ∀ S,Sol (F.G f.2.2.2.2.1) (tkF m f.2.2.2.2.1) (puF f f.2.2.2.2.1) S->Agr kn S->kv kn i=S i->Agr kn1 S)
    (QHI m f D kn i) ?_ ?_ nx.length 0 big (by omega) (dS (by omega)) kn ⟨hki,RV.refl _,Nat.le_refl _,(fun p h=>by omega),(fun j h1 h2=>absurd h1 h2),fun S _ hA _=>hA⟩
   ·rintro self kn1 ⟨g1,g2,g3,g4,g5,g6⟩
    simp only [aW,fK,dZ,AJ,hself,AL]
    refine ⟨kn1,true,rfl,g1,g2,g3,fun _=>⟨⟨s,?_,.inr fun j hj=>?_⟩,g5⟩,fun S hS hA hR=>⟨g6 S hS hA (hR hRc),rfl⟩⟩
    ·rw [g1.keep C.c g2 (hki.ty i) hdi];exact ha
    ·rw [hnx] at hj
     obtain ⟨p,hp⟩:=List.getElem?_of_mem hj
     exact g4 p (Ap.1 hp).1 j hp
   ·rintro self kn1 q hq ⟨g1,g2,g3,g4,g5,g6⟩
    have hj:nx[q]? = some nx[q]:=AU hq
    have hjm:=Ae hq
    generalize nx[q]=j at hj hjm
    have hjn:=hgl j hjm
    obtain ⟨hjr,hjd⟩:=QYv j hjm
    have hjk:j < kn1.length:=by rw [g1.len];exact hjn
    simp only [aW,fK,dh hq,AL,F.mh (F.ints_at hj),AA,F.oF hjk,QLd hjk,hself,wS hq (by omega)]
    by_cases he:kv kn1 j=[]
    ·rw [he]
     obtain ⟨p1,p2,p3,p4⟩:=g1.put C.c hjn he hs QYw hjr hjd (by omega)
     have hse:List.isEmpty s=false:=by cases s with | nil=>exact absurd rfl hs | cons _ _=>rfl
     have hne1:(Nat.ble 1 (List.length (kn1.set j s))&&true)=true:=by rw [BI,Bool.and_true];exact Nat.ble_eq_true_of_le (by omega)
     simp only [List.isEmpty_nil,AL,hse,AJ,Aj,hne1]
     obtain ⟨kn2,b,e2,q1,q2,q3,q4,q5⟩:=ih (kn1.set j s) j ⟨p1,hjn,.inl ⟨hjr,by rw [p4];exact hjd⟩⟩ (by omega)
     have hle:RV kn1 kn2:=p2.trans q2
     rw [e2,AA]
     dsimp only
     have QLY:∀ S,Sol (F.G f.2.2.2.2.1) (tkF m f.2.2.2.2.1) (puF f f.2.2.2.2.1) S->Agr kn S->kv kn i=S i->Agr kn2 S/\b=true:=by
      intro S hS hA hR
      have hSj:=QVX S hS hR j hjm
      refine q5 S hS (fun z hz=>?_) (fun _=>by rw [p4,hSj])
      rw [QAk hjk] at hz ⊢
      split
      ·rename_i ez;subst ez;exact hSj.symm
      ·rename_i ez;rw [AX ez] at hz;exact g6 S hS hA hR z hz
     cases b with
     | false=>
      right
      rw [A8,AL]
      exact ⟨kn2,false,rfl,q1,g2.trans hle,by omega,(fun h=>by cases h),fun S hS hA hR=>by have:=(QLY S hS hA (hR hRc)).2;cases this⟩
     | true=>
      left
      have hj2:kv kn2 j=s:=by rw [q2 j (by rw [p4];exact hs),p4]
      obtain ⟨c1,c2⟩:=q4 rfl
      refine ⟨kn2,⟨q1,g2.trans hle,by omega,fun p hp z hz=>?_,fun z h1 h2=>?_,fun S hS hA hR=>(QLY S hS hA hR).1⟩,?_⟩
      ·by_cases hpq:p=q
       ·subst hpq;rw [hj] at hz;cases hz;exact hj2
       ·have:=g4 p (by omega) z hz
        rw [hle z (by rw [this];exact hs),this]
      ·by_cases hz1:kv kn1 z=[]
       ·by_cases hz2:z=j
        ·subst hz2;exact c1
        ·exact c2 z (by rw [QAk hjk,AX hz2];exact hz1) h2
       ·exact (g5 z h1 hz1).mono (hle z hz1) hle
      ·have hn2:nth kn2 j=some s:=by rw [F.uq,QLc (by rw [q1.len];exact hjn),hj2]
       rw [Az,AJ,F.oF (show j < kn2.length by rw [q1.len];exact hjn),AL,hn2,AA,QHG _ _ (by omega),AA,AB rfl,Az,AJ]
    ·have hje:List.isEmpty (kv kn1 j)=false:=by
      cases hz:kv kn1 j with
      | nil=>exact absurd hz he
      | cons _ _=>rfl
     rw [hje,AJ,QHG _ _ (by have:=g1.short j;omega),AA]
     by_cases heq:kv kn1 j=s
     ·left
      refine ⟨kn1,⟨g1,g2,g3,fun p hp z hz=>?_,g5,g6⟩,?_⟩
      ·by_cases hpq:p=q
       ·subst hpq;rw [hj] at hz;cases hz;exact heq
       ·exact g4 p (by omega) z hz
      ·rw [AB heq,Az,AJ]
     ·right
      rw [AF heq,A8,AL]
      refine ⟨kn1,false,rfl,g1,g2,g3,(fun h=>by cases h),fun S hS hA hR=>?_⟩
      exfalso
      exact heq ((g6 S hS hA (hR hRc) j he).trans (QVX S hS (hR hRc) j hjm))
theorem Pt.zero {ss:List Int} {g:Nat->List Nat} {n:Nat} {tk pu:Nat->List Int} {D:Nat->Int} (c:M0 ss g n tk pu D) {kn:List (List Int)} (h:Pt ss g n D kn) {dep:List Int} (hd:∀ i,i < n->(F.Rc g i->F.da dep i=D i)/\(¬ F.Rc g i->F.da dep i=0)) {j:Nat} (hj:j < n) (hz:F.da dep j=0):kv kn j=[]:=by
 by_cases he:kv kn j=[]
 ·exact he
 ·obtain ⟨h1,h2⟩:=h.dep j he
  exact QBj c.ok (h.ty j) (h2.trans (((hd j hj).1 h1).symm.trans hz))
theorem QDm (n i:Nat):kv (List.replicate n []) i=[]:=by
 unfold kv
 rw [Ad,List.getElem?_replicate]
 split <;> rfl
theorem Pt.start (ss:List Int) (g:Nat->List Nat) (n:Nat) (D:Nat->Int):Pt ss g n D (List.replicate n []):=by
 refine ⟨List.length_replicate,fun k t ht=>?_,fun k h=>absurd (QDm n k) h,fun k=>?_⟩
 ·rw [QDm] at ht;cases ht
 ·have:=QLP (List.replicate n [])
  rw [List.length_replicate] at this
  rw [QDm]
  simpa using this
theorem QLb {m:cB} {f:dM} {D:Nat->Int} (C:LQ m f D) {dep:List Int} (hdl:dep.length=f.2.2.2.2.1.length) (hre:∀ i,i < f.2.2.2.2.1.length->F.Rc (F.G f.2.2.2.2.1) i∨i=f.2.2.2.2.1.length - 1)
  (hd:∀ i,i < f.2.2.2.2.1.length->(F.Rc (F.G f.2.2.2.2.1) i->F.da dep i=D i)/\(¬ F.Rc (F.G f.2.2.2.2.1) i->F.da dep i=0)) :
  ∃ b,iZ ((m,(f,())),dep)=some b/\(b=true↔∃ S,Sol (F.G f.2.2.2.2.1) (tkF m f.2.2.2.2.1) (puF f f.2.2.2.2.1) S):=by
 have hcd:=C.v.cd
 show ∃ b,fB (fun _=>List.replicate) (Gb (ah (fun _=>List.replicate) big) big) _=some b/\_
 unfold fB
 dsimp only
 rw [F.QBJ (by omega),AL,Aj]
 refine Qi (g:=ah (fun _=>List.replicate) big) (n:=dep.length) (fun (kn:List (List Int)) (i:Nat)=>(dep,(dep.length:Int),(i:Int),(m,(f,())),kn))
  (fun i kn=>Pt (vo m.1) (F.G f.2.2.2.2.1) f.2.2.2.2.1.length D kn/\(∀ j,j < i->F.da dep j=0->Cl (F.G f.2.2.2.2.1) (tkF m f.2.2.2.2.1) (puF f f.2.2.2.2.1) kn j)/\(∀ j,kv kn j≠[]->Cl (F.G f.2.2.2.2.1) (tkF m f.2.2.2.2.1) (puF f f.2.2.2.2.1) kn j)/\
   ∀ S,Sol (F.G f.2.2.2.2.1) (tkF m f.2.2.2.2.1) (puF f f.2.2.2.2.1) S->Agr kn S)
  (fun r=>∃ b,r=some b/\(b=true↔∃ S,Sol (F.G f.2.2.2.2.1) (tkF m f.2.2.2.2.1) (puF f f.2.2.2.2.1) S)) ?_ ?_ dep.length 0 big (by omega) (dS (by omega)) _
  ⟨by rw [hdl];exact Pt.start _ _ _ _,(fun j h=>by omega),(fun j h=>absurd (QDm _ j) h),fun S _ k hk=>absurd (QDm _ k) hk⟩
 ·rintro self kn ⟨g1,g2,g3,g4⟩
  simp only [ah,gM,dZ,AJ]
  refine ⟨true,rfl,fun _=>⟨kv kn,?_,?_⟩,fun _=>rfl⟩
  ·have h0:F.da dep 0=0:=((hd 0 (by omega)).1 .zero).trans C.c.rt.z
   exact g1.zero C.c hd (by omega) h0
  ·have all:∀ i,F.Rc (F.G f.2.2.2.2.1) i->Cl (F.G f.2.2.2.2.1) (tkF m f.2.2.2.2.1) (puF f f.2.2.2.2.1) kn i/\tot (vo m.1) (kv kn i)=D i:=by
    have z:∀ i,F.Rc (F.G f.2.2.2.2.1) i->D i=0->Cl (F.G f.2.2.2.2.1) (tkF m f.2.2.2.2.1) (puF f f.2.2.2.2.1) kn i/\tot (vo m.1) (kv kn i)=D i:=fun i hi e=>by
     have hin:=C.c.lt i hi
     have h0:F.da dep i=0:=((hd i hin).1 hi).trans e
     exact ⟨g2 i (by omega) h0,by rw [g1.zero C.c hd hin h0,e];rfl⟩
    intro i hi
    induction hi with
    | zero=>exact z 0 .zero C.c.rt.z
    | step hi hj ih=>
     rename_i i j
     obtain ⟨⟨s,h1,h2⟩,h3⟩:=ih
     have h4:=QCi (ss:=vo m.1) h1
     have h5:=(C.c.rt.e _ _ hi hj).1
     by_cases e:s=[]
     ·subst e
      exact z j (.step hi hj) (by rw [h5,← h3,← h4];rfl)
     ·have h6:=(h2.resolve_left e) j hj
      exact ⟨g3 j (by rw [h6];exact e),by rw [h6,h4,h3,h5]⟩
   intro i hi
   obtain ⟨⟨s,h1,h2⟩,h3⟩:=all i hi
   refine ⟨s,h1,fun j hj=>?_⟩
   by_cases e:s=[]
   ·subst e
    have h4:=QCi (ss:=vo m.1) h1
    have h5:=(C.c.rt.e _ _ hi hj).1
    have hr:F.Rc (F.G f.2.2.2.2.1) j:=.step hi hj
    exact QBj C.c.ok (g1.ty j) (by rw [(all j hr).2,h5,← h3,← h4];rfl)
   ·exact (h2.resolve_left e) j hj
 ·rintro self kn i hi ⟨g1,g2,g3,g4⟩
  have hin:i < f.2.2.2.2.1.length:=by omega
  simp only [ah,gM,dh hi,AL,F.QIi hi,AA,wS hi (by omega)]
  by_cases hz:F.da dep i=0
  ·have e0:(F.da dep i==(0:Int))=true:=by rw [hz];rfl
   have hne:(Nat.ble 1 (List.length kn)&&true)=true:=by rw [g1.len,Bool.and_true];exact Nat.ble_eq_true_of_le hcd.1
   have hki:=g1.zero C.c hd hin hz
   have hpre:QO4 m f D kn i:=by
    refine ⟨g1,hin,?_⟩
    by_cases hr:F.Rc (F.G f.2.2.2.2.1) i
    ·exact .inl ⟨hr,by rw [hki,← (hd i hin).1 hr,hz];rfl⟩
    ·exact .inr ⟨hr,(hre i hin).resolve_left hr,hki⟩
   have hem:=QLP kn
   rw [g1.len] at hem
   obtain ⟨kn',b,q0,q1,q2,q3,q4,q5⟩:=go_eq C big kn i hpre (dS (by omega))
   have q0:gK ((i:Int),((),((),((),())))) ((m,(f,())),((),(kn,((),()))))=some (kn',b):=q0
   rw [e0,AL,hne,AL,q0,AA]
   dsimp only
   have QLY:∀ S,Sol (F.G f.2.2.2.2.1) (tkF m f.2.2.2.2.1) (puF f f.2.2.2.2.1) S->Agr kn' S/\b=true:=fun S hS=>q5 S hS (g4 S hS) fun hr=>by
    rw [hki,hS.empty C.c hr (((hd i hin).1 hr).symm.trans hz)]
   cases b with
   | false=>
    right
    rw [A8,AL]
    exact ⟨false,rfl,(fun h=>by cases h),fun ⟨S,hS⟩=>(QLY S hS).2⟩
   | true=>
    left
    rw [Az,AJ]
    obtain ⟨c1,c2⟩:=q4 rfl
    refine ⟨kn',⟨q1,fun j hj h0=>?_,fun j hj=>?_,fun S hS=>(QLY S hS).1⟩,rfl⟩
    ·by_cases hji:j=i
     ·subst hji;exact c1
     ·exact (g2 j (by omega) h0).mono (by rw [q1.zero C.c hd (by omega) h0,g1.zero C.c hd (by omega) h0]) q2
    ·by_cases h1:kv kn j=[]
     ·exact c2 j h1 hj
     ·exact (g3 j h1).mono (q2 j h1) q2
  ·left
   have e0:(F.da dep i==(0:Int))=false:=by rw [Ay];exact hz
   rw [e0,AJ]
   exact ⟨kn,⟨g1,fun j hj h0=>by
    by_cases hji:j=i
    ·subst hji;exact absurd h0 hz
    ·exact g2 j (by omega) h0,g3,g4⟩,rfl⟩
def bsF (m:cB) (f:dM):List Int:=f.2.2.2.2.1.map fun x=>tot (vo m.1) (psh f x) - tot (vo m.1) (tkn m x)
structure Bt (m:cB) (f:dM):Prop where
 V:Tg m
 v:Tc m.1.length f
 hc:F.okC f.2.2.2.2.1=true
 hr:∀ x∈f.2.2.2.2.1,xY m f x=true
 re:∀ i,i < f.2.2.2.2.1.length->F.Rc (F.G f.2.2.2.2.1) i∨i=f.2.2.2.2.1.length - 1
theorem Bt.tys {m:cB} {f:dM} (C:Bt m f) {x:Ins} (hx:x∈f.2.2.2.2.1):Tys (vo m.1) (psh f x)/\Tys (vo m.1) (tkn m x):=by
 constructor
 ·unfold psh
  split
  ·rename_i e
   have hA:=(bD (C.v.ok x hx) (C.hr x hx) (k:=24) e (show mP ((24:Nat):Int)=[1,0,0] by decide +kernel)).1 (by simp)
   intro t ht
   obtain rfl:t=rG f x.2.1:=by simpa using ht
   rw [QBh]
   exact QH9 C.v hA
  ·intro t ht;cases ht
 ·unfold tkn
  split
  ·split
   ·rename_i h hq
    have:=(C.V.ok h (BD hq)).ty
    intro t ht
    obtain ⟨z,hz,rfl⟩:=List.mem_map.1 ht
    rw [QBh]
    exact this z (List.mem_of_mem_take hz)
   ·intro t ht;cases ht
  ·intro t ht;cases ht
theorem QHy {ss:List Int} (h:Sok ss):∀ {s:List Int},Tys ss s->tot ss s<=256 * s.length
 | [],_=>by simp [tot]
 | t::s,ht=>by
  have h1:=QHy h (s:=s) fun u hu=>ht u (by simp [hu])
  obtain ⟨z,_,z2,z3⟩:=mg (ht t (by simp)).1 (ht t (by simp)).2
  have:=h.big z z3
  rw [QH8,Ad,z2,BG,Af]
  omega
theorem Bt.by {m:cB} {f:dM} (C:Bt m f) {x:Ins} (hx:x∈f.2.2.2.2.1) : -4096<=tot (vo m.1) (psh f x) - tot (vo m.1) (tkn m x)/\tot (vo m.1) (psh f x) - tot (vo m.1) (tkn m x)<=4096/\0<=tot (vo m.1) (psh f x)/\tot (vo m.1) (psh f x)<=256/\0<=tot (vo m.1) (tkn m x)/\tot (vo m.1) (tkn m x)<=4096:=by
 have hs:Sok (vo m.1):=⟨QHu C.V⟩
 obtain ⟨h1,h2⟩:=C.tys hx
 have a1:=QHy hs h1
 have a2:=QHy hs h2
 have b1:=(QDG hs h1).1
 have b2:=(QDG hs h2).1
 have c1:=QDE f x
 have c2:=QG5 C.V x
 omega
theorem QHP (m:cB) (f:dM):(bsF m f).length=f.2.2.2.2.1.length:=by simp [bsF]
theorem QVD {m:cB} {f:dM} (C:Bt m f):F.QHR (bsF m f)=true:=by
 simp only [F.QHR,List.all_eq_true,bsF,List.mem_map]
 rintro b ⟨x,hx,rfl⟩
 have:=C.by hx
 simp
 omega
theorem Bt.ck {m:cB} {f:dM} (C:Bt m f) {D:Nat->Int} (h:F.Right (F.G f.2.2.2.2.1) (F.da (bsF m f)) f.2.2.2.2.1.length D):LQ m f D:=by
 refine ⟨C.V,C.v,C.hc,C.hr,⟨QHu C.V⟩,fun i=>?_,fun i=>?_,⟨h.z,fun i j hi hj=>?_⟩,fun i hi=>hi.lt C.hc⟩
 ·unfold puF
  cases hx:f.2.2.2.2.1[i]? with
  | none=>intro t ht;cases ht
  | some x=>exact (C.tys (BD hx)).1
 ·unfold puF
  cases hx:f.2.2.2.2.1[i]? with
  | none=>simp
  | some x=>exact QDE f x
 ·have hin:=hi.lt C.hc
  have e:F.da (bsF m f) i=tot (vo m.1) (puF f f.2.2.2.2.1 i) - tot (vo m.1) (tkF m f.2.2.2.2.1 i):=by
   simp [F.da,bsF,puF,tkF,hin]
  rw [← e]
  exact h.e i j hi hj
def zW (m:cB) (f:dM):Prop:=(∃ dep,F.IsD f.2.2.2.2.1 (bsF m f) dep)/\∃ S,Sol (F.G f.2.2.2.2.1) (tkF m f.2.2.2.2.1) (puF f f.2.2.2.2.1) S
theorem QJX {m:cB} {f:dM} (C:Bt m f):∃ dep b,fH ((m,(f,())),vo m.1)=some (dep,b)/\(b=true↔zW m f)/\(b=true->F.IsD f.2.2.2.2.1 (bsF m f) dep):=by
 have hcd:=C.v.cd
 have hs:=QRO C.V
 show ∃ dep b,iX (fun _=>List.replicate) (Gb (bQ (fun _=>List.replicate) big) big) _=some (dep,b)/\_
 unfold iX
 dsimp only
 rw [F.QBJ (by omega),AL,Aj]
 refine Qi (g:=bQ (fun _=>List.replicate) big) (n:=f.2.2.2.2.1.length) (fun (x:List Int) (i:Nat)=>(vo m.1,f.2.2.2.2.1,(f.2.2.2.2.1.length:Int),(i:Int),(m,(f,())),x))
  (fun i x=>x.length=f.2.2.2.2.1.length/\x.take i=(bsF m f).take i) (fun r=>∃ dep b,r=some (dep,b)/\(b=true↔zW m f)/\(b=true->F.IsD f.2.2.2.2.1 (bsF m f) dep)) ?_ ?_ f.2.2.2.2.1.length 0 big (by omega) (dS (by omega)) _ ⟨List.length_replicate,rfl⟩
 ·rintro self x ⟨h1,h2⟩
  rw [BA (by omega),BA (by rw [QHP];omega)] at h2
  subst h2
  simp only [bQ,kS,dZ,AJ]
  have hD:=F.QJC f.2.2.2.2.1 (bsF m f)
  unfold F.vv at hD
  rw [AY C.hc,AY ⟨QHP m f,QVD C⟩] at hD
  rcases hD with ⟨dep,e,hi⟩ | ⟨hn,e⟩
  ·rw [e,AA]
   dsimp only
   obtain ⟨hl,D,hR,hd⟩:=hi
   obtain ⟨b,hb,hiff⟩:=QLb (C.ck hR) hl C.re hd
   rw [show ((0:Int)==(0:Int))=true from rfl,AL,hb,AA]
   exact ⟨dep,b,rfl,hiff.trans ⟨fun h=>⟨⟨dep,hl,D,hR,hd⟩,h⟩,fun h=>h.2⟩,fun _=>⟨hl,D,hR,hd⟩⟩
  ·rw [e,AA]
   dsimp only
   rw [show ((36:Int)==(0:Int))=false from rfl,AJ]
   exact ⟨[],false,rfl,⟨(fun h=>by cases h),fun ⟨⟨dep,_,D,hR,_⟩,_⟩=>absurd hR (hn D)⟩,fun h=>by cases h⟩
 ·rintro self x i hi ⟨h1,h2⟩
  left
  have hm:=Ae hi
  obtain ⟨b1,b2,b3,b4,b5,b6⟩:=C.by hm
  obtain ⟨t1,t2⟩:=C.tys hm
  refine ⟨x.set i (tot (vo m.1) (psh f f.2.2.2.2.1[i]) - tot (vo m.1) (tkn m f.2.2.2.2.1[i])),⟨by rw [BI];exact h1,?_⟩,?_⟩
  ·rw [MQ _ _ _ (by omega),h2,Ah (by rw [QHP];exact hi)]
   simp [bsF]
  ·simp only [bQ,kS,dh hi,AL,gI hi,AA,QEp (C.v.ok _ hm) (C.hr _ hm),QH4 C.V (C.v.ok _ hm) (C.hr _ hm),QM8 hs _ (by have:=QDE f f.2.2.2.2.1[i];omega) t1,QM8 hs _ (by have:=QG5 C.V f.2.2.2.2.1[i];omega) t2,F.oF (show i < x.length by omega),wS hi (by omega)]
   rw [T.t64 (by omega) (by omega),Aj]
def dB (fs:List Nat) (i:Nat) (s:Int):Bool:=decide ((F.ma fs i &&& 2 ^ s.toNat)=0)
def nlS (l:List Ins) (fs:List Nat):Nat->Nat->Int
 | 0,_=>-1
 | k+1,i=>if ((l[i]?).any fun x=>(F.rS x).any (dB fs i))=true then (i:Int) else nlS l fs k (i+1)
theorem QHk {l:List Ins} (hok:∀ x∈l,uz x=true) (hl:l.length<=200) {fs:List Nat} (hf:fs.length=l.length) (h16:∀ i,F.ma fs i < 65536):fG (l,F.ints fs)=some (nlS l fs l.length 0):=by
 show iV (Gb (bC big) big) _=_
 unfold iV
 dsimp only
 have key:∀ (k i N:Nat),i+k=l.length->k < N->Gb (bC big) N (l,(l.length:Int),(i:Int),F.ints fs)=some (nlS l fs k i):=by
  intro k
  induction k with
  | zero=>
   intro i N hi hN
   obtain ⟨N,rfl⟩:∃ M,N=M+1:=⟨N - 1,by omega⟩
   obtain rfl:i=l.length:=by omega
   rw [WZ]
   simp only [bC,gG,dZ,AJ]
   rfl
  | succ k ih=>
   intro i N hi hN
   obtain ⟨N,rfl⟩:∃ M,N=M+1:=⟨N - 1,by omega⟩
   have hi':i < l.length:=by omega
   have ho:=hok _ (Ae hi')
   obtain ⟨s1,_,s3,_⟩:=F.QG3 ho
   rw [WZ]
   simp only [bC,gG,dh hi',AL,gI hi',AA,QH0 ho]
   have hany:((l[i]?).any fun x=>(F.rS x).any (dB fs i))=(F.rS l[i]).any (dB fs i):=by simp [hi']
   unfold nlS
   rw [hany]
   generalize F.rS l[i]=r at s1 s3
   have:=aU (g:=dV big (Gb (bC big) N)) (mk:=fun q=>((r.length:Int),(q:Int),r,F.ints fs,(i:Int),l,(l.length:Int),(i:Int))) (p:=fun q=>(r[q]?).all fun (s:Int)=>!dB fs i s) (no:=some (i:Int)) (kk:=some (nlS l fs k (i+1))) (n:=r.length)
    (fun self q hq=>by
     have hs:=s1 _ (Ae hq)
     simp only [dV,kQ,dh hq,AL,F.oF hq,F.QC9 (AU hq),AA,F.QFp (show i < fs.length by omega),AF (show ¬ r[q] < 0 by omega),AJ,F.QRN hs.1 (show r[q]<=16 by omega),F.QVB (h16 i) (F.QLo hs.1 hs.2),wS hq (by omega),pat hq,dB]
     by_cases hz:(F.ma fs i &&& 2 ^ (r[q]).toNat)=0
     ·have e0:(((F.ma fs i &&& 2 ^ (r[q]).toNat:Nat):Int)==(0:Int))=true:=by rw [hz];rfl
      rw [e0,AL,AB (show ((q:Int)≥0) by omega),AL,AB hz]
      rfl
     ·have e0:(((F.ma fs i &&& 2 ^ (r[q]).toNat:Nat):Int)==(0:Int))=false:=by rw [Ay];omega
      rw [e0,AJ,AF hz]
      rfl)
    (fun self=>by
     simp only [dV,kQ,dZ,AJ,wS hi' (by omega)]
     exact ih (i+1) N (by omega) (by omega)) r.length 0 big (by omega) (dS (by omega))
   rw [QB8,show ((0:Nat):Int)=0 from rfl] at this
   rw [this]
   have e:r.all (fun s=>!dB fs i s)=!r.any (dB fs i):=by rw [List.not_any_eq_all_not]
   rw [e]
   cases r.any (dB fs i) <;> rfl
 exact key l.length 0 big (by omega) (dS (by omega))
theorem QLw {v:List Int} (h1:1<=v.length) (h2:v.length<=200):fV v=some (T.lF v):=by
 show jf (fun _=>List.replicate) (Gb (bX (fun _=>List.replicate) big) big) v=_
 unfold jf
 rw [F.QBJ (by omega),AL,Aj]
 have key:∀ (k i N:Nat) (x:List Int),i+k=v.length->k < N->x.length=v.length->x.take i=v.take i->Gb (bX (fun _=>List.replicate) big) N (v,(v.length:Int),(i:Int),x)=some (T.lF v):=by
  intro k
  induction k with
  | zero=>
   intro i N x hi hN hx ht
   obtain ⟨N,rfl⟩:∃ M,N=M+1:=⟨N - 1,by omega⟩
   obtain rfl:i=v.length:=by omega
   rw [BA (by omega),BA (by omega)] at ht
   subst ht
   rw [WZ]
   simp only [bX,l5,dZ,AJ,T.QGu,AA,T.QIy]
   rw [AX (by omega)]
  | succ k ih=>
   intro i N x hi hN hx ht
   obtain ⟨N,rfl⟩:∃ M,N=M+1:=⟨N - 1,by omega⟩
   have hi':i < v.length:=by omega
   rw [WZ]
   simp only [bX,l5,dh hi',AL,gI hi',AA,F.oF (show i < x.length by omega),wS hi' (by omega)]
   rw [Aj]
   exact ih (i+1) N _ (by omega) (by omega) (by rw [BI];exact hx) (by rw [MQ _ _ _ (by omega),ht,Ah hi'])
 exact key v.length 0 big _ (by omega) (dS (by omega)) List.length_replicate rfl
theorem QLv {v:List Int} (h1:1<=v.length) (h2:v.length<=200) (hv:∀ x∈v,0<=x/\x<=1000000):jm v=some (T.lF v):=by
 show oK (fun _=>List.replicate) (Gb (eG (fun _=>List.replicate) big) big) v=_
 unfold oK
 rw [F.QBJ (by omega),AL,Aj]
 have key:∀ (k i N:Nat) (x:List Int),i+k=v.length->k < N->x.length=v.length->x.take i=v.take i->Gb (eG (fun _=>List.replicate) big) N (v,(v.length:Int),(i:Int),x)=some (T.lF v):=by
  intro k
  induction k with
  | zero=>
   intro i N x hi hN hx ht
   obtain ⟨N,rfl⟩:∃ M,N=M+1:=⟨N - 1,by omega⟩
   obtain rfl:i=v.length:=by omega
   rw [BA (by omega),BA (by omega)] at ht
   subst ht
   rw [WZ]
   simp only [eG,qH,dZ,AJ,T.QGu,AA,T.QIy]
   rw [AX (by omega)]
  | succ k ih=>
   intro i N x hi hN hx ht
   obtain ⟨N,rfl⟩:∃ M,N=M+1:=⟨N - 1,by omega⟩
   have hi':i < v.length:=by omega
   have hb:=hv _ (Ae hi')
   rw [WZ]
   simp only [eG,qH,dh hi',AL,gI hi',AA,F.oF (show i < x.length by omega),wS hi' (by omega)]
   rw [Aj,show IntKind.u64.wrap v[i]=v[i] by rw [wrap_u64];omega]
   exact ih (i+1) N _ (by omega) (by omega) (by rw [BI];exact hx) (by rw [MQ _ _ _ (by omega),ht,Ah hi'])
 exact key v.length 0 big _ (by omega) (dS (by omega)) List.length_replicate rfl
open Classical in
noncomputable def QB1 (m:cB) (f:dM):List Int:=if h:∃ dep,F.IsD f.2.2.2.2.1 (bsF m f) dep then Classical.choose h else []
theorem QIj {m:cB} {f:dM} {dep:List Int} (h:F.IsD f.2.2.2.2.1 (bsF m f) dep):QB1 m f=dep:=by
 unfold QB1
 rw [dif_pos ⟨dep,h⟩]
 exact (Classical.choose_spec (⟨dep,h⟩:∃ dep,F.IsD f.2.2.2.2.1 (bsF m f) dep)).same h
open Classical in
noncomputable def uN (f:dM):List Nat:=if h:∃ fs,F.IsM f.2.2.2.2.1 (F.wm f.2.2.2.2.1) (F.low f.2.1) (F.low (f.2.2.2.1.length:Int)) fs then Classical.choose h else []
theorem QNo {f:dM} {fs:List Nat} (h:F.IsM f.2.2.2.2.1 (F.wm f.2.2.2.2.1) (F.low f.2.1) (F.low (f.2.2.2.1.length:Int)) fs):uN f=fs:=by
 unfold uN
 rw [dif_pos ⟨fs,h⟩]
 exact (Classical.choose_spec (⟨fs,h⟩:∃ fs,F.IsM f.2.2.2.2.1 (F.wm f.2.2.2.2.1) (F.low f.2.1) (F.low (f.2.2.2.1.length:Int)) fs)).same h
noncomputable def fwF (m:cB) (f:dM):Int×Int:=fwS m f f.2.2.2.2.1 (F.xX f.2.2.2.2.1) f.2.2.2.2.1.length 0
open Classical in
noncomputable def flt (m:cB) (fi:Int) (f:dM):Int×Int:=
 if F.okC f.2.2.2.2.1=false then (-1,12)
 else if fi=0/\(0 < f.2.1∨f.2.2.1≠-1) then (-1,30)
 else if (fwF m f).2≠0 then fwF m f
 else if ¬ zW m f then (-1,36)
 else if nlS f.2.2.2.2.1 (uN f) f.2.2.2.2.1.length 0≠-1 then (nlS f.2.2.2.2.1 (uN f) f.2.2.2.2.1.length 0,38)
 else (0,0)
noncomputable def vg (m:cB) (f:dM):dM:=(f.1,(f.2.1,(f.2.2.1,(f.2.2.2.1,(f.2.2.2.2.1,(T.lF (QB1 m f),(T.lF (F.ints (uN f)),())))))))
def QMC:dM:=([],(0,(0,([],([],([],([],())))))))
noncomputable def wtS (m:cB) (fi:Int) (f:dM):dM×Int×Int:=(if (flt m fi f).2=0 then vg m f else QMC,flt m fi f)
theorem QPG {m:cB} (V:Tg m) {f:dM} (v:Tc m.1.length f) (hc:F.okC f.2.2.2.2.1=true) (hz:(fwF m f).2=0):Bt m f/\∀ x∈f.2.2.2.2.1,iI m f x=true:=by
 have hrl:=F.QE0 f.2.2.2.2.1
 have key:=QIw (by omega) hrl.symm hz
 have one:∀ j,(h:j < f.2.2.2.2.1.length)->xY m f f.2.2.2.2.1[j]=true/\(F.xX f.2.2.2.2.1)[j]? = some true/\iI m f f.2.2.2.2.1[j]=true:=by
  intro j h
  obtain ⟨h',e⟩:=key j (by omega) h
  unfold QDg at e
  split at e
  ·exact absurd e (by decide)
  ·split at e
   ·exact absurd e (by decide)
   ·split at e
    ·exact absurd e (by decide)
    ·rename_i e1 e2 e3
     refine ⟨by simpa using e1,?_,by simpa using e3⟩
     rw [AU h']
     simpa using e2
 refine ⟨⟨V,v,hc,fun x hx=>?_,fun i hi=>(F.QJn hc hi).1 (one i hi).2.1⟩,fun x hx=>?_⟩
 ·obtain ⟨j,hj,rfl⟩:=List.mem_iff_getElem.1 hx
  exact (one j hj).1
 ·obtain ⟨j,hj,rfl⟩:=List.mem_iff_getElem.1 hx
  exact (one j hj).2.2
theorem Bt.low {m:cB} {f:dM} (C:Bt m f):F.QB4 f.2.2.2.2.1 f.2.1 (f.2.2.2.1.length:Int)=0:=by
 rw [F.QJZ]
 refine ⟨⟨C.v.par.1,C.v.par.2,by have:=C.v.sl;omega⟩,List.all_eq_true.2 fun x hx=>?_⟩
 have:=C.hr x hx
 simp only [xY,AP,List.all_append] at this
 simp only [F.QEF,AP]
 exact this.1
theorem QHd {m:cB} {f:dM} (C:Bt m f):o7 (f.2.2.2.2.1,f.2.1,(f.2.2.2.1.length:Int))=some (F.ints (uN f),0)/\F.IsM f.2.2.2.2.1 (F.wm f.2.2.2.2.1) (F.low f.2.1) (F.low (f.2.2.2.1.length:Int)) (uN f):=by
 have:=F.QKm (l:=f.2.2.2.2.1) f.2.1 (f.2.2.2.1.length:Int)
 unfold F.xC at this
 rw [AY C.hc,AY C.low] at this
 obtain ⟨fs,h1,h2⟩:=this
 rw [QNo h2]
 exact ⟨h1,h2⟩
theorem QIx {l:List Ins} {bs dep:List Int} (hc:F.okC l=true) (h:F.IsD l bs dep):∀ x∈dep,0<=x/\x<=1000000:=by
 obtain ⟨hl,D,hR,hd⟩:=h
 intro x hx
 obtain ⟨i,hi,rfl⟩:=List.mem_iff_getElem.1 hx
 have e:dep[i]=F.da dep i:=by simp [F.da,hi]
 rw [e]
 by_cases hr:F.Rc (F.G l) i
 ·rw [(hd i (by omega)).1 hr];have:=hR.bd hr;omega
 ·rw [(hd i (by omega)).2 hr];omega
theorem QAe {m:cB} (V:Tg m) {fi:Nat} {f:dM} (hf:m.2.2.1[fi]? = some f):gV (m,(fi:Int),vo m.1)=some (wtS m fi f):=by
 have hfi:=(Ap.1 hf).1
 have v:=V.ok f (BD hf)
 have hcd:=v.cd
 show qZ _=_
 unfold qZ
 dsimp only
 have hg:Nk m.2.2.1 (fi:Int)=some f:=by rw [gI hfi,← AU hfi,hf]
 rw [hg,AA,F.xu,AA]
 have wz:∀ q:Int×Int,flt m fi f=q->q.2≠0->some (QMC,q.1,q.2)=some (wtS m fi f):=fun q e h=>by unfold wtS;rw [e,AX h]
 cases hc:F.okC f.2.2.2.2.1 with
 | false=>
  rw [AX (by simp),show ((8:Int) != (0:Int))=true from rfl,AL]
  exact wz (-1,12) (by unfold flt;rw [AY hc]) (by decide)
 | true=>
  rw [AY rfl,show ((0:Int) != (0:Int))=false from rfl,AJ]
  have rest:¬ ((fi:Int)=0/\(0 < f.2.1∨f.2.2.1≠-1))->((bW (m,(f,()))).bind fun lS=>(bif (lS.2 != (0:Int)) then (let xq:dM:=(([]:List Int),((0:Int),((0:Int),(([]:List K.sS),(([]:List Ins),(([]:List T.TT),(([]:List T.TT),())))))));(some (xq,lS.1,lS.2))) else ((fH ((m,(f,())),vo m.1)).bind fun zS=>(bif (!zS.2) then (let x18:dM:=(([]:List Int),((0:Int),((0:Int),(([]:List K.sS),(([]:List Ins),(([]:List T.TT),(([]:List T.TT),())))))));(some (x18,(-1:Int),(36:Int)))) else ((o7 (f.2.2.2.2.1,f.2.1,(List.length f.2.2.2.1:Int))).bind fun zU=>((fG (f.2.2.2.2.1,zU.1)).bind fun x20=>(bif (x20 != (-1:Int)) then (let x21:dM:=(([]:List Int),((0:Int),((0:Int),(([]:List K.sS),(([]:List Ins),(([]:List T.TT),(([]:List T.TT),())))))));(some (x21,x20,(38:Int)))) else ((jm zS.1).bind fun zV=>((fV zU.1).bind fun x23=>(some ((f.1,(f.2.1,(f.2.2.1,(f.2.2.2.1,(f.2.2.2.2.1,(zV,(x23,f.2.2.2.2.2.2.2))))))),(0:Int),(0:Int))))))))))))=some (wtS m fi f):=by
   intro hn
   rw [QEE V v hc,AA]
   show (bif (fwF m f).2 != 0 then _ else _)=_
   by_cases hz:(fwF m f).2=0
   rotate_left
   ·rw [cO,AF hz,A8,AL]
    exact wz (fwF m f) (by unfold flt;rw [AX (by simp [hc]),AX hn,AY hz]) hz
   rw [cO,AB hz,Az,AJ]
   obtain ⟨C,_⟩:=QPG V v hc hz
   obtain ⟨dep,b,e1,hb,hd⟩:=QJX C
   obtain ⟨e2,hM⟩:=QHd C
   have h16:=hM.up hc (F.QFn (by have:=v.sl;omega))
   rw [e1,AA]
   dsimp only
   cases b with
   | false=>
    rw [A8,AL]
    have hs:¬ zW m f:=fun h=>by have:=hb.2 h;cases this
    exact wz (-1,36) (by unfold flt;rw [AX (by simp [hc]),AX hn,AX (by simp [hz]),AY hs]) (by simp)
   | true=>
    have hs:=hb.1 rfl
    have hD:=hd rfl
    rw [Az,AJ,e2,AA]
    dsimp only
    rw [QHk v.ok hcd.2 hM.1 h16,AA]
    by_cases hnl:nlS f.2.2.2.2.1 (uN f) f.2.2.2.2.1.length 0 = -1
    rotate_left
    ·rw [cO,AF hnl,A8,AL]
     exact wz (nlS f.2.2.2.2.1 (uN f) f.2.2.2.2.1.length 0,38) (by unfold flt;rw [AX (by simp [hc]),AX hn,AX (by simp [hz]),AX (by simp [hs]),AY hnl]) (by simp)
    ·have hdl:=hD.1
     rw [cO,AB hnl,Az,AJ,QLv (by omega) (by omega) (QIx hc hD),AA,QLw (by rw [F.aQ,hM.1];exact hcd.1) (by rw [F.aQ,hM.1];exact hcd.2),AA]
     have e:flt m fi f=(0,0):=by unfold flt;rw [AX (by simp [hc]),AX hn,AX (by simp [hz]),AX (by simp [hs]),AX (by simp [hnl])]
     unfold wtS
     rw [e,AY rfl,vg,QIj hD]
  by_cases h0:(fi:Int)=0
  ·have e0:((fi:Int)==(0:Int))=true:=by rw [h0];rfl
   rw [e0,AL]
   by_cases hp:f.2.1 > 0
   ·rw [AB hp,AL]
    exact wz (-1,30) (by unfold flt;rw [AX (by simp [hc]),AY ⟨h0,.inl hp⟩]) (by decide)
   rw [AF hp,AJ,cO]
   by_cases hr:f.2.2.1 = -1
   ·rw [AB hr,Az,AJ]
    exact rest fun h=>by rcases h.2 with h | h;exact hp h;exact h hr
   ·rw [AF hr,A8,AL]
    exact wz (-1,30) (by unfold flt;rw [AX (by simp [hc]),AY ⟨h0,.inr hr⟩]) (by decide)
  ·have e0:((fi:Int)==(0:Int))=false:=by rw [Ay];exact h0
   rw [e0,AJ]
   exact rest fun h=>h0 h.1
noncomputable def QC3 (m:cB):Nat->Nat->Int×Int×Int
 | 0,_=>(0,0,0)
 | k+1,i=>match m.2.2.1[i]? with
  | some f=>if (flt m i f).2≠0 then ((i:Int),flt m i f) else if f=vg m f then QC3 m k (i+1) else ((i:Int),-1,32)
  | none=>(0,0,0)
theorem QE5 {m:cB} {f:dM}:f=vg m f↔f.2.2.2.2.2.1=T.lF (QB1 m f)/\f.2.2.2.2.2.2.1=T.lF (F.ints (uN f)):=by
 obtain ⟨a,b,c,d,e,g,h,u⟩:=f
 constructor
 ·intro e
  have e2:=congrArg (fun q:dM=>(q.2.2.2.2.2.1,q.2.2.2.2.2.2.1)) e
  simp only [vg,Prod.mk.injEq] at e2
  exact e2
 ·rintro ⟨h1,h2⟩
  unfold vg
  dsimp only at h1 h2 ⊢
  rw [← h1,← h2]
theorem QKK {m:cB} (h:QJP m):pG m=some (if chk m=0 then QC3 m m.2.2.1.length 0 else (0,0,chk m)):=by
 show uO (Gb (iy big) big) m=_
 unfold uO
 rw [QDw m h,AA]
 by_cases hc:chk m=0
 rotate_left
 ·rw [cO,AF hc,A8,AL,AX hc]
 have V:=QJ8 (QF4 hc).1
 have hn:=V.fn.2
 rw [cO,AB hc,Az,AJ,AY hc,QGz V,AA]
 have key:∀ (k i N:Nat),i+k=m.2.2.1.length->k < N->Gb (iy big) N (vo m.1,m.2.2.1,(m.2.2.1.length:Int),(i:Int),m)=some (QC3 m k i):=by
  intro k
  induction k with
  | zero=>
   intro i N hi hN
   obtain ⟨N,rfl⟩:∃ M,N=M+1:=⟨N - 1,by omega⟩
   obtain rfl:i=m.2.2.1.length:=by omega
   rw [WZ]
   simp only [iy,vE,dZ,AJ]
   rfl
  | succ k ih=>
   intro i N hi hN
   obtain ⟨N,rfl⟩:∃ M,N=M+1:=⟨N - 1,by omega⟩
   have hi':i < m.2.2.1.length:=by omega
   have hx:m.2.2.1[i]? = some m.2.2.1[i]:=AU hi'
   have hb:=h.fn _ (Ae hi')
   rw [WZ]
   simp only [iy,vE,dh hi',AL,gI hi',AA,QAe V hx,QC3,hx,wS hi' (by omega)]
   generalize m.2.2.1[i]=f at hb
   by_cases hz:(flt m i f).2=0
   ·simp only [wtS,hz,if_true,cO,decide_true,Az,AJ]
    rw [QKJ _ _ hb.1,AA,QKJ _ _ hb.2,AA]
    have e1:(vg m f).2.2.2.2.2.1=T.lF (QB1 m f):=rfl
    have e2:(vg m f).2.2.2.2.2.2.1=T.lF (F.ints (uN f)):=rfl
    rw [e1,e2,AX (by simp)]
    by_cases s1:f.2.2.2.2.2.1=T.lF (QB1 m f)
    ·rw [AB s1,Az,AJ]
     by_cases s2:f.2.2.2.2.2.2.1=T.lF (F.ints (uN f))
     ·rw [AB s2,Az,AJ,AY (QE5.2 ⟨s1,s2⟩)]
      exact ih (i+1) N (by omega) (by omega)
     ·rw [AF s2,A8,AL,AX (fun e=>s2 (QE5.1 e).2)]
    ·rw [AF s1,A8,AL,AX (fun e=>s1 (QE5.1 e).1)]
   ·simp only [wtS,AX hz,cO,AF hz,A8,AL]
    rw [AY hz]
 exact key m.2.2.1.length 0 big (by omega) (dS (by omega))
theorem QEI {m:cB} (h:QJP m):fJ m=some (if chk m=0 then (QC3 m m.2.2.1.length 0).2.2 else chk m):=by
 show (pG m).bind _=_
 rw [QKK h,AA]
 split <;> rfl
theorem QPM (x:List K.sS) (h:x.length<=1000000):aj x=some x:=by
 show bn x=_
 unfold bn
 cases x with
 | nil=>rfl
 | cons a x=>
  dsimp only
  rw [show List.isEmpty (a::x)=false from rfl,AJ,QAr 2 rfl _ h]
  rfl
theorem QPN (x:List Ins) (h:x.length<=1000000):ak x=some x:=by
 show bq x=_
 unfold bq
 cases x with
 | nil=>rfl
 | cons a x=>
  dsimp only
  rw [show List.isEmpty (a::x)=false from rfl,AJ,QAr 4 rfl _ h]
  rfl
theorem QGW (x n:Int):pI (x,n)=some (K.iP x n):=by
 show vR (x,n)=_
 unfold vR K.iP
 by_cases h:0<=x
 ·simp [h]
 ·simp [h]
theorem QJR {m:cB} (h:QJP m) (hc:chk m=0) {fi:Nat} {f:dM} (hf:m.2.2.1[fi]? = some f):rH (m,(fi:Int))=some (if (flt m fi f).2=0 then (vg m f,0) else (QMC,(flt m fi f).2)):=by
 have V:=QJ8 (QF4 hc).1
 have hfi:=(Ap.1 hf).1
 have v:=V.ok f (BD hf)
 show xM (m,(fi:Int))=_
 unfold xM
 dsimp only
 have hi:K.iP (fi:Int) (m.2.2.1.length:Int)=true:=by simp [K.iP];omega
 rw [QDw m h,AA,cO,AB hc,Az,AJ,QGW,AA,hi,Az,AJ,QGz V,AA,QAe V hf,AA]
 by_cases hz:(flt m fi f).2=0
 ·simp only [wtS,hz,if_true,cO,decide_true,Az,AJ]
  have e1:(vg m f).2.2.2.1=f.2.2.2.1:=rfl
  have e2:(vg m f).2.2.2.2.1=f.2.2.2.2.1:=rfl
  rw [e1,e2,QPM _ (by have:=v.sl;omega),AA,QPN _ (by have:=v.cd.2;omega),AA]
  rfl
 ·simp only [wtS,AX hz,cO,AF hz,A8,AL]
  rfl
def Good (m:cB) (j:Nat):Prop:=∃ f,m.2.2.1[j]? = some f/\(flt m j f).2=0/\f=vg m f
theorem QDY {m:cB}:∀ {k i:Nat},i+k=m.2.2.1.length->
  (QC3 m k i=(0,0,0)/\∀ j,i<=j->j < m.2.2.1.length->Good m j)∨∃ j f,i<=j/\m.2.2.1[j]? = some f/\(∀ q,i<=q->q < j->Good m q)/\
   ((flt m j f).2≠0/\QC3 m k i=((j:Int),flt m j f)∨(flt m j f).2=0/\f≠vg m f/\QC3 m k i=((j:Int),-1,32))
 | 0,i,hi=>.inl ⟨rfl,fun j h1 h2=>by omega⟩
 | k+1,i,hi=>by
  have hx:m.2.2.1[i]? = some m.2.2.1[i]:=AU (by omega)
  simp only [QC3,hx]
  by_cases hz:(flt m i m.2.2.1[i]).2=0
  rotate_left
  ·rw [AY hz]
   exact .inr ⟨i,_,Nat.le_refl _,hx,fun q h1 h2=>by omega,.inl ⟨hz,rfl⟩⟩
  rw [AX (by simp [hz])]
  by_cases ht:m.2.2.1[i]=vg m m.2.2.1[i]
  rotate_left
  ·rw [AX ht]
   exact .inr ⟨i,_,Nat.le_refl _,hx,fun q h1 h2=>by omega,.inr ⟨hz,ht,rfl⟩⟩
  rw [AY ht]
  have hg:Good m i:=⟨_,hx,hz,ht⟩
  rcases QDY (m:=m) (show (i+1)+k=m.2.2.1.length by omega) with ⟨h1,h2⟩ | ⟨j,f,h1,h2,h3,h4⟩
  ·refine .inl ⟨h1,fun j h3 h4=>?_⟩
   by_cases e:j=i
   ·subst e;exact hg
   ·exact h2 j (by omega) h4
  ·refine .inr ⟨j,f,by omega,h2,fun q h5 h6=>?_,h4⟩
   by_cases e:q=i
   ·subst e;exact hg
   ·exact h3 q (by omega) h6
theorem QF1:aV ()=some true:=by kernel_rfl
theorem QEj {v:List Int} (h:1<=v.length):(T.lF v).length<=v.length:=T.QC4 (T.QHi (by intro e;rw [e] at h;simp at h))
theorem QM3 {m:cB} {fi:Int} {f:dM} (V:Tg m) (v:Tc m.1.length f) (hz:(flt m fi f).2=0):Bt m f/\zW m f/\nlS f.2.2.2.2.1 (uN f) f.2.2.2.2.1.length 0 = -1/\(∀ x∈f.2.2.2.2.1,iI m f x=true)/\¬ (fi=0/\(0 < f.2.1∨f.2.2.1≠-1)):=by
 unfold flt at hz
 split at hz
 ·exact absurd hz (by decide)
 rename_i h1
 split at hz
 ·exact absurd hz (by decide)
 rename_i h2
 split at hz
 ·rename_i h3;exact absurd hz h3
 rename_i h3
 split at hz
 ·exact absurd hz (by decide)
 rename_i h4
 split at hz
 ·exact absurd hz (by simp)
 rename_i h5
 obtain ⟨C,hfit⟩:=QPG V v (by simpa using h1) (by simpa using h3)
 exact ⟨C,by simpa using h4,by simpa using h5,hfit,h2⟩
theorem zW.isD {m:cB} {f:dM} (h:zW m f):F.IsD f.2.2.2.2.1 (bsF m f) (QB1 m f):=by
 obtain ⟨⟨dep,h⟩,_⟩:=h
 rw [QIj h]
 exact h
theorem QEr {m:cB} {fi:Int} {f:dM} (V:Tg m) (v:Tc m.1.length f) (hz:(flt m fi f).2=0):QPO (vg m f)/\(QB1 m f).length=f.2.2.2.2.1.length/\(uN f).length=f.2.2.2.2.1.length/\(T.lF (QB1 m f)).length<=200/\(T.lF (F.ints (uN f))).length<=200:=by
 obtain ⟨C,hs,_⟩:=QM3 V v hz
 have h1:=hs.isD.1
 have h2:=(QHd C).2.1
 have hcd:=v.cd
 have l1:=QEj (v:=QB1 m f) (by omega)
 have l2:=QEj (v:=F.ints (uN f)) (by rw [F.aQ];omega)
 rw [F.aQ] at l2
 refine ⟨⟨by have:=v.sl;show f.2.2.2.1.length<=_;omega,by show f.2.2.2.2.1.length<=_;omega,?_,?_⟩,h1,h2,by omega,by omega⟩
 ·show (T.lF (QB1 m f)).length<=_;omega
 ·show (T.lF (F.ints (uN f))).length<=_;omega
def sf (f:dM):dM:=(f.1,(f.2.1,(f.2.2.1,(f.2.2.2.1,(f.2.2.2.2.1,([],([],())))))))
def sm (m:cB):cB:=(m.1,(m.2.1,(m.2.2.1.map sf,())))
theorem QRJ (m:cB) (f:dM) (x:Ins):xY (sm m) (sf f) x=xY m f x:=by
 unfold xY
 show (_&&match yA x with | some g=>decide (g < (m.2.2.1.map sf).length) | none=>_)=_
 rw [Aw]
 rfl
theorem QRD (m:cB) (f:dM) (x:Ins):iI (sm m) (sf f) x=iI m f x:=by
 have e:∀ k:Int,(sm m).2.2.1[k.toNat]? = (m.2.2.1[k.toNat]?).map sf:=fun k=>by simp [sm]
 unfold iI
 rw [e,e,Option.map_map,Option.map_map]
 rfl
theorem QRG (m:cB) (f:dM) (x:Ins) (r:Bool):QDg (sm m) (sf f) x r=QDg m f x r:=by
 unfold QDg
 rw [QRJ,QRD]
theorem QPH (m:cB) (f:dM) (l:List Ins) (rs:List Bool):∀ k i,fwS (sm m) (sf f) l rs k i=fwS m f l rs k i
 | 0,i=>rfl
 | k+1,i=>by
  unfold fwS
  simp only [QRG,QPH m f l rs k]
theorem QM6 (m:cB) (x:Ins):tkn (sm m) x=tkn m x:=by
 have e:∀ k:Int,(sm m).2.2.1[k.toNat]? = (m.2.2.1[k.toNat]?).map sf:=fun k=>by simp [sm]
 unfold tkn
 cases yA x with
 | none=>rfl
 | some g=>
  dsimp only
  rw [e]
  cases m.2.2.1[g.toNat]? <;> rfl
theorem QPA (m:cB) (f:dM):bsF (sm m) (sf f)=bsF m f:=by
 unfold bsF
 simp only [QM6]
 rfl
theorem QRA (m:cB) (f:dM):QB1 (sm m) (sf f)=QB1 m f:=by
 have key:∀ b,b=bsF m f->(open Classical in if h:∃ dep,F.IsD f.2.2.2.2.1 b dep then Classical.choose h else [])=QB1 m f:=by
  rintro _ rfl;rfl
 exact key _ (QPA m f)
theorem QW6 (m:cB) (l:List Ins):tkF (sm m) l=tkF m l:=by
 funext i
 unfold tkF
 cases l[i]? with
 | none=>rfl
 | some x=>exact QM6 m x
theorem QRM (m:cB) (f:dM):zW (sm m) (sf f)=zW m f:=by
 unfold zW
 rw [QPA,QW6]
 rfl
theorem QLU (m:cB) (i:Int) (f:dM):flt (sm m) i (sf f)=flt m i f:=by
 have e:fwF (sm m) (sf f)=fwF m f:=QPH m f _ _ _ _
 have key:∀ (w:Int×Int) (P:Prop),w=fwF m f->P=zW m f->(open Classical in if F.okC f.2.2.2.2.1=false then ((-1,12):Int×Int)
  else if i=0/\(0 < f.2.1∨f.2.2.1≠-1) then (-1,30)
  else if w.2≠0 then w
  else if ¬ P then (-1,36)
  else if nlS f.2.2.2.2.1 (uN f) f.2.2.2.2.1.length 0≠-1 then (nlS f.2.2.2.2.1 (uN f) f.2.2.2.2.1.length 0,38)
  else (0,0))=flt m i f:=by
  rintro _ _ rfl rfl;rfl
 have k:=key _ _ e (QRM m f)
 have hm:uN (sf f)=uN f:=rfl
 rw [← k]
 unfold flt
 rfl
theorem QM4 (m:cB) (f:dM):vg (sm m) (sf f)=vg m f:=by
 unfold vg
 rw [QRA]
 rfl
noncomputable def mend (m:cB) (k:Nat) (f:dM):dM:=if (flt m k f).2=0 then vg m f else f
theorem QFq (m:cB) (k:Nat) (f:dM):sf (mend m k f)=sf f:=by
 unfold mend
 split <;> rfl
structure Mnd (m n:cB):Prop where
 ty:n.1=m.1
 tx:n.2.1=m.2.1
 fn:∀ k,n.2.2.1[k]? = (m.2.2.1[k]?).map (mend m k)
theorem Mnd.sm {m n:cB} (h:Mnd m n):sm n=sm m:=by
 have:n.2.2.1.map sf=m.2.2.1.map sf:=by
  apply List.ext_getElem?
  intro k
  rw [List.getElem?_map,List.getElem?_map,h.fn]
  cases m.2.2.1[k]? with
  | none=>rfl
  | some f=>exact congrArg some (QFq m k f)
 unfold C.sm
 rw [h.ty,h.tx,this]
theorem Mnd.len {m n:cB} (h:Mnd m n):n.2.2.1.length=m.2.2.1.length:=by
 have:=congrArg (fun q:cB=>q.2.2.1.length) h.sm
 simpa [C.sm] using this
theorem Mnd.flt {m n:cB} (h:Mnd m n) (k:Nat) (f:dM):flt n k (mend m k f)=C.flt m k f:=by
 rw [← QLU,h.sm,QFq,QLU]
theorem Mnd.tab {m n:cB} (h:Mnd m n) (k:Nat) (f:dM):vg n (mend m k f)=vg m f:=by
 rw [← QM4,h.sm,QFq,QM4]
theorem QNn {k:Nat} {p:Int} {v:List Int}:∀ r∈T.mkR k p v,r.2.1∈v:=by
 induction v generalizing k p with
 | nil=>intro r h;cases h
 | cons x v ih=>
  intro r h
  unfold T.mkR at h
  split at h
  ·exact List.mem_cons_of_mem _ (ih r h)
  ·rcases List.mem_cons.1 h with rfl | h
   ·exact List.mem_cons_self
   ·exact List.mem_cons_of_mem _ (ih r h)
theorem QEk {v:List Int}:∀ r∈T.lF v,r.2.1∈v:=by
 cases v with
 | nil=>intro r h;cases h
 | cons x v=>
  intro r h
  rcases List.mem_cons.1 h with rfl | h
  ·exact List.mem_cons_self
  ·exact List.mem_cons_of_mem _ (QNn r h)
theorem Mnd.all {m n:cB} (h:Mnd m n) (V:Tg m) (ha:QAf m):QAf n:=by
 have mem:∀ f∈n.2.2.1,f∈m.2.2.1∨∃ (k:Nat) (g:dM),g∈m.2.2.1/\(C.flt m k g).2=0/\f=vg m g:=by
  intro f hf
  obtain ⟨k,hk,rfl⟩:=List.mem_iff_getElem.1 hf
  have e:=h.fn k
  rw [AU hk] at e
  cases hg:m.2.2.1[k]? with
  | none=>rw [hg] at e;cases e
  | some g=>
   rw [hg,BH,Ac] at e
   have hm:=BD hg
   rw [e]
   unfold mend
   by_cases hz:(C.flt m k g).2=0
   ·rw [AY hz];exact .inr ⟨k,g,hm,hz,rfl⟩
   ·rw [AX hz];exact .inl hm
 refine ⟨by rw [h.ty];exact ha.ty,fun f hf=>?_,fun f hf=>?_⟩
 ·rcases mem f hf with hf | ⟨k,g,hg,hz,rfl⟩
  ·exact ha.fn f hf
  ·obtain ⟨_,_,_,l1,l2⟩:=QEr V (V.ok g hg) hz
   exact ⟨(ha.fn g hg).1,by show (T.lF _).length<=_;omega,by show (T.lF _).length<=_;omega⟩
 ·rcases mem f hf with hf | ⟨k,g,hg,hz,rfl⟩
  ·exact ha.mem f hf
  ·obtain ⟨b1,b2,b3,b4⟩:=ha.mem g hg
   obtain ⟨Ag,hs,_⟩:=QM3 V (V.ok g hg) hz
   refine ⟨b1,b2,fun r hr=>?_,fun r hr=>?_⟩
   ·have:=QIx Ag.hc hs.isD _ (QEk r hr)
    exact ⟨this.1,by omega⟩
   ·have hx:=QEk r hr
    obtain ⟨i,hi,e⟩:=List.mem_iff_getElem.1 hx
    have hu:=(QHd Ag).2.up Ag.hc (F.QFn (by have:=Ag.v.sl;omega)) i
    rw [F.aQ] at hi
    have e2:=F.QFp (ms:=uN g) hi
    rw [← e]
    have e3:Nk (F.ints (uN g)) (i:Int)=some (F.ints (uN g))[i]:=gI (by rw [F.aQ];exact hi)
    rw [e3,Ac] at e2
    rw [e2]
    omega
theorem Mnd.good {m n:cB} (h:Mnd m n) (hz:∀ (k:Nat) f,m.2.2.1[k]? = some f->(C.flt m k f).2=0) {k:Nat} (hk:k < m.2.2.1.length):Good n k:=by
 have hx:m.2.2.1[k]? = some m.2.2.1[k]:=AU hk
 have hn:=h.fn k
 rw [hx,BH] at hn
 have h0:=hz k _ hx
 refine ⟨_,hn,by rw [h.flt];exact h0,?_⟩
 rw [h.tab]
 unfold mend
 rw [AY h0]
theorem QDZ {m:cB} (h:(QC3 m m.2.2.1.length 0).2.2=0) {k:Nat} (hk:k < m.2.2.1.length):Good m k:=by
 rcases QDY (m:=m) (k:=m.2.2.1.length) (i:=0) (by omega) with ⟨_,hg⟩ | ⟨j,f,_,_,_,⟨h1,h2⟩ | ⟨_,_,h2⟩⟩
 ·exact hg k (by omega) hk
 ·rw [h2] at h;exact absurd h h1
 ·rw [h2] at h;exact absurd (show (32:Int)=0 from h) (by decide)
theorem QLS {m:cB} (h:∀ k,k < m.2.2.1.length->Good m k):(QC3 m m.2.2.1.length 0).2.2=0:=by
 rcases QDY (m:=m) (k:=m.2.2.1.length) (i:=0) (by omega) with ⟨e,_⟩ | ⟨j,f,_,hf,_,⟨h1,h2⟩ | ⟨_,h1,h2⟩⟩
 ·rw [e]
 ·obtain ⟨g,g1,g2,_⟩:=h j (Ap.1 hf).1
  rw [hf,Ac] at g1
  subst g1
  exact absurd g2 h1
 ·obtain ⟨g,g1,_,g3⟩:=h j (Ap.1 hf).1
  rw [hf,Ac] at g1
  subst g1
  exact absurd g3 h1
theorem Mnd.same {m n:cB} (h:Mnd m n) (hg:∀ k,k < m.2.2.1.length->Good m k):m=n:=by
 have:n.2.2.1=m.2.2.1:=by
  apply List.ext_getElem?
  intro k
  rw [h.fn]
  by_cases hk:k < m.2.2.1.length
  ·obtain ⟨f,f1,f2,f3⟩:=hg k hk
   rw [f1,BH]
   unfold mend
   rw [AY f2,← f3]
  ·rw [Av (by omega)];rfl
 obtain ⟨a,b,c,u⟩:=m
 obtain ⟨a',b',c',u'⟩:=n
 have h1:=h.ty
 have h2:=h.tx
 simp only at h1 h2 this
 rw [h1,h2,this]
theorem QLy {α:Type} {l:List α} {i:Nat} (h:i < l.length) (x:α) (k:Nat):(l.set i x)[k]? = if k=i then some x else l[k]?:=by
 rw [List.getElem?_set]
 by_cases e:i=k
 ·subst e;simp [h]
 ·rw [AX e,AX (fun q=>e q.symm)]
theorem QNm {m:cB} (ha:QAf m) (hB:QPg m) (hc:chk m=0) (aG) :
  Gb (dI big aG) big (true,0,m,m.1,m.2.1,m.2.2.1)=some true:=by
 have V:=QJ8 (QF4 hc).1
 have hn:=V.fn.2
 refine Qi (g:=dI big aG) (n:=m.2.2.1.length) (fun (s:Bool×List dM) (i:Nat)=>(s.1,(i:Int),m,m.1,m.2.1,s.2))
  (fun i s=>(∀ k,s.2[k]? = if k < i then (m.2.2.1[k]?).map (mend m k) else m.2.2.1[k]?)/\(s.1=true↔∀ k,k < i->∀ f,m.2.2.1[k]? = some f->(flt m k f).2=0)) (fun r=>r=some true) ?_ ?_ m.2.2.1.length 0 big (by omega) (dS (by omega)) (true,m.2.2.1)
  ⟨fun k=>by rw [AX (by omega)],by simp⟩
 ·rintro self ⟨all,out⟩ ⟨h1,h2⟩
  dsimp only at h1 h2
  have M:Mnd m (m.1,(m.2.1,(out,()))):=⟨rfl,rfl,fun k=>by
   show out[k]? = _
   rw [h1]
   split
   ·rfl
   ·rename_i h;rw [Av (by omega)];rfl⟩
  have A:=M.all V ha
  simp only [dI,nR,dZ,AJ,QEI ha.l,AY hc,AA,QJ2 _ A,QEI A.l,QNs _ _ hB,QF1]
  generalize hn':((m.1,(m.2.1,(out,()))):cB)=n at M A
  have ho:out.length=n.2.2.1.length:=by rw [← hn']
  rw [ho]
  generalize he:(QC3 m m.2.2.1.length 0).2.2=e
  generalize he':(if chk n=0 then (QC3 n n.2.2.1.length 0).2.2 else chk n)=e'
  cases all with
  | true=>
   have hz:=fun k f hf=>h2.1 rfl k (Ap.1 hf).1 f hf
   have h0:chk n=0->e'=0:=fun h=>by
    rw [← he',AY h]
    exact QLS fun k hk=>M.good hz (by rw [← M.len];exact hk)
   have hs:e=0->m=n:=fun h=>M.same fun k hk=>QDZ (he.trans h) hk
   by_cases c1:chk n=0
   ·rw [h0 c1]
    by_cases c2:e=0
    ·simp [c1,c2,hs c2,cO,K.mR]
    ·simp [c1,c2,cO,K.mR]
   ·by_cases c2:e=0
    ·simp [c1,c2,hs c2,cO,K.mR]
    ·simp [c1,c2,cO,K.mR]
  | false=>
   have hb:∃ (k:Nat) (f:dM),m.2.2.1[k]? = some f/\(flt m k f).2≠0:=by
    apply Classical.byContradiction
    intro hno
    have:false=true:=h2.2 fun k _ f hf=>by
     apply Classical.byContradiction
     intro hz
     exact hno ⟨k,f,hf,hz⟩
    cases this
   obtain ⟨k,f,hf,hz⟩:=hb
   have hk:=(Ap.1 hf).1
   have c2:e≠0:=fun h=>by
    obtain ⟨g,g1,g2,_⟩:=QDZ (he.trans h) hk
    rw [hf,Ac] at g1
    subst g1
    exact hz g2
   have c3:e'≠0:=by
    rw [← he']
    split
    ·intro h
     obtain ⟨g,g1,g2,_⟩:=QDZ h (show k < n.2.2.1.length by rw [M.len];exact hk)
     rw [M.fn,hf,BH,Ac] at g1
     subst g1
     rw [M.flt] at g2
     exact hz g2
    ·assumption
   simp [c2,c3,cO,K.mR]
 ·rintro self ⟨all,out⟩ i hi ⟨h1,h2⟩
  left
  dsimp only at h1 h2
  have hx:m.2.2.1[i]? = some m.2.2.1[i]:=AU hi
  have hlen:out.length=m.2.2.1.length:=by
   apply Nat.le_antisymm
   ·apply Nat.le_of_not_lt
    intro hlt
    have e:=h1 m.2.2.1.length
    rw [AX (by omega),AU hlt,Av (by omega)] at e
    cases e
   ·apply Nat.le_of_not_lt
    intro hlt
    have e:=h1 out.length
    rw [Av (by omega)] at e
    split at e
    ·rw [AU hlt] at e;cases e
    ·rw [AU hlt] at e;cases e
  have v:=V.ok _ (BD hx)
  simp only [dI,nR,dh hi,AL,QJR ha.l hc hx,AA,gI hi,wS hi (by omega)]
  by_cases hz:(flt m i m.2.2.1[i]).2=0
  ·rw [AY hz]
   refine ⟨(all,out.set i (vg m m.2.2.1[i])),⟨fun k=>?_,?_⟩,?_⟩
   ·rw [QLy (by omega),h1]
    by_cases hk:k=i
    ·subst hk
     rw [AY rfl,AY (by omega),hx,BH,mend,AY hz]
    ·rw [AX hk]
     by_cases hki:k < i
     ·rw [AY hki,AY (by omega)]
     ·rw [AX hki,AX (by omega)]
   ·refine h2.trans ⟨fun h k hk f hf=>?_,fun h k hk f hf=>h k (by omega) f hf⟩
    by_cases hki:k=i
    ·subst hki
     rw [hx,Ac] at hf
     subst hf;exact hz
    ·exact h k (by omega) f hf
   ·dsimp only
    rw [QGv _ _ (QEr V v hz).1,AA,AB (by rfl),show decide (0<=(i:Int))=true from AB (by omega),AB (show (i:Int) < (out.length:Int) by omega),Aj]
    rfl
  ·rw [AX hz]
   refine ⟨(false,out),⟨fun k=>?_,?_⟩,?_⟩
   ·rw [h1]
    by_cases hk:k=i
    ·subst hk
     rw [AX (by omega),AY (by omega),hx,BH,mend,AX hz]
    ·by_cases hki:k < i
     ·rw [AY hki,AY (by omega)]
     ·rw [AX hki,AX (by omega)]
   ·constructor
    ·intro h;cases h
    ·intro h;exact absurd (h i (by omega) _ hx) hz
   ·rw [cO,AF hz]
    rfl
theorem QFr (m:cB) (w:XF [QKe] m):wC m=some true:=by
 show lK (Gb (dH big) big) m=_
 unfold lK
 obtain ⟨b,h1,h2⟩:=QHr m
 rw [h1,AA]
 cases b with
 | true=>rw [AL,QF1];rfl
 | false=>
  obtain ⟨ha,hb⟩:=QRT w (h2 rfl)
  rw [AJ,QJ2 m ha,AA,cO]
  by_cases hc:chk m=0
  rotate_left
  ·rw [AF hc,A8,AL,QF1];rfl
  have V:=QJ8 (QF4 hc).1
  have hn:=V.fn.2
  rw [AB hc,Az,AJ,K.QLq _ (by have:=V.ty;omega) ha.ty.2,AA]
  rw [QAr 1 rfl _ (by have:=V.tx;omega),AL]
  refine Qi (g:=dH big) (n:=m.2.2.1.length) (fun (s:List dM) (i:Nat)=>((i:Int),m,(),([]:List K.cK),([]:List (List Int)),([]:List dM),m.1,m.2.1,s,m))
   (fun i s=>s=m.2.2.1.take i) (fun r=>r=some true) ?_ ?_ m.2.2.1.length 0 big (by omega) (dS (by omega)) [] rfl
  ·rintro self s rfl
   simp only [dH,iU,dZ,AJ]
   rw [BA (by omega)]
   exact QNm ha hb hc _
  ·rintro self s i hi rfl
   left
   have hx:m.2.2.1[i]? = some m.2.2.1[i]:=AU hi
   have hm:=Ae hi
   have v:=V.ok _ hm
   have hr:=(hb.fn.2 _ hm)
   refine ⟨m.2.2.1.take (i+1),rfl,?_⟩
   simp only [dH,iU,dh hi,AL,gI hi,AA,wS hi (by omega)]
   rw [QAr 2 rfl _ hr.sl,AL,QAr 4 rfl _ hr.code,AL,QAr 2 rfl _ hr.s1,AL,QAr 2 rfl _ hr.s2,AL,QRK 7 rfl _ _ (by rw [BJ];omega),AL]
   rw [Ah hi]
   rfl
end Go.Proofs.YtbgmjjplddddnaaGreatDoor.C
