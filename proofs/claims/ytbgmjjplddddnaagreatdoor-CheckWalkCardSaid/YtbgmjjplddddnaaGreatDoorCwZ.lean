import Derived.Test.YtbgmjjplddddnaaGreatDoorCwF4
set_option linter.unusedVariables false
set_option linter.unusedSimpArgs false
set_option linter.unusedSectionVars false
set_option maxRecDepth 100000
namespace Go.Proofs.YtbgmjjplddddnaaGreatDoor.C
open Go.Lift
structure Zu (n:Nat) (f:cO):Prop where
 sl:f.2.2.2.1.length<=16
 ty:∀ s∈f.2.2.2.1,0<=s.2.1/\s.2.1 < n
 par:0<=f.2.1/\f.2.1<=f.2.2.2.1.length
 res:f.2.2.1 = -1∨0<=f.2.2.1/\f.2.2.1 < n
 cd:1<=f.2.2.2.2.1.length/\f.2.2.2.2.1.length<=200
 ok:∀ x∈f.2.2.2.2.1,rF x=true
structure Zv (m:cK):Prop where
 ty:m.1.length<=32
 tx:m.2.1.length<=32
 fn:1<=m.2.2.1.length/\m.2.2.1.length<=32
 ok:∀ f∈m.2.2.1,Zu m.1.length f
 sz:K.Valid m.1/\∀ i:Nat,i < m.1.length->K.sz (K.exS m.1) i<=256
theorem QMg {x n:Int} (h:K.iL x n=true):0<=x/\x < n:=by simpa [K.iL] using h
theorem QNC {m:cK} (h:QA1 m=true):Zv m:=by
 simp only [QA1,vT,zZ,QAi,AP,AZ] at h
 obtain ⟨⟨hv,hsz⟩,⟨htx,_⟩,h1,h2,hf,_⟩:=h
 refine ⟨hv.1,htx,⟨h1,h2⟩,fun f hf'=>?_,hv,fun i hi=>?_⟩
 ·have:=List.all_eq_true.1 hf f hf'
  simp only [okF,QAU,QBW,AP,Bool.or_eq_true,AZ] at this
  obtain ⟨⟨s1,s2,_⟩,p1,p2,r,⟨c1,c2,c3⟩,_⟩:=this
  exact ⟨s1,fun s hs=>QMg (List.all_eq_true.1 s2 s hs),⟨p1,p2⟩,r.imp id QMg,⟨c1,c2⟩,fun x hx=>List.all_eq_true.1 c3 x hx⟩
 ·have:=List.all_eq_true.1 hsz i (by simp [List.mem_range'_1];exact hi)
  simpa using this
theorem gu {α:Type} {l:List α} {i:Int} (h0:0<=i) (h1:i < l.length):∃ x,Nk l i=some x/\l[i.toNat]? = some x/\x∈l:=by
 obtain ⟨k,rfl⟩:=BK h0
 have hk:k < l.length:=by omega
 exact ⟨l[k],gI hk,by simp [hk],Ae hk⟩
def lF (f:cO) (s:Int):Int:=((f.2.2.2.1[s.toNat]?).map fun z=>z.2.1).getD 0
def zQ (l:List K.dI) (t:Int):Int:=((l[t.toNat]?).map fun z=>z.1).getD 0
def kL (f:cO) (s:Int):Prop:=0<=s/\s < f.2.2.2.1.length
theorem gU (m:cK) {f:cO} {s:Int} (h:kL f s):aQ ((m,f,()),s)=some (lF f s):=by
 obtain ⟨x,h1,h2,_⟩:=gu h.1 h.2
 show oD _=_
 unfold oD
 dsimp only
 rw [h1,AA,lF,h2]
 rfl
theorem QFb {n:Nat} {f:cO} (v:Zu n f) {s:Int} (h:kL f s):0<=lF f s/\lF f s < n:=by
 obtain ⟨x,h1,h2,h3⟩:=gu h.1 h.2
 rw [lF,h2]
 exact v.ty x h3
theorem QE1 {l:List K.dI} {t:Int} (h:0<=t/\t < l.length):∃ x,Nk l t=some x/\l[t.toNat]? = some x/\x∈l/\zQ l t=x.1:=by
 obtain ⟨x,h1,h2,h3⟩:=gu h.1 h.2
 exact ⟨x,h1,h2,h3,by rw [zQ,h2];rfl⟩
theorem yc {m:cK} {f:cO} (v:Zu m.1.length f) {s:Int} (h:kL f s):bC ((m,f,()),s)=some (zQ m.1 (lF f s)):=by
 obtain ⟨x,h1,_,_,h2⟩:=QE1 (QFb v h)
 show ny _=_
 unfold ny
 dsimp only
 rw [gU m h,AA,h1,AA,h2]
theorem QIA {m:cK} {f:cO} (v:Zu m.1.length f) (k:Int) (l:List Int) (hl:l.length<=1000) (h:∀ s∈l,kL f s):aN ((m,f,()),k,l)=some (l.all fun s=>decide (zQ m.1 (lF f s)=k)):=by
 show nQ (Gb (dS big) big) _=_
 unfold nQ
 have:=ah (g:=dS big) (mk:=fun i=>(l,(l.length:Int),(i:Int),(m,f,()),k)) (p:=fun i=>(l[i]?).all fun s=>decide (zQ m.1 (lF f s)=k)) (no:=some false) (kk:=some true) (n:=l.length)
  (fun self i hi=>by
   simp only [dS,pE,dz hi,AL,gI hi,AA,yc v (h _ (Ae hi)),wS hi (by omega),pat hi]
   by_cases e:zQ m.1 (lF f l[i])=k
   ·simp [e]
   ·have e2:(zQ m.1 (lF f l[i]) != k)=true:=by simp [e]
    have e3:decide ((i:Int)≥0)=true:=AB (by omega)
    simp only [e2,e,decide_false,AL,AJ,e3]
    rfl)
  (fun self=>by simp only [dS,pE,dx,AJ];rfl) l.length 0 big (by omega) (dP (by omega))
 rw [QBf,show ((0:Nat):Int)=0 from rfl] at this
 dsimp only
 rw [this]
 cases l.all _ <;> rfl
theorem QBe (k:Int) (l:List Int) (hl:l.length<=1000):ji (k,l)=some (decide (k∈l)):=by
 show (bT (l,k)).bind _=_
 rw [K.QCx l k hl]
 rfl
def QIe (k:Int):Bool:=decide (k∈([2,1,4]:List Int))
theorem QEP (k:Int):lq k=some (QIe k):=by
 show wO k=_
 unfold wO
 dsimp only
 rw [QBe _ _ (by simp)]
 rfl
def QGP (l:List K.dI) (f:cO) (s o c:Int):Bool:=((l[(lF f o).toNat]?).bind fun t=>(t.2.2.2.1[c.toNat]?).map fun g=>decide (g.2.1=lF f s)).getD false
theorem QEN {m:cK} {f:cO} (v:Zu m.1.length f) {s o c:Int} (hs:kL f s) (ho:kL f o) (hc:0<=c):dZ ((m,f,()),s,o,c)=some (QGP m.1 f s o c):=by
 obtain ⟨x,h1,h2,_,_⟩:=QE1 (QFb v ho)
 show mh _=_
 unfold mh QGP
 dsimp only
 rw [gU m ho,AA,h1,AA,h2,AA]
 by_cases hlt:c < x.2.2.2.1.length
 ·obtain ⟨g,g1,g2,_⟩:=gu hc hlt
  rw [AB hlt,AL,g1,AA,gU m hs,AA,g2]
  rfl
 ·rw [AF hlt,AJ,Av (by omega)]
  rfl
def QFC (l:List K.dI) (f:cO) (s o:Int) (ks:List Int):Bool:=decide (zQ l (lF f o)∈ks)&&decide ((((l[(lF f o).toNat]?).map fun t=>t.2.1).getD 0)=lF f s)
theorem QAg {m:cK} {f:cO} (v:Zu m.1.length f) {s o:Int} {ks:List Int} (hs:kL f s) (ho:kL f o) (hk:ks.length<=1000):bM ((m,f,()),s,o,ks)=some (QFC m.1 f s o ks):=by
 obtain ⟨x,h1,h2,_,_⟩:=QE1 (QFb v ho)
 show nu _=_
 unfold nu QFC
 dsimp only
 rw [yc v ho,AA,QBe _ _ hk,AA]
 by_cases hm:zQ m.1 (lF f o)∈ks
 ·rw [AB hm,AL,gU m ho,AA,h1,AA,gU m hs,AA,h2,Ai]
  rfl
 ·rw [AF hm,AJ,Bool.false_and]
def QOx (f:cO) (s r:Int):Bool:=decide (s = -1)||decide (lF f s=r)
theorem QAV (m:cK) {f:cO} {s:Int} (g:cO) (hs:s≠-1->kL f s):bS ((m,f,()),s,g)=some (QOx f s g.2.2.1):=by
 show iW _=_
 unfold iW QOx
 dsimp only
 by_cases h:s = -1
 ·simp [h]
 ·have e:(s==(-1:Int))=false:=by simp [h]
  rw [e,AJ,gU m (hs h),AA,AF h,Bool.false_or]
  rfl
def QMo (l:List K.dI) (g:cO):Bool:=decide (g.2.2.1 = -1)&&(decide (g.2.1=0)||decide (g.2.1=1)&&QIe (zQ l (lF g 0)))
theorem QBV {m:cK} (f:cO) {g:cO} (v:Zu m.1.length g):cZ ((m,f,()),g)=some (QMo m.1 g):=by
 show j4 _=_
 unfold j4 QMo
 dsimp only
 by_cases h:g.2.2.1 = -1
 rotate_left
 ·have e:(g.2.2.1 != (-1:Int))=true:=by simp [h]
  rw [e,AL,AF h,Bool.false_and]
 have e:(g.2.2.1 != (-1:Int))=false:=by simp [h]
 rw [e,AJ,AB h,Ai]
 by_cases h1:g.2.1 > 1
 ·rw [AB h1,AL,AF (by omega),AF (by omega)]
  rfl
 rw [AF h1,AJ]
 by_cases h2:g.2.1=0
 ·have e:(g.2.1==(0:Int))=true:=by simp [h2]
  rw [e,AL,AB h2,Bool.true_or]
 have h3:g.2.1=1:=by have:=v.par.1;omega
 have e:(g.2.1==(0:Int))=false:=by simp [h2]
 have h0:kL g 0:=⟨Int.le_refl _,by have:=v.par.2;omega⟩
 obtain ⟨z,z1,z2,z3⟩:=gu h0.1 h0.2
 have hz:lF g 0=z.2.1:=by rw [lF,z2];rfl
 obtain ⟨x,x1,_,_,x2⟩:=QE1 (QFb v h0)
 rw [hz] at x1 x2
 rw [e,AJ,z1,AA,x1,AA,QEP,AA,AF h2,AB h3,Bool.false_or,Ai,hz,x2]
def rO (x:Ins):Option Int:=if x.1=25 then some x.2.2.1 else if x.1=26∨x.1=27 then some x.2.1 else none
theorem QF8 (x:Ins):oF x=some ((rO x).getD 0,(rO x).isSome):=by
 show yB x=_
 unfold yB rO
 by_cases a:x.1=25
 ·simp [a]
 by_cases b:x.1=26
 ·simp [b]
 by_cases c:x.1=27
 ·simp [c]
 simp [a,b,c,bY]
theorem role {x:Ins} (h:rF x=true) {k:Nat} (e:x.1=(k:Int)) {a b c:Int} (hr:lY (k:Int)=[a,b,c]):fit a x.2.1=true/\fit b x.2.2.1=true/\fit c x.2.2.2.1=true/\F.rS x=rs1 a x.2.1++(rs1 b x.2.2.1++(rs1 c x.2.2.2.1++[]))/\F.wS x=ws1 a x.2.1++(ws1 b x.2.2.1++(ws1 c x.2.2.2.1++[])):=by
 obtain ⟨a',b',c',ho,er,ha,hb,hc,fa,fb,fc⟩:=kg h
 rw [e,hr] at er
 simp only [List.cons.injEq,and_true] at er
 obtain ⟨rfl,rfl,rfl⟩:=er
 refine ⟨fa,fb,fc,?_,?_⟩
 ·show rsL (lY x.1) (vals x)=_
  rw [e,hr];rfl
 ·show wsL (lY x.1) (vals x)=_
  rw [e,hr];rfl
theorem QBU {x:Ins} (h:rF x=true) {g:Int} (hg:rO x=some g):0<=g:=by
 unfold rO at hg
 split at hg
 ·rename_i e
  cases hg
  obtain ⟨_,fb,_⟩:=role h (k:=25) e (show lY ((25:Nat):Int)=[4,9,0] by decide +kernel)
  simp [fit,idx] at fb;omega
 ·split at hg
  ·rename_i e
   cases hg
   rcases e with e | e
   ·obtain ⟨fa,_⟩:=role h (k:=26) e (show lY ((26:Nat):Int)=[9,0,0] by decide +kernel)
    simp [fit,idx] at fa;omega
   ·obtain ⟨fa,_⟩:=role h (k:=27) e (show lY ((27:Nat):Int)=[9,0,0] by decide +kernel)
    simp [fit,idx] at fa;omega
  ·cases hg
theorem QKI (l:List (List Int)) (hl:l.length<=1000) (h:l.flatten.length<=1000000):cu l=some l.flatten:=by
 have k1:∀ M aI,Gb (bA (fun _=>List.replicate) M aI) big (l,(l.length:Int),((0:Nat):Int),([]:List Int))=some l.flatten:=by
  intro M aI
  have:=fF (g:=bA (fun _=>List.replicate) M aI) (mk:=fun i x=>(l,(l.length:Int),(i:Int),x)) (l:=l) (cod:=fun x=>x) (kk:=fun x=>some x) (B:=1000000)
   (fun self i x hi hx=>by
    simp only [bA,iV,dz hi,AL,gI hi,AA,wS hi (by omega),bI (show x.length+l[i].length<=L36 by simp only [L36];omega)]
    rfl)
   (fun self x _=>by simp only [bA,iV,dx,AJ]) l.length 0 big [] (by omega) (dP (by omega)) (by simpa using h)
  simpa using this
 have k0:∀ M self (n:Nat),n<=1000000->M=big->ay (fun _=>List.replicate) M self (l,(n:Int),l,(l.length:Int),(l.length:Int))=if n=l.flatten.length then some l.flatten else ay (fun _=>List.replicate) M self (l,(n:Int),l,(l.length:Int),(l.length:Int)):=by
  intro M self n hn hM
  split
  ·rename_i e
   subst hM
   show bB _ _ _ _=_
   unfold bB
   dsimp only
   rw [dx,AJ,AF (show ¬ (n:Int) < 0 by omega),AJ]
   have z:IntKind.i64.wrap ((0:Int) - (List.length ([]:List Int):Int))=0:=by decide
   have s:IntKind.i64.wrap ((n:Int) - 0)=(n:Int):=by rw [T.t64 (by omega) (by omega)];omega
   rw [z,s]
   by_cases h0:n=0
   ·rw [AF (show ¬ (n:Int) > 0 by omega),AJ]
    exact k1 _ _
   ·have e2:(decide (1<=(n:Int))&&decide ((n:Int)<=(lim:Int)))=true:=by
     rw [AB (show (1:Int)<=(n:Int) by omega),AB (show (n:Int)<=(lim:Int) by show _<=((68719476736:Nat):Int);omega)];rfl
    have e3:(Nat.ble 1 1&&Nat.ble (List.length ([]:List Int)+List.length (List.replicate (Int.toNat (n:Int)) (0:Int))) lim)=true:=bI (by rw [List.length_replicate,Aj];show 0+_<=68719476736;omega)
    have e4:(decide (0<=(List.length ([]:List Int):Int))&&decide ((List.length ([]:List Int):Int)<=(List.length (List.append ([]:List Int) (List.replicate (Int.toNat (n:Int)) (0:Int))):Int)))=true:=by simp
    rw [AB (show (n:Int) > 0 by omega),AL,AB (show (0:Int)=0 from rfl),AL,e2,AL,e3,AL,e4,AL]
    exact k1 _ _
  ·rfl
 have k2:∀ (k i N n:Nat),i+k=l.length->k < N->n+(l.drop i).flatten.length=l.flatten.length->Gb (ay (fun _=>List.replicate) big) N (l,(n:Int),l,(l.length:Int),(i:Int))=some l.flatten:=by
  intro k
  induction k with
  | zero=>
   intro i N n hi hN hn
   obtain ⟨N,rfl⟩:∃ M,N=M+1:=⟨N - 1,by omega⟩
   obtain rfl:i=l.length:=by omega
   rw [WZ,k0 _ _ _ (by omega) rfl,AY (by simpa using hn)]
  | succ k ih=>
   intro i N n hi hN hn
   obtain ⟨N,rfl⟩:∃ M,N=M+1:=⟨N - 1,by omega⟩
   have hi':i < l.length:=by omega
   rw [A9 hi',List.flatten_cons,AQ] at hn
   have a1:IntKind.i64.wrap ((n:Int)+(List.length l[i]:Int))=((n+l[i].length:Nat):Int):=by rw [T.t64 (by omega) (by omega)];omega
   rw [WZ]
   show bB _ _ _ _=_
   unfold bB
   dsimp only
   rw [dz hi',AL,gI hi',AA,a1,AF (show ¬ ((n+l[i].length:Nat):Int) < 0 by omega),AJ,wS hi' (by omega)]
   exact ih (i+1) N _ (by omega) (by omega) (by omega)
 show fJ (fun _=>List.replicate) (Gb (ay (fun _=>List.replicate) big) big) l=_
 unfold fJ
 exact k2 l.length 0 big 0 (by omega) (dP (by omega)) (by simp)
theorem QIp (a b:List Int) (h:a.length+b.length<=1000000):cu [a,b]=some (a++b):=by
 rw [QKI _ (by simp) (by simpa using h)]
 simp
theorem QEj {x:Ins} (h:rF x=true):o9 x=some (F.rS x,F.wS x,0):=by rw [QH0,AY h];rfl
def tO (m:cK) (f:cO) (x:Ins):Bool:=(F.rS x++F.wS x).all (fun s=>decide (s < f.2.2.2.1.length))&&match rO x with
 | some g=>decide (g < m.2.2.1.length)
 | none=>!decide (x.1=2)||decide (x.2.2.1 < m.2.1.length)
theorem QBd (m:cK) (f:cO) {x:Ins} (h:rF x=true):fG ((m,f,()),x)=some (tO m f x):=by
 obtain ⟨s1,s2,s3,s4⟩:=F.yN h
 show fI (Gb (av big) big) _=_
 unfold fI
 dsimp only
 rw [QEj h,AA]
 dsimp only
 rw [QIp _ _ (by omega),AA]
 have hlen:(F.rS x++F.wS x).length<=6:=by simp;omega
 generalize hl:F.rS x++F.wS x=l at hlen
 have:=ah (g:=av big) (mk:=fun i=>((l.length:Int),(i:Int),(m,f,()),x,l)) (p:=fun i=>(l[i]?).all fun (s:Int)=>decide (s < (f.2.2.2.1.length:Int))) (no:=some false)
  (kk:=some (match rO x with | some g=>decide (g < (m.2.2.1.length:Int)) | none=>!decide (x.1=2)||decide (x.2.2.1 < (m.2.1.length:Int)))) (n:=l.length)
  (fun self i hi=>by
   simp only [av,iT,dz hi,AL,F.mZ hi,F.zY (AU hi),AA,wS hi (by omega),pat hi]
   by_cases e:l[i] < (f.2.2.2.1.length:Int)
   ·rw [AB e,AF (show ¬ l[i]≥(f.2.2.2.1.length:Int) by omega)];rfl
   ·rw [AF e,AB (show l[i]≥(f.2.2.2.1.length:Int) by omega)];rfl)
  (fun self=>by
   simp only [av,iT,dx,AJ,QF8,AA]
   cases hc:rO x with
   | some g=>simp
   | none=>
    by_cases e:x.1=2
    ·simp [e]
    ·simp [e,bne,bY]) l.length 0 big (by omega) (dP (by omega))
 rw [QBf,show ((0:Nat):Int)=0 from rfl] at this
 rw [this,tO,hl]
 cases hc:rO x <;> cases l.all _ <;> rfl
def gK (m:cK) (f:cO) (x:Ins):Bool:=
 if x.1=1∨x.1=32 then decide (zQ m.1 (lF f x.2.1)=2)
 else if x.1=2 then decide (zQ m.1 (lF f x.2.1)=3)
 else if x.1=3∨x.1=23 then decide (zQ m.1 (lF f x.2.1)=1)
 else if x.1=5 then decide (lF f x.2.1=lF f x.2.2.1)
 else if x.1=6∨x.1=7∨x.1=8∨x.1=9 then decide (zQ m.1 (lF f x.2.1)=2)&&(decide (zQ m.1 (lF f x.2.2.1)=2)&&decide (zQ m.1 (lF f x.2.2.2.1)=2))
 else if x.1=10 then decide (zQ m.1 (lF f x.2.1)=1)&&(decide (zQ m.1 (lF f x.2.2.1)=2)&&decide (zQ m.1 (lF f x.2.2.2.1)=2))
 else if x.1=11 then decide (zQ m.1 (lF f x.2.1)=1)&&(decide (lF f x.2.2.1=lF f x.2.2.2.1)&&QIe (zQ m.1 (lF f x.2.2.1)))
 else if x.1=12 then decide (zQ m.1 (lF f x.2.1)=1)&&decide (zQ m.1 (lF f x.2.2.1)=1)
 else if x.1=13 then QGP m.1 f x.2.1 x.2.2.1 x.2.2.2.1
 else if x.1=14 then QGP m.1 f x.2.2.2.1 x.2.1 x.2.2.1
 else if x.1=15 then decide (zQ m.1 (lF f x.2.1)=4)
 else if x.1=16 then QFC m.1 f x.2.1 x.2.2.1 [4]
 else if x.1=17 then QFC m.1 f x.2.2.1 x.2.1 [4]
 else if x.1=18 then decide (zQ m.1 (lF f x.2.1)=7)&&decide (zQ m.1 (lF f x.2.2.1)=2)
 else if x.1=19 then QFC m.1 f x.2.1 x.2.2.1 [7,6]&&decide (zQ m.1 (lF f x.2.2.2.1)=2)
 else if x.1=20 then QFC m.1 f x.2.2.2.1 x.2.1 [7,6]&&decide (zQ m.1 (lF f x.2.2.1)=2)
 else if x.1=21 then decide (zQ m.1 (lF f x.2.1)=2)&&decide (zQ m.1 (lF f x.2.2.1)∈([3,7,6]:List Int))
 else if x.1=25 then ((m.2.2.1[x.2.2.1.toNat]?).map fun g=>QOx f x.2.1 g.2.2.1).getD false
 else if x.1=26∨x.1=27 then ((m.2.2.1[x.2.1.toNat]?).map fun g=>QMo m.1 g).getD false
 else if x.1=28 then decide (zQ m.1 (lF f x.2.1)∈([2,1,3]:List Int))
 else if x.1=29∨x.1=33 then decide (zQ m.1 (lF f x.2.1)=1)&&decide (zQ m.1 (lF f x.2.2.1)=2)
 else if x.1=34 then QOx f x.2.1 f.2.2.1
 else true
theorem QCJ {m:cK} {f:cO} {x:Ins} (h:tO m f x=true) {s:Int} (hs:s∈F.rS x++F.wS x):s < f.2.2.2.1.length:=by
 simp only [tO,AP] at h
 simpa using List.all_eq_true.1 h.1 s hs
theorem QCI {m:cK} {f:cO} {x:Ins} (h:tO m f x=true) {g:Int} (hg:rO x=some g):g < m.2.2.1.length:=by
 simp only [tO,AP,hg] at h
 simpa using h.2
theorem QMu {m:cK} {f:cO} {x:Ins} (hr:tO m f x=true) {r n:Int} (hf:fit r n=true) (hn:r=1∨r=2∨(r=3∨r=4)/\n≠-1) (hm:∀ v,v∈rs1 r n∨v∈ws1 r n->v∈F.rS x++F.wS x):kL f n:=by
 have h1:n≠-1:=by
  rcases hn with rfl | rfl | h
  ·simp [fit,idx] at hf;omega
  ·simp [fit,idx] at hf;omega
  ·exact h.2
 have hr':r=1∨r=3∨r=2∨r=4:=by rcases hn with h | h | ⟨h | h,_⟩ <;> simp [h]
 refine ⟨(pJ hf hr' h1).1,QCJ hr (hm n ?_)⟩
 rcases hn with rfl | rfl | ⟨rfl | rfl,_⟩ <;> simp [rs1,ws1,h1]
theorem au {m:cK} {f:cO} {x:Ins} (h:rF x=true) (hr:tO m f x=true) {k:Nat} (e:x.1=(k:Int)) {a b c:Int} (hk:lY (k:Int)=[a,b,c]) :
  ((a=1∨a=2∨(a=3∨a=4)/\x.2.1≠-1)->kL f x.2.1)/\((b=1∨b=2∨(b=3∨b=4)/\x.2.2.1≠-1)->kL f x.2.2.1)/\((c=1∨c=2∨(c=3∨c=4)/\x.2.2.2.1≠-1)->kL f x.2.2.2.1):=by
 obtain ⟨fa,fb,fc,er,ew⟩:=role h e hk
 refine ⟨fun g=>QMu hr fa g fun v hv=>?_,fun g=>QMu hr fb g fun v hv=>?_,fun g=>QMu hr fc g fun v hv=>?_⟩ <;>
  (rw [er,ew];simp only [List.mem_append];rcases hv with hv | hv <;> simp [hv])
theorem QDw {m:cK} (V:Zv m) {f:cO} (v:Zu m.1.length f) {x:Ins} (h:rF x=true) (hr:tO m f x=true):gW ((m,f,()),x)=some (gK m f x):=by
 have hop:QAm x.1=true:=by obtain ⟨_,_,_,ho,_⟩:=kg h;exact ho
 obtain ⟨k,e,hk⟩:=QEZ hop
 have QA9:∀ (q:Int) (a:Int),kL f a->aN ((m,f,()),q,[a])=some (decide (zQ m.1 (lF f a)=q)):=fun q a ha=>by
  rw [QIA v q [a] (by simp) (by simpa using ha)];simp
 have QWf:∀ (q:Int) (a b:Int),kL f a->kL f b->aN ((m,f,()),q,[a,b])=some (decide (zQ m.1 (lF f a)=q)&&decide (zQ m.1 (lF f b)=q)):=fun q a b ha hb=>by
  rw [QIA v q [a,b] (by simp) (by simpa using ⟨ha,hb⟩)];simp
 have QNy:∀ (q:Int) (a b c:Int),kL f a->kL f b->kL f c->aN ((m,f,()),q,[a,b,c])=some (decide (zQ m.1 (lF f a)=q)&&(decide (zQ m.1 (lF f b)=q)&&decide (zQ m.1 (lF f c)=q))):=fun q a b c ha hb hc=>by
  rw [QIA v q [a,b,c] (by simp) (by simpa using ⟨ha,hb,hc⟩)];simp
 have bs:∀ b c:Bool,(bif b then some c else some false)=some (b&&c):=fun b c=>by cases b <;> rfl
 have idb:∀ z:Option Bool,(z.bind fun y=>some y)=z:=fun z=>by cases z <;> rfl
 show aK _=_
 have QaK:k=1∨k=2∨k=3∨k=4∨k=5∨k=6∨k=7∨k=8∨k=9∨k=10∨k=11∨k=12∨k=13∨k=14∨k=15∨k=16∨k=17∨k=18∨k=19∨k=20∨k=21∨k=22∨k=23∨k=24∨k=25∨k=26∨k=27∨k=28∨k=29∨k=30∨k=31∨k=32∨k=33∨k=34:=by omega
 rcases QaK with rfl | rfl | rfl | rfl | rfl | rfl | rfl | rfl | rfl | rfl | rfl | rfl | rfl | rfl | rfl | rfl | rfl | rfl | rfl | rfl | rfl | rfl | rfl | rfl | rfl | rfl | rfl | rfl | rfl | rfl | rfl | rfl | rfl | rfl
 ·have e':x.1=(1:Int):=e
  have er:lY ((1:Nat):Int)=[2,5,0]:=by decide +kernel
  obtain ⟨iA,iB,iC⟩:=au h hr e er
  have hA:kL f x.2.1:=iA (by simp)
  unfold aK gK
  simp [e',bY,bs,idb,QA9 2 _ hA]
 ·have e':x.1=(2:Int):=e
  have er:lY ((2:Nat):Int)=[2,7,0]:=by decide +kernel
  obtain ⟨iA,iB,iC⟩:=au h hr e er
  have hA:kL f x.2.1:=iA (by simp)
  unfold aK gK
  simp [e',bY,bs,idb,QA9 3 _ hA]
 ·have e':x.1=(3:Int):=e
  have er:lY ((3:Nat):Int)=[2,6,0]:=by decide +kernel
  obtain ⟨iA,iB,iC⟩:=au h hr e er
  have hA:kL f x.2.1:=iA (by simp)
  unfold aK gK
  simp [e',bY,bs,idb,QA9 1 _ hA]
 ·have e':x.1=(4:Int):=e
  have er:lY ((4:Nat):Int)=[2,0,0]:=by decide +kernel
  obtain ⟨iA,iB,iC⟩:=au h hr e er
  have hA:kL f x.2.1:=iA (by simp)
  unfold aK gK
  simp [e',bY,bs,idb]
 ·have e':x.1=(5:Int):=e
  have er:lY ((5:Nat):Int)=[2,1,0]:=by decide +kernel
  obtain ⟨iA,iB,iC⟩:=au h hr e er
  have hA:kL f x.2.1:=iA (by simp)
  have hB:kL f x.2.2.1:=iB (by simp)
  unfold aK gK
  simp [e',bY,bs,idb,gU m hA,gU m hB]
 ·have e':x.1=(6:Int):=e
  have er:lY ((6:Nat):Int)=[2,1,1]:=by decide +kernel
  obtain ⟨iA,iB,iC⟩:=au h hr e er
  have hA:kL f x.2.1:=iA (by simp)
  have hB:kL f x.2.2.1:=iB (by simp)
  have hC:kL f x.2.2.2.1:=iC (by simp)
  unfold aK gK
  simp [e',bY,bs,idb,QNy 2 _ _ _ hA hB hC]
 ·have e':x.1=(7:Int):=e
  have er:lY ((7:Nat):Int)=[2,1,1]:=by decide +kernel
  obtain ⟨iA,iB,iC⟩:=au h hr e er
  have hA:kL f x.2.1:=iA (by simp)
  have hB:kL f x.2.2.1:=iB (by simp)
  have hC:kL f x.2.2.2.1:=iC (by simp)
  unfold aK gK
  simp [e',bY,bs,idb,QNy 2 _ _ _ hA hB hC]
 ·have e':x.1=(8:Int):=e
  have er:lY ((8:Nat):Int)=[2,1,1]:=by decide +kernel
  obtain ⟨iA,iB,iC⟩:=au h hr e er
  have hA:kL f x.2.1:=iA (by simp)
  have hB:kL f x.2.2.1:=iB (by simp)
  have hC:kL f x.2.2.2.1:=iC (by simp)
  unfold aK gK
  simp [e',bY,bs,idb,QNy 2 _ _ _ hA hB hC]
 ·have e':x.1=(9:Int):=e
  have er:lY ((9:Nat):Int)=[2,1,1]:=by decide +kernel
  obtain ⟨iA,iB,iC⟩:=au h hr e er
  have hA:kL f x.2.1:=iA (by simp)
  have hB:kL f x.2.2.1:=iB (by simp)
  have hC:kL f x.2.2.2.1:=iC (by simp)
  unfold aK gK
  simp [e',bY,bs,idb,QNy 2 _ _ _ hA hB hC]
 ·have e':x.1=(10:Int):=e
  have er:lY ((10:Nat):Int)=[2,1,1]:=by decide +kernel
  obtain ⟨iA,iB,iC⟩:=au h hr e er
  have hA:kL f x.2.1:=iA (by simp)
  have hB:kL f x.2.2.1:=iB (by simp)
  have hC:kL f x.2.2.2.1:=iC (by simp)
  unfold aK gK
  simp [e',bY,bs,idb,QA9 1 _ hA,QWf 2 _ _ hB hC]
 ·have e':x.1=(11:Int):=e
  have er:lY ((11:Nat):Int)=[2,1,1]:=by decide +kernel
  obtain ⟨iA,iB,iC⟩:=au h hr e er
  have hA:kL f x.2.1:=iA (by simp)
  have hB:kL f x.2.2.1:=iB (by simp)
  have hC:kL f x.2.2.2.1:=iC (by simp)
  unfold aK gK
  simp [e',bY,bs,idb,gU m hB,gU m hC,yc v hB,QA9 1 _ hA,QEP]
 ·have e':x.1=(12:Int):=e
  have er:lY ((12:Nat):Int)=[2,1,0]:=by decide +kernel
  obtain ⟨iA,iB,iC⟩:=au h hr e er
  have hA:kL f x.2.1:=iA (by simp)
  have hB:kL f x.2.2.1:=iB (by simp)
  unfold aK gK
  simp [e',bY,bs,idb,QWf 1 _ _ hA hB]
 ·have e':x.1=(13:Int):=e
  have er:lY ((13:Nat):Int)=[2,1,8]:=by decide +kernel
  obtain ⟨iA,iB,iC⟩:=au h hr e er
  have hA:kL f x.2.1:=iA (by simp)
  have hB:kL f x.2.2.1:=iB (by simp)
  have f0:0<=x.2.2.2.1:=by obtain ⟨_,_,fc,_⟩:=role h e er;simp [fit,idx] at fc;omega
  have q:=QEN v hA hB f0
  unfold aK gK
  simp [e',bY,bs,idb,q]
 ·have e':x.1=(14:Int):=e
  have er:lY ((14:Nat):Int)=[1,8,1]:=by decide +kernel
  obtain ⟨iA,iB,iC⟩:=au h hr e er
  have hA:kL f x.2.1:=iA (by simp)
  have hC:kL f x.2.2.2.1:=iC (by simp)
  have f0:0<=x.2.2.1:=by obtain ⟨_,fb,_⟩:=role h e er;simp [fit,idx] at fb;omega
  have q:=QEN v hC hA f0
  unfold aK gK
  simp [e',bY,bs,idb,q]
 ·have e':x.1=(15:Int):=e
  have er:lY ((15:Nat):Int)=[2,0,0]:=by decide +kernel
  obtain ⟨iA,iB,iC⟩:=au h hr e er
  have hA:kL f x.2.1:=iA (by simp)
  unfold aK gK
  simp [e',bY,bs,idb,QA9 4 _ hA]
 ·have e':x.1=(16:Int):=e
  have er:lY ((16:Nat):Int)=[2,1,0]:=by decide +kernel
  obtain ⟨iA,iB,iC⟩:=au h hr e er
  have hA:kL f x.2.1:=iA (by simp)
  have hB:kL f x.2.2.1:=iB (by simp)
  have q:=QAg v hA hB (ks:=[4]) (by simp)
  unfold aK gK
  simp [e',bY,bs,idb,q]
 ·have e':x.1=(17:Int):=e
  have er:lY ((17:Nat):Int)=[1,1,0]:=by decide +kernel
  obtain ⟨iA,iB,iC⟩:=au h hr e er
  have hA:kL f x.2.1:=iA (by simp)
  have hB:kL f x.2.2.1:=iB (by simp)
  have q:=QAg v hB hA (ks:=[4]) (by simp)
  unfold aK gK
  simp [e',bY,bs,idb,q]
 ·have e':x.1=(18:Int):=e
  have er:lY ((18:Nat):Int)=[2,1,0]:=by decide +kernel
  obtain ⟨iA,iB,iC⟩:=au h hr e er
  have hA:kL f x.2.1:=iA (by simp)
  have hB:kL f x.2.2.1:=iB (by simp)
  unfold aK gK
  simp [e',bY,bs,idb,QA9 7 _ hA,QA9 2 _ hB]
 ·have e':x.1=(19:Int):=e
  have er:lY ((19:Nat):Int)=[2,1,1]:=by decide +kernel
  obtain ⟨iA,iB,iC⟩:=au h hr e er
  have hA:kL f x.2.1:=iA (by simp)
  have hB:kL f x.2.2.1:=iB (by simp)
  have hC:kL f x.2.2.2.1:=iC (by simp)
  have q:=QAg v hA hB (ks:=[7,6]) (by simp)
  unfold aK gK
  simp [e',bY,bs,idb,q,QA9 2 _ hC]
 ·have e':x.1=(20:Int):=e
  have er:lY ((20:Nat):Int)=[1,1,1]:=by decide +kernel
  obtain ⟨iA,iB,iC⟩:=au h hr e er
  have hA:kL f x.2.1:=iA (by simp)
  have hB:kL f x.2.2.1:=iB (by simp)
  have hC:kL f x.2.2.2.1:=iC (by simp)
  have q:=QAg v hC hA (ks:=[7,6]) (by simp)
  unfold aK gK
  simp [e',bY,bs,idb,q,QA9 2 _ hB]
 ·have e':x.1=(21:Int):=e
  have er:lY ((21:Nat):Int)=[2,1,0]:=by decide +kernel
  obtain ⟨iA,iB,iC⟩:=au h hr e er
  have hA:kL f x.2.1:=iA (by simp)
  have hB:kL f x.2.2.1:=iB (by simp)
  unfold aK gK
  simp [e',bY,bs,idb,yc v hB,QA9 2 _ hA,QBe _ _ (show List.length ([_,_,_]:List Int)<=1000 by simp)]
 ·have e':x.1=(22:Int):=e
  have er:lY ((22:Nat):Int)=[10,0,0]:=by decide +kernel
  obtain ⟨iA,iB,iC⟩:=au h hr e er
  unfold aK gK
  simp [e',bY,bs,idb]
 ·have e':x.1=(23:Int):=e
  have er:lY ((23:Nat):Int)=[1,10,0]:=by decide +kernel
  obtain ⟨iA,iB,iC⟩:=au h hr e er
  have hA:kL f x.2.1:=iA (by simp)
  unfold aK gK
  simp [e',bY,bs,idb,QA9 1 _ hA]
 ·have e':x.1=(24:Int):=e
  have er:lY ((24:Nat):Int)=[1,0,0]:=by decide +kernel
  obtain ⟨iA,iB,iC⟩:=au h hr e er
  have hA:kL f x.2.1:=iA (by simp)
  unfold aK gK
  simp [e',bY,bs,idb]
 ·have e':x.1=(25:Int):=e
  have er:lY ((25:Nat):Int)=[4,9,0]:=by decide +kernel
  obtain ⟨iA,iB,iC⟩:=au h hr e er
  have hc:rO x=some x.2.2.1:=by simp [rO,e']
  obtain ⟨g,g1,g2,g3⟩:=gu (QBU h hc) (QCI hr hc)
  have q:=QAV m g (s:=x.2.1) (f:=f) fun hne=>iA (by simp [hne])
  unfold aK gK
  simp [e',bY,bs,idb,g1,g2,q]
 ·have e':x.1=(26:Int):=e
  have er:lY ((26:Nat):Int)=[9,0,0]:=by decide +kernel
  obtain ⟨iA,iB,iC⟩:=au h hr e er
  have hc:rO x=some x.2.1:=by simp [rO,e']
  obtain ⟨g,g1,g2,g3⟩:=gu (QBU h hc) (QCI hr hc)
  have q:=QBV (m:=m) f (V.ok g g3)
  unfold aK gK
  simp [e',bY,bs,idb,g1,g2,q]
 ·have e':x.1=(27:Int):=e
  have er:lY ((27:Nat):Int)=[9,0,0]:=by decide +kernel
  obtain ⟨iA,iB,iC⟩:=au h hr e er
  have hc:rO x=some x.2.1:=by simp [rO,e']
  obtain ⟨g,g1,g2,g3⟩:=gu (QBU h hc) (QCI hr hc)
  have q:=QBV (m:=m) f (V.ok g g3)
  unfold aK gK
  simp [e',bY,bs,idb,g1,g2,q]
 ·have e':x.1=(28:Int):=e
  have er:lY ((28:Nat):Int)=[1,0,0]:=by decide +kernel
  obtain ⟨iA,iB,iC⟩:=au h hr e er
  have hA:kL f x.2.1:=iA (by simp)
  unfold aK gK
  simp [e',bY,bs,idb,yc v hA,QBe _ _ (show List.length ([_,_,_]:List Int)<=1000 by simp)]
 ·have e':x.1=(29:Int):=e
  have er:lY ((29:Nat):Int)=[2,2,0]:=by decide +kernel
  obtain ⟨iA,iB,iC⟩:=au h hr e er
  have hA:kL f x.2.1:=iA (by simp)
  have hB:kL f x.2.2.1:=iB (by simp)
  unfold aK gK
  simp [e',bY,bs,idb,QA9 1 _ hA,QA9 2 _ hB]
 ·have e':x.1=(30:Int):=e
  have er:lY ((30:Nat):Int)=[0,0,0]:=by decide +kernel
  obtain ⟨iA,iB,iC⟩:=au h hr e er
  unfold aK gK
  simp [e',bY,bs,idb]
 ·have e':x.1=(31:Int):=e
  have er:lY ((31:Nat):Int)=[0,0,0]:=by decide +kernel
  obtain ⟨iA,iB,iC⟩:=au h hr e er
  unfold aK gK
  simp [e',bY,bs,idb]
 ·have e':x.1=(32:Int):=e
  have er:lY ((32:Nat):Int)=[1,0,0]:=by decide +kernel
  obtain ⟨iA,iB,iC⟩:=au h hr e er
  have hA:kL f x.2.1:=iA (by simp)
  unfold aK gK
  simp [e',bY,bs,idb,QA9 2 _ hA]
 ·have e':x.1=(33:Int):=e
  have er:lY ((33:Nat):Int)=[2,1,0]:=by decide +kernel
  obtain ⟨iA,iB,iC⟩:=au h hr e er
  have hA:kL f x.2.1:=iA (by simp)
  have hB:kL f x.2.2.1:=iB (by simp)
  unfold aK gK
  simp [e',bY,bs,idb,QA9 1 _ hA,QA9 2 _ hB]
 ·have e':x.1=(34:Int):=e
  have er:lY ((34:Nat):Int)=[3,0,0]:=by decide +kernel
  obtain ⟨iA,iB,iC⟩:=au h hr e er
  have q:=QAV m f (s:=x.2.1) (f:=f) fun hne=>iA (by simp [hne])
  unfold aK gK
  simp [e',bY,bs,idb,q]
theorem QI3 (a b:List Int) (h:a.length<=1000000):dN (a,b)=some (decide (a=b)):=by
 show gF (Gb (bE big) big) _=_
 unfold gF
 dsimp only
 rw [QMt,nA]
 by_cases hl:a.length=b.length
 ·rw [AB hl,AL]
  have:=ah (g:=bE big) (mk:=fun i=>(a,b,(a.length:Int),(i:Int))) (p:=fun i=>decide (a[i]? = b[i]?)) (no:=some false) (kk:=some true) (n:=a.length)
   (fun self i hi=>by
    simp only [bE,jd,dz hi,AL,gI hi,gI (show i < b.length by omega),AA,wS hi (by omega),QK2 hi (show i < b.length by omega),gV,nA])
   (fun self=>by simp only [bE,jd,dx,AJ]) a.length 0 big (by omega) (dP (by omega))
  rw [QHf hl,QFi] at this
  exact this
 ·rw [AF hl,AJ,AF (fun e=>hl (by rw [e]))]
theorem QLN (a b:List T.Tc) (h:a.length<=1000000):bO (a,b)=some (decide (a=b)):=by
 show bP (Gb (aV big) big) _=_
 unfold bP
 dsimp only
 rw [QMt,nA]
 by_cases hl:a.length=b.length
 ·rw [AB hl,AL]
  have:=ah (g:=aV big) (mk:=fun i=>(a,b,(a.length:Int),(i:Int))) (p:=fun i=>decide (a[i]? = b[i]?)) (no:=some false) (kk:=some true) (n:=a.length)
   (fun self i hi=>by
    simp only [aV,dL,dz hi,AL,gI hi,gI (show i < b.length by omega),AA,wS hi (by omega),QK2 hi (show i < b.length by omega)]
    rw [QOi,nA])
   (fun self=>by simp only [aV,dL,dx,AJ]) a.length 0 big (by omega) (dP (by omega))
  rw [QHf hl,QFi] at this
  exact this
 ·rw [AF hl,AJ,AF (fun e=>hl (by rw [e]))]
def QEL (m:cK) (f:cO) (x:Ins) (r:Bool):Int:=if tO m f x=false then 16 else if r=false then 6 else if gK m f x=false then 30 else 0
def fwS (m:cK) (f:cO) (l:List Ins) (rs:List Bool):Nat->Nat->Int×Int
 | 0,_=>(0,0)
 | k+1,i=>match l[i]?,rs[i]? with
  | some x,some r=>if QEL m f x r≠0 then ((i:Int),QEL m f x r) else fwS m f l rs k (i+1)
  | _,_=>(0,0)
theorem QEu {m:cK} (V:Zv m) {f:cO} (v:Zu m.1.length f) (hc:F.yL f.2.2.2.2.1=true):bZ (m,f,())=some (fwS m f f.2.2.2.2.1 (F.yM f.2.2.2.2.1) f.2.2.2.2.1.length 0):=by
 show eY (Gb (aj big) big) _=_
 unfold eY
 dsimp only
 rw [F.QI6,AY hc,AA]
 dsimp only
 have hl:f.2.2.2.2.1.length<=200:=v.cd.2
 have hrl:(F.yM f.2.2.2.2.1).length=f.2.2.2.2.1.length:=F.QEf _
 have hok:=v.ok
 generalize f.2.2.2.2.1=l at hl hrl hok
 generalize F.yM l=rs at hrl
 have key:∀ (k i N:Nat),i+k=l.length->k < N->Gb (aj big) N (l,(l.length:Int),(i:Int),(m,f,()),rs)=some (fwS m f l rs k i):=by
  intro k
  induction k with
  | zero=>
   intro i N hi hN
   obtain ⟨N,rfl⟩:∃ M,N=M+1:=⟨N - 1,by omega⟩
   obtain rfl:i=l.length:=by omega
   rw [WZ]
   simp only [aj,gL,dx,AJ,fwS]
  | succ k ih=>
   intro i N hi hN
   obtain ⟨N,rfl⟩:∃ M,N=M+1:=⟨N - 1,by omega⟩
   have hi':i < l.length:=by omega
   have hx:l[i]? = some l[i]:=AU hi'
   have hr:rs[i]? = some rs[i]:=AU (by omega)
   have ho:=hok _ (Ae hi')
   rw [WZ]
   simp only [aj,gL,dz hi',AL,gI hi',AA,QBd m f ho,fwS,hx,hr,wS hi' (by omega),F.zY hr,F.mZ (show i < rs.length by omega)]
   cases e1:tO m f l[i] with
   | false=>simp [QEL,e1]
   | true=>
    cases e2:rs[i] with
    | false=>simp [QEL,e1]
    | true=>
     rw [QDw V v ho e1,AA]
     cases e3:gK m f l[i] with
     | false=>simp [QEL,e1,e3]
     | true=>simp [QEL,e1,e3];exact ih (i+1) N (by omega) (by omega)
 exact key l.length 0 big (by omega) (dP (by omega))
theorem QJr {m:cK} {f:cO} {l:List Ins} {rs:List Bool}:∀ {k i:Nat},i+k=l.length->l.length=rs.length->(fwS m f l rs k i).2=0->∀ j,i<=j->(h:j < l.length)->∃ h':j < rs.length,QEL m f l[j] rs[j]=0
 | 0,i,hi,_,_,j,hj,h=>by omega
 | k+1,i,hi,hr,hz,j,hj,h=>by
  have hi':i < l.length:=by omega
  simp only [fwS,AU hi',AU (show i < rs.length by omega)] at hz
  split at hz
  ·rename_i e;exact absurd hz e
  ·rename_i e
   by_cases hij:j=i
   ·subst hij;exact ⟨by omega,by simpa using e⟩
   ·exact QJr (by omega) hr hz j (by omega) h
def psh (f:cO) (x:Ins):List Int:=if x.1=24 then [lF f x.2.1] else []
def tkn (m:cK) (x:Ins):List Int:=match rO x with
 | some g=>match m.2.2.1[g.toNat]? with
  | some h=>(h.2.2.2.1.take h.2.1.toNat).map fun z=>z.2.1
  | none=>[]
 | none=>[]
theorem QFU {m:cK} {f:cO} {x:Ins} (h:rF x=true) (hr:tO m f x=true):fE ((m,f,()),x)=some (psh f x):=by
 show oC _=_
 unfold oC psh
 dsimp only
 by_cases e:x.1=24
 ·have hA:=(au h hr (k:=24) e (show lY ((24:Nat):Int)=[1,0,0] by decide +kernel)).1 (by simp)
  simp [e,gV,gU m hA]
 ·simp [e,gV]
theorem QHl {m:cK} (V:Zv m) {f:cO} {x:Ins} (h:rF x=true) (hr:tO m f x=true):jl ((m,f,()),x)=some (tkn m x):=by
 show j5 (Gb (bg big) big) _=_
 unfold j5 tkn
 dsimp only
 rw [QF8,AA]
 dsimp only
 cases hc:rO x with
 | none=>rfl
 | some g=>
  obtain ⟨q,g1,g2,g3⟩:=gu (QBU h hc) (QCI hr hc)
  have vq:=V.ok q g3
  have hp:(decide (0<=q.2.1)&&decide (q.2.1<=(List.length q.2.2.2.1:Int)))=true:=by simp;exact vq.par
  simp only [Option.isSome_some,Az,AJ,BG,g1,g2,AA,hp,AL]
  generalize hl:List.take (Int.toNat q.2.1) q.2.2.2.1=l
  have hll:l.length<=16:=by rw [← hl,BJ];have:=vq.sl;omega
  have:=fF (g:=bg big) (mk:=fun i z=>(l,(l.length:Int),(i:Int),z)) (l:=l) (cod:=fun z=>[z.2.1]) (kk:=fun z=>some z) (B:=100)
   (fun self i z hi hx=>by
    simp only [bg,mH,dz hi,AL,gI hi,AA,wS hi (by omega),bI (show z.length+List.length [l[i].2.1]<=L36 by simp [L36] at hx ⊢;omega)]
    rfl)
   (fun self z _=>by simp only [bg,mH,dx,AJ]) l.length 0 big [] (by omega) (dP (by omega)) (by have:=qH (f:=fun z:K.tV=>[z.2.1]) (k:=1) (l:=l) (by simp);simp only [List.drop_zero,Au];omega)
  rw [show ((0:Nat):Int)=0 from rfl] at this
  rw [this]
  simp only [List.drop_zero,List.nil_append,hl]
  exact congrArg some List.map_eq_flatMap.symm
def tQ (l:List K.dI):List Int:=(List.range l.length).map fun (i:Nat)=>K.upS (K.sz (K.exS l) (i:Int)) 8
def tot (ss ts:List Int):Int:=(ts.map fun t=>ss.getD t.toNat 0).sum
structure Ssz (ss:List Int):Prop where
 lo:∀ s∈ss,0<=s/\s<=264
theorem QNA {ss:List Int} (hs:Ssz ss) (ts:List Int) (hl:ts.length<=1000) (ht:∀ t∈ts,0<=t/\t < ss.length):uU (ss,ts)=some (tot ss ts):=by
 show u7 (Gb (jG big) big) _=_
 unfold u7 tot
 dsimp only
 have key:∀ (k i N:Nat) (n:Int),i+k=ts.length->k < N->0<=n->n<=264 * i->Gb (jG big) N (ss,n,ts,(ts.length:Int),(i:Int))=some (n+((ts.drop i).map fun t=>ss.getD t.toNat 0).sum):=by
  intro k
  induction k with
  | zero=>
   intro i N n hi hN h0 h1
   obtain ⟨N,rfl⟩:∃ M,N=M+1:=⟨N - 1,by omega⟩
   obtain rfl:i=ts.length:=by omega
   rw [WZ]
   simp [jG,vw,dx]
  | succ k ih=>
   intro i N n hi hN h0 h1
   obtain ⟨N,rfl⟩:∃ M,N=M+1:=⟨N - 1,by omega⟩
   have hi':i < ts.length:=by omega
   obtain ⟨z,z1,z2,z3⟩:=gu (ht _ (Ae hi')).1 (ht _ (Ae hi')).2
   have hz:=hs.lo z z3
   rw [WZ,A9 hi',List.map_cons,List.sum_cons]
   simp only [jG,vw,dz hi',AL,gI hi',AA,z1,wS hi' (by omega)]
   rw [T.t64 (show -9223372036854775808<=n+z by omega) (by omega),ih (i+1) N (n+z) (by omega) (by omega) (by omega) (by simp;omega)]
   rw [Ad,z2,BG,Int.add_assoc]
 have:=key ts.length 0 big 0 (by omega) (dP (by omega)) (Int.le_refl _) (by simp)
 simpa using this
theorem QAk (l:List K.dI):(tQ l).length=l.length:=by simp [tQ]
theorem QMx {l:List K.dI} {i:Nat} (h:i < l.length):(tQ l)[i]? = some (K.upS (K.sz (K.exS l) (i:Int)) 8):=by simp [tQ,h]
theorem up8 {n:Int} (h:1<=n) (h':n<=256):8<=K.upS n 8/\K.upS n 8<=256:=by
 simp only [K.upS,show ¬ (8:Int)=1 by decide,if_false];omega
theorem QEg {m:cK} (V:Zv m):(∀ s∈tQ m.1,8<=s/\s<=256):=by
 intro s hs
 simp only [tQ,List.mem_map,List.mem_range] at hs
 obtain ⟨i,hi,rfl⟩:=hs
 obtain ⟨h1,_⟩:=K.QFq V.sz.1 (i:=(i:Int)) (by omega) (by omega)
 exact up8 h1 (V.sz.2 i hi)
theorem QSb {m:cK} (V:Zv m):Ssz (tQ m.1):=⟨fun s hs=>by have:=QEg V s hs;omega⟩
theorem QN1 {m:cK} (V:Zv m):ng m.1=some (tQ m.1):=by
 have hl:m.1.length<=32:=V.ty
 show ig (fun _=>List.replicate) (Gb (bQ (fun _=>List.replicate) big) big) m.1=_
 unfold ig
 rw [F.QBq (by omega),AL,Aj]
 have key:∀ (k i N:Nat) (x:List Int),i+k=m.1.length->k < N->x.length=m.1.length->Gb (bQ (fun _=>List.replicate) big) N (m.1,(m.1.length:Int),(i:Int),x)=some (x.take i++(tQ m.1).drop i):=by
  intro k
  induction k with
  | zero=>
   intro i N x hi hN hx
   obtain ⟨N,rfl⟩:∃ M,N=M+1:=⟨N - 1,by omega⟩
   obtain rfl:i=m.1.length:=by omega
   rw [WZ]
   simp only [bQ,lC,dx,AJ]
   rw [BA (by omega),List.drop_of_length_le (by rw [QAk];omega),List.append_nil]
  | succ k ih=>
   intro i N x hi hN hx
   obtain ⟨N,rfl⟩:∃ M,N=M+1:=⟨N - 1,by omega⟩
   have hi':i < m.1.length:=by omega
   obtain ⟨h1,_⟩:=K.QFq V.sz.1 (i:=(i:Int)) (by omega) (by omega)
   have h2:=V.sz.2 i hi'
   have he:=K.QCa V.sz.1 (i:=(i:Int)) (by omega) (by omega) h2
   rw [WZ]
   simp only [bQ,lC,dz hi',AL,K.QJP,he,if_true,AA,K.QLr,F.mZ (show i < x.length by omega),wS hi' (by omega)]
   rw [AX (by omega),Aj,ih (i+1) N _ (by omega) (by omega) (by rw [BI];exact hx)]
   rw [MQ _ _ _ (by omega),Ab]
   congr 2
   rw [A9 (show i < (tQ m.1).length by rw [QAk];omega)]
   have:=QMx hi'
   rw [AU (by rw [QAk];omega)] at this
   rw [Ar this]
   rfl
 have:=key m.1.length 0 big (List.replicate m.1.length 0) (by omega) (dP (by omega)) List.length_replicate
 simpa using this
def QCX (tk pu b:List Int):Option (List Int):=if tk.length<=b.length/\b.drop (b.length - tk.length)=tk then some (b.take (b.length - tk.length)++pu) else none
theorem QNx {tk pu b s:List Int} (h:QCX tk pu b=some s):s.length<=b.length+pu.length:=by
 unfold QCX at h
 split at h
 ·cases h;simp
 ·cases h
theorem QDy (f:cO) (x:Ins):(psh f x).length<=1:=by unfold psh;split <;> simp
theorem QDz {m:cK} (V:Zv m) (x:Ins):(tkn m x).length<=16:=by
 unfold tkn
 split
 ·split
  ·rename_i h hq
   have:=(V.ok h (BD hq)).sl
   simp;omega
  ·simp
 ·simp
theorem QMU {m:cK} (V:Zv m) {f:cO} {x:Ins} (h:rF x=true) (hr:tO m f x=true) (b:List Int) (hb:b.length<=100000) :
  jk ((m,f,()),x,b)=some (match QCX (tkn m x) (psh f x) b with | some s=>(s,true) | none=>([],false)):=by
 show pG _=_
 unfold pG QCX
 dsimp only
 rw [QHl V h hr,AA]
 have h1:=QDz V x
 have h2:=QDy f x
 have hp:=QFU h hr
 rw [T.t64 (show -9223372036854775808<=(b.length:Int) - ((tkn m x).length:Int) by omega) (by omega)]
 generalize tkn m x=t at h1 ⊢
 by_cases hlt:t.length<=b.length
 ·have e1:(b.length:Int) - (t.length:Int)=((b.length - t.length:Nat):Int):=by omega
  have e2:(decide (0<=((b.length - t.length:Nat):Int))&&decide (((b.length - t.length:Nat):Int)<=(b.length:Int)))=true:=by simp
  rw [e1,AF (show ¬ ((b.length - t.length:Nat):Int) < 0 by omega),AJ,e2,AL,Aj,QI3 _ _ (by rw [List.length_drop];omega),AA]
  by_cases he:b.drop (b.length - t.length)=t
  ·rw [AB he,Az,AJ,AL,hp,AA,QIp _ _ (by rw [BJ];omega),AA,AY ⟨hlt,he⟩]
  ·rw [AF he,A8,AL,AX (fun h=>he h.2)]
 ·rw [AB (show (b.length:Int) - (t.length:Int) < 0 by omega),AL,AX (fun h=>hlt h.1)]
def kv (kn:List (List Int)) (i:Nat):List Int:=kn.getD i []
theorem QMj {kn:List (List Int)} {i:Nat} (h:i < kn.length):kn[i]? = some (kv kn i):=getD_at h []
theorem QMk {kn:List (List Int)} {i:Nat} (h:i < kn.length):nth kn (Int.toNat (i:Int))=some (kv kn i):=F.zY (QMj h)
theorem QBD {kn:List (List Int)} {i j:Nat} {s:List Int} (h:j < kn.length):kv (kn.set j s) i=if i=j then s else kv kn i:=by
 unfold kv
 rw [Ad,Ad,F.dX h]
 split <;> rfl
def emp (kn:List (List Int)):Nat:=kn.countP List.isEmpty
theorem QJf:∀ {kn:List (List Int)} {j:Nat} {s:List Int},j < kn.length->kv kn j=[]->s≠[]->emp (kn.set j s)+1=emp kn
 | [],_,_,h,_,_=>by simp at h
 | a::kn,0,s,_,h,hs=>by
  have:a=[]:=h
  subst this
  cases s with
  | nil=>exact absurd rfl hs
  | cons x s=>simp [emp,List.countP_cons]
 | a::kn,j+1,s,h,hk,hs=>by
  have:=QJf (kn:=kn) (j:=j) (s:=s) (by simpa using h) hk hs
  simp only [emp,List.set_cons_succ,List.countP_cons] at this ⊢
  omega
theorem QMX (kn:List (List Int)):emp kn<=kn.length:=List.countP_le_length
section
variable (ss:List Int)
structure Sok:Prop where
 big:∀ s∈ss,8<=s/\s<=256
def Tys (s:List Int):Prop:=∀ t∈s,0<=t/\t < ss.length
end
variable {ss:List Int}
theorem QKB:tot ss []=0:=rfl
theorem QKA (a b:List Int):tot ss (a++b)=tot ss a+tot ss b:=by simp [tot]
theorem QCN (t:Int) (a:List Int):tot ss (t::a)=ss.getD t.toNat 0+tot ss a:=rfl
theorem QE0 (h:Sok ss):∀ {s:List Int},Tys ss s->0<=tot ss s/\(s≠[]->8<=tot ss s)
 | [],_=>⟨Int.le_refl _,fun h=>absurd rfl h⟩
 | t::s,ht=>by
  obtain ⟨h1,_⟩:=QE0 h (s:=s) fun u hu=>ht u (by simp [hu])
  obtain ⟨z,_,z2,z3⟩:=gu (ht t (by simp)).1 (ht t (by simp)).2
  have:=h.big z z3
  rw [QCN,Ad,z2,BG]
  exact ⟨by omega,fun _=>by omega⟩
theorem QCO (h:Sok ss) {s:List Int} (hs:Tys ss s) (e:tot ss s=0):s=[]:=by
 cases s with
 | nil=>rfl
 | cons t s=>have:=(QE0 h hs).2 (by simp);omega
theorem QDN {tk pu b s:List Int} (h:QCX tk pu b=some s):tot ss s=tot ss b+(tot ss pu - tot ss tk):=by
 unfold QCX at h
 split at h
 ·rename_i g
  cases h
  have e:b=b.take (b.length - tk.length)++tk:=by
   have:=(List.take_append_drop (b.length - tk.length) b).symm
   rwa [g.2] at this
  have e2:tot ss b=tot ss (b.take (b.length - tk.length))+tot ss tk:=by rw [← QKA,← e]
  rw [QKA]
  omega
 ·cases h
theorem QJW {tk pu b s:List Int} (h:QCX tk pu b=some s) (hb:Tys ss b) (hp:Tys ss pu):Tys ss s:=by
 unfold QCX at h
 split at h
 ·cases h
  intro t ht
  rcases List.mem_append.1 ht with ht | ht
  ·exact hb t (List.mem_of_mem_take ht)
  ·exact hp t ht
 ·cases h
structure M0 (ss:List Int) (g:Nat->List Nat) (n:Nat) (tk pu:Nat->List Int) (D:Nat->Int):Prop where
 ok:Sok ss
 ty:∀ i,Tys ss (pu i)
 one:∀ i,(pu i).length<=1
 rt:F.Right g (fun i=>tot ss (pu i) - tot ss (tk i)) n D
 lt:∀ i,F.Rc g i->i < n
variable {g:Nat->List Nat} {n:Nat} {tk pu:Nat->List Int} {D:Nat->Int}
def Sol (g:Nat->List Nat) (tk pu:Nat->List Int) (S:Nat->List Int):Prop:=S 0=[]/\∀ i,F.Rc g i->∃ s,QCX (tk i) (pu i) (S i)=some s/\∀ j∈g i,S j=s
theorem Sol.dep (c:M0 ss g n tk pu D) {S:Nat->List Int} (h:Sol g tk pu S) {i:Nat} (hi:F.Rc g i):tot ss (S i)=D i/\Tys ss (S i):=by
 induction hi with
 | zero=>rw [h.1,c.rt.z];exact ⟨rfl,fun _ h=>by cases h⟩
 | step hi hj ih=>
  obtain ⟨s,h1,h2⟩:=h.2 _ hi
  rw [h2 _ hj,QDN h1,ih.1]
  exact ⟨(c.rt.e _ _ hi hj).1.symm,QJW h1 ih.2 (c.ty _)⟩
theorem Sol.empty (c:M0 ss g n tk pu D) {S:Nat->List Int} (h:Sol g tk pu S) {i:Nat} (hi:F.Rc g i) (e:D i=0):S i=[]:=QCO c.ok (h.dep c hi).2 ((h.dep c hi).1.trans e)
structure RV (ss:List Int) (g:Nat->List Nat) (n:Nat) (D:Nat->Int) (kn:List (List Int)):Prop where
 len:kn.length=n
 ty:∀ k,Tys ss (kv kn k)
 dep:∀ k,kv kn k≠[]->F.Rc g k/\tot ss (kv kn k)=D k
 short:∀ k,(kv kn k).length+emp kn<=n
def Sm (a b:List (List Int)):Prop:=∀ k,kv a k≠[]->kv b k=kv a k
theorem Sm.refl (a:List (List Int)):Sm a a:=fun _ _=>rfl
theorem Sm.trans {a b c:List (List Int)} (h:Sm a b) (h':Sm b c):Sm a c:=fun k hk=>by rw [h' k (by rw [h k hk];exact hk),h k hk]
def Cl (g:Nat->List Nat) (tk pu:Nat->List Int) (kn:List (List Int)) (i:Nat):Prop:=∃ s,QCX (tk i) (pu i) (kv kn i)=some s/\(s=[]∨∀ j∈g i,kv kn j=s)
theorem Cl.mono {a b:List (List Int)} {i:Nat} (h:Cl g tk pu a i) (hi:kv b i=kv a i) (hl:Sm a b):Cl g tk pu b i:=by
 obtain ⟨s,h1,h2⟩:=h
 refine ⟨s,by rw [hi];exact h1,?_⟩
 by_cases e:s=[]
 ·exact .inl e
 ·refine .inr fun j hj=>?_
  have:=(h2.resolve_left e) j hj
  rw [hl j (by rw [this];exact e),this]
def Agr (kn:List (List Int)) (S:Nat->List Int):Prop:=∀ k,kv kn k≠[]->kv kn k=S k
theorem RV.keep (c:M0 ss g n tk pu D) {a b:List (List Int)} (hb:RV ss g n D b) (hl:Sm a b) {i:Nat} (ha:Tys ss (kv a i)) (e:tot ss (kv a i)=D i):kv b i=kv a i:=by
 by_cases h:kv a i=[]
 ·rw [h]
  by_cases h2:kv b i=[]
  ·exact h2
  ·exfalso
   have h3:=(hb.dep i h2).2
   rw [h,QKB] at e
   exact h2 (QCO c.ok (hb.ty i) (h3.trans e.symm))
 ·exact hl i h
theorem RV.put (c:M0 ss g n tk pu D) {kn:List (List Int)} (h:RV ss g n D kn) {j:Nat} {s:List Int} (hj:j < n) (hk:kv kn j=[]) (hs:s≠[]) (hty:Tys ss s) (hr:F.Rc g j) (hd:tot ss s=D j) (hlen:s.length+emp kn<=n+1) :
  RV ss g n D (kn.set j s)/\Sm kn (kn.set j s)/\emp (kn.set j s)+1=emp kn/\kv (kn.set j s) j=s:=by
 have hj':j < kn.length:=by rw [h.len];exact hj
 have he:=QJf hj' hk hs
 refine ⟨⟨by rw [BI];exact h.len,fun k=>?_,fun k hne=>?_,fun k=>?_⟩,fun k hne=>?_,he,by rw [QBD hj',AY rfl]⟩
 ·rw [QBD hj'];split
  ·exact hty
  ·exact h.ty k
 ·rw [QBD hj'] at hne ⊢
  split
  ·rename_i e;subst e;exact ⟨hr,hd⟩
  ·rename_i e;rw [AX e] at hne;exact h.dep k hne
 ·have:=h.short k
  rw [QBD hj'];split <;> omega
 ·rw [QBD hj',AX (fun e=>by subst e;exact hne hk)]
def tkF (m:cK) (l:List Ins) (i:Nat):List Int:=((l[i]?).map (tkn m)).getD []
def puF (f:cO) (l:List Ins) (i:Nat):List Int:=((l[i]?).map (psh f)).getD []
structure LQ (m:cK) (f:cO) (D:Nat->Int):Prop where
 V:Zv m
 v:Zu m.1.length f
 hc:F.yL f.2.2.2.2.1=true
 hr:∀ x∈f.2.2.2.2.1,tO m f x=true
 c:M0 (tQ m.1) (F.G f.2.2.2.2.1) f.2.2.2.2.1.length (tkF m f.2.2.2.2.1) (puF f f.2.2.2.2.1) D
def QI5 (m:cK) (f:cO) (D:Nat->Int) (kn:List (List Int)) (i:Nat) (r:Option (List (List Int)×Bool)):Prop:=
 ∃ kn' b,r=some (kn',b)/\RV (tQ m.1) (F.G f.2.2.2.2.1) f.2.2.2.2.1.length D kn'/\Sm kn kn'/\emp kn'<=emp kn/\
  (b=true->Cl (F.G f.2.2.2.2.1) (tkF m f.2.2.2.2.1) (puF f f.2.2.2.2.1) kn' i/\∀ j,kv kn j=[]->kv kn' j≠[]->Cl (F.G f.2.2.2.2.1) (tkF m f.2.2.2.2.1) (puF f f.2.2.2.2.1) kn' j)/\
  ∀ S,Sol (F.G f.2.2.2.2.1) (tkF m f.2.2.2.2.1) (puF f f.2.2.2.2.1) S->Agr kn S->(F.Rc (F.G f.2.2.2.2.1) i->kv kn i=S i)->Agr kn' S/\b=true
def QP8 (m:cK) (f:cO) (D:Nat->Int) (kn:List (List Int)) (i:Nat):Prop:=
 RV (tQ m.1) (F.G f.2.2.2.2.1) f.2.2.2.2.1.length D kn/\i < f.2.2.2.2.1.length/\(F.Rc (F.G f.2.2.2.2.1) i/\tot (tQ m.1) (kv kn i)=D i∨¬ F.Rc (F.G f.2.2.2.2.1) i/\i=f.2.2.2.2.1.length - 1/\kv kn i=[])
abbrev Sc0:=cK×(cO×Unit)
abbrev QVq:Ty:=.pair QLh (.pair QLP .unit)
theorem go_eq {m:cK} {f:cO} {D:Nat->Int} (C:LQ m f D):∀ (k:Nat) (kn:List (List Int)) (i:Nat),QP8 m f D kn i->emp kn < k->QI5 m f D kn i (aT k ((i:Int),((),((),((),())))) ((m,(f,())),((),(kn,((),()))))):=by
 intro k
 induction k with
 | zero=>intro kn i _ h;omega
 | succ k ih=>
  intro kn i hpre hk
  obtain ⟨hki,hi,hst⟩:=hpre
  have hx:f.2.2.2.2.1[i]? = some f.2.2.2.2.1[i]:=AU hi
  have hm:=Ae hi
  have ho:=C.v.ok _ hm
  have hrx:=C.hr _ hm
  have htk:tkF m f.2.2.2.2.1 i=tkn m f.2.2.2.2.1[i]:=by simp [tkF,hx]
  have hpu:puF f f.2.2.2.2.1 i=psh f f.2.2.2.2.1[i]:=by simp [puF,hx]
  have hsh:=hki.short i
  have hcd:=C.v.cd.2
  have hlast:¬ F.Rc (F.G f.2.2.2.2.1) i->QCX (tkF m f.2.2.2.2.1 i) (puF f f.2.2.2.2.1 i) (kv kn i)=some []:=by
   intro hn
   rcases hst with h | ⟨_,h1,h2⟩
   ·exact absurd h.1 hn
   ·obtain ⟨_,_,_,h4⟩:=F.dW C.hc
    rw [← h1,hx] at h4
    rw [htk,hpu,Ar h4,h2]
    rfl
  show QI5 m f D kn i (dM (aT k) ((m,(f,())),((),(kn,((),())))) (Gb (aX (aT k) ((m,(f,())),((),(kn,((),())))) big) big) ((i:Int),((),((),((),())))))
  unfold dM
  dsimp only
  rw [gI hi,AA,F.mZ (show i < kn.length by rw [hki.len];exact hi),AL,QMk (by rw [hki.len];exact hi),AA,QMU C.V ho hrx _ (by omega),AA]
  rw [← htk,← hpu]
  have hself:∀ t:Sc0,@JW QVq t t=true:=fun t=>XZ QVq t
  cases ha:QCX (tkF m f.2.2.2.2.1 i) (puF f f.2.2.2.2.1 i) (kv kn i) with
  | none=>
   dsimp only
   rw [A8,AL,hself,AL]
   refine ⟨kn,false,rfl,hki,Sm.refl _,Nat.le_refl _,(fun h=>by cases h),fun S hS hA hRc=>?_⟩
   exfalso
   by_cases hn:F.Rc (F.G f.2.2.2.2.1) i
   ·obtain ⟨s,h1,_⟩:=hS.2 i hn
    rw [← hRc hn,ha] at h1
    cases h1
   ·rw [hlast hn] at ha;cases ha
  | some s=>
   dsimp only
   rw [Az,AJ]
   by_cases hs:s=[]
   ·subst hs
    rw [show ((List.length ([]:List Int):Int)==(0:Int))=true from rfl,AL,hself,AL]
    exact ⟨kn,true,rfl,hki,Sm.refl _,Nat.le_refl _,(fun _=>⟨⟨[],ha,.inl rfl⟩,fun j h1 h2=>absurd h1 h2⟩),fun S _ hA _=>⟨hA,rfl⟩⟩
   have hs0:((List.length s:Int)==(0:Int))=false:=by
    rw [Ay]
    intro h
    exact hs (Aq (by omega))
   have hRc:F.Rc (F.G f.2.2.2.2.1) i:=Classical.byContradiction fun hn=>by rw [hlast hn] at ha;cases ha;exact hs rfl
   have hdi:tot (tQ m.1) (kv kn i)=D i:=by rcases hst with h | h;exact h.2;exact absurd hRc h.1
   have hbytes:=QDN (ss:=tQ m.1) ha
   have QaO:=QJW ha (hki.ty i) (C.c.ty i)
   have QbK:=QNx ha
   have hone:=C.c.one i
   rw [hs0,AJ,F.QNt,AY C.hc,AY (by omega),AA,Aj]
   dsimp only
   rw [F.aR]
   generalize hnx:F.G f.2.2.2.2.1 i=nx
   have hgl:∀ j∈nx,j < f.2.2.2.2.1.length:=fun j hj=>F.QKS C.hc hi (by rw [hnx];exact hj)
   have QaN:∀ j∈nx,F.Rc (F.G f.2.2.2.2.1) j/\tot (tQ m.1) s=D j:=fun j hj=>by
    have hj':j∈F.G f.2.2.2.2.1 i:=by rw [hnx];exact hj
    exact ⟨.step hRc hj',by rw [hbytes,hdi];exact (C.c.rt.e i j hRc hj').1.symm⟩
   have QX2:∀ S,Sol (F.G f.2.2.2.2.1) (tkF m f.2.2.2.2.1) (puF f f.2.2.2.2.1) S->kv kn i=S i->∀ j∈nx,S j=s:=by
    intro S hS he j hj
    obtain ⟨s',h1,h2⟩:=hS.2 i hRc
    rw [← he,ha] at h1
    cases h1
    exact h2 j (by rw [hnx];exact hj)
   have hnl:nx.length<=2:=by rw [← hnx];exact F.QJJ _ _
   refine Qi (g:=aX (aT k) ((m,(f,())),((),(kn,((),())))) big) (n:=nx.length) (fun (kn1:List (List Int)) (q:Nat)=>(s,F.ints nx,(nx.length:Int),(q:Int),kn1,(m,(f,()))))
    (fun q kn1=>RV (tQ m.1) (F.G f.2.2.2.2.1) f.2.2.2.2.1.length D kn1/\Sm kn kn1/\emp kn1<=emp kn/\(∀ p,p < q->∀ j,nx[p]? = some j->kv kn1 j=s)/\(∀ j,kv kn j=[]->kv kn1 j≠[]->Cl (F.G f.2.2.2.2.1) (tkF m f.2.2.2.2.1) (puF f f.2.2.2.2.1) kn1 j)/\
     ∀ S,Sol (F.G f.2.2.2.2.1) (tkF m f.2.2.2.2.1) (puF f f.2.2.2.2.1) S->Agr kn S->kv kn i=S i->Agr kn1 S)
    (QI5 m f D kn i) ?_ ?_ nx.length 0 big (by omega) (dP (by omega)) kn ⟨hki,Sm.refl _,Nat.le_refl _,(fun p h=>by omega),(fun j h1 h2=>absurd h1 h2),fun S _ hA _=>hA⟩
   ·rintro self kn1 ⟨g1,g2,g3,g4,g5,g6⟩
    simp only [aX,fH,dx,AJ,hself,AL]
    refine ⟨kn1,true,rfl,g1,g2,g3,fun _=>⟨⟨s,?_,.inr fun j hj=>?_⟩,g5⟩,fun S hS hA hR=>⟨g6 S hS hA (hR hRc),rfl⟩⟩
    ·rw [g1.keep C.c g2 (hki.ty i) hdi];exact ha
    ·rw [hnx] at hj
     obtain ⟨p,hp⟩:=List.getElem?_of_mem hj
     exact g4 p (Ap.1 hp).1 j hp
   ·rintro self kn1 q hq ⟨g1,g2,g3,g4,g5,g6⟩
    have hj:nx[q]? = some nx[q]:=AU hq
    have hjm:=Ae hq
    generalize nx[q]=j at hj hjm
    have hjn:=hgl j hjm
    obtain ⟨hjr,hjd⟩:=QaN j hjm
    have hjk:j < kn1.length:=by rw [g1.len];exact hjn
    simp only [aX,fH,dz hq,AL,F.gy (F.ints_at hj),AA,F.mZ hjk,QMk hjk,hself,wS hq (by omega)]
    by_cases he:kv kn1 j=[]
    ·rw [he]
     obtain ⟨p1,p2,p3,p4⟩:=g1.put C.c hjn he hs QaO hjr hjd (by omega)
     have hse:List.isEmpty s=false:=by cases s with | nil=>exact absurd rfl hs | cons _ _=>rfl
     have hne1:(Nat.ble 1 (List.length (kn1.set j s))&&true)=true:=by rw [BI,Bool.and_true];exact Nat.ble_eq_true_of_le (by omega)
     simp only [List.isEmpty_nil,AL,hse,AJ,Aj,hne1]
     obtain ⟨kn2,b,e2,q1,q2,q3,q4,q5⟩:=ih (kn1.set j s) j ⟨p1,hjn,.inl ⟨hjr,by rw [p4];exact hjd⟩⟩ (by omega)
     have hle:Sm kn1 kn2:=p2.trans q2
     rw [e2,AA]
     dsimp only
     have QMf:∀ S,Sol (F.G f.2.2.2.2.1) (tkF m f.2.2.2.2.1) (puF f f.2.2.2.2.1) S->Agr kn S->kv kn i=S i->Agr kn2 S/\b=true:=by
      intro S hS hA hR
      have hSj:=QX2 S hS hR j hjm
      refine q5 S hS (fun z hz=>?_) (fun _=>by rw [p4,hSj])
      rw [QBD hjk] at hz ⊢
      split
      ·rename_i ez;subst ez;exact hSj.symm
      ·rename_i ez;rw [AX ez] at hz;exact g6 S hS hA hR z hz
     cases b with
     | false=>
      right
      rw [A8,AL]
      exact ⟨kn2,false,rfl,q1,g2.trans hle,by omega,(fun h=>by cases h),fun S hS hA hR=>by have:=(QMf S hS hA (hR hRc)).2;cases this⟩
     | true=>
      left
      have hj2:kv kn2 j=s:=by rw [q2 j (by rw [p4];exact hs),p4]
      obtain ⟨c1,c2⟩:=q4 rfl
      refine ⟨kn2,⟨q1,g2.trans hle,by omega,fun p hp z hz=>?_,fun z h1 h2=>?_,fun S hS hA hR=>(QMf S hS hA hR).1⟩,?_⟩
      ·by_cases hpq:p=q
       ·subst hpq;rw [hj] at hz;cases hz;exact hj2
       ·have:=g4 p (by omega) z hz
        rw [hle z (by rw [this];exact hs),this]
      ·by_cases hz1:kv kn1 z=[]
       ·by_cases hz2:z=j
        ·subst hz2;exact c1
        ·exact c2 z (by rw [QBD hjk,AX hz2];exact hz1) h2
       ·exact (g5 z h1 hz1).mono (hle z hz1) hle
      ·have hn2:nth kn2 j=some s:=by rw [F.tC,QMj (by rw [q1.len];exact hjn),hj2]
       rw [Az,AJ,F.mZ (show j < kn2.length by rw [q1.len];exact hjn),AL,hn2,AA,QI3 _ _ (by omega),AA,AB rfl,Az,AJ]
    ·have hje:List.isEmpty (kv kn1 j)=false:=by
      cases hz:kv kn1 j with
      | nil=>exact absurd hz he
      | cons _ _=>rfl
     rw [hje,AJ,QI3 _ _ (by have:=g1.short j;omega),AA]
     by_cases heq:kv kn1 j=s
     ·left
      refine ⟨kn1,⟨g1,g2,g3,fun p hp z hz=>?_,g5,g6⟩,?_⟩
      ·by_cases hpq:p=q
       ·subst hpq;rw [hj] at hz;cases hz;exact heq
       ·exact g4 p (by omega) z hz
      ·rw [AB heq,Az,AJ]
     ·right
      rw [AF heq,A8,AL]
      refine ⟨kn1,false,rfl,g1,g2,g3,(fun h=>by cases h),fun S hS hA hR=>?_⟩
      exfalso
      exact heq ((g6 S hS hA (hR hRc) j he).trans (QX2 S hS (hR hRc) j hjm))
theorem RV.zero {ss:List Int} {g:Nat->List Nat} {n:Nat} {tk pu:Nat->List Int} {D:Nat->Int} (c:M0 ss g n tk pu D) {kn:List (List Int)} (h:RV ss g n D kn) {dep:List Int} (hd:∀ i,i < n->(F.Rc g i->F.da dep i=D i)/\(¬ F.Rc g i->F.da dep i=0)) {j:Nat} (hj:j < n) (hz:F.da dep j=0):kv kn j=[]:=by
 by_cases he:kv kn j=[]
 ·exact he
 ·obtain ⟨h1,h2⟩:=h.dep j he
  exact QCO c.ok (h.ty j) (h2.trans (((hd j hj).1 h1).symm.trans hz))
theorem QER (n i:Nat):kv (List.replicate n []) i=[]:=by
 unfold kv
 rw [Ad,List.getElem?_replicate]
 split <;> rfl
theorem RV.start (ss:List Int) (g:Nat->List Nat) (n:Nat) (D:Nat->Int):RV ss g n D (List.replicate n []):=by
 refine ⟨List.length_replicate,fun k t ht=>?_,fun k h=>absurd (QER n k) h,fun k=>?_⟩
 ·rw [QER] at ht;cases ht
 ·have:=QMX (List.replicate n [])
  rw [List.length_replicate] at this
  rw [QER]
  simpa using this
theorem QMi {m:cK} {f:cO} {D:Nat->Int} (C:LQ m f D) {dep:List Int} (hdl:dep.length=f.2.2.2.2.1.length) (hre:∀ i,i < f.2.2.2.2.1.length->F.Rc (F.G f.2.2.2.2.1) i∨i=f.2.2.2.2.1.length - 1)
  (hd:∀ i,i < f.2.2.2.2.1.length->(F.Rc (F.G f.2.2.2.2.1) i->F.da dep i=D i)/\(¬ F.Rc (F.G f.2.2.2.2.1) i->F.da dep i=0)) :
  ∃ b,jA ((m,(f,())),dep)=some b/\(b=true↔∃ S,Sol (F.G f.2.2.2.2.1) (tkF m f.2.2.2.2.1) (puF f f.2.2.2.2.1) S):=by
 have hcd:=C.v.cd
 show ∃ b,eZ (fun _=>List.replicate) (Gb (ak (fun _=>List.replicate) big) big) _=some b/\_
 unfold eZ
 dsimp only
 rw [F.QBq (by omega),AL,Aj]
 refine Qi (g:=ak (fun _=>List.replicate) big) (n:=dep.length) (fun (kn:List (List Int)) (i:Nat)=>(dep,(dep.length:Int),(i:Int),(m,(f,())),kn))
  (fun i kn=>RV (tQ m.1) (F.G f.2.2.2.2.1) f.2.2.2.2.1.length D kn/\(∀ j,j < i->F.da dep j=0->Cl (F.G f.2.2.2.2.1) (tkF m f.2.2.2.2.1) (puF f f.2.2.2.2.1) kn j)/\(∀ j,kv kn j≠[]->Cl (F.G f.2.2.2.2.1) (tkF m f.2.2.2.2.1) (puF f f.2.2.2.2.1) kn j)/\
   ∀ S,Sol (F.G f.2.2.2.2.1) (tkF m f.2.2.2.2.1) (puF f f.2.2.2.2.1) S->Agr kn S)
  (fun r=>∃ b,r=some b/\(b=true↔∃ S,Sol (F.G f.2.2.2.2.1) (tkF m f.2.2.2.2.1) (puF f f.2.2.2.2.1) S)) ?_ ?_ dep.length 0 big (by omega) (dP (by omega)) _
  ⟨by rw [hdl];exact RV.start _ _ _ _,(fun j h=>by omega),(fun j h=>absurd (QER _ j) h),fun S _ k hk=>absurd (QER _ k) hk⟩
 ·rintro self kn ⟨g1,g2,g3,g4⟩
  simp only [ak,gM,dx,AJ]
  refine ⟨true,rfl,fun _=>⟨kv kn,?_,?_⟩,fun _=>rfl⟩
  ·have h0:F.da dep 0=0:=((hd 0 (by omega)).1 .zero).trans C.c.rt.z
   exact g1.zero C.c hd (by omega) h0
  ·have all:∀ i,F.Rc (F.G f.2.2.2.2.1) i->Cl (F.G f.2.2.2.2.1) (tkF m f.2.2.2.2.1) (puF f f.2.2.2.2.1) kn i/\tot (tQ m.1) (kv kn i)=D i:=by
    have z:∀ i,F.Rc (F.G f.2.2.2.2.1) i->D i=0->Cl (F.G f.2.2.2.2.1) (tkF m f.2.2.2.2.1) (puF f f.2.2.2.2.1) kn i/\tot (tQ m.1) (kv kn i)=D i:=fun i hi e=>by
     have hin:=C.c.lt i hi
     have h0:F.da dep i=0:=((hd i hin).1 hi).trans e
     exact ⟨g2 i (by omega) h0,by rw [g1.zero C.c hd hin h0,e];rfl⟩
    intro i hi
    induction hi with
    | zero=>exact z 0 .zero C.c.rt.z
    | step hi hj ih=>
     rename_i i j
     obtain ⟨⟨s,h1,h2⟩,h3⟩:=ih
     have h4:=QDN (ss:=tQ m.1) h1
     have h5:=(C.c.rt.e _ _ hi hj).1
     by_cases e:s=[]
     ·subst e
      exact z j (.step hi hj) (by rw [h5,← h3,← h4];rfl)
     ·have h6:=(h2.resolve_left e) j hj
      exact ⟨g3 j (by rw [h6];exact e),by rw [h6,h4,h3,h5]⟩
   intro i hi
   obtain ⟨⟨s,h1,h2⟩,h3⟩:=all i hi
   refine ⟨s,h1,fun j hj=>?_⟩
   by_cases e:s=[]
   ·subst e
    have h4:=QDN (ss:=tQ m.1) h1
    have h5:=(C.c.rt.e _ _ hi hj).1
    have hr:F.Rc (F.G f.2.2.2.2.1) j:=.step hi hj
    exact QCO C.c.ok (g1.ty j) (by rw [(all j hr).2,h5,← h3,← h4];rfl)
   ·exact (h2.resolve_left e) j hj
 ·rintro self kn i hi ⟨g1,g2,g3,g4⟩
  have hin:i < f.2.2.2.2.1.length:=by omega
  simp only [ak,gM,dz hi,AL,F.QJd hi,AA,wS hi (by omega)]
  by_cases hz:F.da dep i=0
  ·have e0:(F.da dep i==(0:Int))=true:=by rw [hz];rfl
   have hne:(Nat.ble 1 (List.length kn)&&true)=true:=by rw [g1.len,Bool.and_true];exact Nat.ble_eq_true_of_le hcd.1
   have hki:=g1.zero C.c hd hin hz
   have hpre:QP8 m f D kn i:=by
    refine ⟨g1,hin,?_⟩
    by_cases hr:F.Rc (F.G f.2.2.2.2.1) i
    ·exact .inl ⟨hr,by rw [hki,← (hd i hin).1 hr,hz];rfl⟩
    ·exact .inr ⟨hr,(hre i hin).resolve_left hr,hki⟩
   have hem:=QMX kn
   rw [g1.len] at hem
   obtain ⟨kn',b,q0,q1,q2,q3,q4,q5⟩:=go_eq C big kn i hpre (dP (by omega))
   have q0:gJ ((i:Int),((),((),((),())))) ((m,(f,())),((),(kn,((),()))))=some (kn',b):=q0
   rw [e0,AL,hne,AL,q0,AA]
   dsimp only
   have QMf:∀ S,Sol (F.G f.2.2.2.2.1) (tkF m f.2.2.2.2.1) (puF f f.2.2.2.2.1) S->Agr kn' S/\b=true:=fun S hS=>q5 S hS (g4 S hS) fun hr=>by
    rw [hki,hS.empty C.c hr (((hd i hin).1 hr).symm.trans hz)]
   cases b with
   | false=>
    right
    rw [A8,AL]
    exact ⟨false,rfl,(fun h=>by cases h),fun ⟨S,hS⟩=>(QMf S hS).2⟩
   | true=>
    left
    rw [Az,AJ]
    obtain ⟨c1,c2⟩:=q4 rfl
    refine ⟨kn',⟨q1,fun j hj h0=>?_,fun j hj=>?_,fun S hS=>(QMf S hS).1⟩,rfl⟩
    ·by_cases hji:j=i
     ·subst hji;exact c1
     ·exact (g2 j (by omega) h0).mono (by rw [q1.zero C.c hd (by omega) h0,g1.zero C.c hd (by omega) h0]) q2
    ·by_cases h1:kv kn j=[]
     ·exact c2 j h1 hj
     ·exact (g3 j h1).mono (q2 j h1) q2
  ·left
   have e0:(F.da dep i==(0:Int))=false:=by rw [Ay];exact hz
   rw [e0,AJ]
   exact ⟨kn,⟨g1,fun j hj h0=>by
    by_cases hji:j=i
    ·subst hji;exact absurd h0 hz
    ·exact g2 j (by omega) h0,g3,g4⟩,rfl⟩
def bsF (m:cK) (f:cO):List Int:=f.2.2.2.2.1.map fun x=>tot (tQ m.1) (psh f x) - tot (tQ m.1) (tkn m x)
structure Bt (m:cK) (f:cO):Prop where
 V:Zv m
 v:Zu m.1.length f
 hc:F.yL f.2.2.2.2.1=true
 hr:∀ x∈f.2.2.2.2.1,tO m f x=true
 re:∀ i,i < f.2.2.2.2.1.length->F.Rc (F.G f.2.2.2.2.1) i∨i=f.2.2.2.2.1.length - 1
theorem Bt.tys {m:cK} {f:cO} (C:Bt m f) {x:Ins} (hx:x∈f.2.2.2.2.1):Tys (tQ m.1) (psh f x)/\Tys (tQ m.1) (tkn m x):=by
 constructor
 ·unfold psh
  split
  ·rename_i e
   have hA:=(au (C.v.ok x hx) (C.hr x hx) (k:=24) e (show lY ((24:Nat):Int)=[1,0,0] by decide +kernel)).1 (by simp)
   intro t ht
   obtain rfl:t=lF f x.2.1:=by simpa using ht
   rw [QAk]
   exact QFb C.v hA
  ·intro t ht;cases ht
 ·unfold tkn
  split
  ·split
   ·rename_i h hq
    have:=(C.V.ok h (BD hq)).ty
    intro t ht
    obtain ⟨z,hz,rfl⟩:=List.mem_map.1 ht
    rw [QAk]
    exact this z (List.mem_of_mem_take hz)
   ·intro t ht;cases ht
  ·intro t ht;cases ht
theorem QIh {ss:List Int} (h:Sok ss):∀ {s:List Int},Tys ss s->tot ss s<=256 * s.length
 | [],_=>by simp [tot]
 | t::s,ht=>by
  have h1:=QIh h (s:=s) fun u hu=>ht u (by simp [hu])
  obtain ⟨z,_,z2,z3⟩:=gu (ht t (by simp)).1 (ht t (by simp)).2
  have:=h.big z z3
  rw [QCN,Ad,z2,BG,Af]
  omega
theorem Bt.by {m:cK} {f:cO} (C:Bt m f) {x:Ins} (hx:x∈f.2.2.2.2.1) : -4096<=tot (tQ m.1) (psh f x) - tot (tQ m.1) (tkn m x)/\tot (tQ m.1) (psh f x) - tot (tQ m.1) (tkn m x)<=4096/\0<=tot (tQ m.1) (psh f x)/\tot (tQ m.1) (psh f x)<=256/\0<=tot (tQ m.1) (tkn m x)/\tot (tQ m.1) (tkn m x)<=4096:=by
 have hs:Sok (tQ m.1):=⟨QEg C.V⟩
 obtain ⟨h1,h2⟩:=C.tys hx
 have a1:=QIh hs h1
 have a2:=QIh hs h2
 have b1:=(QE0 hs h1).1
 have b2:=(QE0 hs h2).1
 have c1:=QDy f x
 have c2:=QDz C.V x
 omega
theorem QIC (m:cK) (f:cO):(bsF m f).length=f.2.2.2.2.1.length:=by simp [bsF]
theorem QWi {m:cK} {f:cO} (C:Bt m f):F.QIE (bsF m f)=true:=by
 simp only [F.QIE,List.all_eq_true,bsF,List.mem_map]
 rintro b ⟨x,hx,rfl⟩
 have:=C.by hx
 simp
 omega
theorem Bt.ck {m:cK} {f:cO} (C:Bt m f) {D:Nat->Int} (h:F.Right (F.G f.2.2.2.2.1) (F.da (bsF m f)) f.2.2.2.2.1.length D):LQ m f D:=by
 refine ⟨C.V,C.v,C.hc,C.hr,⟨QEg C.V⟩,fun i=>?_,fun i=>?_,⟨h.z,fun i j hi hj=>?_⟩,fun i hi=>hi.lt C.hc⟩
 ·unfold puF
  cases hx:f.2.2.2.2.1[i]? with
  | none=>intro t ht;cases ht
  | some x=>exact (C.tys (BD hx)).1
 ·unfold puF
  cases hx:f.2.2.2.2.1[i]? with
  | none=>simp
  | some x=>exact QDy f x
 ·have hin:=hi.lt C.hc
  have e:F.da (bsF m f) i=tot (tQ m.1) (puF f f.2.2.2.2.1 i) - tot (tQ m.1) (tkF m f.2.2.2.2.1 i):=by
   simp [F.da,bsF,puF,tkF,hin]
  rw [← e]
  exact h.e i j hi hj
def QA7 (m:cK) (f:cO):Prop:=(∃ dep,F.IsD f.2.2.2.2.1 (bsF m f) dep)/\∃ S,Sol (F.G f.2.2.2.2.1) (tkF m f.2.2.2.2.1) (puF f f.2.2.2.2.1) S
theorem QKd {m:cK} {f:cO} (C:Bt m f):∃ dep b,fD ((m,(f,())),tQ m.1)=some (dep,b)/\(b=true↔QA7 m f)/\(b=true->F.IsD f.2.2.2.2.1 (bsF m f) dep):=by
 have hcd:=C.v.cd
 have hs:=QSb C.V
 show ∃ dep b,iq (fun _=>List.replicate) (Gb (bR (fun _=>List.replicate) big) big) _=some (dep,b)/\_
 unfold iq
 dsimp only
 rw [F.QBq (by omega),AL,Aj]
 refine Qi (g:=bR (fun _=>List.replicate) big) (n:=f.2.2.2.2.1.length) (fun (x:List Int) (i:Nat)=>(tQ m.1,f.2.2.2.2.1,(f.2.2.2.2.1.length:Int),(i:Int),(m,(f,())),x))
  (fun i x=>x.length=f.2.2.2.2.1.length/\x.take i=(bsF m f).take i) (fun r=>∃ dep b,r=some (dep,b)/\(b=true↔QA7 m f)/\(b=true->F.IsD f.2.2.2.2.1 (bsF m f) dep)) ?_ ?_ f.2.2.2.2.1.length 0 big (by omega) (dP (by omega)) _ ⟨List.length_replicate,rfl⟩
 ·rintro self x ⟨h1,h2⟩
  rw [BA (by omega),BA (by rw [QIC];omega)] at h2
  subst h2
  simp only [bR,lD,dx,AJ]
  have hD:=F.QKJ f.2.2.2.2.1 (bsF m f)
  unfold F.wo at hD
  rw [AY C.hc,AY ⟨QIC m f,QWi C⟩] at hD
  rcases hD with ⟨dep,e,hi⟩ | ⟨hn,e⟩
  ·rw [e,AA]
   dsimp only
   obtain ⟨hl,D,hR,hd⟩:=hi
   obtain ⟨b,hb,hiff⟩:=QMi (C.ck hR) hl C.re hd
   rw [show ((0:Int)==(0:Int))=true from rfl,AL,hb,AA]
   exact ⟨dep,b,rfl,hiff.trans ⟨fun h=>⟨⟨dep,hl,D,hR,hd⟩,h⟩,fun h=>h.2⟩,fun _=>⟨hl,D,hR,hd⟩⟩
  ·rw [e,AA]
   dsimp only
   rw [show ((36:Int)==(0:Int))=false from rfl,AJ]
   exact ⟨[],false,rfl,⟨(fun h=>by cases h),fun ⟨⟨dep,_,D,hR,_⟩,_⟩=>absurd hR (hn D)⟩,fun h=>by cases h⟩
 ·rintro self x i hi ⟨h1,h2⟩
  left
  have hm:=Ae hi
  obtain ⟨b1,b2,b3,b4,b5,b6⟩:=C.by hm
  obtain ⟨t1,t2⟩:=C.tys hm
  refine ⟨x.set i (tot (tQ m.1) (psh f f.2.2.2.2.1[i]) - tot (tQ m.1) (tkn m f.2.2.2.2.1[i])),⟨by rw [BI];exact h1,?_⟩,?_⟩
  ·rw [MQ _ _ _ (by omega),h2,Ah (by rw [QIC];exact hi)]
   simp [bsF]
  ·simp only [bR,lD,dz hi,AL,gI hi,AA,QFU (C.v.ok _ hm) (C.hr _ hm),QHl C.V (C.v.ok _ hm) (C.hr _ hm),QNA hs _ (by have:=QDy f f.2.2.2.2.1[i];omega) t1,QNA hs _ (by have:=QDz C.V f.2.2.2.2.1[i];omega) t2,F.mZ (show i < x.length by omega),wS hi (by omega)]
   rw [T.t64 (by omega) (by omega),Aj]
def dB (fs:List Nat) (i:Nat) (s:Int):Bool:=decide ((F.ma fs i &&& 2 ^ s.toNat)=0)
def nlS (l:List Ins) (fs:List Nat):Nat->Nat->Int
 | 0,_=>-1
 | k+1,i=>if ((l[i]?).any fun x=>(F.rS x).any (dB fs i))=true then (i:Int) else nlS l fs k (i+1)
theorem QJz {l:List Ins} {fs:List Nat}:∀ {k i:Nat},nlS l fs k i = -1->∀ j,i<=j->j < i+k->∀ x,l[j]? = some x->∀ s∈F.rS x,dB fs j s=false
 | 0,i,_,j,h1,h2=>by omega
 | k+1,i,h,j,h1,h2=>by
  unfold nlS at h
  split at h
  ·omega
  ·rename_i e
   intro x hx s hs
   by_cases hij:j=i
   ·subst hij
    cases hd:dB fs j s with
    | false=>rfl
    | true=>exact absurd (by rw [hx];exact List.any_eq_true.2 ⟨s,hs,hd⟩) e
   ·exact QJz h j (by omega) (by omega) x hx s hs
theorem QIT {l:List Ins} (hok:∀ x∈l,rF x=true) (hl:l.length<=200) {fs:List Nat} (hf:fs.length=l.length) (h16:∀ i,F.ma fs i < 65536):fC (l,F.ints fs)=some (nlS l fs l.length 0):=by
 show iZ (Gb (bD big) big) _=_
 unfold iZ
 dsimp only
 have key:∀ (k i N:Nat),i+k=l.length->k < N->Gb (bD big) N (l,(l.length:Int),(i:Int),F.ints fs)=some (nlS l fs k i):=by
  intro k
  induction k with
  | zero=>
   intro i N hi hN
   obtain ⟨N,rfl⟩:∃ M,N=M+1:=⟨N - 1,by omega⟩
   obtain rfl:i=l.length:=by omega
   rw [WZ]
   simp only [bD,gD,dx,AJ]
   rfl
  | succ k ih=>
   intro i N hi hN
   obtain ⟨N,rfl⟩:∃ M,N=M+1:=⟨N - 1,by omega⟩
   have hi':i < l.length:=by omega
   have ho:=hok _ (Ae hi')
   obtain ⟨s1,_,s3,_⟩:=F.yN ho
   rw [WZ]
   simp only [bD,gD,dz hi',AL,gI hi',AA,QEj ho]
   have hany:((l[i]?).any fun x=>(F.rS x).any (dB fs i))=(F.rS l[i]).any (dB fs i):=by simp [hi']
   unfold nlS
   rw [hany]
   generalize F.rS l[i]=r at s1 s3
   have:=ah (g:=dO big (Gb (bD big) N)) (mk:=fun q=>((r.length:Int),(q:Int),r,F.ints fs,(i:Int),l,(l.length:Int),(i:Int))) (p:=fun q=>(r[q]?).all fun (s:Int)=>!dB fs i s) (no:=some (i:Int)) (kk:=some (nlS l fs k (i+1))) (n:=r.length)
    (fun self q hq=>by
     have hs:=s1 _ (Ae hq)
     simp only [dO,ku,dz hq,AL,F.mZ hq,F.zY (AU hq),AA,F.QGZ (show i < fs.length by omega),AF (show ¬ r[q] < 0 by omega),AJ,F.QN0 hs.1 (show r[q]<=16 by omega),F.QWg (h16 i) (F.QK3 hs.1 hs.2),wS hq (by omega),pat hq,dB]
     by_cases hz:(F.ma fs i &&& 2 ^ (r[q]).toNat)=0
     ·have e0:(((F.ma fs i &&& 2 ^ (r[q]).toNat:Nat):Int)==(0:Int))=true:=by rw [hz];rfl
      rw [e0,AL,AB (show ((q:Int)≥0) by omega),AL,AB hz]
      rfl
     ·have e0:(((F.ma fs i &&& 2 ^ (r[q]).toNat:Nat):Int)==(0:Int))=false:=by rw [Ay];omega
      rw [e0,AJ,AF hz]
      rfl)
    (fun self=>by
     simp only [dO,ku,dx,AJ,wS hi' (by omega)]
     exact ih (i+1) N (by omega) (by omega)) r.length 0 big (by omega) (dP (by omega))
   rw [QBf,show ((0:Nat):Int)=0 from rfl] at this
   rw [this]
   have e:r.all (fun s=>!dB fs i s)=!r.any (dB fs i):=by rw [List.not_any_eq_all_not]
   rw [e]
   cases r.any (dB fs i) <;> rfl
 exact key l.length 0 big (by omega) (dP (by omega))
theorem QMz {v:List Int} (h1:1<=v.length) (h2:v.length<=200):fT v=some (T.iM v):=by
 show j3 (fun _=>List.replicate) (Gb (bf (fun _=>List.replicate) big) big) v=_
 unfold j3
 rw [F.QBq (by omega),AL,Aj]
 have key:∀ (k i N:Nat) (x:List Int),i+k=v.length->k < N->x.length=v.length->x.take i=v.take i->Gb (bf (fun _=>List.replicate) big) N (v,(v.length:Int),(i:Int),x)=some (T.iM v):=by
  intro k
  induction k with
  | zero=>
   intro i N x hi hN hx ht
   obtain ⟨N,rfl⟩:∃ M,N=M+1:=⟨N - 1,by omega⟩
   obtain rfl:i=v.length:=by omega
   rw [BA (by omega),BA (by omega)] at ht
   subst ht
   rw [WZ]
   simp only [bf,mG,dx,AJ,T.QHd,AA,T.QJw]
   rw [AX (by omega)]
  | succ k ih=>
   intro i N x hi hN hx ht
   obtain ⟨N,rfl⟩:∃ M,N=M+1:=⟨N - 1,by omega⟩
   have hi':i < v.length:=by omega
   rw [WZ]
   simp only [bf,mG,dz hi',AL,gI hi',AA,F.mZ (show i < x.length by omega),wS hi' (by omega)]
   rw [Aj]
   exact ih (i+1) N _ (by omega) (by omega) (by rw [BI];exact hx) (by rw [MQ _ _ _ (by omega),ht,Ah hi'])
 exact key v.length 0 big _ (by omega) (dP (by omega)) List.length_replicate rfl
theorem QMy {v:List Int} (h1:1<=v.length) (h2:v.length<=200) (hv:∀ x∈v,0<=x/\x<=1000000):kE v=some (T.iM v):=by
 show oV (fun _=>List.replicate) (Gb (eB (fun _=>List.replicate) big) big) v=_
 unfold oV
 rw [F.QBq (by omega),AL,Aj]
 have key:∀ (k i N:Nat) (x:List Int),i+k=v.length->k < N->x.length=v.length->x.take i=v.take i->Gb (eB (fun _=>List.replicate) big) N (v,(v.length:Int),(i:Int),x)=some (T.iM v):=by
  intro k
  induction k with
  | zero=>
   intro i N x hi hN hx ht
   obtain ⟨N,rfl⟩:∃ M,N=M+1:=⟨N - 1,by omega⟩
   obtain rfl:i=v.length:=by omega
   rw [BA (by omega),BA (by omega)] at ht
   subst ht
   rw [WZ]
   simp only [eB,qW,dx,AJ,T.QHd,AA,T.QJw]
   rw [AX (by omega)]
  | succ k ih=>
   intro i N x hi hN hx ht
   obtain ⟨N,rfl⟩:∃ M,N=M+1:=⟨N - 1,by omega⟩
   have hi':i < v.length:=by omega
   have hb:=hv _ (Ae hi')
   rw [WZ]
   simp only [eB,qW,dz hi',AL,gI hi',AA,F.mZ (show i < x.length by omega),wS hi' (by omega)]
   rw [Aj,show IntKind.u64.wrap v[i]=v[i] by rw [wrap_u64];omega]
   exact ih (i+1) N _ (by omega) (by omega) (by rw [BI];exact hx) (by rw [MQ _ _ _ (by omega),ht,Ah hi'])
 exact key v.length 0 big _ (by omega) (dP (by omega)) List.length_replicate rfl
open Classical in
noncomputable def QB8 (m:cK) (f:cO):List Int:=if h:∃ dep,F.IsD f.2.2.2.2.1 (bsF m f) dep then Classical.choose h else []
theorem QJe {m:cK} {f:cO} {dep:List Int} (h:F.IsD f.2.2.2.2.1 (bsF m f) dep):QB8 m f=dep:=by
 unfold QB8
 rw [dif_pos ⟨dep,h⟩]
 exact (Classical.choose_spec (⟨dep,h⟩:∃ dep,F.IsD f.2.2.2.2.1 (bsF m f) dep)).same h
open Classical in
noncomputable def tN (f:cO):List Nat:=if h:∃ fs,F.IsM f.2.2.2.2.1 (F.wm f.2.2.2.2.1) (F.low f.2.1) (F.low (f.2.2.2.1.length:Int)) fs then Classical.choose h else []
theorem QOs {f:cO} {fs:List Nat} (h:F.IsM f.2.2.2.2.1 (F.wm f.2.2.2.2.1) (F.low f.2.1) (F.low (f.2.2.2.1.length:Int)) fs):tN f=fs:=by
 unfold tN
 rw [dif_pos ⟨fs,h⟩]
 exact (Classical.choose_spec (⟨fs,h⟩:∃ fs,F.IsM f.2.2.2.2.1 (F.wm f.2.2.2.2.1) (F.low f.2.1) (F.low (f.2.2.2.1.length:Int)) fs)).same h
noncomputable def fwF (m:cK) (f:cO):Int×Int:=fwS m f f.2.2.2.2.1 (F.yM f.2.2.2.2.1) f.2.2.2.2.1.length 0
open Classical in
noncomputable def flt (m:cK) (fi:Int) (f:cO):Int×Int:=
 if F.yL f.2.2.2.2.1=false then (-1,12)
 else if fi=0/\(0 < f.2.1∨f.2.2.1≠-1) then (-1,30)
 else if (fwF m f).2≠0 then fwF m f
 else if ¬ QA7 m f then (-1,36)
 else if nlS f.2.2.2.2.1 (tN f) f.2.2.2.2.1.length 0≠-1 then (nlS f.2.2.2.2.1 (tN f) f.2.2.2.2.1.length 0,38)
 else (0,0)
noncomputable def yw (m:cK) (f:cO):cO:=(f.1,(f.2.1,(f.2.2.1,(f.2.2.2.1,(f.2.2.2.2.1,(T.iM (QB8 m f),(T.iM (F.ints (tN f)),())))))))
def QQc:cO:=([],(0,(0,([],([],([],([],())))))))
noncomputable def wtS (m:cK) (fi:Int) (f:cO):cO×Int×Int:=(if (flt m fi f).2=0 then yw m f else QQc,flt m fi f)
theorem QQT {m:cK} (V:Zv m) {f:cO} (v:Zu m.1.length f) (hc:F.yL f.2.2.2.2.1=true) (hz:(fwF m f).2=0):Bt m f/\∀ x∈f.2.2.2.2.1,gK m f x=true:=by
 have hrl:=F.QEf f.2.2.2.2.1
 have key:=QJr (by omega) hrl.symm hz
 have one:∀ j,(h:j < f.2.2.2.2.1.length)->tO m f f.2.2.2.2.1[j]=true/\(F.yM f.2.2.2.2.1)[j]? = some true/\gK m f f.2.2.2.2.1[j]=true:=by
  intro j h
  obtain ⟨h',e⟩:=key j (by omega) h
  unfold QEL at e
  split at e
  ·exact absurd e (by decide)
  ·split at e
   ·exact absurd e (by decide)
   ·split at e
    ·exact absurd e (by decide)
    ·rename_i e1 e2 e3
     refine ⟨by simpa using e1,?_,by simpa using e3⟩
     rw [AU h']
     simpa using e2
 refine ⟨⟨V,v,hc,fun x hx=>?_,fun i hi=>(F.QKu hc hi).1 (one i hi).2.1⟩,fun x hx=>?_⟩
 ·obtain ⟨j,hj,rfl⟩:=List.mem_iff_getElem.1 hx
  exact (one j hj).1
 ·obtain ⟨j,hj,rfl⟩:=List.mem_iff_getElem.1 hx
  exact (one j hj).2.2
theorem Bt.low {m:cK} {f:cO} (C:Bt m f):F.QBa f.2.2.2.2.1 f.2.1 (f.2.2.2.1.length:Int)=0:=by
 rw [F.QKf]
 refine ⟨⟨C.v.par.1,C.v.par.2,by have:=C.v.sl;omega⟩,List.all_eq_true.2 fun x hx=>?_⟩
 have:=C.hr x hx
 simp only [tO,AP,List.all_append] at this
 simp only [F.QEv,AP]
 exact this.1
theorem QGV {m:cK} {f:cO} (C:Bt m f):pO (f.2.2.2.2.1,f.2.1,(f.2.2.2.1.length:Int))=some (F.ints (tN f),0)/\F.IsM f.2.2.2.2.1 (F.wm f.2.2.2.2.1) (F.low f.2.1) (F.low (f.2.2.2.1.length:Int)) (tN f):=by
 have:=F.QLp (l:=f.2.2.2.2.1) f.2.1 (f.2.2.2.1.length:Int)
 unfold F.xX at this
 rw [AY C.hc,AY C.low] at this
 obtain ⟨fs,h1,h2⟩:=this
 rw [QOs h2]
 exact ⟨h1,h2⟩
theorem QJt {l:List Ins} {bs dep:List Int} (hc:F.yL l=true) (h:F.IsD l bs dep):∀ x∈dep,0<=x/\x<=1000000:=by
 obtain ⟨hl,D,hR,hd⟩:=h
 intro x hx
 obtain ⟨i,hi,rfl⟩:=List.mem_iff_getElem.1 hx
 have e:dep[i]=F.da dep i:=by simp [F.da,hi]
 rw [e]
 by_cases hr:F.Rc (F.G l) i
 ·rw [(hd i (by omega)).1 hr];have:=hR.bd hr;omega
 ·rw [(hd i (by omega)).2 hr];omega
theorem QF0 {m:cK} (V:Zv m) {fi:Nat} {f:cO} (hf:m.2.2.1[fi]? = some f):lG (m,(fi:Int),tQ m.1)=some (wtS m fi f):=by
 have hfi:=(Ap.1 hf).1
 have v:=V.ok f (BD hf)
 have hcd:=v.cd
 show qy _=_
 unfold qy
 dsimp only
 have hg:Nk m.2.2.1 (fi:Int)=some f:=by rw [gI hfi,← AU hfi,hf]
 rw [hg,AA,F.yR,AA]
 have wz:∀ q:Int×Int,flt m fi f=q->q.2≠0->some (QQc,q.1,q.2)=some (wtS m fi f):=fun q e h=>by unfold wtS;rw [e,AX h]
 cases hc:F.yL f.2.2.2.2.1 with
 | false=>
  rw [AX (by simp),show ((8:Int) != (0:Int))=true from rfl,AL]
  exact wz (-1,12) (by unfold flt;rw [AY hc]) (by decide)
 | true=>
  rw [AY rfl,show ((0:Int) != (0:Int))=false from rfl,AJ]
  have rest:¬ ((fi:Int)=0/\(0 < f.2.1∨f.2.2.1≠-1))->((bZ (m,(f,()))).bind fun jf=>(bif (jf.2 != (0:Int)) then (let vU:cO:=(([]:List Int),((0:Int),((0:Int),(([]:List K.tV),(([]:List Ins),(([]:List T.Tc),(([]:List T.Tc),())))))));(some (vU,jf.1,jf.2))) else ((fD ((m,(f,())),tQ m.1)).bind fun yQ=>(bif (!yQ.2) then (let x18:cO:=(([]:List Int),((0:Int),((0:Int),(([]:List K.tV),(([]:List Ins),(([]:List T.Tc),(([]:List T.Tc),())))))));(some (x18,(-1:Int),(36:Int)))) else ((pO (f.2.2.2.2.1,f.2.1,(List.length f.2.2.2.1:Int))).bind fun zh=>((fC (f.2.2.2.2.1,zh.1)).bind fun x20=>(bif (x20 != (-1:Int)) then (let x21:cO:=(([]:List Int),((0:Int),((0:Int),(([]:List K.tV),(([]:List Ins),(([]:List T.Tc),(([]:List T.Tc),())))))));(some (x21,x20,(38:Int)))) else ((kE yQ.1).bind fun x22=>((fT zh.1).bind fun x23=>(some ((f.1,(f.2.1,(f.2.2.1,(f.2.2.2.1,(f.2.2.2.2.1,(x22,(x23,f.2.2.2.2.2.2.2))))))),(0:Int),(0:Int))))))))))))=some (wtS m fi f):=by
   intro hn
   rw [QEu V v hc,AA]
   show (bif (fwF m f).2 != 0 then _ else _)=_
   by_cases hz:(fwF m f).2=0
   rotate_left
   ·rw [gV,AF hz,A8,AL]
    exact wz (fwF m f) (by unfold flt;rw [AX (by simp [hc]),AX hn,AY hz]) hz
   rw [gV,AB hz,Az,AJ]
   obtain ⟨C,_⟩:=QQT V v hc hz
   obtain ⟨dep,b,e1,hb,hd⟩:=QKd C
   obtain ⟨e2,hM⟩:=QGV C
   have h16:=hM.up hc (F.QBg (by have:=v.sl;omega))
   rw [e1,AA]
   dsimp only
   cases b with
   | false=>
    rw [A8,AL]
    have hs:¬ QA7 m f:=fun h=>by have:=hb.2 h;cases this
    exact wz (-1,36) (by unfold flt;rw [AX (by simp [hc]),AX hn,AX (by simp [hz]),AY hs]) (by simp)
   | true=>
    have hs:=hb.1 rfl
    have hD:=hd rfl
    rw [Az,AJ,e2,AA]
    dsimp only
    rw [QIT v.ok hcd.2 hM.1 h16,AA]
    by_cases hnl:nlS f.2.2.2.2.1 (tN f) f.2.2.2.2.1.length 0 = -1
    rotate_left
    ·rw [gV,AF hnl,A8,AL]
     exact wz (nlS f.2.2.2.2.1 (tN f) f.2.2.2.2.1.length 0,38) (by unfold flt;rw [AX (by simp [hc]),AX hn,AX (by simp [hz]),AX (by simp [hs]),AY hnl]) (by simp)
    ·have hdl:=hD.1
     rw [gV,AB hnl,Az,AJ,QMy (by omega) (by omega) (QJt hc hD),AA,QMz (by rw [F.aR,hM.1];exact hcd.1) (by rw [F.aR,hM.1];exact hcd.2),AA]
     have e:flt m fi f=(0,0):=by unfold flt;rw [AX (by simp [hc]),AX hn,AX (by simp [hz]),AX (by simp [hs]),AX (by simp [hnl])]
     unfold wtS
     rw [e,AY rfl,yw,QJe hD]
  by_cases h0:(fi:Int)=0
  ·have e0:((fi:Int)==(0:Int))=true:=by rw [h0];rfl
   rw [e0,AL]
   by_cases hp:f.2.1 > 0
   ·rw [AB hp,AL]
    exact wz (-1,30) (by unfold flt;rw [AX (by simp [hc]),AY ⟨h0,.inl hp⟩]) (by decide)
   rw [AF hp,AJ,gV]
   by_cases hr:f.2.2.1 = -1
   ·rw [AB hr,Az,AJ]
    exact rest fun h=>by rcases h.2 with h | h;exact hp h;exact h hr
   ·rw [AF hr,A8,AL]
    exact wz (-1,30) (by unfold flt;rw [AX (by simp [hc]),AY ⟨h0,.inr hr⟩]) (by decide)
  ·have e0:((fi:Int)==(0:Int))=false:=by rw [Ay];exact h0
   rw [e0,AJ]
   exact rest fun h=>h0 h.1
noncomputable def QEH (m:cK):Nat->Nat->Int×Int×Int
 | 0,_=>(0,0,0)
 | k+1,i=>match m.2.2.1[i]? with
  | some f=>if (flt m i f).2≠0 then ((i:Int),flt m i f) else if f=yw m f then QEH m k (i+1) else ((i:Int),-1,32)
  | none=>(0,0,0)
theorem QCL {m:cK} {f:cO}:f=yw m f↔f.2.2.2.2.2.1=T.iM (QB8 m f)/\f.2.2.2.2.2.2.1=T.iM (F.ints (tN f)):=by
 obtain ⟨a,b,c,d,e,g,h,u⟩:=f
 constructor
 ·intro e
  have e2:=congrArg (fun q:cO=>(q.2.2.2.2.2.1,q.2.2.2.2.2.2.1)) e
  simp only [yw,Prod.mk.injEq] at e2
  exact e2
 ·rintro ⟨h1,h2⟩
  unfold yw
  dsimp only at h1 h2 ⊢
  rw [← h1,← h2]
theorem QLO {m:cK} (h:QKW m):pY m=some (if chk m=0 then QEH m m.2.2.1.length 0 else (0,0,chk m)):=by
 show u6 (Gb (jF big) big) m=_
 unfold u6
 rw [QEa m h,AA]
 by_cases hc:chk m=0
 rotate_left
 ·rw [gV,AF hc,A8,AL,AX hc]
 have V:=QNC (QIF hc).1
 have hn:=V.fn.2
 rw [gV,AB hc,Az,AJ,AY hc,QN1 V,AA]
 have key:∀ (k i N:Nat),i+k=m.2.2.1.length->k < N->Gb (jF big) N (tQ m.1,m.2.2.1,(m.2.2.1.length:Int),(i:Int),m)=some (QEH m k i):=by
  intro k
  induction k with
  | zero=>
   intro i N hi hN
   obtain ⟨N,rfl⟩:∃ M,N=M+1:=⟨N - 1,by omega⟩
   obtain rfl:i=m.2.2.1.length:=by omega
   rw [WZ]
   simp only [jF,vv,dx,AJ]
   rfl
  | succ k ih=>
   intro i N hi hN
   obtain ⟨N,rfl⟩:∃ M,N=M+1:=⟨N - 1,by omega⟩
   have hi':i < m.2.2.1.length:=by omega
   have hx:m.2.2.1[i]? = some m.2.2.1[i]:=AU hi'
   have hb:=h.fn _ (Ae hi')
   rw [WZ]
   simp only [jF,vv,dz hi',AL,gI hi',AA,QF0 V hx,QEH,hx,wS hi' (by omega)]
   generalize m.2.2.1[i]=f at hb
   by_cases hz:(flt m i f).2=0
   ·simp only [wtS,hz,if_true,gV,decide_true,Az,AJ]
    rw [QLN _ _ hb.1,AA,QLN _ _ hb.2,AA]
    have e1:(yw m f).2.2.2.2.2.1=T.iM (QB8 m f):=rfl
    have e2:(yw m f).2.2.2.2.2.2.1=T.iM (F.ints (tN f)):=rfl
    rw [e1,e2,AX (by simp)]
    by_cases s1:f.2.2.2.2.2.1=T.iM (QB8 m f)
    ·rw [AB s1,Az,AJ]
     by_cases s2:f.2.2.2.2.2.2.1=T.iM (F.ints (tN f))
     ·rw [AB s2,Az,AJ,AY (QCL.2 ⟨s1,s2⟩)]
      exact ih (i+1) N (by omega) (by omega)
     ·rw [AF s2,A8,AL,AX (fun e=>s2 (QCL.1 e).2)]
    ·rw [AF s1,A8,AL,AX (fun e=>s1 (QCL.1 e).1)]
   ·simp only [wtS,AX hz,gV,AF hz,A8,AL]
    rw [AY hz]
 exact key m.2.2.1.length 0 big (by omega) (dP (by omega))
theorem QKH {m:cK} (h:QKW m):pX m=some (if chk m=0 then (QEH m m.2.2.1.length 0).2.2 else chk m):=by
 show (pY m).bind _=_
 rw [QLO h,AA]
 split <;> rfl
theorem QD1 (x n:Int):lg (x,n)=some (K.iL x n):=by
 show wM (x,n)=_
 unfold wM K.iL
 by_cases h:0<=x
 ·simp [h]
 ·simp [h]
def Good (m:cK) (j:Nat):Prop:=∃ f,m.2.2.1[j]? = some f/\(flt m j f).2=0/\f=yw m f
theorem QHL {m:cK}:∀ {k i:Nat},i+k=m.2.2.1.length->
  (QEH m k i=(0,0,0)/\∀ j,i<=j->j < m.2.2.1.length->Good m j)∨∃ j f,i<=j/\m.2.2.1[j]? = some f/\(∀ q,i<=q->q < j->Good m q)/\
   ((flt m j f).2≠0/\QEH m k i=((j:Int),flt m j f)∨(flt m j f).2=0/\f≠yw m f/\QEH m k i=((j:Int),-1,32))
 | 0,i,hi=>.inl ⟨rfl,fun j h1 h2=>by omega⟩
 | k+1,i,hi=>by
  have hx:m.2.2.1[i]? = some m.2.2.1[i]:=AU (by omega)
  simp only [QEH,hx]
  by_cases hz:(flt m i m.2.2.1[i]).2=0
  rotate_left
  ·rw [AY hz]
   exact .inr ⟨i,_,Nat.le_refl _,hx,fun q h1 h2=>by omega,.inl ⟨hz,rfl⟩⟩
  rw [AX (by simp [hz])]
  by_cases ht:m.2.2.1[i]=yw m m.2.2.1[i]
  rotate_left
  ·rw [AX ht]
   exact .inr ⟨i,_,Nat.le_refl _,hx,fun q h1 h2=>by omega,.inr ⟨hz,ht,rfl⟩⟩
  rw [AY ht]
  have hg:Good m i:=⟨_,hx,hz,ht⟩
  rcases QHL (m:=m) (show (i+1)+k=m.2.2.1.length by omega) with ⟨h1,h2⟩ | ⟨j,f,h1,h2,h3,h4⟩
  ·refine .inl ⟨h1,fun j h3 h4=>?_⟩
   by_cases e:j=i
   ·subst e;exact hg
   ·exact h2 j (by omega) h4
  ·refine .inr ⟨j,f,by omega,h2,fun q h5 h6=>?_,h4⟩
   by_cases e:q=i
   ·subst e;exact hg
   ·exact h3 q (by omega) h6
theorem QBR:aW ()=some true:=by kernel_rfl
theorem QCq {v:List Int} (h:1<=v.length):(T.iM v).length<=v.length:=T.QCl (T.QIR (by intro e;rw [e] at h;simp at h))
theorem QIf {m:cK} {fi:Int} {f:cO} (V:Zv m) (v:Zu m.1.length f) (hz:(flt m fi f).2=0):Bt m f/\QA7 m f/\nlS f.2.2.2.2.1 (tN f) f.2.2.2.2.1.length 0 = -1/\(∀ x∈f.2.2.2.2.1,gK m f x=true)/\¬ (fi=0/\(0 < f.2.1∨f.2.2.1≠-1)):=by
 unfold flt at hz
 split at hz
 ·exact absurd hz (by decide)
 rename_i h1
 split at hz
 ·exact absurd hz (by decide)
 rename_i h2
 split at hz
 ·rename_i h3;exact absurd hz h3
 rename_i h3
 split at hz
 ·exact absurd hz (by decide)
 rename_i h4
 split at hz
 ·exact absurd hz (by simp)
 rename_i h5
 obtain ⟨C,hfit⟩:=QQT V v (by simpa using h1) (by simpa using h3)
 exact ⟨C,by simpa using h4,by simpa using h5,hfit,h2⟩
theorem QA7.isD {m:cK} {f:cO} (h:QA7 m f):F.IsD f.2.2.2.2.1 (bsF m f) (QB8 m f):=by
 obtain ⟨⟨dep,h⟩,_⟩:=h
 rw [QJe h]
 exact h
theorem QL1 {m:cK} {fi:Int} {f:cO} (V:Zv m) (v:Zu m.1.length f) (hz:(flt m fi f).2=0):QTz (yw m f)/\(QB8 m f).length=f.2.2.2.2.1.length/\(tN f).length=f.2.2.2.2.1.length/\(T.iM (QB8 m f)).length<=200/\(T.iM (F.ints (tN f))).length<=200:=by
 obtain ⟨C,hs,_⟩:=QIf V v hz
 have h1:=hs.isD.1
 have h2:=(QGV C).2.1
 have hcd:=v.cd
 have l1:=QCq (v:=QB8 m f) (by omega)
 have l2:=QCq (v:=F.ints (tN f)) (by rw [F.aR];omega)
 rw [F.aR] at l2
 refine ⟨⟨by have:=v.sl;show f.2.2.2.1.length<=_;omega,by show f.2.2.2.2.1.length<=_;omega,?_,?_⟩,h1,h2,by omega,by omega⟩
 ·show (T.iM (QB8 m f)).length<=_;omega
 ·show (T.iM (F.ints (tN f))).length<=_;omega
def sf (f:cO):cO:=(f.1,(f.2.1,(f.2.2.1,(f.2.2.2.1,(f.2.2.2.2.1,([],([],())))))))
def sm (m:cK):cK:=(m.1,(m.2.1,(m.2.2.1.map sf,())))
theorem QSZ (m:cK) (f:cO) (x:Ins):tO (sm m) (sf f) x=tO m f x:=by
 unfold tO
 show (_&&match rO x with | some g=>decide (g < (m.2.2.1.map sf).length) | none=>_)=_
 rw [Aw]
 rfl
theorem QSS (m:cK) (f:cO) (x:Ins):gK (sm m) (sf f) x=gK m f x:=by
 have e:∀ k:Int,(sm m).2.2.1[k.toNat]? = (m.2.2.1[k.toNat]?).map sf:=fun k=>by simp [sm]
 unfold gK
 rw [e,e,Option.map_map,Option.map_map]
 rfl
theorem QSV (m:cK) (f:cO) (x:Ins) (r:Bool):QEL (sm m) (sf f) x r=QEL m f x r:=by
 unfold QEL
 rw [QSZ,QSS]
theorem QQU (m:cK) (f:cO) (l:List Ins) (rs:List Bool):∀ k i,fwS (sm m) (sf f) l rs k i=fwS m f l rs k i
 | 0,i=>rfl
 | k+1,i=>by
  unfold fwS
  simp only [QSV,QQU m f l rs k]
theorem QN8 (m:cK) (x:Ins):tkn (sm m) x=tkn m x:=by
 have e:∀ k:Int,(sm m).2.2.1[k.toNat]? = (m.2.2.1[k.toNat]?).map sf:=fun k=>by simp [sm]
 unfold tkn
 cases rO x with
 | none=>rfl
 | some g=>
  dsimp only
  rw [e]
  cases m.2.2.1[g.toNat]? <;> rfl
theorem QQM (m:cK) (f:cO):bsF (sm m) (sf f)=bsF m f:=by
 unfold bsF
 simp only [QN8]
 rfl
theorem QSP (m:cK) (f:cO):QB8 (sm m) (sf f)=QB8 m f:=by
 have key:∀ b,b=bsF m f->(open Classical in if h:∃ dep,F.IsD f.2.2.2.2.1 b dep then Classical.choose h else [])=QB8 m f:=by
  rintro _ rfl;rfl
 exact key _ (QQM m f)
theorem QXg (m:cK) (l:List Ins):tkF (sm m) l=tkF m l:=by
 funext i
 unfold tkF
 cases l[i]? with
 | none=>rfl
 | some x=>exact QN8 m x
theorem QSa (m:cK) (f:cO):QA7 (sm m) (sf f)=QA7 m f:=by
 unfold QA7
 rw [QQM,QXg]
 rfl
theorem QMc (m:cK) (i:Int) (f:cO):flt (sm m) i (sf f)=flt m i f:=by
 have e:fwF (sm m) (sf f)=fwF m f:=QQU m f _ _ _ _
 have key:∀ (w:Int×Int) (P:Prop),w=fwF m f->P=QA7 m f->(open Classical in if F.yL f.2.2.2.2.1=false then ((-1,12):Int×Int)
  else if i=0/\(0 < f.2.1∨f.2.2.1≠-1) then (-1,30)
  else if w.2≠0 then w
  else if ¬ P then (-1,36)
  else if nlS f.2.2.2.2.1 (tN f) f.2.2.2.2.1.length 0≠-1 then (nlS f.2.2.2.2.1 (tN f) f.2.2.2.2.1.length 0,38)
  else (0,0))=flt m i f:=by
  rintro _ _ rfl rfl;rfl
 have k:=key _ _ e (QSa m f)
 have hm:tN (sf f)=tN f:=rfl
 rw [← k]
 unfold flt
 rfl
theorem QN6 (m:cK) (f:cO):yw (sm m) (sf f)=yw m f:=by
 unfold yw
 rw [QSP]
 rfl
noncomputable def mend (m:cK) (k:Nat) (f:cO):cO:=if (flt m k f).2=0 then yw m f else f
theorem QGa (m:cK) (k:Nat) (f:cO):sf (mend m k f)=sf f:=by
 unfold mend
 split <;> rfl
structure Mnd (m n:cK):Prop where
 ty:n.1=m.1
 tx:n.2.1=m.2.1
 fn:∀ k,n.2.2.1[k]? = (m.2.2.1[k]?).map (mend m k)
theorem Mnd.sm {m n:cK} (h:Mnd m n):sm n=sm m:=by
 have:n.2.2.1.map sf=m.2.2.1.map sf:=by
  apply List.ext_getElem?
  intro k
  rw [List.getElem?_map,List.getElem?_map,h.fn]
  cases m.2.2.1[k]? with
  | none=>rfl
  | some f=>exact congrArg some (QGa m k f)
 unfold C.sm
 rw [h.ty,h.tx,this]
theorem Mnd.flt {m n:cK} (h:Mnd m n) (k:Nat) (f:cO):flt n k (mend m k f)=C.flt m k f:=by
 rw [← QMc,h.sm,QGa,QMc]
theorem Mnd.tab {m n:cK} (h:Mnd m n) (k:Nat) (f:cO):yw n (mend m k f)=yw m f:=by
 rw [← QN6,h.sm,QGa,QN6]
theorem QOr {k:Nat} {p:Int} {v:List Int}:∀ r∈T.mkR k p v,r.2.1∈v:=by
 induction v generalizing k p with
 | nil=>intro r h;cases h
 | cons x v ih=>
  intro r h
  unfold T.mkR at h
  split at h
  ·exact List.mem_cons_of_mem _ (ih r h)
  ·rcases List.mem_cons.1 h with rfl | h
   ·exact List.mem_cons_self
   ·exact List.mem_cons_of_mem _ (ih r h)
theorem QFO {v:List Int}:∀ r∈T.iM v,r.2.1∈v:=by
 cases v with
 | nil=>intro r h;cases h
 | cons x v=>
  intro r h
  rcases List.mem_cons.1 h with rfl | h
  ·exact List.mem_cons_self
  ·exact List.mem_cons_of_mem _ (QOr r h)
theorem Mnd.all {m n:cK} (h:Mnd m n) (V:Zv m) (ha:QCV m):QCV n:=by
 have mem:∀ f∈n.2.2.1,f∈m.2.2.1∨∃ (k:Nat) (g:cO),g∈m.2.2.1/\(C.flt m k g).2=0/\f=yw m g:=by
  intro f hf
  obtain ⟨k,hk,rfl⟩:=List.mem_iff_getElem.1 hf
  have e:=h.fn k
  rw [AU hk] at e
  cases hg:m.2.2.1[k]? with
  | none=>rw [hg] at e;cases e
  | some g=>
   rw [hg,BH,Ac] at e
   have hm:=BD hg
   rw [e]
   unfold mend
   by_cases hz:(C.flt m k g).2=0
   ·rw [AY hz];exact .inr ⟨k,g,hm,hz,rfl⟩
   ·rw [AX hz];exact .inl hm
 refine ⟨by rw [h.ty];exact ha.ty,fun f hf=>?_,fun f hf=>?_⟩
 ·rcases mem f hf with hf | ⟨k,g,hg,hz,rfl⟩
  ·exact ha.fn f hf
  ·obtain ⟨_,_,_,l1,l2⟩:=QL1 V (V.ok g hg) hz
   exact ⟨(ha.fn g hg).1,by show (T.iM _).length<=_;omega,by show (T.iM _).length<=_;omega⟩
 ·rcases mem f hf with hf | ⟨k,g,hg,hz,rfl⟩
  ·exact ha.mem f hf
  ·obtain ⟨b1,b2,b3,b4⟩:=ha.mem g hg
   obtain ⟨Ag,hs,_⟩:=QIf V (V.ok g hg) hz
   refine ⟨b1,b2,fun r hr=>?_,fun r hr=>?_⟩
   ·have:=QJt Ag.hc hs.isD _ (QFO r hr)
    exact ⟨this.1,by omega⟩
   ·have hx:=QFO r hr
    obtain ⟨i,hi,e⟩:=List.mem_iff_getElem.1 hx
    have hu:=(QGV Ag).2.up Ag.hc (F.QBg (by have:=Ag.v.sl;omega)) i
    rw [F.aR] at hi
    have e2:=F.QGZ (ms:=tN g) hi
    rw [← e]
    have e3:Nk (F.ints (tN g)) (i:Int)=some (F.ints (tN g))[i]:=gI (by rw [F.aR];exact hi)
    rw [e3,Ac] at e2
    rw [e2]
    omega
theorem QMa {m:cK} (h:(QEH m m.2.2.1.length 0).2.2=0) {k:Nat} (hk:k < m.2.2.1.length):Good m k:=by
 rcases QHL (m:=m) (k:=m.2.2.1.length) (i:=0) (by omega) with ⟨_,hg⟩ | ⟨j,f,_,_,_,⟨h1,h2⟩ | ⟨_,_,h2⟩⟩
 ·exact hg k (by omega) hk
 ·rw [h2] at h;exact absurd h h1
 ·rw [h2] at h;exact absurd (show (32:Int)=0 from h) (by decide)
theorem QEl (m:cK) {f:cO} {l:List Int} (hl:l.length<=1000) (h:∀ s∈l,kL f s):gX ((m,f,()),l)=some (l.map (lF f)):=by
 show iN (Gb (bJ big) big) _=_
 unfold iN
 dsimp only
 have:=fF (g:=bJ big) (mk:=fun i z=>(l,(l.length:Int),(i:Int),(m,f,()),z)) (l:=l) (cod:=fun s=>[lF f s]) (kk:=fun z=>some z) (B:=1000)
  (fun self i z hi hx=>by
   simp only [bJ,jv,dz hi,AL,gI hi,AA,gU m (h _ (Ae hi)),wS hi (by omega),bI (show z.length+List.length [lF f l[i]]<=L36 by simp [L36] at hx ⊢;omega)]
   rfl)
  (fun self z _=>by simp only [bJ,jv,dx,AJ]) l.length 0 big [] (by omega) (dP (by omega)) (by have:=qH (f:=fun s:Int=>[lF f s]) (k:=1) (l:=l) (by simp);simp only [List.drop_zero,Au];omega)
 rw [show ((0:Nat):Int)=0 from rfl] at this
 rw [this]
 simp only [List.drop_zero,List.nil_append]
 exact congrArg some List.map_eq_flatMap.symm
theorem QK6 {m:cK} {f:cO} {x:Ins} (ho:rF x=true) (hr:tO m f x=true):(∀ s∈F.rS x,kL f s)/\∀ s∈F.wS x,kL f s:=by
 obtain ⟨s1,s2,_⟩:=F.yN ho
 exact ⟨fun s hs=>⟨(s1 s hs).1,QCJ hr (by simp [hs])⟩,fun s hs=>⟨(s2 s hs).1,QCJ hr (by simp [hs])⟩⟩
theorem QLs {m:cK} (h:QKW m) (hc:chk m=0) {fi i:Nat} {f:cO} (hf:m.2.2.1[fi]? = some f) {x:Ins} (hx:f.2.2.2.2.1[i]? = some x) (hr:tO m f x=true) (ht:gK m f x=true) :
  uT (m,(fi:Int),(i:Int))=some ((F.rS x).map (lF f),(F.wS x).map (lF f),0):=by
 have V:=QNC (QIF hc).1
 have hfi:=(Ap.1 hf).1
 have hxi:=(Ap.1 hx).1
 have v:=V.ok f (BD hf)
 have ho:=v.ok x (BD hx)
 have hg:Nk m.2.2.1 (fi:Int)=some f:=by rw [gI hfi,← AU hfi,hf]
 have hgx:Nk f.2.2.2.2.1 (i:Int)=some x:=by rw [gI hxi,← AU hxi,hx]
 obtain ⟨_,_,l1,l2⟩:=F.yN ho
 obtain ⟨i1,i2⟩:=QK6 ho hr
 show zR (m,(fi:Int),(i:Int))=_
 unfold zR
 dsimp only
 have e1:K.iL (fi:Int) (m.2.2.1.length:Int)=true:=by simp [K.iL];omega
 have e2:K.iL (i:Int) (f.2.2.2.2.1.length:Int)=true:=by simp [K.iL];omega
 rw [QEa m h,AA,gV,AB hc,Az,AJ,QD1,AA,e1,Az,AJ,hg,AA,QD1,AA,e2,Az,AJ,AA]
 rw [hgx,AA,QBd m f ho,AA,hr,Az,AJ,QDw V v ho hr,AA,ht,Az,AJ,QEj ho,AA]
 dsimp only
 rw [QEl m (by omega) i1,AA,QEl m (by omega) i2,AA]
theorem QHo {f:cO} {l:List Int} (hl:l.length<=1000) (h:∀ s∈l,kL f s):uX (f,l,l.map (lF f))=some true:=by
 show vG (Gb (jJ big) big) _=_
 unfold vG
 dsimp only
 have:=ah (g:=jJ big) (mk:=fun i=>(l,l.map (lF f),(i:Int),f)) (p:=fun _=>true) (no:=some false) (kk:=some true) (n:=l.length)
  (fun self i hi=>by
   have hs:=h _ (Ae hi)
   obtain ⟨z,z1,z2,_⟩:=gu hs.1 hs.2
   have hz:lF f l[i]=z.2.1:=by rw [lF,z2];rfl
   have hm:Nk (l.map (lF f)) (i:Int)=some (lF f l[i]):=by rw [gI (by rw [Aw];exact hi),List.getElem_map]
   simp only [jJ,wC,dz hi,AL,gI hi,AA,AF (show ¬ l[i]≥(f.2.2.2.1.length:Int) by have:=hs.2;omega),AJ,z1,hm,hz,BF,wS hi (by omega)])
  (fun self=>by simp only [jJ,wC,dx,AJ]) l.length 0 big (by omega) (dP (by omega))
 rw [show ((0:Nat):Int)=0 from rfl] at this
 rw [this,show ((List.range' 0 l.length).all fun _=>true)=true by simp [List.all_eq_true]]
 rfl
theorem QEc (x:Ins):oJ x=some ((rO x).getD (-1)):=by
 show yK x=_
 unfold yK rO
 by_cases a:x.1=25
 ·simp [a]
 by_cases b:x.1=26
 ·simp [b]
 by_cases c:x.1=27
 ·simp [c]
 simp [a,b,c,bY]
theorem QOt {m:cK} (V:Zv m) {fi:Nat} {f:cO} (hf:m.2.2.1[fi]? = some f) {x:Ins} (ho:rF x=true) (h8:0<=x.1/\x.1<=255) (hr:tO m f x=true):QAE (m,(fi:Int),x)=some true:=by
 have hfi:=(Ap.1 hf).1
 have hg:Nk m.2.2.1 (fi:Int)=some f:=by rw [gI hfi,← AU hfi,hf]
 obtain ⟨_,_,l1,l2⟩:=F.yN ho
 show xS (Gb (iR big) big) _=_
 unfold xS
 dsimp only
 rw [F.QB3 ho h8.1 h8.2,AA]
 dsimp only
 rw [bI (show List.length ([]:List Int)+(F.rS x).length<=L36 by simp [L36];omega),AL,bI (show (List.append ([]:List Int) (F.rS x)).length+(F.wS x).length<=L36 by simp [L36];omega),AL]
 show Gb (iR big) big ((fi:Int),0,m,x,F.rS x++F.wS x)=_
 have hlen:(F.rS x++F.wS x).length<=6:=by simp;omega
 have hs:∀ s∈F.rS x++F.wS x,s < f.2.2.2.1.length:=fun s hs=>QCJ hr hs
 generalize F.rS x++F.wS x=l at hlen hs
 have:=ah (g:=iR big) (mk:=fun i=>((fi:Int),(i:Int),m,x,l)) (p:=fun _=>true) (no:=some false) (kk:=some true) (n:=l.length)
  (fun self i hi=>by
   have:=hs _ (Ae hi)
   simp only [iR,yA,dz hi,AL,AB (show (0:Int)<=(i:Int) by omega),Bool.and_self,F.zY (AU hi),AA,hg,AF (show ¬ l[i]≥(f.2.2.2.1.length:Int) by omega),AJ,wS hi (by omega)])
  (fun self=>by
   simp only [iR,yA,dx,AJ,QEc,AA]
   have hn:=V.fn.1
   simp only [tO,AP] at hr
   have h2:=hr.2
   cases hc:rO x with
   | some g=>
    have hx2:x.1≠2:=by unfold rO at hc;intro e;simp [e] at hc
    rw [hc] at h2
    simp only [AZ] at h2
    rw [BG,AB h2,AL,gV,AF hx2]
    rfl
   | none=>
    rw [hc] at h2
    rw [Option.getD_none,AB (show (-1:Int) < (m.2.2.1.length:Int) by omega),AL,gV]
    by_cases e:x.1=2
    ·simp only [e,decide_true,Az,Bool.false_or,AZ] at h2
     rw [AB e,Az,AJ,AB h2]
    ·rw [AF e];rfl) l.length 0 big (by omega) (dP (by omega))
 rw [show ((0:Nat):Int)=0 from rfl] at this
 rw [this,show ((List.range' 0 l.length).all fun _=>true)=true by simp [List.all_eq_true]]
 rfl
theorem QIa {m:cK} (V:Zv m) {fi:Nat} {f:cO} (hf:m.2.2.1[fi]? = some f) {x:Ins} (ho:rF x=true) (hr:tO m f x=true):xg (m,(fi:Int),x)=some (tkn m x,((psh f x)[0]?).getD (-1)):=by
 have hfi:=(Ap.1 hf).1
 have hg:Nk m.2.2.1 (fi:Int)=some f:=by rw [gI hfi,← AU hfi,hf]
 show sj (Gb (gQ big) big) _=_
 unfold sj psh tkn
 dsimp only
 by_cases e:x.1=24
 ·have hA:=(au ho hr (k:=24) e (show lY ((24:Nat):Int)=[1,0,0] by decide +kernel)).1 (by simp)
  obtain ⟨z,z1,z2,_⟩:=gu hA.1 hA.2
  have hc:rO x=none:=by unfold rO;simp [e]
  have es:xC (m,(fi:Int),x.2.1)=some (lF f x.2.1):=by
   show QAR _=_
   unfold QAR
   dsimp only
   rw [AF (show ¬ x.2.1 < 0 by have:=hA.1;omega),AJ,hg,AA,AF (show ¬ x.2.1≥(f.2.2.2.1.length:Int) by have:=hA.2;omega),AJ,AA,z1,AA,lF,z2]
   rfl
  rw [show (x.1==(24:Int))=true by simp [e],AL,es,AA,hc,AY e]
  rfl
 rw [show (x.1==(24:Int))=false by simp [e],AJ,QEc,AA,AX e]
 cases hc:rO x with
 | none=>rfl
 | some g=>
  have g0:=QBU ho hc
  obtain ⟨q,g1,g2,g3⟩:=gu g0 (QCI hr hc)
  have vq:=V.ok q g3
  obtain ⟨p,hp⟩:=BK vq.par.1
  have Qbk:p<=q.2.2.2.1.length:=by have:=vq.par.2;omega
  rw [BG,AB (show g≥0 from g0),AL]
  dsimp only
  rw [g2]
  dsimp only
  rw [hp,Aj]
  generalize hl:List.take p q.2.2.2.1=l
  have hll:l.length=p:=by rw [← hl,BJ];omega
  have Qbi:p<=16:=by have:=vq.sl;omega
  have hget:∀ i,(h:i < l.length)->Nk q.2.2.2.1 (i:Int)=some l[i]:=fun i h=>by
   rw [gI (by omega)]
   congr 1
   subst hl
   rw [List.getElem_take]
  have:=fF (g:=gQ big) (mk:=fun i z=>(g,(i:Int),m,z)) (l:=l) (cod:=fun z:K.tV=>[z.2.1]) (kk:=fun z=>some (z,(-1:Int))) (B:=100)
   (fun self i z hi hx=>by
    simp only [gQ,uK,g1,AA,hp,AB (show (i:Int) < (p:Int) by omega),AL,hget i hi,wS hi (by omega),bI (show z.length+List.length [l[i].2.1]<=L36 by simp [L36] at hx ⊢;omega)]
    rfl)
   (fun self z _=>by simp only [gQ,uK,g1,AA,hp,hll,dx,AJ]) l.length 0 big [] (by omega) (dP (by omega)) (by have:=qH (f:=fun z:K.tV=>[z.2.1]) (k:=1) (l:=l) (by simp);simp only [List.drop_zero,Au];omega)
  rw [show ((0:Nat):Int)=0 from rfl] at this
  rw [this]
  simp only [List.drop_zero,List.nil_append]
  rw [List.map_eq_flatMap]
  rfl
theorem QKo {m:cK} (V:Zv m) {s:List Int} (hl:s.length<=1000) (ht:Tys (tQ m.1) s):zM (m,s)=some (tot (tQ m.1) s):=by
 have hs:Sok (tQ m.1):=⟨QEg V⟩
 show vR (Gb (jT big) big) _=_
 unfold vR
 dsimp only
 rw [K.QFV V.sz.1,AA]
 dsimp only
 have key:∀ (k i N:Nat) (n:Int),i+k=s.length->k < N->0<=n->n<=264 * i->Gb (jT big) N (s,n,(i:Int),K.szs (K.exS m.1))=some (n+tot (tQ m.1) (s.drop i)):=by
  intro k
  induction k with
  | zero=>
   intro i N n hi hN h0 h1
   obtain ⟨N,rfl⟩:∃ M,N=M+1:=⟨N - 1,by omega⟩
   obtain rfl:i=s.length:=by omega
   rw [WZ]
   simp only [jT,wG,dx,AJ,List.drop_length,QKB,Int.add_zero]
  | succ k ih=>
   intro i N n hi hN h0 h1
   obtain ⟨N,rfl⟩:∃ M,N=M+1:=⟨N - 1,by omega⟩
   have hi':i < s.length:=by omega
   obtain ⟨t0,t1⟩:=ht _ (Ae hi')
   rw [QAk] at t1
   obtain ⟨t,et⟩:=BK t0
   have ht':t < m.1.length:=by omega
   have hsz:=V.sz.2 t ht'
   obtain ⟨e1,_⟩:=K.QFq V.sz.1 (i:=(t:Int)) (by omega) (by omega)
   have hu:=up8 e1 hsz
   have hR:qF (K.sz (K.exS m.1) (t:Int))=some (K.upS (K.sz (K.exS m.1) (t:Int)) 8):=by
    show wX _=_
    unfold wX
    rw [K.QId (.inr rfl) (by omega) (by omega),AA]
   have hq:nth (K.szs (K.exS m.1)) (Int.toNat (t:Int))=some (K.sz (K.exS m.1) (t:Int)):=by
    rw [F.tC,Aj,← TR]
    exact K.QHO (by omega) (by rw [K.uo];omega)
   have hle:(K.szs (K.exS m.1)).length=m.1.length:=by simp [K.uo]
   rw [WZ]
   simp only [jT,wG,dz hi',AL,gI hi',AA,et,hle,F.mZ ht',hq,hR,wS hi' (by omega)]
   rw [T.t64 (by omega) (by omega),ih (i+1) N _ (by omega) (by omega) (by omega) (by omega)]
   rw [A9 hi',QCN,et,Aj,Ad,QMx ht',BG,Int.add_assoc]
 have:=key s.length 0 big 0 (by omega) (dP (by omega)) (by omega) (by omega)
 simpa using this
theorem QHq {v:List Int} {i:Nat} {x:Int} (h1:1<=v.length) (h2:v.length<=200) (h:v[i]? = some x):gZ (T.iM v,(i:Int))=some x:=by
 rw [T.QKa _ _ (by have:=QCq h1;omega),T.QKk h]
theorem QJa {h:Nat} {s:Int} (h0:0<=s) (h1:s<=15) (hb:h.testBit s.toNat=true):((((h:Int).fdiv (2 ^ (min (Int.toNat s) 64))).tmod (2:Int))==(0:Int))=false:=by
 obtain ⟨k,rfl⟩:=BK h0
 rw [Aj] at hb ⊢
 rw [Nat.testBit_eq_decide_div_mod_eq,AZ] at hb
 have e:(h:Int).fdiv (2 ^ (min k 64))=((h / 2 ^ k:Nat):Int):=by
  rw [show min k 64=k by omega,Int.fdiv_eq_ediv_of_nonneg _ (by exact Int.le_of_lt (Int.pow_pos (by decide)))]
  simp
 rw [e,Int.tmod_eq_emod_of_nonneg (Int.natCast_nonneg _)]
 rw [Ay]
 omega
theorem QJv {ss:List Int} (hs:Sok ss):∀ {s:List Int},Tys ss s->8 * (s.length:Int)<=tot ss s
 | [],_=>by simp [tot]
 | t::s,ht=>by
  have h1:=QJv hs (s:=s) fun u hu=>ht u (by simp [hu])
  obtain ⟨z,_,z2,z3⟩:=gu (ht t (by simp)).1 (ht t (by simp)).2
  have:=hs.big z z3
  rw [QCN,Ad,z2,BG,Af]
  omega
structure Wk (m:cK) (f:cO) (S:Nat->List Int) (fs:List Nat) (dep:List Int):Prop where
 C:Bt m f
 fit:∀ x∈f.2.2.2.2.1,gK m f x=true
 sol:Sol (F.G f.2.2.2.2.1) (tkF m f.2.2.2.2.1) (puF f f.2.2.2.2.1) S
 dl:dep.length=f.2.2.2.2.1.length
 dp:∀ i,F.Rc (F.G f.2.2.2.2.1) i->F.da dep i=tot (tQ m.1) (S i)/\0<=F.da dep i/\F.da dep i<=4096/\Tys (tQ m.1) (S i)/\(S i).length<=1000
 fl:fs.length=f.2.2.2.2.1.length
 hold:F.Hold f.2.2.2.2.1 (F.low f.2.1) fs
 up:∀ i,F.ma fs i < 65536
 live:∀ (i:Nat) x,f.2.2.2.2.1[i]? = some x->∀ s∈F.rS x,(F.ma fs i).testBit s.toNat=true
 t1:f.2.2.2.2.2.1=T.iM dep
 t2:f.2.2.2.2.2.2.1=T.iM (F.ints fs)
theorem QXj {m:cK} (V:Zv m) {fi:Nat} {f:cO} (v:Zu m.1.length f) (hz:(flt m fi f).2=0) (ht:f=yw m f):∃ S fs dep,Wk m f S fs dep:=by
 obtain ⟨C,hs,hl,hfit,_⟩:=QIf V v hz
 have hM:=(QGV C).2
 obtain ⟨t1,t2⟩:=QCL.1 ht
 obtain ⟨r1,_,r3⟩:=hs.isD.right C.hc
 have ck:=(C.ck r3).c
 have hok:Sok (tQ m.1):=⟨QEg V⟩
 obtain ⟨_,S,hS⟩:=hs
 refine ⟨S,tN f,QB8 m f,C,hfit,hS,r1,fun i hi=>?_,hM.1,hM.hold C.hc,hM.up C.hc (F.QBg (by have:=v.sl;omega)),fun i x hx s hs'=>?_,t1,t2⟩
 ·obtain ⟨d1,d2⟩:=hS.dep ck hi
  have hb:=r3.bd hi
  have:=QJv hok d2
  exact ⟨d1.symm,hb.1,hb.2,d2,by omega⟩
 ·have hi:=(Ap.1 hx).1
  have:=QJz hl i (by omega) (by omega) x hx s hs'
  unfold dB at this
  rw [decide_eq_false_iff_not] at this
  cases hb:(F.ma (tN f) i).testBit s.toNat with
  | true=>rfl
  | false=>
   refine absurd (Nat.eq_of_testBit_eq fun t=>?_) this
   rw [Nat.testBit_and,Nat.testBit_two_pow,Nat.zero_testBit]
   by_cases e:s.toNat=t
   ·rw [← e,hb,Bool.false_and]
   ·rw [AF e,Bool.and_false]
def Pt (f:cO) (fs:List Nat) (s:Nat×Nat):Prop:=F.Rc (F.G f.2.2.2.2.1) s.1/\s.2 < 65536/\F.Tg (F.ma fs s.1) s.2
section
variable (m:cK) (f:cO) (fi:Int) (pk:List Int) (S:Nat->List Int) (self:Int×List Int×Int×Int×Int×cK×cO×List Int->Option Bool)
noncomputable def tailW (a h i:Int) (x:Ins) (s:List Int):Option Bool:=
 ((kQ (f.2.2.2.2.1,a)).bind fun x34=>(bif ((List.length x34:Int)==(0:Int)) then ((aW ()).bind fun x35=>(some x35)) else (bif (i==(List.length pk:Int)) then ((aW ()).bind fun x36=>(some x36)) else ((Nk pk i).bind fun x37=>(bif (decide (x37 < (0:Int))) then ((aW ()).bind fun x38=>(some x38)) else ((jE x).bind fun x39=>(let x40:Int:=(bits .or .u64 h x39);((Nk pk i).bind fun x41=>(bif ((List.length x34:Int)==0) then none else (let x42:Int:=(x41.tmod (List.length x34:Int));(bif (decide (0<=x42)&&decide (x42 < (List.length x34:Int))) then ((nth x34 (Int.toNat x42)).bind fun x43=>(let x44:Int:=(IntKind.i64.wrap (i+(1:Int)));(self (fi,pk,x43,x40,x44,m,f,s)))) else none)))))))))))
def TT (fs:List Nat) (i:Nat) (r:Option Bool):Prop:=(∃ s':Nat×Nat,Pt f fs s'/\r=self (fi,pk,(s'.1:Int),(s'.2:Int),((i+1:Nat):Int),m,f,S s'.1))∨r=some true
variable {m f fi pk S}
theorem QK8 {fs dep} (W:Wk m f S fs dep) (h8:F.WfC f.2.2.2.2.1) (hpk:pk.length<=200) {a h i:Nat} (hi:i < pk.length+1) (hI:Pt f fs (a,h)) {x:Ins} (hx:f.2.2.2.2.1[a]? = some x) {s:List Int} (hs:∀ j∈F.G f.2.2.2.2.1 a,S j=s) :
  TT m f fi pk S self fs i (tailW m f fi pk self (a:Int) (h:Int) (i:Int) x s):=by
 obtain ⟨i1,i2,i3⟩:=hI
 dsimp only at i1 i2 i3
 have hal:=i1.lt W.C.hc
 have hm:=BD hx
 have hW:=F.QXk W.C.hc a
 have hwr:jE x=some ((F.ma (F.wm f.2.2.2.2.1) a:Nat):Int):=by rw [F.QI7 (W.C.v.ok x hm) (h8 x hm).1 (h8 x hm).2,F.QIl hx]
 unfold tailW
 rw [F.QKG W.C.hc hal,AA,QBR]
 have hgl:=F.QJJ f.2.2.2.2.1 a
 have hG:=fun j (hj:j∈F.G f.2.2.2.2.1 a)=>And.intro (hs j hj) (And.intro (F.Rc.step i1 hj) ((W.hold.e a j i1 hj).trans (F.Tg.or i3)))
 simp only [F.aR]
 generalize F.G f.2.2.2.2.1 a=g at hgl hG
 by_cases hz:g.length=0
 ·right
  rw [show ((g.length:Int)==0)=true by rw [hz];rfl,AL];rfl
 have hz':((g.length:Int)==(0:Int))=false:=by rw [Ay];omega
 rw [hz',AJ]
 by_cases hip:i=pk.length
 ·right
  rw [show ((i:Int)==(pk.length:Int))=true by simp [hip],AL];rfl
 have QaJ:i < pk.length:=by omega
 rw [show ((i:Int)==(pk.length:Int))=false by simp;omega,AJ,gI QaJ,AA]
 by_cases hn:pk[i] < 0
 ·right
  rw [AB hn,AL];rfl
 left
 generalize pk[i]=y at hn
 have ht:y.tmod (g.length:Int)=((y.toNat % g.length:Nat):Int):=by
  rw [Int.tmod_eq_emod_of_nonneg (by omega),Int.natCast_emod,Int.toNat_of_nonneg (by omega)]
 have hk:y.toNat % g.length < g.length:=Nat.mod_lt _ (by omega)
 obtain ⟨g1,g2,g3⟩:=hG _ (Ae hk)
 rw [AF hn,AJ,hwr,AA]
 rw [AA,AJ,ht,F.QGT hk,AL,F.zY (F.ints_at (AU hk)),AA,F.bor i2 hW,F.w64 (z:=(i:Int)+1) (by omega) (by omega)]
 exact ⟨(g[y.toNat % g.length],h ||| F.ma (F.wm f.2.2.2.2.1) a),⟨g2,F.QSX i2 hW,g3⟩,by rw [g1];rfl⟩
end
theorem walk_in {m:cK} (V:Zv m) {fi:Nat} {f:cO} (hf:m.2.2.1[fi]? = some f) {S fs dep} (W:Wk m f S fs dep) (h8:F.WfC f.2.2.2.2.1) {pk:List Int} (hpk:pk.length<=200) (self) {a h i:Nat} (hi:i < pk.length+1) (hI:Pt f fs (a,h)) {x:Ins} (hx:f.2.2.2.2.1[a]? = some x) :
  TT m f (fi:Int) pk S self fs i (Gb (dV big self) big ((fi:Int),pk,(a:Int),(h:Int),(i:Int),0,m,f,S a,x,F.rS x)):=by
 obtain ⟨i1,i2,i3⟩:=id hI
 dsimp only at i1 i2 i3
 have hm:=BD hx
 have ho:=W.C.v.ok x hm
 have hr:=W.C.hr x hm
 have hal:=i1.lt W.C.hc
 have hcd:=W.C.v.cd
 obtain ⟨s1,_,l1,_⟩:=F.yN ho
 obtain ⟨d1,d2,d3,d4,d5⟩:=W.dp a i1
 have v1:gZ (f.2.2.2.2.2.2.1,(a:Int))=some ((F.ma fs a:Nat):Int):=by
  rw [W.t2]
  exact QHq (by rw [F.aR,W.fl];omega) (by rw [F.aR,W.fl];omega) (F.ints_at (F.QCp (by rw [W.fl];exact hal)))
 have v2:gZ (f.2.2.2.2.2.1,(a:Int))=some (F.da dep a):=by
  rw [W.t1]
  exact QHq (by rw [W.dl];omega) (by rw [W.dl];omega) (F.QCY (by rw [W.dl];exact hal))
 refine Qi (σ:=Unit) (g:=dV big self) (n:=(F.rS x).length) (fun _ k=>((fi:Int),pk,(a:Int),(h:Int),(i:Int),(k:Int),m,f,S a,x,F.rS x)) (fun _ _=>True) (TT m f (fi:Int) pk S self fs i) ?_ ?_ (F.rS x).length 0 big (by omega) (dP (by omega)) () trivial
 ·rintro QXf _ _
  obtain ⟨s,h1,h2⟩:=W.sol.2 a i1
  have htk:tkF m f.2.2.2.2.1 a=tkn m x:=by simp [tkF,hx]
  have hpu:puF f f.2.2.2.2.1 a=psh f x:=by simp [puF,hx]
  rw [htk,hpu] at h1
  unfold QCX at h1
  split at h1
  rotate_left
  ·cases h1
  rename_i hc
  obtain ⟨c1,c2⟩:=hc
  have hkl:=QDz W.C.V x
  have e30:IntKind.i64.wrap (((S a).length:Int) - ((tkn m x).length:Int))=(((S a).length - (tkn m x).length:Nat):Int):=by rw [F.w64 (by omega) (by omega)];omega
  simp only [dV,pF,dx,AJ,v1,v2,AA,F.QJY (W.up a) (Nat.lt_trans i2 (by decide)),F.QCZ.2 i3,QKo V d5 d4,QIa V hf ho hr,e30,Aj,List.take_length]
  rw [show ((((0:Nat):Int)) != (0:Int))=false from rfl,AJ,show IntKind.u64.wrap (tot (tQ m.1) (S a))=F.da dep a by rw [← d1,wrap_u64];omega,BF,AJ,AF (show ¬ (((S a).length - (tkn m x).length:Nat):Int) < 0 by omega),AJ,AB (show (0:Int)<=(((S a).length - (tkn m x).length:Nat):Int) by omega),AB (show (((S a).length - (tkn m x).length:Nat):Int)<=((S a).length:Int) by omega),Bool.and_self,AL,K.QGi _ _ (by rw [c2];omega),AA,c2,AB rfl,Az,AJ]
  have hT:(List.append ([]:List Int) (List.drop 0 (List.take ((S a).length - (tkn m x).length) (S a))))=List.take ((S a).length - (tkn m x).length) (S a):=rfl
  rw [bI (show List.length ([]:List Int)+(List.drop 0 (List.take ((S a).length - (tkn m x).length) (S a))).length<=L36 by simp [L36];omega),AL]
  rw [hT]
  have hs:=Ar h1
  by_cases e24:x.1=24
  ·have hp:psh f x=[lF f x.2.1]:=by unfold psh;rw [AY e24]
   have hA:=(au ho hr (k:=24) e24 (show lY ((24:Nat):Int)=[1,0,0] by decide +kernel)).1 (by simp)
   have ht:=QFb W.C.v hA
   rw [hp] at hs ⊢
   rw [show (([lF f x.2.1]:List Int)[0]?).getD (-1)=lF f x.2.1 from rfl,AB (show lF f x.2.1≥0 from ht.1),AL,bI (show (List.take ((S a).length - (tkn m x).length) (S a)).length+List.length [lF f x.2.1]<=L36 by simp [L36];omega),AL]
   exact QK8 self W h8 hpk hi hI hx (s:=List.append (List.take ((S a).length - (tkn m x).length) (S a)) [lF f x.2.1]) fun j hj=>(h2 j hj).trans hs.symm
  ·have hp:psh f x=[]:=by unfold psh;rw [AX e24]
   rw [hp] at hs ⊢
   rw [List.append_nil] at hs
   rw [show ((([]:List Int)[0]?).getD (-1)) = -1 from rfl,show decide ((-1:Int)≥0)=false from rfl,AJ]
   exact QK8 self W h8 hpk hi hI hx (s:=List.take ((S a).length - (tkn m x).length) (S a)) fun j hj=>(h2 j hj).trans hs.symm
 ·rintro QXf _ k hk _
  left
  refine ⟨(),trivial,?_⟩
  have hmem:=Ae hk
  have hsl:=s1 _ hmem
  have b1:=W.live a x hx _ hmem
  have b2:=i3 _ b1
  simp only [dV,pF,dz hk,AL,AB (show (0:Int)<=(k:Int) by omega),Bool.and_self,F.zY (AU hk),AA,AF (show ¬ (F.rS x)[k] < 0 by omega),AJ,QJa hsl.1 hsl.2 b2,v1,QJa hsl.1 hsl.2 b1,wS hk (by omega)]
theorem QHr (y:cK×Int×List Int) (w:XF [QLh,.int .i64,.slice (.int .i64)] y):yU y=some true:=by
 obtain ⟨m,fi,pk⟩:=y
 show nR (Gb (dU big) big) (m,fi,pk)=_
 unfold nR
 dsimp only
 obtain ⟨b,h1,h2⟩:=QIZ m
 rw [h1,AA]
 cases b with
 | true=>rw [AL,QBR];rfl
 | false=>
  obtain ⟨ha,hb⟩:=QSi w.1 (h2 rfl)
  rw [AJ,QOw m ha,AA,gV]
  by_cases hc:chk m=0
  rotate_left
  ·rw [AF hc,A8,AL,QBR];rfl
  have V:=QNC (QIF hc).1
  rw [AB hc,Az,AJ,QBR]
  by_cases f0:fi < 0
  ·rw [AB f0];rfl
  rw [AF f0,AJ]
  by_cases f1:fi≥(m.2.2.1.length:Int)
  ·rw [AB f1];rfl
  rw [AF f1,AJ]
  by_cases p0:(pk.length:Int) > 200
  ·rw [AB p0];rfl
  rw [AF p0,AJ,QKH ha.l,AY hc,AA,gV]
  by_cases hz:(QEH m m.2.2.1.length 0).2.2=0
  rotate_left
  ·rw [AF hz];rfl
  rw [AB hz,Az,AJ]
  obtain ⟨q,rfl⟩:=BK (show 0<=fi by omega)
  have hq:q < m.2.2.1.length:=by omega
  obtain ⟨f,hf,g2,g3⟩:=QMa hz hq
  have v:=V.ok f (BD hf)
  obtain ⟨S,fs,dep,W⟩:=QXj V v g2 g3
  have h8:F.WfC f.2.2.2.2.1:=(ha.fn f (BD hf)).1
  have hgf:Nk m.2.2.1 (q:Int)=some f:=by rw [gI hq,← AU hq,hf]
  have hP:F.low f.2.1 < 65536:=F.QBg (by have:=v.par;have:=v.sl;omega)
  have hle:=F.QMl v.par.1 (show f.2.1<=16 by have:=v.par;have:=v.sl;omega)
  rw [hgf,AA,F.QIX _ h8,AY W.C.hc,AA,show ((0:Int) != (0:Int))=false from rfl,AJ,hle,AA]
  have key:=Qi (σ:=Nat×Nat) (g:=dU big) (n:=pk.length+1) (fun s i=>((q:Int),pk,(s.1:Int),(s.2:Int),(i:Int),m,f,S s.1)) (fun _ s=>Pt f fs s) (fun r=>r=some true)
   (fun self s _=>by
    simp only [dU,jw,QBR,AF (show ¬ (((pk.length+1:Nat):Int)<=(pk.length:Int)) by omega),AJ]
    rfl)
   (fun self s i hi hI=>by
    obtain ⟨a,h⟩:=s
    have hal:a < f.2.2.2.2.1.length:=hI.1.lt W.C.hc
    have hx:f.2.2.2.2.1[a]? = some f.2.2.2.2.1[a]:=AU hal
    have hm:=Ae hal
    have ho:=v.ok _ hm
    have hr:=W.C.hr _ hm
    obtain ⟨_,_,l1,l2⟩:=F.yN ho
    obtain ⟨j1,j2⟩:=QK6 ho hr
    have hin:=walk_in V hf W h8 (pk:=pk) (by omega) self hi hI hx
    dsimp only
    simp only [dU,jw,AB (show (i:Int)<=(pk.length:Int) by omega),AL,gI hal,AA,QOt V hf ho (h8 _ hm) hr,QLs ha.l hc hf hx hr (W.fit _ hm),F.QB3 ho (h8 _ hm).1 (h8 _ hm).2,Aw,BF,AJ,QHo (show (F.rS f.2.2.2.2.1[a]).length<=1000 by omega) j1,QHo (show (F.wS f.2.2.2.2.1[a]).length<=1000 by omega) j2,Az]
    rcases hin with ⟨s',e1,e2⟩ | e
    ·exact .inl ⟨s',e1,e2⟩
    ·exact .inr e) (pk.length+1) 0 big (by omega) (dP (by omega)) (0,F.low f.2.1) ⟨.zero,hP,W.hold.p⟩
  have h0:S 0=[]:=W.sol.1
  dsimp only at key
  rw [h0] at key
  exact key
end Go.Proofs.YtbgmjjplddddnaaGreatDoor.C
