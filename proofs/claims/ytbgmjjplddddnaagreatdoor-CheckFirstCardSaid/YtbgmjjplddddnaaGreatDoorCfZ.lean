import Derived.Test.YtbgmjjplddddnaaGreatDoorCfF4
set_option linter.unusedVariables false
set_option linter.unusedSimpArgs false
set_option linter.unusedSectionVars false
set_option maxRecDepth 100000
namespace Go.Proofs.YtbgmjjplddddnaaGreatDoor.C
open Go.Lift
structure TV (n:Nat) (f:cZ):Prop where
 sl:f.2.2.2.1.length<=16
 ty:∀ s∈f.2.2.2.1,0<=s.2.1/\s.2.1 < n
 par:0<=f.2.1/\f.2.1<=f.2.2.2.1.length
 res:f.2.2.1 = -1∨0<=f.2.2.1/\f.2.2.1 < n
 cd:1<=f.2.2.2.2.1.length/\f.2.2.2.2.1.length<=200
 ok:∀ x∈f.2.2.2.2.1,sU x=true
structure Tc (m:dF):Prop where
 ty:m.1.length<=32
 tx:m.2.1.length<=32
 fn:1<=m.2.2.1.length/\m.2.2.1.length<=32
 ok:∀ f∈m.2.2.1,TV m.1.length f
 sz:K.Valid m.1/\∀ i:Nat,i < m.1.length->K.sz (K.exS m.1) i<=256
theorem QLF {x n:Int} (h:K.eP x n=true):0<=x/\x < n:=by simpa [K.eP] using h
theorem QIy {m:dF} (h:xq m=true):Tc m:=by
 simp only [xq,sQ,xM,zK,Bool.and_eq_true,decide_eq_true_eq] at h
 obtain ⟨⟨hv,hsz⟩,⟨htx,_⟩,h1,h2,hf,_⟩:=h
 refine ⟨hv.1,htx,⟨h1,h2⟩,fun f hf'=>?_,hv,fun i hi=>?_⟩
 ·have:=List.all_eq_true.1 hf f hf'
  simp only [okF,yh,QAL,Bool.and_eq_true,Bool.or_eq_true,decide_eq_true_eq] at this
  obtain ⟨⟨s1,s2,_⟩,p1,p2,r,⟨c1,c2,c3⟩,_⟩:=this
  exact ⟨s1,fun s hs=>QLF (List.all_eq_true.1 s2 s hs),⟨p1,p2⟩,r.imp id QLF,⟨c1,c2⟩,fun x hx=>List.all_eq_true.1 c3 x hx⟩
 ·have:=List.all_eq_true.1 hsz i (by simp [List.mem_range'_1];exact hi)
  simpa using this
theorem kF {α:Type} {l:List α} {i:Int} (h0:0<=i) (h1:i < l.length):∃ x,Mh l i=some x/\l[i.toNat]? = some x/\x∈l:=by
 obtain ⟨k,rfl⟩:=Int.eq_ofNat_of_zero_le h0
 have hk:k < l.length:=by omega
 exact ⟨l[k],gI hk,by simp [hk],List.getElem_mem hk⟩
def pQ (f:cZ) (s:Int):Int:=((f.2.2.2.1[s.toNat]?).map fun z=>z.2.1).getD 0
def xF (l:List K.aU) (t:Int):Int:=((l[t.toNat]?).map fun z=>z.1).getD 0
def jT (f:cZ) (s:Int):Prop:=0<=s/\s < f.2.2.2.1.length
theorem gQ (m:dF) {f:cZ} {s:Int} (h:jT f s):ZO ((m,f,()),s)=some (pQ f s):=by
 obtain ⟨x,h1,h2,_⟩:=kF h.1 h.2
 show fF _=_
 unfold fF
 dsimp only
 rw [h1,Option.bind_some,pQ,h2]
 rfl
theorem QGy {n:Nat} {f:cZ} (v:TV n f) {s:Int} (h:jT f s):0<=pQ f s/\pQ f s < n:=by
 obtain ⟨x,h1,h2,h3⟩:=kF h.1 h.2
 rw [pQ,h2]
 exact v.ty x h3
theorem QCn {l:List K.aU} {t:Int} (h:0<=t/\t < l.length):∃ x,Mh l t=some x/\l[t.toNat]? = some x/\x∈l/\xF l t=x.1:=by
 obtain ⟨x,h1,h2,h3⟩:=kF h.1 h.2
 exact ⟨x,h1,h2,h3,by rw [xF,h2];rfl⟩
theorem wF {m:dF} {f:cZ} (v:TV m.1.length f) {s:Int} (h:jT f s):Zp ((m,f,()),s)=some (xF m.1 (pQ f s)):=by
 obtain ⟨x,h1,_,_,h2⟩:=QCn (QGy v h)
 show fD _=_
 unfold fD
 dsimp only
 rw [gQ m h,Option.bind_some,h1,Option.bind_some,h2]
theorem QHB {m:dF} {f:cZ} (v:TV m.1.length f) (k:Int) (l:List Int) (hl:l.length<=1000) (h:∀ s∈l,jT f s):ZL ((m,f,()),k,l)=some (l.all fun s=>decide (xF m.1 (pQ f s)=k)):=by
 show kP (FU (au big) big) _=_
 unfold kP
 have:=ZW (g:=au big) (mk:=fun i=>(l,(l.length:Int),(i:Int),(m,f,()),k)) (p:=fun i=>(l[i]?).all fun s=>decide (xF m.1 (pQ f s)=k)) (no:=some false) (kk:=some true) (n:=l.length)
  (fun self i hi=>by
   simp only [au,mK,bX hi,cond_true,gI hi,Option.bind_some,wF v (h _ (List.getElem_mem hi)),wS hi (by omega),pat hi]
   by_cases e:xF m.1 (pQ f l[i])=k
   ·simp [e]
   ·have e2:(xF m.1 (pQ f l[i]) != k)=true:=by simp [e]
    have e3:decide ((i:Int)≥0)=true:=decide_eq_true (by omega)
    simp only [e2,e,decide_false,cond_true,cond_false,e3]
    rfl)
  (fun self=>by simp only [au,mK,bW,cond_false];rfl) l.length 0 big (by omega) (bG (by omega))
 rw [QAU,show ((0:Nat):Int)=0 from rfl] at this
 dsimp only
 rw [this]
 cases l.all _ <;> rfl
theorem QAT (k:Int) (l:List Int) (hl:l.length<=1000):j5 (k,l)=some (decide (k∈l)):=by
 show (ay (l,k)).bind _=_
 rw [K.QBl l k hl]
 rfl
def QHm (k:Int):Bool:=decide (k∈([2,1,4]:List Int))
theorem QDF (k:Int):nA k=some (QHm k):=by
 show oO k=_
 unfold oO
 dsimp only
 rw [QAT _ _ (by simp)]
 rfl
def QFR (l:List K.aU) (f:cZ) (s o c:Int):Bool:=((l[(pQ f o).toNat]?).bind fun t=>(t.2.2.2.1[c.toNat]?).map fun g=>decide (g.2.1=pQ f s)).getD false
theorem QDD {m:dF} {f:cZ} (v:TV m.1.length f) {s o c:Int} (hs:jT f s) (ho:jT f o) (hc:0<=c):dW ((m,f,()),s,o,c)=some (QFR m.1 f s o c):=by
 obtain ⟨x,h1,h2,_,_⟩:=QCn (QGy v ho)
 show eB _=_
 unfold eB QFR
 dsimp only
 rw [gQ m ho,Option.bind_some,h1,Option.bind_some,h2,Option.bind_some]
 by_cases hlt:c < x.2.2.2.1.length
 ·obtain ⟨g,g1,g2,_⟩:=kF hc hlt
  rw [decide_eq_true hlt,cond_true,g1,Option.bind_some,gQ m hs,Option.bind_some,g2]
  rfl
 ·rw [decide_eq_false hlt,cond_false,List.getElem?_eq_none (by omega)]
  rfl
def QEH (l:List K.aU) (f:cZ) (s o:Int) (ks:List Int):Bool:=decide (xF l (pQ f o)∈ks)&&decide ((((l[(pQ f o).toNat]?).map fun t=>t.2.1).getD 0)=pQ f s)
theorem zG {m:dF} {f:cZ} (v:TV m.1.length f) {s o:Int} {ks:List Int} (hs:jT f s) (ho:jT f o) (hk:ks.length<=1000):aO ((m,f,()),s,o,ks)=some (QEH m.1 f s o ks):=by
 obtain ⟨x,h1,h2,_,_⟩:=QCn (QGy v ho)
 show fC _=_
 unfold fC QEH
 dsimp only
 rw [wF v ho,Option.bind_some,QAT _ _ hk,Option.bind_some]
 by_cases hm:xF m.1 (pQ f o)∈ks
 ·rw [decide_eq_true hm,cond_true,gQ m ho,Option.bind_some,h1,Option.bind_some,gQ m hs,Option.bind_some,h2,Bool.true_and]
  rfl
 ·rw [decide_eq_false hm,cond_false,Bool.false_and]
def QNP (f:cZ) (s r:Int):Bool:=decide (s = -1)||decide (pQ f s=r)
theorem yt (m:dF) {f:cZ} {s:Int} (g:cZ) (hs:s≠-1->jT f s):av ((m,f,()),s,g)=some (QNP f s g.2.2.1):=by
 show bB _=_
 unfold bB QNP
 dsimp only
 by_cases h:s = -1
 ·simp [h]
 ·have e:(s==(-1:Int))=false:=by simp [h]
  rw [e,cond_false,gQ m (hs h),Option.bind_some,decide_eq_false h,Bool.false_or]
  rfl
def QLN (l:List K.aU) (g:cZ):Bool:=decide (g.2.2.1 = -1)&&(decide (g.2.1=0)||decide (g.2.1=1)&&QHm (xF l (pQ g 0)))
theorem QAJ {m:dF} (f:cZ) {g:cZ} (v:TV m.1.length g):bn ((m,f,()),g)=some (QLN m.1 g):=by
 show cB _=_
 unfold cB QLN
 dsimp only
 by_cases h:g.2.2.1 = -1
 rotate_left
 ·have e:(g.2.2.1 != (-1:Int))=true:=by simp [h]
  rw [e,cond_true,decide_eq_false h,Bool.false_and]
 have e:(g.2.2.1 != (-1:Int))=false:=by simp [h]
 rw [e,cond_false,decide_eq_true h,Bool.true_and]
 by_cases h1:g.2.1 > 1
 ·rw [decide_eq_true h1,cond_true,decide_eq_false (by omega),decide_eq_false (by omega)]
  rfl
 rw [decide_eq_false h1,cond_false]
 by_cases h2:g.2.1=0
 ·have e:(g.2.1==(0:Int))=true:=by simp [h2]
  rw [e,cond_true,decide_eq_true h2,Bool.true_or]
 have h3:g.2.1=1:=by have:=v.par.1;omega
 have e:(g.2.1==(0:Int))=false:=by simp [h2]
 have h0:jT g 0:=⟨Int.le_refl _,by have:=v.par.2;omega⟩
 obtain ⟨z,z1,z2,z3⟩:=kF h0.1 h0.2
 have hz:pQ g 0=z.2.1:=by rw [pQ,z2];rfl
 obtain ⟨x,x1,_,_,x2⟩:=QCn (QGy v h0)
 rw [hz] at x1 x2
 rw [e,cond_false,z1,Option.bind_some,x1,Option.bind_some,QDF,Option.bind_some,decide_eq_false h2,decide_eq_true h3,Bool.false_or,Bool.true_and,hz,x2]
def xw (x:Ins):Option Int:=if x.1=25 then some x.2.2.1 else if x.1=26∨x.1=27 then some x.2.1 else none
theorem QEC (x:Ins):pU x=some ((xw x).getD 0,(xw x).isSome):=by
 show qE x=_
 unfold qE xw
 by_cases a:x.1=25
 ·simp [a]
 by_cases b:x.1=26
 ·simp [b]
 by_cases c:x.1=27
 ·simp [c]
 simp [a,b,c,bE]
theorem role {x:Ins} (h:sU x=true) {k:Nat} (e:x.1=(k:Int)) {a b c:Int} (hr:j4 (k:Int)=[a,b,c]):fit a x.2.1=true/\fit b x.2.2.1=true/\fit c x.2.2.2.1=true/\F.rS x=rs1 a x.2.1++(rs1 b x.2.2.1++(rs1 c x.2.2.2.1++[]))/\F.wS x=ws1 a x.2.1++(ws1 b x.2.2.1++(ws1 c x.2.2.2.1++[])):=by
 obtain ⟨a',b',c',ho,er,ha,hb,hc,fa,fb,fc⟩:=kV h
 rw [e,hr] at er
 simp only [List.cons.injEq,and_true] at er
 obtain ⟨rfl,rfl,rfl⟩:=er
 refine ⟨fa,fb,fc,?_,?_⟩
 ·show rsL (j4 x.1) (vals x)=_
  rw [e,hr];rfl
 ·show wsL (j4 x.1) (vals x)=_
  rw [e,hr];rfl
theorem QCI {x:Ins} (h:sU x=true) {g:Int} (hg:xw x=some g):0<=g:=by
 unfold xw at hg
 split at hg
 ·rename_i e
  cases hg
  obtain ⟨_,fb,_⟩:=role h (k:=25) e (show j4 ((25:Nat):Int)=[4,9,0] by decide +kernel)
  simp [fit,idx] at fb;omega
 ·split at hg
  ·rename_i e
   cases hg
   rcases e with e | e
   ·obtain ⟨fa,_⟩:=role h (k:=26) e (show j4 ((26:Nat):Int)=[9,0,0] by decide +kernel)
    simp [fit,idx] at fa;omega
   ·obtain ⟨fa,_⟩:=role h (k:=27) e (show j4 ((27:Nat):Int)=[9,0,0] by decide +kernel)
    simp [fit,idx] at fa;omega
  ·cases hg
theorem QJ2 (l:List (List Int)) (hl:l.length<=1000) (h:l.flatten.length<=1000000):aM l=some l.flatten:=by
 have k1:∀ M ZG,FU (Zg (fun _=>List.replicate) M ZG) big (l,(l.length:Int),((0:Nat):Int),([]:List Int))=some l.flatten:=by
  intro M ZG
  have:=d9 (g:=Zg (fun _=>List.replicate) M ZG) (mk:=fun i x=>(l,(l.length:Int),(i:Int),x)) (l:=l) (cod:=fun x=>x) (kk:=fun x=>some x) (B:=1000000)
   (fun self i x hi hx=>by
    simp only [Zg,eO,bX hi,cond_true,gI hi,Option.bind_some,wS hi (by omega),aV (show x.length+l[i].length<=L36 by simp only [L36];omega)]
    rfl)
   (fun self x _=>by simp only [Zg,eO,bW,cond_false]) l.length 0 big [] (by omega) (bG (by omega)) (by simpa using h)
  simpa using this
 have k0:∀ M self (n:Nat),n<=1000000->M=big->Zf (fun _=>List.replicate) M self (l,(n:Int),l,(l.length:Int),(l.length:Int))=if n=l.flatten.length then some l.flatten else Zf (fun _=>List.replicate) M self (l,(n:Int),l,(l.length:Int),(l.length:Int)):=by
  intro M self n hn hM
  split
  ·rename_i e
   subst hM
   show Zh _ _ _ _=_
   unfold Zh
   dsimp only
   rw [bW,cond_false,decide_eq_false (show ¬ (n:Int) < 0 by omega),cond_false]
   have z:IntKind.i64.wrap ((0:Int) - (List.length ([]:List Int):Int))=0:=by decide
   have s:IntKind.i64.wrap ((n:Int) - 0)=(n:Int):=by rw [T.t64 (by omega) (by omega)];omega
   rw [z,s]
   by_cases h0:n=0
   ·rw [decide_eq_false (show ¬ (n:Int) > 0 by omega),cond_false]
    exact k1 _ _
   ·have e2:(decide (1<=(n:Int))&&decide ((n:Int)<=(lim:Int)))=true:=by
     rw [decide_eq_true (show (1:Int)<=(n:Int) by omega),decide_eq_true (show (n:Int)<=(lim:Int) by show _<=((68719476736:Nat):Int);omega)];rfl
    have e3:(Nat.ble 1 1&&Nat.ble (List.length ([]:List Int)+List.length (List.replicate (Int.toNat (n:Int)) (0:Int))) lim)=true:=aV (by rw [List.length_replicate,Int.toNat_natCast];show 0+_<=68719476736;omega)
    have e4:(decide (0<=(List.length ([]:List Int):Int))&&decide ((List.length ([]:List Int):Int)<=(List.length (List.append ([]:List Int) (List.replicate (Int.toNat (n:Int)) (0:Int))):Int)))=true:=by simp
    rw [decide_eq_true (show (n:Int) > 0 by omega),cond_true,decide_eq_true (show (0:Int)=0 from rfl),cond_true,e2,cond_true,e3,cond_true,e4,cond_true]
    exact k1 _ _
  ·rfl
 have k2:∀ (k i N n:Nat),i+k=l.length->k < N->n+(l.drop i).flatten.length=l.flatten.length->FU (Zf (fun _=>List.replicate) big) N (l,(n:Int),l,(l.length:Int),(i:Int))=some l.flatten:=by
  intro k
  induction k with
  | zero=>
   intro i N n hi hN hn
   obtain ⟨N,rfl⟩:∃ M,N=M+1:=⟨N - 1,by omega⟩
   obtain rfl:i=l.length:=by omega
   rw [Vh,k0 _ _ _ (by omega) rfl,if_pos (by simpa using hn)]
  | succ k ih=>
   intro i N n hi hN hn
   obtain ⟨N,rfl⟩:∃ M,N=M+1:=⟨N - 1,by omega⟩
   have hi':i < l.length:=by omega
   rw [List.drop_eq_getElem_cons hi',List.flatten_cons,List.length_append] at hn
   have a1:IntKind.i64.wrap ((n:Int)+(List.length l[i]:Int))=((n+l[i].length:Nat):Int):=by rw [T.t64 (by omega) (by omega)];omega
   rw [Vh]
   show Zh _ _ _ _=_
   unfold Zh
   dsimp only
   rw [bX hi',cond_true,gI hi',Option.bind_some,a1,decide_eq_false (show ¬ ((n+l[i].length:Nat):Int) < 0 by omega),cond_false,wS hi' (by omega)]
   exact ih (i+1) N _ (by omega) (by omega) (by omega)
 show cO (fun _=>List.replicate) (FU (Zf (fun _=>List.replicate) big) big) l=_
 unfold cO
 exact k2 l.length 0 big 0 (by omega) (bG (by omega)) (by simp)
theorem QHv (a b:List Int) (h:a.length+b.length<=1000000):aM [a,b]=some (a++b):=by
 rw [QJ2 _ (by simp) (by simpa using h)]
 simp
theorem QGp {x:Ins} (h:sU x=true):pG x=some (F.rS x,F.wS x,0):=by rw [QFz,if_pos h];rfl
def yB (m:dF) (f:cZ) (x:Ins):Bool:=(F.rS x++F.wS x).all (fun s=>decide (s < f.2.2.2.1.length))&&match xw x with
 | some g=>decide (g < m.2.2.1.length)
 | none=>!decide (x.1=2)||decide (x.2.2.1 < m.2.1.length)
theorem QFX (m:dF) (f:cZ) {x:Ins} (h:sU x=true):gW ((m,f,()),x)=some (yB m f x):=by
 obtain ⟨s1,s2,s3,s4⟩:=F.QFo h
 show cK (FU (Ze big) big) _=_
 unfold cK
 dsimp only
 rw [QGp h,Option.bind_some]
 dsimp only
 rw [QHv _ _ (by omega),Option.bind_some]
 have hlen:(F.rS x++F.wS x).length<=6:=by simp;omega
 generalize hl:F.rS x++F.wS x=l at hlen
 have:=ZW (g:=Ze big) (mk:=fun i=>((l.length:Int),(i:Int),(m,f,()),x,l)) (p:=fun i=>(l[i]?).all fun (s:Int)=>decide (s < (f.2.2.2.1.length:Int))) (no:=some false)
  (kk:=some (match xw x with | some g=>decide (g < (m.2.2.1.length:Int)) | none=>!decide (x.1=2)||decide (x.2.2.1 < (m.2.1.length:Int)))) (n:=l.length)
  (fun self i hi=>by
   simp only [Ze,eG,bX hi,cond_true,F.lN hi,F.QBf (List.getElem?_eq_getElem hi),Option.bind_some,wS hi (by omega),pat hi]
   by_cases e:l[i] < (f.2.2.2.1.length:Int)
   ·rw [decide_eq_true e,decide_eq_false (show ¬ l[i]≥(f.2.2.2.1.length:Int) by omega)];rfl
   ·rw [decide_eq_false e,decide_eq_true (show l[i]≥(f.2.2.2.1.length:Int) by omega)];rfl)
  (fun self=>by
   simp only [Ze,eG,bW,cond_false,QEC,Option.bind_some]
   cases hc:xw x with
   | some g=>simp
   | none=>
    by_cases e:x.1=2
    ·simp [e]
    ·simp [e,bne,bE]) l.length 0 big (by omega) (bG (by omega))
 rw [QAU,show ((0:Nat):Int)=0 from rfl] at this
 rw [this,yB,hl]
 cases hc:xw x <;> cases l.all _ <;> rfl
def gT (m:dF) (f:cZ) (x:Ins):Bool:=
 if x.1=1∨x.1=32 then decide (xF m.1 (pQ f x.2.1)=2)
 else if x.1=2 then decide (xF m.1 (pQ f x.2.1)=3)
 else if x.1=3∨x.1=23 then decide (xF m.1 (pQ f x.2.1)=1)
 else if x.1=5 then decide (pQ f x.2.1=pQ f x.2.2.1)
 else if x.1=6∨x.1=7∨x.1=8∨x.1=9 then decide (xF m.1 (pQ f x.2.1)=2)&&(decide (xF m.1 (pQ f x.2.2.1)=2)&&decide (xF m.1 (pQ f x.2.2.2.1)=2))
 else if x.1=10 then decide (xF m.1 (pQ f x.2.1)=1)&&(decide (xF m.1 (pQ f x.2.2.1)=2)&&decide (xF m.1 (pQ f x.2.2.2.1)=2))
 else if x.1=11 then decide (xF m.1 (pQ f x.2.1)=1)&&(decide (pQ f x.2.2.1=pQ f x.2.2.2.1)&&QHm (xF m.1 (pQ f x.2.2.1)))
 else if x.1=12 then decide (xF m.1 (pQ f x.2.1)=1)&&decide (xF m.1 (pQ f x.2.2.1)=1)
 else if x.1=13 then QFR m.1 f x.2.1 x.2.2.1 x.2.2.2.1
 else if x.1=14 then QFR m.1 f x.2.2.2.1 x.2.1 x.2.2.1
 else if x.1=15 then decide (xF m.1 (pQ f x.2.1)=4)
 else if x.1=16 then QEH m.1 f x.2.1 x.2.2.1 [4]
 else if x.1=17 then QEH m.1 f x.2.2.1 x.2.1 [4]
 else if x.1=18 then decide (xF m.1 (pQ f x.2.1)=7)&&decide (xF m.1 (pQ f x.2.2.1)=2)
 else if x.1=19 then QEH m.1 f x.2.1 x.2.2.1 [7,6]&&decide (xF m.1 (pQ f x.2.2.2.1)=2)
 else if x.1=20 then QEH m.1 f x.2.2.2.1 x.2.1 [7,6]&&decide (xF m.1 (pQ f x.2.2.1)=2)
 else if x.1=21 then decide (xF m.1 (pQ f x.2.1)=2)&&decide (xF m.1 (pQ f x.2.2.1)∈([3,7,6]:List Int))
 else if x.1=25 then ((m.2.2.1[x.2.2.1.toNat]?).map fun g=>QNP f x.2.1 g.2.2.1).getD false
 else if x.1=26∨x.1=27 then ((m.2.2.1[x.2.1.toNat]?).map fun g=>QLN m.1 g).getD false
 else if x.1=28 then decide (xF m.1 (pQ f x.2.1)∈([2,1,3]:List Int))
 else if x.1=29∨x.1=33 then decide (xF m.1 (pQ f x.2.1)=1)&&decide (xF m.1 (pQ f x.2.2.1)=2)
 else if x.1=34 then QNP f x.2.1 f.2.2.1
 else true
theorem QLZ {m:dF} {f:cZ} {x:Ins} (h:yB m f x=true) {s:Int} (hs:s∈F.rS x++F.wS x):s < f.2.2.2.1.length:=by
 simp only [yB,Bool.and_eq_true] at h
 simpa using List.all_eq_true.1 h.1 s hs
theorem QCl {m:dF} {f:cZ} {x:Ins} (h:yB m f x=true) {g:Int} (hg:xw x=some g):g < m.2.2.1.length:=by
 simp only [yB,Bool.and_eq_true,hg] at h
 simpa using h.2
theorem QLV {m:dF} {f:cZ} {x:Ins} (hr:yB m f x=true) {r n:Int} (hf:fit r n=true) (hn:r=1∨r=2∨(r=3∨r=4)/\n≠-1) (hm:∀ v,v∈rs1 r n∨v∈ws1 r n->v∈F.rS x++F.wS x):jT f n:=by
 have h1:n≠-1:=by
  rcases hn with rfl | rfl | h
  ·simp [fit,idx] at hf;omega
  ·simp [fit,idx] at hf;omega
  ·exact h.2
 have hr':r=1∨r=3∨r=2∨r=4:=by rcases hn with h | h | ⟨h | h,_⟩ <;> simp [h]
 refine ⟨(mO hf hr' h1).1,QLZ hr (hm n ?_)⟩
 rcases hn with rfl | rfl | ⟨rfl | rfl,_⟩ <;> simp [rs1,ws1,h1]
theorem Zj {m:dF} {f:cZ} {x:Ins} (h:sU x=true) (hr:yB m f x=true) {k:Nat} (e:x.1=(k:Int)) {a b c:Int} (hk:j4 (k:Int)=[a,b,c]) :
  ((a=1∨a=2∨(a=3∨a=4)/\x.2.1≠-1)->jT f x.2.1)/\((b=1∨b=2∨(b=3∨b=4)/\x.2.2.1≠-1)->jT f x.2.2.1)/\((c=1∨c=2∨(c=3∨c=4)/\x.2.2.2.1≠-1)->jT f x.2.2.2.1):=by
 obtain ⟨fa,fb,fc,er,ew⟩:=role h e hk
 refine ⟨fun g=>QLV hr fa g fun v hv=>?_,fun g=>QLV hr fb g fun v hv=>?_,fun g=>QLV hr fc g fun v hv=>?_⟩ <;>
  (rw [er,ew];simp only [List.mem_append];rcases hv with hv | hv <;> simp [hv])
theorem QFT {m:dF} (V:Tc m) {f:cZ} (v:TV m.1.length f) {x:Ins} (h:sU x=true) (hr:yB m f x=true):nC ((m,f,()),x)=some (gT m f x):=by
 have hop:QA1 x.1=true:=by obtain ⟨_,_,_,ho,_⟩:=kV h;exact ho
 obtain ⟨k,e,hk⟩:=QDa hop
 have yF:∀ (q:Int) (a:Int),jT f a->ZL ((m,f,()),q,[a])=some (decide (xF m.1 (pQ f a)=q)):=fun q a ha=>by
  rw [QHB v q [a] (by simp) (by simpa using ha)];simp
 have QV9:∀ (q:Int) (a b:Int),jT f a->jT f b->ZL ((m,f,()),q,[a,b])=some (decide (xF m.1 (pQ f a)=q)&&decide (xF m.1 (pQ f b)=q)):=fun q a b ha hb=>by
  rw [QHB v q [a,b] (by simp) (by simpa using ⟨ha,hb⟩)];simp
 have QMZ:∀ (q:Int) (a b c:Int),jT f a->jT f b->jT f c->ZL ((m,f,()),q,[a,b,c])=some (decide (xF m.1 (pQ f a)=q)&&(decide (xF m.1 (pQ f b)=q)&&decide (xF m.1 (pQ f c)=q))):=fun q a b c ha hb hc=>by
  rw [QHB v q [a,b,c] (by simp) (by simpa using ⟨ha,hb,hc⟩)];simp
 have bs:∀ b c:Bool,(bif b then some c else some false)=some (b&&c):=fun b c=>by cases b <;> rfl
 have zF:∀ z:Option Bool,(z.bind fun y=>some y)=z:=fun z=>by cases z <;> rfl
 show ZI _=_
 have QYb:k=1∨k=2∨k=3∨k=4∨k=5∨k=6∨k=7∨k=8∨k=9∨k=10∨k=11∨k=12∨k=13∨k=14∨k=15∨k=16∨k=17∨k=18∨k=19∨k=20∨k=21∨k=22∨k=23∨k=24∨k=25∨k=26∨k=27∨k=28∨k=29∨k=30∨k=31∨k=32∨k=33∨k=34:=by omega
 rcases QYb with rfl | rfl | rfl | rfl | rfl | rfl | rfl | rfl | rfl | rfl | rfl | rfl | rfl | rfl | rfl | rfl | rfl | rfl | rfl | rfl | rfl | rfl | rfl | rfl | rfl | rfl | rfl | rfl | rfl | rfl | rfl | rfl | rfl | rfl
 ·have e':x.1=(1:Int):=e
  have er:j4 ((1:Nat):Int)=[2,5,0]:=by decide +kernel
  obtain ⟨iA,iB,iC⟩:=Zj h hr e er
  have hA:jT f x.2.1:=iA (by simp)
  unfold ZI gT
  simp [e',bE,bs,zF,yF 2 _ hA]
 ·have e':x.1=(2:Int):=e
  have er:j4 ((2:Nat):Int)=[2,7,0]:=by decide +kernel
  obtain ⟨iA,iB,iC⟩:=Zj h hr e er
  have hA:jT f x.2.1:=iA (by simp)
  unfold ZI gT
  simp [e',bE,bs,zF,yF 3 _ hA]
 ·have e':x.1=(3:Int):=e
  have er:j4 ((3:Nat):Int)=[2,6,0]:=by decide +kernel
  obtain ⟨iA,iB,iC⟩:=Zj h hr e er
  have hA:jT f x.2.1:=iA (by simp)
  unfold ZI gT
  simp [e',bE,bs,zF,yF 1 _ hA]
 ·have e':x.1=(4:Int):=e
  have er:j4 ((4:Nat):Int)=[2,0,0]:=by decide +kernel
  obtain ⟨iA,iB,iC⟩:=Zj h hr e er
  have hA:jT f x.2.1:=iA (by simp)
  unfold ZI gT
  simp [e',bE,bs,zF]
 ·have e':x.1=(5:Int):=e
  have er:j4 ((5:Nat):Int)=[2,1,0]:=by decide +kernel
  obtain ⟨iA,iB,iC⟩:=Zj h hr e er
  have hA:jT f x.2.1:=iA (by simp)
  have hB:jT f x.2.2.1:=iB (by simp)
  unfold ZI gT
  simp [e',bE,bs,zF,gQ m hA,gQ m hB]
 ·have e':x.1=(6:Int):=e
  have er:j4 ((6:Nat):Int)=[2,1,1]:=by decide +kernel
  obtain ⟨iA,iB,iC⟩:=Zj h hr e er
  have hA:jT f x.2.1:=iA (by simp)
  have hB:jT f x.2.2.1:=iB (by simp)
  have hC:jT f x.2.2.2.1:=iC (by simp)
  unfold ZI gT
  simp [e',bE,bs,zF,QMZ 2 _ _ _ hA hB hC]
 ·have e':x.1=(7:Int):=e
  have er:j4 ((7:Nat):Int)=[2,1,1]:=by decide +kernel
  obtain ⟨iA,iB,iC⟩:=Zj h hr e er
  have hA:jT f x.2.1:=iA (by simp)
  have hB:jT f x.2.2.1:=iB (by simp)
  have hC:jT f x.2.2.2.1:=iC (by simp)
  unfold ZI gT
  simp [e',bE,bs,zF,QMZ 2 _ _ _ hA hB hC]
 ·have e':x.1=(8:Int):=e
  have er:j4 ((8:Nat):Int)=[2,1,1]:=by decide +kernel
  obtain ⟨iA,iB,iC⟩:=Zj h hr e er
  have hA:jT f x.2.1:=iA (by simp)
  have hB:jT f x.2.2.1:=iB (by simp)
  have hC:jT f x.2.2.2.1:=iC (by simp)
  unfold ZI gT
  simp [e',bE,bs,zF,QMZ 2 _ _ _ hA hB hC]
 ·have e':x.1=(9:Int):=e
  have er:j4 ((9:Nat):Int)=[2,1,1]:=by decide +kernel
  obtain ⟨iA,iB,iC⟩:=Zj h hr e er
  have hA:jT f x.2.1:=iA (by simp)
  have hB:jT f x.2.2.1:=iB (by simp)
  have hC:jT f x.2.2.2.1:=iC (by simp)
  unfold ZI gT
  simp [e',bE,bs,zF,QMZ 2 _ _ _ hA hB hC]
 ·have e':x.1=(10:Int):=e
  have er:j4 ((10:Nat):Int)=[2,1,1]:=by decide +kernel
  obtain ⟨iA,iB,iC⟩:=Zj h hr e er
  have hA:jT f x.2.1:=iA (by simp)
  have hB:jT f x.2.2.1:=iB (by simp)
  have hC:jT f x.2.2.2.1:=iC (by simp)
  unfold ZI gT
  simp [e',bE,bs,zF,yF 1 _ hA,QV9 2 _ _ hB hC]
 ·have e':x.1=(11:Int):=e
  have er:j4 ((11:Nat):Int)=[2,1,1]:=by decide +kernel
  obtain ⟨iA,iB,iC⟩:=Zj h hr e er
  have hA:jT f x.2.1:=iA (by simp)
  have hB:jT f x.2.2.1:=iB (by simp)
  have hC:jT f x.2.2.2.1:=iC (by simp)
  unfold ZI gT
  simp [e',bE,bs,zF,gQ m hB,gQ m hC,wF v hB,yF 1 _ hA,QDF]
 ·have e':x.1=(12:Int):=e
  have er:j4 ((12:Nat):Int)=[2,1,0]:=by decide +kernel
  obtain ⟨iA,iB,iC⟩:=Zj h hr e er
  have hA:jT f x.2.1:=iA (by simp)
  have hB:jT f x.2.2.1:=iB (by simp)
  unfold ZI gT
  simp [e',bE,bs,zF,QV9 1 _ _ hA hB]
 ·have e':x.1=(13:Int):=e
  have er:j4 ((13:Nat):Int)=[2,1,8]:=by decide +kernel
  obtain ⟨iA,iB,iC⟩:=Zj h hr e er
  have hA:jT f x.2.1:=iA (by simp)
  have hB:jT f x.2.2.1:=iB (by simp)
  have f0:0<=x.2.2.2.1:=by obtain ⟨_,_,fc,_⟩:=role h e er;simp [fit,idx] at fc;omega
  have q:=QDD v hA hB f0
  unfold ZI gT
  simp [e',bE,bs,zF,q]
 ·have e':x.1=(14:Int):=e
  have er:j4 ((14:Nat):Int)=[1,8,1]:=by decide +kernel
  obtain ⟨iA,iB,iC⟩:=Zj h hr e er
  have hA:jT f x.2.1:=iA (by simp)
  have hC:jT f x.2.2.2.1:=iC (by simp)
  have f0:0<=x.2.2.1:=by obtain ⟨_,fb,_⟩:=role h e er;simp [fit,idx] at fb;omega
  have q:=QDD v hC hA f0
  unfold ZI gT
  simp [e',bE,bs,zF,q]
 ·have e':x.1=(15:Int):=e
  have er:j4 ((15:Nat):Int)=[2,0,0]:=by decide +kernel
  obtain ⟨iA,iB,iC⟩:=Zj h hr e er
  have hA:jT f x.2.1:=iA (by simp)
  unfold ZI gT
  simp [e',bE,bs,zF,yF 4 _ hA]
 ·have e':x.1=(16:Int):=e
  have er:j4 ((16:Nat):Int)=[2,1,0]:=by decide +kernel
  obtain ⟨iA,iB,iC⟩:=Zj h hr e er
  have hA:jT f x.2.1:=iA (by simp)
  have hB:jT f x.2.2.1:=iB (by simp)
  have q:=zG v hA hB (ks:=[4]) (by simp)
  unfold ZI gT
  simp [e',bE,bs,zF,q]
 ·have e':x.1=(17:Int):=e
  have er:j4 ((17:Nat):Int)=[1,1,0]:=by decide +kernel
  obtain ⟨iA,iB,iC⟩:=Zj h hr e er
  have hA:jT f x.2.1:=iA (by simp)
  have hB:jT f x.2.2.1:=iB (by simp)
  have q:=zG v hB hA (ks:=[4]) (by simp)
  unfold ZI gT
  simp [e',bE,bs,zF,q]
 ·have e':x.1=(18:Int):=e
  have er:j4 ((18:Nat):Int)=[2,1,0]:=by decide +kernel
  obtain ⟨iA,iB,iC⟩:=Zj h hr e er
  have hA:jT f x.2.1:=iA (by simp)
  have hB:jT f x.2.2.1:=iB (by simp)
  unfold ZI gT
  simp [e',bE,bs,zF,yF 7 _ hA,yF 2 _ hB]
 ·have e':x.1=(19:Int):=e
  have er:j4 ((19:Nat):Int)=[2,1,1]:=by decide +kernel
  obtain ⟨iA,iB,iC⟩:=Zj h hr e er
  have hA:jT f x.2.1:=iA (by simp)
  have hB:jT f x.2.2.1:=iB (by simp)
  have hC:jT f x.2.2.2.1:=iC (by simp)
  have q:=zG v hA hB (ks:=[7,6]) (by simp)
  unfold ZI gT
  simp [e',bE,bs,zF,q,yF 2 _ hC]
 ·have e':x.1=(20:Int):=e
  have er:j4 ((20:Nat):Int)=[1,1,1]:=by decide +kernel
  obtain ⟨iA,iB,iC⟩:=Zj h hr e er
  have hA:jT f x.2.1:=iA (by simp)
  have hB:jT f x.2.2.1:=iB (by simp)
  have hC:jT f x.2.2.2.1:=iC (by simp)
  have q:=zG v hC hA (ks:=[7,6]) (by simp)
  unfold ZI gT
  simp [e',bE,bs,zF,q,yF 2 _ hB]
 ·have e':x.1=(21:Int):=e
  have er:j4 ((21:Nat):Int)=[2,1,0]:=by decide +kernel
  obtain ⟨iA,iB,iC⟩:=Zj h hr e er
  have hA:jT f x.2.1:=iA (by simp)
  have hB:jT f x.2.2.1:=iB (by simp)
  unfold ZI gT
  simp [e',bE,bs,zF,wF v hB,yF 2 _ hA,QAT _ _ (show List.length ([_,_,_]:List Int)<=1000 by simp)]
 ·have e':x.1=(22:Int):=e
  have er:j4 ((22:Nat):Int)=[10,0,0]:=by decide +kernel
  obtain ⟨iA,iB,iC⟩:=Zj h hr e er
  unfold ZI gT
  simp [e',bE,bs,zF]
 ·have e':x.1=(23:Int):=e
  have er:j4 ((23:Nat):Int)=[1,10,0]:=by decide +kernel
  obtain ⟨iA,iB,iC⟩:=Zj h hr e er
  have hA:jT f x.2.1:=iA (by simp)
  unfold ZI gT
  simp [e',bE,bs,zF,yF 1 _ hA]
 ·have e':x.1=(24:Int):=e
  have er:j4 ((24:Nat):Int)=[1,0,0]:=by decide +kernel
  obtain ⟨iA,iB,iC⟩:=Zj h hr e er
  have hA:jT f x.2.1:=iA (by simp)
  unfold ZI gT
  simp [e',bE,bs,zF]
 ·have e':x.1=(25:Int):=e
  have er:j4 ((25:Nat):Int)=[4,9,0]:=by decide +kernel
  obtain ⟨iA,iB,iC⟩:=Zj h hr e er
  have hc:xw x=some x.2.2.1:=by simp [xw,e']
  obtain ⟨g,g1,g2,g3⟩:=kF (QCI h hc) (QCl hr hc)
  have q:=yt m g (s:=x.2.1) (f:=f) fun hne=>iA (by simp [hne])
  unfold ZI gT
  simp [e',bE,bs,zF,g1,g2,q]
 ·have e':x.1=(26:Int):=e
  have er:j4 ((26:Nat):Int)=[9,0,0]:=by decide +kernel
  obtain ⟨iA,iB,iC⟩:=Zj h hr e er
  have hc:xw x=some x.2.1:=by simp [xw,e']
  obtain ⟨g,g1,g2,g3⟩:=kF (QCI h hc) (QCl hr hc)
  have q:=QAJ (m:=m) f (V.ok g g3)
  unfold ZI gT
  simp [e',bE,bs,zF,g1,g2,q]
 ·have e':x.1=(27:Int):=e
  have er:j4 ((27:Nat):Int)=[9,0,0]:=by decide +kernel
  obtain ⟨iA,iB,iC⟩:=Zj h hr e er
  have hc:xw x=some x.2.1:=by simp [xw,e']
  obtain ⟨g,g1,g2,g3⟩:=kF (QCI h hc) (QCl hr hc)
  have q:=QAJ (m:=m) f (V.ok g g3)
  unfold ZI gT
  simp [e',bE,bs,zF,g1,g2,q]
 ·have e':x.1=(28:Int):=e
  have er:j4 ((28:Nat):Int)=[1,0,0]:=by decide +kernel
  obtain ⟨iA,iB,iC⟩:=Zj h hr e er
  have hA:jT f x.2.1:=iA (by simp)
  unfold ZI gT
  simp [e',bE,bs,zF,wF v hA,QAT _ _ (show List.length ([_,_,_]:List Int)<=1000 by simp)]
 ·have e':x.1=(29:Int):=e
  have er:j4 ((29:Nat):Int)=[2,2,0]:=by decide +kernel
  obtain ⟨iA,iB,iC⟩:=Zj h hr e er
  have hA:jT f x.2.1:=iA (by simp)
  have hB:jT f x.2.2.1:=iB (by simp)
  unfold ZI gT
  simp [e',bE,bs,zF,yF 1 _ hA,yF 2 _ hB]
 ·have e':x.1=(30:Int):=e
  have er:j4 ((30:Nat):Int)=[0,0,0]:=by decide +kernel
  obtain ⟨iA,iB,iC⟩:=Zj h hr e er
  unfold ZI gT
  simp [e',bE,bs,zF]
 ·have e':x.1=(31:Int):=e
  have er:j4 ((31:Nat):Int)=[0,0,0]:=by decide +kernel
  obtain ⟨iA,iB,iC⟩:=Zj h hr e er
  unfold ZI gT
  simp [e',bE,bs,zF]
 ·have e':x.1=(32:Int):=e
  have er:j4 ((32:Nat):Int)=[1,0,0]:=by decide +kernel
  obtain ⟨iA,iB,iC⟩:=Zj h hr e er
  have hA:jT f x.2.1:=iA (by simp)
  unfold ZI gT
  simp [e',bE,bs,zF,yF 2 _ hA]
 ·have e':x.1=(33:Int):=e
  have er:j4 ((33:Nat):Int)=[2,1,0]:=by decide +kernel
  obtain ⟨iA,iB,iC⟩:=Zj h hr e er
  have hA:jT f x.2.1:=iA (by simp)
  have hB:jT f x.2.2.1:=iB (by simp)
  unfold ZI gT
  simp [e',bE,bs,zF,yF 1 _ hA,yF 2 _ hB]
 ·have e':x.1=(34:Int):=e
  have er:j4 ((34:Nat):Int)=[3,0,0]:=by decide +kernel
  obtain ⟨iA,iB,iC⟩:=Zj h hr e er
  have q:=yt m f (s:=x.2.1) (f:=f) fun hne=>iA (by simp [hne])
  unfold ZI gT
  simp [e',bE,bs,zF,q]
theorem QH4 (a b:List Int) (h:a.length<=1000000):ah (a,b)=some (decide (a=b)):=by
 show dN (FU (Zk big) big) _=_
 unfold dN
 dsimp only
 rw [QDX,bf]
 by_cases hl:a.length=b.length
 ·rw [decide_eq_true hl,cond_true]
  have:=ZW (g:=Zk big) (mk:=fun i=>(a,b,(a.length:Int),(i:Int))) (p:=fun i=>decide (a[i]? = b[i]?)) (no:=some false) (kk:=some true) (n:=a.length)
   (fun self i hi=>by
    simp only [Zk,gN,bX hi,cond_true,gI hi,gI (show i < b.length by omega),Option.bind_some,wS hi (by omega),QB8 hi (show i < b.length by omega),eT,bf])
   (fun self=>by simp only [Zk,gN,bW,cond_false]) a.length 0 big (by omega) (bG (by omega))
  rw [yg hl,zx] at this
  exact this
 ·rw [decide_eq_false hl,cond_false,decide_eq_false (fun e=>hl (by rw [e]))]
theorem QK8 (a b:List T.Sz) (h:a.length<=1000000):Zu (a,b)=some (decide (a=b)):=by
 show Zw (FU (ZT big) big) _=_
 unfold Zw
 dsimp only
 rw [QDX,bf]
 by_cases hl:a.length=b.length
 ·rw [decide_eq_true hl,cond_true]
  have:=ZW (g:=ZT big) (mk:=fun i=>(a,b,(a.length:Int),(i:Int))) (p:=fun i=>decide (a[i]? = b[i]?)) (no:=some false) (kk:=some true) (n:=a.length)
   (fun self i hi=>by
    simp only [ZT,aY,bX hi,cond_true,gI hi,gI (show i < b.length by omega),Option.bind_some,wS hi (by omega),QB8 hi (show i < b.length by omega)]
    rw [QAO,bf])
   (fun self=>by simp only [ZT,aY,bW,cond_false]) a.length 0 big (by omega) (bG (by omega))
  rw [yg hl,zx] at this
  exact this
 ·rw [decide_eq_false hl,cond_false,decide_eq_false (fun e=>hl (by rw [e]))]
def QFW (m:dF) (f:cZ) (x:Ins) (r:Bool):Int:=if yB m f x=false then 16 else if r=false then 6 else if gT m f x=false then 30 else 0
def fwS (m:dF) (f:cZ) (l:List Ins) (rs:List Bool):Nat->Nat->Int×Int
 | 0,_=>(0,0)
 | k+1,i=>match l[i]?,rs[i]? with
  | some x,some r=>if QFW m f x r≠0 then ((i:Int),QFW m f x r) else fwS m f l rs k (i+1)
  | _,_=>(0,0)
theorem QDq {m:dF} (V:Tc m) {f:cZ} (v:TV m.1.length f) (hc:F.zJ f.2.2.2.2.1=true):aC (m,f,())=some (fwS m f f.2.2.2.2.1 (F.vZ f.2.2.2.2.1) f.2.2.2.2.1.length 0):=by
 show bR (FU (Za big) big) _=_
 unfold bR
 dsimp only
 rw [F.QH7,if_pos hc,Option.bind_some]
 dsimp only
 have hl:f.2.2.2.2.1.length<=200:=v.cd.2
 have hrl:(F.vZ f.2.2.2.2.1).length=f.2.2.2.2.1.length:=F.QAB _
 have hok:=v.ok
 generalize f.2.2.2.2.1=l at hl hrl hok
 generalize F.vZ l=rs at hrl
 have key:∀ (k i N:Nat),i+k=l.length->k < N->FU (Za big) N (l,(l.length:Int),(i:Int),(m,f,()),rs)=some (fwS m f l rs k i):=by
  intro k
  induction k with
  | zero=>
   intro i N hi hN
   obtain ⟨N,rfl⟩:∃ M,N=M+1:=⟨N - 1,by omega⟩
   obtain rfl:i=l.length:=by omega
   rw [Vh]
   simp only [Za,dQ,bW,cond_false,fwS]
  | succ k ih=>
   intro i N hi hN
   obtain ⟨N,rfl⟩:∃ M,N=M+1:=⟨N - 1,by omega⟩
   have hi':i < l.length:=by omega
   have hx:l[i]? = some l[i]:=List.getElem?_eq_getElem hi'
   have hr:rs[i]? = some rs[i]:=List.getElem?_eq_getElem (by omega)
   have ho:=hok _ (List.getElem_mem hi')
   rw [Vh]
   simp only [Za,dQ,bX hi',cond_true,gI hi',Option.bind_some,QFX m f ho,fwS,hx,hr,wS hi' (by omega),F.QBf hr,F.lN (show i < rs.length by omega)]
   cases e1:yB m f l[i] with
   | false=>simp [QFW,e1]
   | true=>
    cases e2:rs[i] with
    | false=>simp [QFW,e1]
    | true=>
     rw [QFT V v ho e1,Option.bind_some]
     cases e3:gT m f l[i] with
     | false=>simp [QFW,e1,e3]
     | true=>simp [QFW,e1,e3];exact ih (i+1) N (by omega) (by omega)
 exact key l.length 0 big (by omega) (bG (by omega))
theorem QIm {m:dF} {f:cZ} {l:List Ins} {rs:List Bool}:∀ {k i:Nat},i+k=l.length->l.length=rs.length->(fwS m f l rs k i).2=0->∀ j,i<=j->(h:j < l.length)->∃ h':j < rs.length,QFW m f l[j] rs[j]=0
 | 0,i,hi,_,_,j,hj,h=>by omega
 | k+1,i,hi,hr,hz,j,hj,h=>by
  have hi':i < l.length:=by omega
  simp only [fwS,List.getElem?_eq_getElem hi',List.getElem?_eq_getElem (show i < rs.length by omega)] at hz
  split at hz
  ·rename_i e;exact absurd hz e
  ·rename_i e
   by_cases hij:j=i
   ·subst hij;exact ⟨by omega,by simpa using e⟩
   ·exact QIm (by omega) hr hz j (by omega) h
theorem QGS {m:dF} {f:cZ} {l:List Ins} {rs:List Bool}:∀ {k i:Nat},i+k=l.length->l.length=rs.length->(fwS m f l rs k i).2=0/\(fwS m f l rs k i).1=0∨(i:Int)<=(fwS m f l rs k i).1/\(fwS m f l rs k i).1 < l.length/\((fwS m f l rs k i).2=16∨(fwS m f l rs k i).2=6∨(fwS m f l rs k i).2=30)
 | 0,i,hi,_=>.inl ⟨rfl,rfl⟩
 | k+1,i,hi,hr=>by
  have hi':i < l.length:=by omega
  simp only [fwS,List.getElem?_eq_getElem hi',List.getElem?_eq_getElem (show i < rs.length by omega)]
  split
  ·rename_i e
   refine .inr ⟨Int.le_refl _,by simpa using hi',?_⟩
   unfold QFW at e ⊢
   dsimp only at e ⊢
   split
   ·exact .inl rfl
   ·split
    ·exact .inr (.inl rfl)
    ·split
     ·exact .inr (.inr rfl)
     ·rename_i h1 h2 h3;simp [h1,h2,h3] at e
  ·rcases QGS (m:=m) (f:=f) (show (i+1)+k=l.length by omega) hr with h | ⟨h1,h2⟩
   ·exact .inl h
   ·exact .inr ⟨by omega,h2⟩
def psh (f:cZ) (x:Ins):List Int:=if x.1=24 then [pQ f x.2.1] else []
def tkn (m:dF) (x:Ins):List Int:=match xw x with
 | some g=>match m.2.2.1[g.toNat]? with
  | some h=>(h.2.2.2.1.take h.2.1.toNat).map fun z=>z.2.1
  | none=>[]
 | none=>[]
theorem QEY {m:dF} {f:cZ} {x:Ins} (h:sU x=true) (hr:yB m f x=true):eX ((m,f,()),x)=some (psh f x):=by
 show fE _=_
 unfold fE psh
 dsimp only
 by_cases e:x.1=24
 ·have hA:=(Zj h hr (k:=24) e (show j4 ((24:Nat):Int)=[1,0,0] by decide +kernel)).1 (by simp)
  simp [e,eT,gQ m hA]
 ·simp [e,eT]
theorem QGt {m:dF} (V:Tc m) {f:cZ} {x:Ins} (h:sU x=true) (hr:yB m f x=true):gX ((m,f,()),x)=some (tkn m x):=by
 show iD (FU (aF big) big) _=_
 unfold iD tkn
 dsimp only
 rw [QEC,Option.bind_some]
 dsimp only
 cases hc:xw x with
 | none=>rfl
 | some g=>
  obtain ⟨q,g1,g2,g3⟩:=kF (QCI h hc) (QCl hr hc)
  have vq:=V.ok q g3
  have hp:(decide (0<=q.2.1)&&decide (q.2.1<=(List.length q.2.2.2.1:Int)))=true:=by simp;exact vq.par
  simp only [Option.isSome_some,Bool.not_true,cond_false,Option.getD_some,g1,g2,Option.bind_some,hp,cond_true]
  generalize hl:List.take (Int.toNat q.2.1) q.2.2.2.1=l
  have hll:l.length<=16:=by rw [← hl,List.length_take];have:=vq.sl;omega
  have:=d9 (g:=aF big) (mk:=fun i z=>(l,(l.length:Int),(i:Int),z)) (l:=l) (cod:=fun z=>[z.2.1]) (kk:=fun z=>some z) (B:=100)
   (fun self i z hi hx=>by
    simp only [aF,jg,bX hi,cond_true,gI hi,Option.bind_some,wS hi (by omega),aV (show z.length+List.length [l[i].2.1]<=L36 by simp [L36] at hx ⊢;omega)]
    rfl)
   (fun self z _=>by simp only [aF,jg,bW,cond_false]) l.length 0 big [] (by omega) (bG (by omega)) (by have:=tK (f:=fun z:K.qW=>[z.2.1]) (k:=1) (l:=l) (by simp);simp only [List.drop_zero,List.length_nil];omega)
  rw [show ((0:Nat):Int)=0 from rfl] at this
  rw [this]
  simp only [List.drop_zero,List.nil_append,hl]
  exact congrArg some List.map_eq_flatMap.symm
def uI (l:List K.aU):List Int:=(List.range l.length).map fun (i:Nat)=>K.upS (K.sz (K.exS l) (i:Int)) 8
def tot (ss ts:List Int):Int:=(ts.map fun t=>ss.getD t.toNat 0).sum
structure Ssz (ss:List Int):Prop where
 lo:∀ s∈ss,0<=s/\s<=264
theorem QLl {ss:List Int} (hs:Ssz ss) (ts:List Int) (hl:ts.length<=1000) (ht:∀ t∈ts,0<=t/\t < ss.length):rA (ss,ts)=some (tot ss ts):=by
 show rR (FU (fP big) big) _=_
 unfold rR tot
 dsimp only
 have key:∀ (k i N:Nat) (n:Int),i+k=ts.length->k < N->0<=n->n<=264 * i->FU (fP big) N (ss,n,ts,(ts.length:Int),(i:Int))=some (n+((ts.drop i).map fun t=>ss.getD t.toNat 0).sum):=by
  intro k
  induction k with
  | zero=>
   intro i N n hi hN h0 h1
   obtain ⟨N,rfl⟩:∃ M,N=M+1:=⟨N - 1,by omega⟩
   obtain rfl:i=ts.length:=by omega
   rw [Vh]
   simp [fP,tN,bW]
  | succ k ih=>
   intro i N n hi hN h0 h1
   obtain ⟨N,rfl⟩:∃ M,N=M+1:=⟨N - 1,by omega⟩
   have hi':i < ts.length:=by omega
   obtain ⟨z,z1,z2,z3⟩:=kF (ht _ (List.getElem_mem hi')).1 (ht _ (List.getElem_mem hi')).2
   have hz:=hs.lo z z3
   rw [Vh,List.drop_eq_getElem_cons hi',List.map_cons,List.sum_cons]
   simp only [fP,tN,bX hi',cond_true,gI hi',Option.bind_some,z1,wS hi' (by omega)]
   rw [T.t64 (show -9223372036854775808<=n+z by omega) (by omega),ih (i+1) N (n+z) (by omega) (by omega) (by omega) (by simp;omega)]
   rw [List.getD_eq_getElem?_getD,z2,Option.getD_some,Int.add_assoc]
 have:=key ts.length 0 big 0 (by omega) (bG (by omega)) (Int.le_refl _) (by simp)
 simpa using this
theorem QBC (l:List K.aU):(uI l).length=l.length:=by simp [uI]
theorem QR9 {l:List K.aU} {i:Nat} (h:i < l.length):(uI l)[i]? = some (K.upS (K.sz (K.exS l) (i:Int)) 8):=by simp [uI,h]
theorem up8 {n:Int} (h:1<=n) (h':n<=256):8<=K.upS n 8/\K.upS n 8<=256:=by
 simp only [K.upS,show ¬ (8:Int)=1 by decide,if_false];omega
theorem QHk {m:dF} (V:Tc m):(∀ s∈uI m.1,8<=s/\s<=256):=by
 intro s hs
 simp only [uI,List.mem_map,List.mem_range] at hs
 obtain ⟨i,hi,rfl⟩:=hs
 obtain ⟨h1,_⟩:=K.QHL V.sz.1 (i:=(i:Int)) (by omega) (by omega)
 exact up8 h1 (V.sz.2 i hi)
theorem QRB {m:dF} (V:Tc m):Ssz (uI m.1):=⟨fun s hs=>by have:=QHk V s hs;omega⟩
theorem QGo {m:dF} (V:Tc m):eU m.1=some (uI m.1):=by
 have hl:m.1.length<=32:=V.ty
 show fA (fun _=>List.replicate) (FU (Zx (fun _=>List.replicate) big) big) m.1=_
 unfold fA
 rw [F.QAj (by omega),cond_true,Int.toNat_natCast]
 have key:∀ (k i N:Nat) (x:List Int),i+k=m.1.length->k < N->x.length=m.1.length->FU (Zx (fun _=>List.replicate) big) N (m.1,(m.1.length:Int),(i:Int),x)=some (x.take i++(uI m.1).drop i):=by
  intro k
  induction k with
  | zero=>
   intro i N x hi hN hx
   obtain ⟨N,rfl⟩:∃ M,N=M+1:=⟨N - 1,by omega⟩
   obtain rfl:i=m.1.length:=by omega
   rw [Vh]
   simp only [Zx,iy,bW,cond_false]
   rw [List.take_of_length_le (by omega),List.drop_of_length_le (by rw [QBC];omega),List.append_nil]
  | succ k ih=>
   intro i N x hi hN hx
   obtain ⟨N,rfl⟩:∃ M,N=M+1:=⟨N - 1,by omega⟩
   have hi':i < m.1.length:=by omega
   obtain ⟨h1,_⟩:=K.QHL V.sz.1 (i:=(i:Int)) (by omega) (by omega)
   have h2:=V.sz.2 i hi'
   have he:=K.QBL V.sz.1 (i:=(i:Int)) (by omega) (by omega) h2
   rw [Vh]
   simp only [Zx,iy,bX hi',cond_true,K.QIN,he,if_true,Option.bind_some,K.QKa,F.lN (show i < x.length by omega),wS hi' (by omega)]
   rw [if_neg (by omega),Int.toNat_natCast,ih (i+1) N _ (by omega) (by omega) (by rw [List.length_set];exact hx)]
   rw [LK _ _ _ (by omega),List.append_assoc]
   congr 2
   rw [List.drop_eq_getElem_cons (show i < (uI m.1).length by rw [QBC];omega)]
   have:=QR9 hi'
   rw [List.getElem?_eq_getElem (by rw [QBC];omega)] at this
   rw [Option.some.inj this]
   rfl
 have:=key m.1.length 0 big (List.replicate m.1.length 0) (by omega) (bG (by omega)) List.length_replicate
 simpa using this
def QC8 (tk pu b:List Int):Option (List Int):=if tk.length<=b.length/\b.drop (b.length - tk.length)=tk then some (b.take (b.length - tk.length)++pu) else none
theorem QMY {tk pu b s:List Int} (h:QC8 tk pu b=some s):s.length<=b.length+pu.length:=by
 unfold QC8 at h
 split at h
 ·cases h;simp
 ·cases h
theorem QCk (f:cZ) (x:Ins):(psh f x).length<=1:=by unfold psh;split <;> simp
theorem QFq {m:dF} (V:Tc m) (x:Ins):(tkn m x).length<=16:=by
 unfold tkn
 split
 ·split
  ·rename_i h hq
   have:=(V.ok h (List.mem_of_getElem? hq)).sl
   simp;omega
  ·simp
 ·simp
theorem QL5 {m:dF} (V:Tc m) {f:cZ} {x:Ins} (h:sU x=true) (hr:yB m f x=true) (b:List Int) (hb:b.length<=100000) :
  mH ((m,f,()),x,b)=some (match QC8 (tkn m x) (psh f x) b with | some s=>(s,true) | none=>([],false)):=by
 show gy _=_
 unfold gy QC8
 dsimp only
 rw [QGt V h hr,Option.bind_some]
 have h1:=QFq V x
 have h2:=QCk f x
 have hp:=QEY h hr
 rw [T.t64 (show -9223372036854775808<=(b.length:Int) - ((tkn m x).length:Int) by omega) (by omega)]
 generalize tkn m x=t at h1 ⊢
 by_cases hlt:t.length<=b.length
 ·have e1:(b.length:Int) - (t.length:Int)=((b.length - t.length:Nat):Int):=by omega
  have e2:(decide (0<=((b.length - t.length:Nat):Int))&&decide (((b.length - t.length:Nat):Int)<=(b.length:Int)))=true:=by simp
  rw [e1,decide_eq_false (show ¬ ((b.length - t.length:Nat):Int) < 0 by omega),cond_false,e2,cond_true,Int.toNat_natCast,QH4 _ _ (by rw [List.length_drop];omega),Option.bind_some]
  by_cases he:b.drop (b.length - t.length)=t
  ·rw [decide_eq_true he,Bool.not_true,cond_false,cond_true,hp,Option.bind_some,QHv _ _ (by rw [List.length_take];omega),Option.bind_some,if_pos ⟨hlt,he⟩]
  ·rw [decide_eq_false he,Bool.not_false,cond_true,if_neg (fun h=>he h.2)]
 ·rw [decide_eq_true (show (b.length:Int) - (t.length:Int) < 0 by omega),cond_true,if_neg (fun h=>hlt h.1)]
def kv (kn:List (List Int)) (i:Nat):List Int:=kn.getD i []
theorem QLJ {kn:List (List Int)} {i:Nat} (h:i < kn.length):kn[i]? = some (kv kn i):=getD_at h []
theorem QLK {kn:List (List Int)} {i:Nat} (h:i < kn.length):nth kn (Int.toNat (i:Int))=some (kv kn i):=F.QBf (QLJ h)
theorem QA3 {kn:List (List Int)} {i j:Nat} {s:List Int} (h:j < kn.length):kv (kn.set j s) i=if i=j then s else kv kn i:=by
 unfold kv
 rw [List.getD_eq_getElem?_getD,List.getD_eq_getElem?_getD,F.bA h]
 split <;> rfl
def emp (kn:List (List Int)):Nat:=kn.countP List.isEmpty
theorem QIa:∀ {kn:List (List Int)} {j:Nat} {s:List Int},j < kn.length->kv kn j=[]->s≠[]->emp (kn.set j s)+1=emp kn
 | [],_,_,h,_,_=>by simp at h
 | a::kn,0,s,_,h,hs=>by
  have:a=[]:=h
  subst this
  cases s with
  | nil=>exact absurd rfl hs
  | cons x s=>simp [emp,List.countP_cons]
 | a::kn,j+1,s,h,hk,hs=>by
  have:=QIa (kn:=kn) (j:=j) (s:=s) (by simpa using h) hk hs
  simp only [emp,List.set_cons_succ,List.countP_cons] at this ⊢
  omega
theorem QL8 (kn:List (List Int)):emp kn<=kn.length:=List.countP_le_length
section
variable (ss:List Int)
structure Sok:Prop where
 big:∀ s∈ss,8<=s/\s<=256
def Tys (s:List Int):Prop:=∀ t∈s,0<=t/\t < ss.length
end
variable {ss:List Int}
theorem QNS:tot ss []=0:=rfl
theorem QIw (a b:List Int):tot ss (a++b)=tot ss a+tot ss b:=by simp [tot]
theorem QGx (t:Int) (a:List Int):tot ss (t::a)=ss.getD t.toNat 0+tot ss a:=rfl
theorem QCm (h:Sok ss):∀ {s:List Int},Tys ss s->0<=tot ss s/\(s≠[]->8<=tot ss s)
 | [],_=>⟨Int.le_refl _,fun h=>absurd rfl h⟩
 | t::s,ht=>by
  obtain ⟨h1,_⟩:=QCm h (s:=s) fun u hu=>ht u (by simp [hu])
  obtain ⟨z,_,z2,z3⟩:=kF (ht t (by simp)).1 (ht t (by simp)).2
  have:=h.big z z3
  rw [QGx,List.getD_eq_getElem?_getD,z2,Option.getD_some]
  exact ⟨by omega,fun _=>by omega⟩
theorem QBE (h:Sok ss) {s:List Int} (hs:Tys ss s) (e:tot ss s=0):s=[]:=by
 cases s with
 | nil=>rfl
 | cons t s=>have:=(QCm h hs).2 (by simp);omega
theorem QCG {tk pu b s:List Int} (h:QC8 tk pu b=some s):tot ss s=tot ss b+(tot ss pu - tot ss tk):=by
 unfold QC8 at h
 split at h
 ·rename_i g
  cases h
  have e:b=b.take (b.length - tk.length)++tk:=by
   have:=(List.take_append_drop (b.length - tk.length) b).symm
   rwa [g.2] at this
  have e2:tot ss b=tot ss (b.take (b.length - tk.length))+tot ss tk:=by rw [← QIw,← e]
  rw [QIw]
  omega
 ·cases h
theorem QIT {tk pu b s:List Int} (h:QC8 tk pu b=some s) (hb:Tys ss b) (hp:Tys ss pu):Tys ss s:=by
 unfold QC8 at h
 split at h
 ·cases h
  intro t ht
  rcases List.mem_append.1 ht with ht | ht
  ·exact hb t (List.mem_of_mem_take ht)
  ·exact hp t ht
 ·cases h
structure LQ (ss:List Int) (g:Nat->List Nat) (n:Nat) (tk pu:Nat->List Int) (D:Nat->Int):Prop where
 ok:Sok ss
 ty:∀ i,Tys ss (pu i)
 one:∀ i,(pu i).length<=1
 rt:F.Right g (fun i=>tot ss (pu i) - tot ss (tk i)) n D
 lt:∀ i,F.Rc g i->i < n
variable {g:Nat->List Nat} {n:Nat} {tk pu:Nat->List Int} {D:Nat->Int}
def Sol (g:Nat->List Nat) (tk pu:Nat->List Int) (S:Nat->List Int):Prop:=S 0=[]/\∀ i,F.Rc g i->∃ s,QC8 (tk i) (pu i) (S i)=some s/\∀ j∈g i,S j=s
theorem Sol.dep (c:LQ ss g n tk pu D) {S:Nat->List Int} (h:Sol g tk pu S) {i:Nat} (hi:F.Rc g i):tot ss (S i)=D i/\Tys ss (S i):=by
 induction hi with
 | zero=>rw [h.1,c.rt.z];exact ⟨rfl,fun _ h=>by cases h⟩
 | step hi hj ih=>
  obtain ⟨s,h1,h2⟩:=h.2 _ hi
  rw [h2 _ hj,QCG h1,ih.1]
  exact ⟨(c.rt.e _ _ hi hj).1.symm,QIT h1 ih.2 (c.ty _)⟩
theorem Sol.empty (c:LQ ss g n tk pu D) {S:Nat->List Int} (h:Sol g tk pu S) {i:Nat} (hi:F.Rc g i) (e:D i=0):S i=[]:=QBE c.ok (h.dep c hi).2 ((h.dep c hi).1.trans e)
structure PE (ss:List Int) (g:Nat->List Nat) (n:Nat) (D:Nat->Int) (kn:List (List Int)):Prop where
 len:kn.length=n
 ty:∀ k,Tys ss (kv kn k)
 dep:∀ k,kv kn k≠[]->F.Rc g k/\tot ss (kv kn k)=D k
 short:∀ k,(kv kn k).length+emp kn<=n
def Pt (a b:List (List Int)):Prop:=∀ k,kv a k≠[]->kv b k=kv a k
theorem Pt.refl (a:List (List Int)):Pt a a:=fun _ _=>rfl
theorem Pt.trans {a b c:List (List Int)} (h:Pt a b) (h':Pt b c):Pt a c:=fun k hk=>by rw [h' k (by rw [h k hk];exact hk),h k hk]
def Cl (g:Nat->List Nat) (tk pu:Nat->List Int) (kn:List (List Int)) (i:Nat):Prop:=∃ s,QC8 (tk i) (pu i) (kv kn i)=some s/\(s=[]∨∀ j∈g i,kv kn j=s)
theorem Cl.mono {a b:List (List Int)} {i:Nat} (h:Cl g tk pu a i) (hi:kv b i=kv a i) (hl:Pt a b):Cl g tk pu b i:=by
 obtain ⟨s,h1,h2⟩:=h
 refine ⟨s,by rw [hi];exact h1,?_⟩
 by_cases e:s=[]
 ·exact .inl e
 ·refine .inr fun j hj=>?_
  have:=(h2.resolve_left e) j hj
  rw [hl j (by rw [this];exact e),this]
def Agr (kn:List (List Int)) (S:Nat->List Int):Prop:=∀ k,kv kn k≠[]->kv kn k=S k
theorem PE.keep (c:LQ ss g n tk pu D) {a b:List (List Int)} (hb:PE ss g n D b) (hl:Pt a b) {i:Nat} (ha:Tys ss (kv a i)) (e:tot ss (kv a i)=D i):kv b i=kv a i:=by
 by_cases h:kv a i=[]
 ·rw [h]
  by_cases h2:kv b i=[]
  ·exact h2
  ·exfalso
   have h3:=(hb.dep i h2).2
   rw [h,QNS] at e
   exact h2 (QBE c.ok (hb.ty i) (h3.trans e.symm))
 ·exact hl i h
theorem PE.put (c:LQ ss g n tk pu D) {kn:List (List Int)} (h:PE ss g n D kn) {j:Nat} {s:List Int} (hj:j < n) (hk:kv kn j=[]) (hs:s≠[]) (hty:Tys ss s) (hr:F.Rc g j) (hd:tot ss s=D j) (hlen:s.length+emp kn<=n+1) :
  PE ss g n D (kn.set j s)/\Pt kn (kn.set j s)/\emp (kn.set j s)+1=emp kn/\kv (kn.set j s) j=s:=by
 have hj':j < kn.length:=by rw [h.len];exact hj
 have he:=QIa hj' hk hs
 refine ⟨⟨by rw [List.length_set];exact h.len,fun k=>?_,fun k hne=>?_,fun k=>?_⟩,fun k hne=>?_,he,by rw [QA3 hj',if_pos rfl]⟩
 ·rw [QA3 hj'];split
  ·exact hty
  ·exact h.ty k
 ·rw [QA3 hj'] at hne ⊢
  split
  ·rename_i e;subst e;exact ⟨hr,hd⟩
  ·rename_i e;rw [if_neg e] at hne;exact h.dep k hne
 ·have:=h.short k
  rw [QA3 hj'];split <;> omega
 ·rw [QA3 hj',if_neg (fun e=>by subst e;exact hne hk)]
def tkF (m:dF) (l:List Ins) (i:Nat):List Int:=((l[i]?).map (tkn m)).getD []
def puF (f:cZ) (l:List Ins) (i:Nat):List Int:=((l[i]?).map (psh f)).getD []
structure Bt (m:dF) (f:cZ) (D:Nat->Int):Prop where
 V:Tc m
 v:TV m.1.length f
 hc:F.zJ f.2.2.2.2.1=true
 hr:∀ x∈f.2.2.2.2.1,yB m f x=true
 c:LQ (uI m.1) (F.G f.2.2.2.2.1) f.2.2.2.2.1.length (tkF m f.2.2.2.2.1) (puF f f.2.2.2.2.1) D
def QH6 (m:dF) (f:cZ) (D:Nat->Int) (kn:List (List Int)) (i:Nat) (r:Option (List (List Int)×Bool)):Prop:=
 ∃ kn' b,r=some (kn',b)/\PE (uI m.1) (F.G f.2.2.2.2.1) f.2.2.2.2.1.length D kn'/\Pt kn kn'/\emp kn'<=emp kn/\
  (b=true->Cl (F.G f.2.2.2.2.1) (tkF m f.2.2.2.2.1) (puF f f.2.2.2.2.1) kn' i/\∀ j,kv kn j=[]->kv kn' j≠[]->Cl (F.G f.2.2.2.2.1) (tkF m f.2.2.2.2.1) (puF f f.2.2.2.2.1) kn' j)/\
  ∀ S,Sol (F.G f.2.2.2.2.1) (tkF m f.2.2.2.2.1) (puF f f.2.2.2.2.1) S->Agr kn S->(F.Rc (F.G f.2.2.2.2.1) i->kv kn i=S i)->Agr kn' S/\b=true
def QO3 (m:dF) (f:cZ) (D:Nat->Int) (kn:List (List Int)) (i:Nat):Prop:=
 PE (uI m.1) (F.G f.2.2.2.2.1) f.2.2.2.2.1.length D kn/\i < f.2.2.2.2.1.length/\(F.Rc (F.G f.2.2.2.2.1) i/\tot (uI m.1) (kv kn i)=D i∨¬ F.Rc (F.G f.2.2.2.2.1) i/\i=f.2.2.2.2.1.length - 1/\kv kn i=[])
abbrev Sc0:=dF×(cZ×Unit)
abbrev QUN:Ty:=.pair QKP (.pair QKA .unit)
theorem go_eq {m:dF} {f:cZ} {D:Nat->Int} (C:Bt m f D):∀ (k:Nat) (kn:List (List Int)) (i:Nat),QO3 m f D kn i->emp kn < k->QH6 m f D kn i (ZQ k ((i:Int),((),((),((),())))) ((m,(f,())),((),(kn,((),()))))):=by
 intro k
 induction k with
 | zero=>intro kn i _ h;omega
 | succ k ih=>
  intro kn i hpre hk
  obtain ⟨hki,hi,hst⟩:=hpre
  have hx:f.2.2.2.2.1[i]? = some f.2.2.2.2.1[i]:=List.getElem?_eq_getElem hi
  have hm:=List.getElem_mem hi
  have ho:=C.v.ok _ hm
  have hrx:=C.hr _ hm
  have htk:tkF m f.2.2.2.2.1 i=tkn m f.2.2.2.2.1[i]:=by simp [tkF,hx]
  have hpu:puF f f.2.2.2.2.1 i=psh f f.2.2.2.2.1[i]:=by simp [puF,hx]
  have hsh:=hki.short i
  have hcd:=C.v.cd.2
  have hlast:¬ F.Rc (F.G f.2.2.2.2.1) i->QC8 (tkF m f.2.2.2.2.1 i) (puF f f.2.2.2.2.1 i) (kv kn i)=some []:=by
   intro hn
   rcases hst with h | ⟨_,h1,h2⟩
   ·exact absurd h.1 hn
   ·obtain ⟨_,_,_,h4⟩:=F.bT C.hc
    rw [← h1,hx] at h4
    rw [htk,hpu,Option.some.inj h4,h2]
    rfl
  show QH6 m f D kn i (aZ (ZQ k) ((m,(f,())),((),(kn,((),())))) (FU (ZV (ZQ k) ((m,(f,())),((),(kn,((),())))) big) big) ((i:Int),((),((),((),())))))
  unfold aZ
  dsimp only
  rw [gI hi,Option.bind_some,F.lN (show i < kn.length by rw [hki.len];exact hi),cond_true,QLK (by rw [hki.len];exact hi),Option.bind_some,QL5 C.V ho hrx _ (by omega),Option.bind_some]
  rw [← htk,← hpu]
  have hself:∀ t:Sc0,@Ib QUN t t=true:=fun t=>WT QUN t
  cases ha:QC8 (tkF m f.2.2.2.2.1 i) (puF f f.2.2.2.2.1 i) (kv kn i) with
  | none=>
   dsimp only
   rw [Bool.not_false,cond_true,hself,cond_true]
   refine ⟨kn,false,rfl,hki,Pt.refl _,Nat.le_refl _,(fun h=>by cases h),fun S hS hA hRc=>?_⟩
   exfalso
   by_cases hn:F.Rc (F.G f.2.2.2.2.1) i
   ·obtain ⟨s,h1,_⟩:=hS.2 i hn
    rw [← hRc hn,ha] at h1
    cases h1
   ·rw [hlast hn] at ha;cases ha
  | some s=>
   dsimp only
   rw [Bool.not_true,cond_false]
   by_cases hs:s=[]
   ·subst hs
    rw [show ((List.length ([]:List Int):Int)==(0:Int))=true from rfl,cond_true,hself,cond_true]
    exact ⟨kn,true,rfl,hki,Pt.refl _,Nat.le_refl _,(fun _=>⟨⟨[],ha,.inl rfl⟩,fun j h1 h2=>absurd h1 h2⟩),fun S _ hA _=>⟨hA,rfl⟩⟩
   have hs0:((List.length s:Int)==(0:Int))=false:=by
    rw [beq_eq_false_iff_ne]
    intro h
    exact hs (List.eq_nil_of_length_eq_zero (by omega))
   have hRc:F.Rc (F.G f.2.2.2.2.1) i:=Classical.byContradiction fun hn=>by rw [hlast hn] at ha;cases ha;exact hs rfl
   have hdi:tot (uI m.1) (kv kn i)=D i:=by rcases hst with h | h;exact h.2;exact absurd hRc h.1
   have hbytes:=QCG (ss:=uI m.1) ha
   have QYf:=QIT ha (hki.ty i) (C.c.ty i)
   have QaX:=QMY ha
   have hone:=C.c.one i
   rw [hs0,cond_false,F.QMT,if_pos C.hc,if_pos (by omega),Option.bind_some,Int.toNat_natCast]
   dsimp only
   rw [F.ZR]
   generalize hnx:F.G f.2.2.2.2.1 i=nx
   have hgl:∀ j∈nx,j < f.2.2.2.2.1.length:=fun j hj=>F.QJC C.hc hi (by rw [hnx];exact hj)
   have QYe:∀ j∈nx,F.Rc (F.G f.2.2.2.2.1) j/\tot (uI m.1) s=D j:=fun j hj=>by
    have hj':j∈F.G f.2.2.2.2.1 i:=by rw [hnx];exact hj
    exact ⟨.step hRc hj',by rw [hbytes,hdi];exact (C.c.rt.e i j hRc hj').1.symm⟩
   have QVW:∀ S,Sol (F.G f.2.2.2.2.1) (tkF m f.2.2.2.2.1) (puF f f.2.2.2.2.1) S->kv kn i=S i->∀ j∈nx,S j=s:=by
    intro S hS he j hj
    obtain ⟨s',h1,h2⟩:=hS.2 i hRc
    rw [← he,ha] at h1
    cases h1
    exact h2 j (by rw [hnx];exact hj)
   have hnl:nx.length<=2:=by rw [← hnx];exact F.QKC _ _
   refine Pp (g:=ZV (ZQ k) ((m,(f,())),((),(kn,((),())))) big) (n:=nx.length) (fun (kn1:List (List Int)) (q:Nat)=>(s,F.ints nx,(nx.length:Int),(q:Int),kn1,(m,(f,()))))
    (fun q kn1=>PE (uI m.1) (F.G f.2.2.2.2.1) f.2.2.2.2.1.length D kn1/\Pt kn kn1/\emp kn1<=emp kn/\(∀ p,p < q->∀ j,nx[p]? = some j->kv kn1 j=s)/\(∀ j,kv kn j=[]->kv kn1 j≠[]->Cl (F.G f.2.2.2.2.1) (tkF m f.2.2.2.2.1) (puF f f.2.2.2.2.1) kn1 j)/\
     ∀ S,Sol (F.G f.2.2.2.2.1) (tkF m f.2.2.2.2.1) (puF f f.2.2.2.2.1) S->Agr kn S->kv kn i=S i->Agr kn1 S)
    (QH6 m f D kn i) ?_ ?_ nx.length 0 big (by omega) (bG (by omega)) kn ⟨hki,Pt.refl _,Nat.le_refl _,(fun p h=>by omega),(fun j h1 h2=>absurd h1 h2),fun S _ hA _=>hA⟩
   ·rintro self kn1 ⟨g1,g2,g3,g4,g5,g6⟩
    simp only [ZV,bq,bW,cond_false,hself,cond_true]
    refine ⟨kn1,true,rfl,g1,g2,g3,fun _=>⟨⟨s,?_,.inr fun j hj=>?_⟩,g5⟩,fun S hS hA hR=>⟨g6 S hS hA (hR hRc),rfl⟩⟩
    ·rw [g1.keep C.c g2 (hki.ty i) hdi];exact ha
    ·rw [hnx] at hj
     obtain ⟨p,hp⟩:=List.getElem?_of_mem hj
     exact g4 p (List.getElem?_eq_some_iff.1 hp).1 j hp
   ·rintro self kn1 q hq ⟨g1,g2,g3,g4,g5,g6⟩
    have hj:nx[q]? = some nx[q]:=List.getElem?_eq_getElem hq
    have hjm:=List.getElem_mem hq
    generalize nx[q]=j at hj hjm
    have hjn:=hgl j hjm
    obtain ⟨hjr,hjd⟩:=QYe j hjm
    have hjk:j < kn1.length:=by rw [g1.len];exact hjn
    simp only [ZV,bq,bX hq,cond_true,F.kG (F.ints_at hj),Option.bind_some,F.lN hjk,QLK hjk,hself,wS hq (by omega)]
    by_cases he:kv kn1 j=[]
    ·rw [he]
     obtain ⟨p1,p2,p3,p4⟩:=g1.put C.c hjn he hs QYf hjr hjd (by omega)
     have hse:List.isEmpty s=false:=by cases s with | nil=>exact absurd rfl hs | cons _ _=>rfl
     have hne1:(Nat.ble 1 (List.length (kn1.set j s))&&true)=true:=by rw [List.length_set,Bool.and_true];exact Nat.ble_eq_true_of_le (by omega)
     simp only [List.isEmpty_nil,cond_true,hse,cond_false,Int.toNat_natCast,hne1]
     obtain ⟨kn2,b,e2,q1,q2,q3,q4,q5⟩:=ih (kn1.set j s) j ⟨p1,hjn,.inl ⟨hjr,by rw [p4];exact hjd⟩⟩ (by omega)
     have hle:Pt kn1 kn2:=p2.trans q2
     rw [e2,Option.bind_some]
     dsimp only
     have QLE:∀ S,Sol (F.G f.2.2.2.2.1) (tkF m f.2.2.2.2.1) (puF f f.2.2.2.2.1) S->Agr kn S->kv kn i=S i->Agr kn2 S/\b=true:=by
      intro S hS hA hR
      have hSj:=QVW S hS hR j hjm
      refine q5 S hS (fun z hz=>?_) (fun _=>by rw [p4,hSj])
      rw [QA3 hjk] at hz ⊢
      split
      ·rename_i ez;subst ez;exact hSj.symm
      ·rename_i ez;rw [if_neg ez] at hz;exact g6 S hS hA hR z hz
     cases b with
     | false=>
      right
      rw [Bool.not_false,cond_true]
      exact ⟨kn2,false,rfl,q1,g2.trans hle,by omega,(fun h=>by cases h),fun S hS hA hR=>by have:=(QLE S hS hA (hR hRc)).2;cases this⟩
     | true=>
      left
      have hj2:kv kn2 j=s:=by rw [q2 j (by rw [p4];exact hs),p4]
      obtain ⟨c1,c2⟩:=q4 rfl
      refine ⟨kn2,⟨q1,g2.trans hle,by omega,fun p hp z hz=>?_,fun z h1 h2=>?_,fun S hS hA hR=>(QLE S hS hA hR).1⟩,?_⟩
      ·by_cases hpq:p=q
       ·subst hpq;rw [hj] at hz;cases hz;exact hj2
       ·have:=g4 p (by omega) z hz
        rw [hle z (by rw [this];exact hs),this]
      ·by_cases hz1:kv kn1 z=[]
       ·by_cases hz2:z=j
        ·subst hz2;exact c1
        ·exact c2 z (by rw [QA3 hjk,if_neg hz2];exact hz1) h2
       ·exact (g5 z h1 hz1).mono (hle z hz1) hle
      ·have hn2:nth kn2 j=some s:=by rw [F.sP,QLJ (by rw [q1.len];exact hjn),hj2]
       rw [Bool.not_true,cond_false,F.lN (show j < kn2.length by rw [q1.len];exact hjn),cond_true,hn2,Option.bind_some,QH4 _ _ (by omega),Option.bind_some,decide_eq_true rfl,Bool.not_true,cond_false]
    ·have hje:List.isEmpty (kv kn1 j)=false:=by
      cases hz:kv kn1 j with
      | nil=>exact absurd hz he
      | cons _ _=>rfl
     rw [hje,cond_false,QH4 _ _ (by have:=g1.short j;omega),Option.bind_some]
     by_cases heq:kv kn1 j=s
     ·left
      refine ⟨kn1,⟨g1,g2,g3,fun p hp z hz=>?_,g5,g6⟩,?_⟩
      ·by_cases hpq:p=q
       ·subst hpq;rw [hj] at hz;cases hz;exact heq
       ·exact g4 p (by omega) z hz
      ·rw [decide_eq_true heq,Bool.not_true,cond_false]
     ·right
      rw [decide_eq_false heq,Bool.not_false,cond_true]
      refine ⟨kn1,false,rfl,g1,g2,g3,(fun h=>by cases h),fun S hS hA hR=>?_⟩
      exfalso
      exact heq ((g6 S hS hA (hR hRc) j he).trans (QVW S hS (hR hRc) j hjm))
theorem PE.zero {ss:List Int} {g:Nat->List Nat} {n:Nat} {tk pu:Nat->List Int} {D:Nat->Int} (c:LQ ss g n tk pu D) {kn:List (List Int)} (h:PE ss g n D kn) {dep:List Int} (hd:∀ i,i < n->(F.Rc g i->F.da dep i=D i)/\(¬ F.Rc g i->F.da dep i=0)) {j:Nat} (hj:j < n) (hz:F.da dep j=0):kv kn j=[]:=by
 by_cases he:kv kn j=[]
 ·exact he
 ·obtain ⟨h1,h2⟩:=h.dep j he
  exact QBE c.ok (h.ty j) (h2.trans (((hd j hj).1 h1).symm.trans hz))
theorem QDH (n i:Nat):kv (List.replicate n []) i=[]:=by
 unfold kv
 rw [List.getD_eq_getElem?_getD,List.getElem?_replicate]
 split <;> rfl
theorem PE.start (ss:List Int) (g:Nat->List Nat) (n:Nat) (D:Nat->Int):PE ss g n D (List.replicate n []):=by
 refine ⟨List.length_replicate,fun k t ht=>?_,fun k h=>absurd (QDH n k) h,fun k=>?_⟩
 ·rw [QDH] at ht;cases ht
 ·have:=QL8 (List.replicate n [])
  rw [List.length_replicate] at this
  rw [QDH]
  simpa using this
theorem QLI {m:dF} {f:cZ} {D:Nat->Int} (C:Bt m f D) {dep:List Int} (hdl:dep.length=f.2.2.2.2.1.length) (hre:∀ i,i < f.2.2.2.2.1.length->F.Rc (F.G f.2.2.2.2.1) i∨i=f.2.2.2.2.1.length - 1)
  (hd:∀ i,i < f.2.2.2.2.1.length->(F.Rc (F.G f.2.2.2.2.1) i->F.da dep i=D i)/\(¬ F.Rc (F.G f.2.2.2.2.1) i->F.da dep i=0)) :
  ∃ b,fJ ((m,(f,())),dep)=some b/\(b=true↔∃ S,Sol (F.G f.2.2.2.2.1) (tkF m f.2.2.2.2.1) (puF f f.2.2.2.2.1) S):=by
 have hcd:=C.v.cd
 show ∃ b,bS (fun _=>List.replicate) (FU (Zb (fun _=>List.replicate) big) big) _=some b/\_
 unfold bS
 dsimp only
 rw [F.QAj (by omega),cond_true,Int.toNat_natCast]
 refine Pp (g:=Zb (fun _=>List.replicate) big) (n:=dep.length) (fun (kn:List (List Int)) (i:Nat)=>(dep,(dep.length:Int),(i:Int),(m,(f,())),kn))
  (fun i kn=>PE (uI m.1) (F.G f.2.2.2.2.1) f.2.2.2.2.1.length D kn/\(∀ j,j < i->F.da dep j=0->Cl (F.G f.2.2.2.2.1) (tkF m f.2.2.2.2.1) (puF f f.2.2.2.2.1) kn j)/\(∀ j,kv kn j≠[]->Cl (F.G f.2.2.2.2.1) (tkF m f.2.2.2.2.1) (puF f f.2.2.2.2.1) kn j)/\
   ∀ S,Sol (F.G f.2.2.2.2.1) (tkF m f.2.2.2.2.1) (puF f f.2.2.2.2.1) S->Agr kn S)
  (fun r=>∃ b,r=some b/\(b=true↔∃ S,Sol (F.G f.2.2.2.2.1) (tkF m f.2.2.2.2.1) (puF f f.2.2.2.2.1) S)) ?_ ?_ dep.length 0 big (by omega) (bG (by omega)) _
  ⟨by rw [hdl];exact PE.start _ _ _ _,(fun j h=>by omega),(fun j h=>absurd (QDH _ j) h),fun S _ k hk=>absurd (QDH _ k) hk⟩
 ·rintro self kn ⟨g1,g2,g3,g4⟩
  simp only [Zb,dR,bW,cond_false]
  refine ⟨true,rfl,fun _=>⟨kv kn,?_,?_⟩,fun _=>rfl⟩
  ·have h0:F.da dep 0=0:=((hd 0 (by omega)).1 .zero).trans C.c.rt.z
   exact g1.zero C.c hd (by omega) h0
  ·have all:∀ i,F.Rc (F.G f.2.2.2.2.1) i->Cl (F.G f.2.2.2.2.1) (tkF m f.2.2.2.2.1) (puF f f.2.2.2.2.1) kn i/\tot (uI m.1) (kv kn i)=D i:=by
    have z:∀ i,F.Rc (F.G f.2.2.2.2.1) i->D i=0->Cl (F.G f.2.2.2.2.1) (tkF m f.2.2.2.2.1) (puF f f.2.2.2.2.1) kn i/\tot (uI m.1) (kv kn i)=D i:=fun i hi e=>by
     have hin:=C.c.lt i hi
     have h0:F.da dep i=0:=((hd i hin).1 hi).trans e
     exact ⟨g2 i (by omega) h0,by rw [g1.zero C.c hd hin h0,e];rfl⟩
    intro i hi
    induction hi with
    | zero=>exact z 0 .zero C.c.rt.z
    | step hi hj ih=>
     rename_i i j
     obtain ⟨⟨s,h1,h2⟩,h3⟩:=ih
     have h4:=QCG (ss:=uI m.1) h1
     have h5:=(C.c.rt.e _ _ hi hj).1
     by_cases e:s=[]
     ·subst e
      exact z j (.step hi hj) (by rw [h5,← h3,← h4];rfl)
     ·have h6:=(h2.resolve_left e) j hj
      exact ⟨g3 j (by rw [h6];exact e),by rw [h6,h4,h3,h5]⟩
   intro i hi
   obtain ⟨⟨s,h1,h2⟩,h3⟩:=all i hi
   refine ⟨s,h1,fun j hj=>?_⟩
   by_cases e:s=[]
   ·subst e
    have h4:=QCG (ss:=uI m.1) h1
    have h5:=(C.c.rt.e _ _ hi hj).1
    have hr:F.Rc (F.G f.2.2.2.2.1) j:=.step hi hj
    exact QBE C.c.ok (g1.ty j) (by rw [(all j hr).2,h5,← h3,← h4];rfl)
   ·exact (h2.resolve_left e) j hj
 ·rintro self kn i hi ⟨g1,g2,g3,g4⟩
  have hin:i < f.2.2.2.2.1.length:=by omega
  simp only [Zb,dR,bX hi,cond_true,F.QIY hi,Option.bind_some,wS hi (by omega)]
  by_cases hz:F.da dep i=0
  ·have e0:(F.da dep i==(0:Int))=true:=by rw [hz];rfl
   have hne:(Nat.ble 1 (List.length kn)&&true)=true:=by rw [g1.len,Bool.and_true];exact Nat.ble_eq_true_of_le hcd.1
   have hki:=g1.zero C.c hd hin hz
   have hpre:QO3 m f D kn i:=by
    refine ⟨g1,hin,?_⟩
    by_cases hr:F.Rc (F.G f.2.2.2.2.1) i
    ·exact .inl ⟨hr,by rw [hki,← (hd i hin).1 hr,hz];rfl⟩
    ·exact .inr ⟨hr,(hre i hin).resolve_left hr,hki⟩
   have hem:=QL8 kn
   rw [g1.len] at hem
   obtain ⟨kn',b,q0,q1,q2,q3,q4,q5⟩:=go_eq C big kn i hpre (bG (by omega))
   have q0:dP ((i:Int),((),((),((),())))) ((m,(f,())),((),(kn,((),()))))=some (kn',b):=q0
   rw [e0,cond_true,hne,cond_true,q0,Option.bind_some]
   dsimp only
   have QLE:∀ S,Sol (F.G f.2.2.2.2.1) (tkF m f.2.2.2.2.1) (puF f f.2.2.2.2.1) S->Agr kn' S/\b=true:=fun S hS=>q5 S hS (g4 S hS) fun hr=>by
    rw [hki,hS.empty C.c hr (((hd i hin).1 hr).symm.trans hz)]
   cases b with
   | false=>
    right
    rw [Bool.not_false,cond_true]
    exact ⟨false,rfl,(fun h=>by cases h),fun ⟨S,hS⟩=>(QLE S hS).2⟩
   | true=>
    left
    rw [Bool.not_true,cond_false]
    obtain ⟨c1,c2⟩:=q4 rfl
    refine ⟨kn',⟨q1,fun j hj h0=>?_,fun j hj=>?_,fun S hS=>(QLE S hS).1⟩,rfl⟩
    ·by_cases hji:j=i
     ·subst hji;exact c1
     ·exact (g2 j (by omega) h0).mono (by rw [q1.zero C.c hd (by omega) h0,g1.zero C.c hd (by omega) h0]) q2
    ·by_cases h1:kv kn j=[]
     ·exact c2 j h1 hj
     ·exact (g3 j h1).mono (q2 j h1) q2
  ·left
   have e0:(F.da dep i==(0:Int))=false:=by rw [beq_eq_false_iff_ne];exact hz
   rw [e0,cond_false]
   exact ⟨kn,⟨g1,fun j hj h0=>by
    by_cases hji:j=i
    ·subst hji;exact absurd h0 hz
    ·exact g2 j (by omega) h0,g3,g4⟩,rfl⟩
def bsF (m:dF) (f:cZ):List Int:=f.2.2.2.2.1.map fun x=>tot (uI m.1) (psh f x) - tot (uI m.1) (tkn m x)
structure Ag (m:dF) (f:cZ):Prop where
 V:Tc m
 v:TV m.1.length f
 hc:F.zJ f.2.2.2.2.1=true
 hr:∀ x∈f.2.2.2.2.1,yB m f x=true
 re:∀ i,i < f.2.2.2.2.1.length->F.Rc (F.G f.2.2.2.2.1) i∨i=f.2.2.2.2.1.length - 1
theorem Ag.tys {m:dF} {f:cZ} (C:Ag m f) {x:Ins} (hx:x∈f.2.2.2.2.1):Tys (uI m.1) (psh f x)/\Tys (uI m.1) (tkn m x):=by
 constructor
 ·unfold psh
  split
  ·rename_i e
   have hA:=(Zj (C.v.ok x hx) (C.hr x hx) (k:=24) e (show j4 ((24:Nat):Int)=[1,0,0] by decide +kernel)).1 (by simp)
   intro t ht
   obtain rfl:t=pQ f x.2.1:=by simpa using ht
   rw [QBC]
   exact QGy C.v hA
  ·intro t ht;cases ht
 ·unfold tkn
  split
  ·split
   ·rename_i h hq
    have:=(C.V.ok h (List.mem_of_getElem? hq)).ty
    intro t ht
    obtain ⟨z,hz,rfl⟩:=List.mem_map.1 ht
    rw [QBC]
    exact this z (List.mem_of_mem_take hz)
   ·intro t ht;cases ht
  ·intro t ht;cases ht
theorem QHp {ss:List Int} (h:Sok ss):∀ {s:List Int},Tys ss s->tot ss s<=256 * s.length
 | [],_=>by simp [tot]
 | t::s,ht=>by
  have h1:=QHp h (s:=s) fun u hu=>ht u (by simp [hu])
  obtain ⟨z,_,z2,z3⟩:=kF (ht t (by simp)).1 (ht t (by simp)).2
  have:=h.big z z3
  rw [QGx,List.getD_eq_getElem?_getD,z2,Option.getD_some,List.length_cons]
  omega
theorem Ag.by {m:dF} {f:cZ} (C:Ag m f) {x:Ins} (hx:x∈f.2.2.2.2.1) : -4096<=tot (uI m.1) (psh f x) - tot (uI m.1) (tkn m x)/\tot (uI m.1) (psh f x) - tot (uI m.1) (tkn m x)<=4096/\0<=tot (uI m.1) (psh f x)/\tot (uI m.1) (psh f x)<=256/\0<=tot (uI m.1) (tkn m x)/\tot (uI m.1) (tkn m x)<=4096:=by
 have hs:Sok (uI m.1):=⟨QHk C.V⟩
 obtain ⟨h1,h2⟩:=C.tys hx
 have a1:=QHp hs h1
 have a2:=QHp hs h2
 have b1:=(QCm hs h1).1
 have b2:=(QCm hs h2).1
 have c1:=QCk f x
 have c2:=QFq C.V x
 omega
theorem QHD (m:dF) (f:cZ):(bsF m f).length=f.2.2.2.2.1.length:=by simp [bsF]
theorem QVC {m:dF} {f:cZ} (C:Ag m f):F.QHF (bsF m f)=true:=by
 simp only [F.QHF,List.all_eq_true,bsF,List.mem_map]
 rintro b ⟨x,hx,rfl⟩
 have:=C.by hx
 simp
 omega
theorem Ag.ck {m:dF} {f:cZ} (C:Ag m f) {D:Nat->Int} (h:F.Right (F.G f.2.2.2.2.1) (F.da (bsF m f)) f.2.2.2.2.1.length D):Bt m f D:=by
 refine ⟨C.V,C.v,C.hc,C.hr,⟨QHk C.V⟩,fun i=>?_,fun i=>?_,⟨h.z,fun i j hi hj=>?_⟩,fun i hi=>hi.lt C.hc⟩
 ·unfold puF
  cases hx:f.2.2.2.2.1[i]? with
  | none=>intro t ht;cases ht
  | some x=>exact (C.tys (List.mem_of_getElem? hx)).1
 ·unfold puF
  cases hx:f.2.2.2.2.1[i]? with
  | none=>simp
  | some x=>exact QCk f x
 ·have hin:=hi.lt C.hc
  have e:F.da (bsF m f) i=tot (uI m.1) (puF f f.2.2.2.2.1 i) - tot (uI m.1) (tkF m f.2.2.2.2.1 i):=by
   simp [F.da,bsF,puF,tkF,hin]
  rw [← e]
  exact h.e i j hi hj
def QCq (m:dF) (f:cZ):Prop:=(∃ dep,F.IsD f.2.2.2.2.1 (bsF m f) dep)/\∃ S,Sol (F.G f.2.2.2.2.1) (tkF m f.2.2.2.2.1) (puF f f.2.2.2.2.1) S
theorem QJN {m:dF} {f:cZ} (C:Ag m f):∃ dep b,bZ ((m,(f,())),uI m.1)=some (dep,b)/\(b=true↔QCq m f)/\(b=true->F.IsD f.2.2.2.2.1 (bsF m f) dep):=by
 have hcd:=C.v.cd
 have hs:=QRB C.V
 show ∃ dep b,fB (fun _=>List.replicate) (FU (Zy (fun _=>List.replicate) big) big) _=some (dep,b)/\_
 unfold fB
 dsimp only
 rw [F.QAj (by omega),cond_true,Int.toNat_natCast]
 refine Pp (g:=Zy (fun _=>List.replicate) big) (n:=f.2.2.2.2.1.length) (fun (x:List Int) (i:Nat)=>(uI m.1,f.2.2.2.2.1,(f.2.2.2.2.1.length:Int),(i:Int),(m,(f,())),x))
  (fun i x=>x.length=f.2.2.2.2.1.length/\x.take i=(bsF m f).take i) (fun r=>∃ dep b,r=some (dep,b)/\(b=true↔QCq m f)/\(b=true->F.IsD f.2.2.2.2.1 (bsF m f) dep)) ?_ ?_ f.2.2.2.2.1.length 0 big (by omega) (bG (by omega)) _ ⟨List.length_replicate,rfl⟩
 ·rintro self x ⟨h1,h2⟩
  rw [List.take_of_length_le (by omega),List.take_of_length_le (by rw [QHD];omega)] at h2
  subst h2
  simp only [Zy,jA,bW,cond_false]
  have hD:=F.QJ3 f.2.2.2.2.1 (bsF m f)
  unfold F.uJ at hD
  rw [if_pos C.hc,if_pos ⟨QHD m f,QVC C⟩] at hD
  rcases hD with ⟨dep,e,hi⟩ | ⟨hn,e⟩
  ·rw [e,Option.bind_some]
   dsimp only
   obtain ⟨hl,D,hR,hd⟩:=hi
   obtain ⟨b,hb,hiff⟩:=QLI (C.ck hR) hl C.re hd
   rw [show ((0:Int)==(0:Int))=true from rfl,cond_true,hb,Option.bind_some]
   exact ⟨dep,b,rfl,hiff.trans ⟨fun h=>⟨⟨dep,hl,D,hR,hd⟩,h⟩,fun h=>h.2⟩,fun _=>⟨hl,D,hR,hd⟩⟩
  ·rw [e,Option.bind_some]
   dsimp only
   rw [show ((36:Int)==(0:Int))=false from rfl,cond_false]
   exact ⟨[],false,rfl,⟨(fun h=>by cases h),fun ⟨⟨dep,_,D,hR,_⟩,_⟩=>absurd hR (hn D)⟩,fun h=>by cases h⟩
 ·rintro self x i hi ⟨h1,h2⟩
  left
  have hm:=List.getElem_mem hi
  obtain ⟨b1,b2,b3,b4,b5,b6⟩:=C.by hm
  obtain ⟨t1,t2⟩:=C.tys hm
  refine ⟨x.set i (tot (uI m.1) (psh f f.2.2.2.2.1[i]) - tot (uI m.1) (tkn m f.2.2.2.2.1[i])),⟨by rw [List.length_set];exact h1,?_⟩,?_⟩
  ·rw [LK _ _ _ (by omega),h2,List.take_succ_eq_append_getElem (by rw [QHD];exact hi)]
   simp [bsF]
  ·simp only [Zy,jA,bX hi,cond_true,gI hi,Option.bind_some,QEY (C.v.ok _ hm) (C.hr _ hm),QGt C.V (C.v.ok _ hm) (C.hr _ hm),QLl hs _ (by have:=QCk f f.2.2.2.2.1[i];omega) t1,QLl hs _ (by have:=QFq C.V f.2.2.2.2.1[i];omega) t2,F.lN (show i < x.length by omega),wS hi (by omega)]
   rw [T.t64 (by omega) (by omega),Int.toNat_natCast]
def dB (fs:List Nat) (i:Nat) (s:Int):Bool:=decide ((F.ma fs i &&& 2 ^ s.toNat)=0)
def nlS (l:List Ins) (fs:List Nat):Nat->Nat->Int
 | 0,_=>-1
 | k+1,i=>if ((l[i]?).any fun x=>(F.rS x).any (dB fs i))=true then (i:Int) else nlS l fs k (i+1)
theorem QGg {l:List Ins} {fs:List Nat}:∀ {k i:Nat},nlS l fs k i = -1∨(i:Int)<=nlS l fs k i/\nlS l fs k i < i+k
 | 0,i=>.inl rfl
 | k+1,i=>by
  unfold nlS
  split
  ·exact .inr ⟨Int.le_refl _,by omega⟩
  ·rcases QGg (l:=l) (fs:=fs) (k:=k) (i:=i+1) with h | h
   ·exact .inl h
   ·exact .inr ⟨by omega,by omega⟩
theorem QHa {l:List Ins} (hok:∀ x∈l,sU x=true) (hl:l.length<=200) {fs:List Nat} (hf:fs.length=l.length) (h16:∀ i,F.ma fs i < 65536):bY (l,F.ints fs)=some (nlS l fs l.length 0):=by
 show eu (FU (Zi big) big) _=_
 unfold eu
 dsimp only
 have key:∀ (k i N:Nat),i+k=l.length->k < N->FU (Zi big) N (l,(l.length:Int),(i:Int),F.ints fs)=some (nlS l fs k i):=by
  intro k
  induction k with
  | zero=>
   intro i N hi hN
   obtain ⟨N,rfl⟩:∃ M,N=M+1:=⟨N - 1,by omega⟩
   obtain rfl:i=l.length:=by omega
   rw [Vh]
   simp only [Zi,dM,bW,cond_false]
   rfl
  | succ k ih=>
   intro i N hi hN
   obtain ⟨N,rfl⟩:∃ M,N=M+1:=⟨N - 1,by omega⟩
   have hi':i < l.length:=by omega
   have ho:=hok _ (List.getElem_mem hi')
   obtain ⟨s1,_,s3,_⟩:=F.QFo ho
   rw [Vh]
   simp only [Zi,dM,bX hi',cond_true,gI hi',Option.bind_some,QGp ho]
   have hany:((l[i]?).any fun x=>(F.rS x).any (dB fs i))=(F.rS l[i]).any (dB fs i):=by simp [hi']
   unfold nlS
   rw [hany]
   generalize F.rS l[i]=r at s1 s3
   have:=ZW (g:=aj big (FU (Zi big) N)) (mk:=fun q=>((r.length:Int),(q:Int),r,F.ints fs,(i:Int),l,(l.length:Int),(i:Int))) (p:=fun q=>(r[q]?).all fun (s:Int)=>!dB fs i s) (no:=some (i:Int)) (kk:=some (nlS l fs k (i+1))) (n:=r.length)
    (fun self q hq=>by
     have hs:=s1 _ (List.getElem_mem hq)
     simp only [aj,iw,bX hq,cond_true,F.lN hq,F.QBf (List.getElem?_eq_getElem hq),Option.bind_some,F.QIo (show i < fs.length by omega),decide_eq_false (show ¬ r[q] < 0 by omega),cond_false,F.QRA hs.1 (show r[q]<=16 by omega),F.QVA (h16 i) (F.QLW hs.1 hs.2),wS hq (by omega),pat hq,dB]
     by_cases hz:(F.ma fs i &&& 2 ^ (r[q]).toNat)=0
     ·have e0:(((F.ma fs i &&& 2 ^ (r[q]).toNat:Nat):Int)==(0:Int))=true:=by rw [hz];rfl
      rw [e0,cond_true,decide_eq_true (show ((q:Int)≥0) by omega),cond_true,decide_eq_true hz]
      rfl
     ·have e0:(((F.ma fs i &&& 2 ^ (r[q]).toNat:Nat):Int)==(0:Int))=false:=by rw [beq_eq_false_iff_ne];omega
      rw [e0,cond_false,decide_eq_false hz]
      rfl)
    (fun self=>by
     simp only [aj,iw,bW,cond_false,wS hi' (by omega)]
     exact ih (i+1) N (by omega) (by omega)) r.length 0 big (by omega) (bG (by omega))
   rw [QAU,show ((0:Nat):Int)=0 from rfl] at this
   rw [this]
   have e:r.all (fun s=>!dB fs i s)=!r.any (dB fs i):=by rw [List.not_any_eq_all_not]
   rw [e]
   cases r.any (dB fs i) <;> rfl
 exact key l.length 0 big (by omega) (bG (by omega))
theorem QLd {v:List Int} (h1:1<=v.length) (h2:v.length<=200):dG v=some (T.lQ v):=by
 show gu (fun _=>List.replicate) (FU (aD (fun _=>List.replicate) big) big) v=_
 unfold gu
 rw [F.QAj (by omega),cond_true,Int.toNat_natCast]
 have key:∀ (k i N:Nat) (x:List Int),i+k=v.length->k < N->x.length=v.length->x.take i=v.take i->FU (aD (fun _=>List.replicate) big) N (v,(v.length:Int),(i:Int),x)=some (T.lQ v):=by
  intro k
  induction k with
  | zero=>
   intro i N x hi hN hx ht
   obtain ⟨N,rfl⟩:∃ M,N=M+1:=⟨N - 1,by omega⟩
   obtain rfl:i=v.length:=by omega
   rw [List.take_of_length_le (by omega),List.take_of_length_le (by omega)] at ht
   subst ht
   rw [Vh]
   simp only [aD,jf,bW,cond_false,T.QGj,Option.bind_some,T.QIp]
   rw [if_neg (by omega)]
  | succ k ih=>
   intro i N x hi hN hx ht
   obtain ⟨N,rfl⟩:∃ M,N=M+1:=⟨N - 1,by omega⟩
   have hi':i < v.length:=by omega
   rw [Vh]
   simp only [aD,jf,bX hi',cond_true,gI hi',Option.bind_some,F.lN (show i < x.length by omega),wS hi' (by omega)]
   rw [Int.toNat_natCast]
   exact ih (i+1) N _ (by omega) (by omega) (by rw [List.length_set];exact hx) (by rw [LK _ _ _ (by omega),ht,List.take_succ_eq_append_getElem hi'])
 exact key v.length 0 big _ (by omega) (bG (by omega)) List.length_replicate rfl
theorem QLc {v:List Int} (h1:1<=v.length) (h2:v.length<=200) (hv:∀ x∈v,0<=x/\x<=1000000):iH v=some (T.lQ v):=by
 show lZ (fun _=>List.replicate) (FU (bH (fun _=>List.replicate) big) big) v=_
 unfold lZ
 rw [F.QAj (by omega),cond_true,Int.toNat_natCast]
 have key:∀ (k i N:Nat) (x:List Int),i+k=v.length->k < N->x.length=v.length->x.take i=v.take i->FU (bH (fun _=>List.replicate) big) N (v,(v.length:Int),(i:Int),x)=some (T.lQ v):=by
  intro k
  induction k with
  | zero=>
   intro i N x hi hN hx ht
   obtain ⟨N,rfl⟩:∃ M,N=M+1:=⟨N - 1,by omega⟩
   obtain rfl:i=v.length:=by omega
   rw [List.take_of_length_le (by omega),List.take_of_length_le (by omega)] at ht
   subst ht
   rw [Vh]
   simp only [bH,nZ,bW,cond_false,T.QGj,Option.bind_some,T.QIp]
   rw [if_neg (by omega)]
  | succ k ih=>
   intro i N x hi hN hx ht
   obtain ⟨N,rfl⟩:∃ M,N=M+1:=⟨N - 1,by omega⟩
   have hi':i < v.length:=by omega
   have hb:=hv _ (List.getElem_mem hi')
   rw [Vh]
   simp only [bH,nZ,bX hi',cond_true,gI hi',Option.bind_some,F.lN (show i < x.length by omega),wS hi' (by omega)]
   rw [Int.toNat_natCast,show IntKind.u64.wrap v[i]=v[i] by rw [wrap_u64];omega]
   exact ih (i+1) N _ (by omega) (by omega) (by rw [List.length_set];exact hx) (by rw [LK _ _ _ (by omega),ht,List.take_succ_eq_append_getElem hi'])
 exact key v.length 0 big _ (by omega) (bG (by omega)) List.length_replicate rfl
open Classical in
noncomputable def QD3 (m:dF) (f:cZ):List Int:=if h:∃ dep,F.IsD f.2.2.2.2.1 (bsF m f) dep then Classical.choose h else []
theorem QIZ {m:dF} {f:cZ} {dep:List Int} (h:F.IsD f.2.2.2.2.1 (bsF m f) dep):QD3 m f=dep:=by
 unfold QD3
 rw [dif_pos ⟨dep,h⟩]
 exact (Classical.choose_spec (⟨dep,h⟩:∃ dep,F.IsD f.2.2.2.2.1 (bsF m f) dep)).same h
open Classical in
noncomputable def yA (f:cZ):List Nat:=if h:∃ fs,F.IsM f.2.2.2.2.1 (F.wm f.2.2.2.2.1) (F.low f.2.1) (F.low (f.2.2.2.1.length:Int)) fs then Classical.choose h else []
theorem QNL {f:cZ} {fs:List Nat} (h:F.IsM f.2.2.2.2.1 (F.wm f.2.2.2.2.1) (F.low f.2.1) (F.low (f.2.2.2.1.length:Int)) fs):yA f=fs:=by
 unfold yA
 rw [dif_pos ⟨fs,h⟩]
 exact (Classical.choose_spec (⟨fs,h⟩:∃ fs,F.IsM f.2.2.2.2.1 (F.wm f.2.2.2.2.1) (F.low f.2.1) (F.low (f.2.2.2.1.length:Int)) fs)).same h
noncomputable def fwF (m:dF) (f:cZ):Int×Int:=fwS m f f.2.2.2.2.1 (F.vZ f.2.2.2.2.1) f.2.2.2.2.1.length 0
open Classical in
noncomputable def flt (m:dF) (fi:Int) (f:cZ):Int×Int:=
 if F.zJ f.2.2.2.2.1=false then (-1,12)
 else if fi=0/\(0 < f.2.1∨f.2.2.1≠-1) then (-1,30)
 else if (fwF m f).2≠0 then fwF m f
 else if ¬ QCq m f then (-1,36)
 else if nlS f.2.2.2.2.1 (yA f) f.2.2.2.2.1.length 0≠-1 then (nlS f.2.2.2.2.1 (yA f) f.2.2.2.2.1.length 0,38)
 else (0,0)
noncomputable def yj (m:dF) (f:cZ):cZ:=(f.1,(f.2.1,(f.2.2.1,(f.2.2.2.1,(f.2.2.2.2.1,(T.lQ (QD3 m f),(T.lQ (F.ints (yA f)),())))))))
def QLo:cZ:=([],(0,(0,([],([],([],([],())))))))
noncomputable def wtS (m:dF) (fi:Int) (f:cZ):cZ×Int×Int:=(if (flt m fi f).2=0 then yj m f else QLo,flt m fi f)
theorem QPA {m:dF} (V:Tc m) {f:cZ} (v:TV m.1.length f) (hc:F.zJ f.2.2.2.2.1=true) (hz:(fwF m f).2=0):Ag m f/\∀ x∈f.2.2.2.2.1,gT m f x=true:=by
 have hrl:=F.QAB f.2.2.2.2.1
 have key:=QIm (by omega) hrl.symm hz
 have one:∀ j,(h:j < f.2.2.2.2.1.length)->yB m f f.2.2.2.2.1[j]=true/\(F.vZ f.2.2.2.2.1)[j]? = some true/\gT m f f.2.2.2.2.1[j]=true:=by
  intro j h
  obtain ⟨h',e⟩:=key j (by omega) h
  unfold QFW at e
  split at e
  ·exact absurd e (by decide)
  ·split at e
   ·exact absurd e (by decide)
   ·split at e
    ·exact absurd e (by decide)
    ·rename_i e1 e2 e3
     refine ⟨by simpa using e1,?_,by simpa using e3⟩
     rw [List.getElem?_eq_getElem h']
     simpa using e2
 refine ⟨⟨V,v,hc,fun x hx=>?_,fun i hi=>(F.QJe hc hi).1 (one i hi).2.1⟩,fun x hx=>?_⟩
 ·obtain ⟨j,hj,rfl⟩:=List.mem_iff_getElem.1 hx
  exact (one j hj).1
 ·obtain ⟨j,hj,rfl⟩:=List.mem_iff_getElem.1 hx
  exact (one j hj).2.2
theorem Ag.low {m:dF} {f:cZ} (C:Ag m f):F.QAQ f.2.2.2.2.1 f.2.1 (f.2.2.2.1.length:Int)=0:=by
 rw [F.QJP]
 refine ⟨⟨C.v.par.1,C.v.par.2,by have:=C.v.sl;omega⟩,List.all_eq_true.2 fun x hx=>?_⟩
 have:=C.hr x hx
 simp only [yB,Bool.and_eq_true,List.all_append] at this
 simp only [F.QDr,Bool.and_eq_true]
 exact this.1
theorem QLH {m:dF} {f:cZ} (C:Ag m f):mR (f.2.2.2.2.1,f.2.1,(f.2.2.2.1.length:Int))=some (F.ints (yA f),0)/\F.IsM f.2.2.2.2.1 (F.wm f.2.2.2.2.1) (F.low f.2.1) (F.low (f.2.2.2.1.length:Int)) (yA f):=by
 have:=F.QKY (l:=f.2.2.2.2.1) f.2.1 (f.2.2.2.1.length:Int)
 unfold F.vF at this
 rw [if_pos C.hc,if_pos C.low] at this
 obtain ⟨fs,h1,h2⟩:=this
 rw [QNL h2]
 exact ⟨h1,h2⟩
theorem QNF {l:List Ins} {bs dep:List Int} (hc:F.zJ l=true) (h:F.IsD l bs dep):∀ x∈dep,0<=x/\x<=1000000:=by
 obtain ⟨hl,D,hR,hd⟩:=h
 intro x hx
 obtain ⟨i,hi,rfl⟩:=List.mem_iff_getElem.1 hx
 have e:dep[i]=F.da dep i:=by simp [F.da,hi]
 rw [e]
 by_cases hr:F.Rc (F.G l) i
 ·rw [(hd i (by omega)).1 hr];have:=hR.bd hr;omega
 ·rw [(hd i (by omega)).2 hr];omega
theorem zu {m:dF} (V:Tc m) {fi:Nat} {f:cZ} (hf:m.2.2.1[fi]? = some f):jD (m,(fi:Int),uI m.1)=some (wtS m fi f):=by
 have hfi:=(List.getElem?_eq_some_iff.1 hf).1
 have v:=V.ok f (List.mem_of_getElem? hf)
 have hcd:=v.cd
 show jM _=_
 unfold jM
 dsimp only
 have hg:Mh m.2.2.1 (fi:Int)=some f:=by rw [gI hfi,← List.getElem?_eq_getElem hfi,hf]
 rw [hg,Option.bind_some,F.vw,Option.bind_some]
 have wz:∀ q:Int×Int,flt m fi f=q->q.2≠0->some (QLo,q.1,q.2)=some (wtS m fi f):=fun q e h=>by unfold wtS;rw [e,if_neg h]
 cases hc:F.zJ f.2.2.2.2.1 with
 | false=>
  rw [if_neg (by simp),show ((8:Int) != (0:Int))=true from rfl,cond_true]
  exact wz (-1,12) (by unfold flt;rw [if_pos hc]) (by decide)
 | true=>
  rw [if_pos rfl,show ((0:Int) != (0:Int))=false from rfl,cond_false]
  have rest:¬ ((fi:Int)=0/\(0 < f.2.1∨f.2.2.1≠-1))->((aC (m,(f,()))).bind fun jV=>(bif (jV.2 != (0:Int)) then (let wK:cZ:=(([]:List Int),((0:Int),((0:Int),(([]:List K.qW),(([]:List Ins),(([]:List T.Sz),(([]:List T.Sz),())))))));(some (wK,jV.1,jV.2))) else ((bZ ((m,(f,())),uI m.1)).bind fun xu=>(bif (!xu.2) then (let x18:cZ:=(([]:List Int),((0:Int),((0:Int),(([]:List K.qW),(([]:List Ins),(([]:List T.Sz),(([]:List T.Sz),())))))));(some (x18,(-1:Int),(36:Int)))) else ((mR (f.2.2.2.2.1,f.2.1,(List.length f.2.2.2.1:Int))).bind fun zW=>((bY (f.2.2.2.2.1,zW.1)).bind fun zO=>(bif (zO != (-1:Int)) then (let x21:cZ:=(([]:List Int),((0:Int),((0:Int),(([]:List K.qW),(([]:List Ins),(([]:List T.Sz),(([]:List T.Sz),())))))));(some (x21,zO,(38:Int)))) else ((iH xu.1).bind fun x22=>((dG zW.1).bind fun x23=>(some ((f.1,(f.2.1,(f.2.2.1,(f.2.2.2.1,(f.2.2.2.2.1,(x22,(x23,f.2.2.2.2.2.2.2))))))),(0:Int),(0:Int))))))))))))=some (wtS m fi f):=by
   intro hn
   rw [QDq V v hc,Option.bind_some]
   show (bif (fwF m f).2 != 0 then _ else _)=_
   by_cases hz:(fwF m f).2=0
   rotate_left
   ·rw [eT,decide_eq_false hz,Bool.not_false,cond_true]
    exact wz (fwF m f) (by unfold flt;rw [if_neg (by simp [hc]),if_neg hn,if_pos hz]) hz
   rw [eT,decide_eq_true hz,Bool.not_true,cond_false]
   obtain ⟨C,_⟩:=QPA V v hc hz
   obtain ⟨dep,b,e1,hb,hd⟩:=QJN C
   obtain ⟨e2,hM⟩:=QLH C
   have h16:=hM.up hc (F.QIn (by have:=v.sl;omega))
   rw [e1,Option.bind_some]
   dsimp only
   cases b with
   | false=>
    rw [Bool.not_false,cond_true]
    have hs:¬ QCq m f:=fun h=>by have:=hb.2 h;cases this
    exact wz (-1,36) (by unfold flt;rw [if_neg (by simp [hc]),if_neg hn,if_neg (by simp [hz]),if_pos hs]) (by simp)
   | true=>
    have hs:=hb.1 rfl
    have hD:=hd rfl
    rw [Bool.not_true,cond_false,e2,Option.bind_some]
    dsimp only
    rw [QHa v.ok hcd.2 hM.1 h16,Option.bind_some]
    by_cases hnl:nlS f.2.2.2.2.1 (yA f) f.2.2.2.2.1.length 0 = -1
    rotate_left
    ·rw [eT,decide_eq_false hnl,Bool.not_false,cond_true]
     exact wz (nlS f.2.2.2.2.1 (yA f) f.2.2.2.2.1.length 0,38) (by unfold flt;rw [if_neg (by simp [hc]),if_neg hn,if_neg (by simp [hz]),if_neg (by simp [hs]),if_pos hnl]) (by simp)
    ·have hdl:=hD.1
     rw [eT,decide_eq_true hnl,Bool.not_true,cond_false,QLc (by omega) (by omega) (QNF hc hD),Option.bind_some,QLd (by rw [F.ZR,hM.1];exact hcd.1) (by rw [F.ZR,hM.1];exact hcd.2),Option.bind_some]
     have e:flt m fi f=(0,0):=by unfold flt;rw [if_neg (by simp [hc]),if_neg hn,if_neg (by simp [hz]),if_neg (by simp [hs]),if_neg (by simp [hnl])]
     unfold wtS
     rw [e,if_pos rfl,yj,QIZ hD]
  by_cases h0:(fi:Int)=0
  ·have e0:((fi:Int)==(0:Int))=true:=by rw [h0];rfl
   rw [e0,cond_true]
   by_cases hp:f.2.1 > 0
   ·rw [decide_eq_true hp,cond_true]
    exact wz (-1,30) (by unfold flt;rw [if_neg (by simp [hc]),if_pos ⟨h0,.inl hp⟩]) (by decide)
   rw [decide_eq_false hp,cond_false,eT]
   by_cases hr:f.2.2.1 = -1
   ·rw [decide_eq_true hr,Bool.not_true,cond_false]
    exact rest fun h=>by rcases h.2 with h | h;exact hp h;exact h hr
   ·rw [decide_eq_false hr,Bool.not_false,cond_true]
    exact wz (-1,30) (by unfold flt;rw [if_neg (by simp [hc]),if_pos ⟨h0,.inr hr⟩]) (by decide)
  ·have e0:((fi:Int)==(0:Int))=false:=by rw [beq_eq_false_iff_ne];exact h0
   rw [e0,cond_false]
   exact rest fun h=>h0 h.1
noncomputable def QFQ (m:dF):Nat->Nat->Int×Int×Int
 | 0,_=>(0,0,0)
 | k+1,i=>match m.2.2.1[i]? with
  | some f=>if (flt m i f).2≠0 then ((i:Int),flt m i f) else if f=yj m f then QFQ m k (i+1) else ((i:Int),-1,32)
  | none=>(0,0,0)
theorem QDi {m:dF} {f:cZ}:f=yj m f↔f.2.2.2.2.2.1=T.lQ (QD3 m f)/\f.2.2.2.2.2.2.1=T.lQ (F.ints (yA f)):=by
 obtain ⟨a,b,c,d,e,g,h,u⟩:=f
 constructor
 ·intro e
  have e2:=congrArg (fun q:cZ=>(q.2.2.2.2.2.1,q.2.2.2.2.2.2.1)) e
  simp only [yj,Prod.mk.injEq] at e2
  exact e2
 ·rintro ⟨h1,h2⟩
  unfold yj
  dsimp only at h1 h2 ⊢
  rw [← h1,← h2]
theorem QK9 {m:dF} (h:QJG m):mq m=some (if chk m=0 then QFQ m m.2.2.1.length 0 else (0,0,chk m)):=by
 show rQ (FU (fO big) big) m=_
 unfold rQ
 rw [QDb m h,Option.bind_some]
 by_cases hc:chk m=0
 rotate_left
 ·rw [eT,decide_eq_false hc,Bool.not_false,cond_true,if_neg hc]
 have V:=QIy (QEn hc).1
 have hn:=V.fn.2
 rw [eT,decide_eq_true hc,Bool.not_true,cond_false,if_pos hc,QGo V,Option.bind_some]
 have key:∀ (k i N:Nat),i+k=m.2.2.1.length->k < N->FU (fO big) N (uI m.1,m.2.2.1,(m.2.2.1.length:Int),(i:Int),m)=some (QFQ m k i):=by
  intro k
  induction k with
  | zero=>
   intro i N hi hN
   obtain ⟨N,rfl⟩:∃ M,N=M+1:=⟨N - 1,by omega⟩
   obtain rfl:i=m.2.2.1.length:=by omega
   rw [Vh]
   simp only [fO,tL,bW,cond_false]
   rfl
  | succ k ih=>
   intro i N hi hN
   obtain ⟨N,rfl⟩:∃ M,N=M+1:=⟨N - 1,by omega⟩
   have hi':i < m.2.2.1.length:=by omega
   have hx:m.2.2.1[i]? = some m.2.2.1[i]:=List.getElem?_eq_getElem hi'
   have hb:=h.fn _ (List.getElem_mem hi')
   rw [Vh]
   simp only [fO,tL,bX hi',cond_true,gI hi',Option.bind_some,zu V hx,QFQ,hx,wS hi' (by omega)]
   generalize m.2.2.1[i]=f at hb
   by_cases hz:(flt m i f).2=0
   ·simp only [wtS,hz,if_true,eT,decide_true,Bool.not_true,cond_false]
    rw [QK8 _ _ hb.1,Option.bind_some,QK8 _ _ hb.2,Option.bind_some]
    have e1:(yj m f).2.2.2.2.2.1=T.lQ (QD3 m f):=rfl
    have e2:(yj m f).2.2.2.2.2.2.1=T.lQ (F.ints (yA f)):=rfl
    rw [e1,e2,if_neg (by simp)]
    by_cases s1:f.2.2.2.2.2.1=T.lQ (QD3 m f)
    ·rw [decide_eq_true s1,Bool.not_true,cond_false]
     by_cases s2:f.2.2.2.2.2.2.1=T.lQ (F.ints (yA f))
     ·rw [decide_eq_true s2,Bool.not_true,cond_false,if_pos (QDi.2 ⟨s1,s2⟩)]
      exact ih (i+1) N (by omega) (by omega)
     ·rw [decide_eq_false s2,Bool.not_false,cond_true,if_neg (fun e=>s2 (QDi.1 e).2)]
    ·rw [decide_eq_false s1,Bool.not_false,cond_true,if_neg (fun e=>s1 (QDi.1 e).1)]
   ·simp only [wtS,if_neg hz,eT,decide_eq_false hz,Bool.not_false,cond_true]
    rw [if_pos hz]
 exact key m.2.2.1.length 0 big (by omega) (bG (by omega))
theorem QPF (x:List K.qW) (h:x.length<=1000000):aJ x=some x:=by
 show Zc x=_
 unfold Zc
 cases x with
 | nil=>rfl
 | cons a x=>
  dsimp only
  rw [show List.isEmpty (a::x)=false from rfl,cond_false,QLT 2 rfl _ h]
  rfl
theorem QPG (x:List Ins) (h:x.length<=1000000):aK x=some x:=by
 show Zd x=_
 unfold Zd
 cases x with
 | nil=>rfl
 | cons a x=>
  dsimp only
  rw [show List.isEmpty (a::x)=false from rfl,cond_false,QLT 4 rfl _ h]
  rfl
theorem QGH (x n:Int):sW (x,n)=some (K.eP x n):=by
 show oN (x,n)=_
 unfold oN K.eP
 by_cases h:0<=x
 ·simp [h]
 ·simp [h]
theorem QEA {m:dF} (h:QJG m) (hc:chk m=0) {fi:Nat} {f:cZ} (hf:m.2.2.1[fi]? = some f):pR (m,(fi:Int))=some (if (flt m fi f).2=0 then (yj m f,0) else (QLo,(flt m fi f).2)):=by
 have V:=QIy (QEn hc).1
 have hfi:=(List.getElem?_eq_some_iff.1 hf).1
 have v:=V.ok f (List.mem_of_getElem? hf)
 show qD (m,(fi:Int))=_
 unfold qD
 dsimp only
 have hi:K.eP (fi:Int) (m.2.2.1.length:Int)=true:=by simp [K.eP];omega
 rw [QDb m h,Option.bind_some,eT,decide_eq_true hc,Bool.not_true,cond_false,QGH,Option.bind_some,hi,Bool.not_true,cond_false,QGo V,Option.bind_some,zu V hf,Option.bind_some]
 by_cases hz:(flt m fi f).2=0
 ·simp only [wtS,hz,if_true,eT,decide_true,Bool.not_true,cond_false]
  have e1:(yj m f).2.2.2.1=f.2.2.2.1:=rfl
  have e2:(yj m f).2.2.2.2.1=f.2.2.2.2.1:=rfl
  rw [e1,e2,QPF _ (by have:=v.sl;omega),Option.bind_some,QPG _ (by have:=v.cd.2;omega),Option.bind_some]
  rfl
 ·simp only [wtS,if_neg hz,eT,decide_eq_false hz,Bool.not_false,cond_true]
  rfl
theorem QEP {m:dF} {fi:Int} {f:cZ} (h:(flt m fi f).2≠0) : -1<=(flt m fi f).1/\(flt m fi f).1 < f.2.2.2.2.1.length/\((flt m fi f).1 < 0/\((flt m fi f).2=12∨(flt m fi f).2=30∨(flt m fi f).2=36)∨0<=(flt m fi f).1/\((flt m fi f).2=16∨(flt m fi f).2=6∨(flt m fi f).2=30∨(flt m fi f).2=38)):=by
 unfold flt at h ⊢
 split
 ·exact ⟨by decide,by omega,.inl ⟨by decide,.inl rfl⟩⟩
 split
 ·exact ⟨by decide,by omega,.inl ⟨by decide,.inr (.inl rfl)⟩⟩
 split
 ·rename_i hw
  rcases QGS (m:=m) (f:=f) (k:=f.2.2.2.2.1.length) (i:=0) (by omega) (F.QAB f.2.2.2.2.1).symm with g | ⟨g1,g2,g3⟩
  ·exact absurd g.1 hw
  ·exact ⟨by show -1<=(fwS _ _ _ _ _ _).1;omega,g2,.inr ⟨by show 0<=(fwS _ _ _ _ _ _).1;omega,by rcases g3 with g | g | g;exact .inl g;exact .inr (.inl g);exact .inr (.inr (.inl g))⟩⟩
 split
 ·exact ⟨by decide,by omega,.inl ⟨by decide,.inr (.inr rfl)⟩⟩
 split
 ·rename_i hw
  rcases QGg (l:=f.2.2.2.2.1) (fs:=yA f) (k:=f.2.2.2.2.1.length) (i:=0) with g | ⟨g1,g2⟩
  ·exact absurd g hw
  ·exact ⟨by show -1<=nlS _ _ _ _;omega,by show nlS _ _ _ _ < _;omega,.inr ⟨by show 0<=nlS _ _ _ _;omega,.inr (.inr (.inr rfl))⟩⟩
 ·rename_i h1 h2 h3 h4 h5
  rw [if_neg h1,if_neg h2,if_neg h3,if_neg h4,if_neg h5] at h
  exact absurd rfl h
def Good (m:dF) (j:Nat):Prop:=∃ f,m.2.2.1[j]? = some f/\(flt m j f).2=0/\f=yj m f
theorem QGO {m:dF}:∀ {k i:Nat},i+k=m.2.2.1.length->
  (QFQ m k i=(0,0,0)/\∀ j,i<=j->j < m.2.2.1.length->Good m j)∨∃ j f,i<=j/\m.2.2.1[j]? = some f/\(∀ q,i<=q->q < j->Good m q)/\
   ((flt m j f).2≠0/\QFQ m k i=((j:Int),flt m j f)∨(flt m j f).2=0/\f≠yj m f/\QFQ m k i=((j:Int),-1,32))
 | 0,i,hi=>.inl ⟨rfl,fun j h1 h2=>by omega⟩
 | k+1,i,hi=>by
  have hx:m.2.2.1[i]? = some m.2.2.1[i]:=List.getElem?_eq_getElem (by omega)
  simp only [QFQ,hx]
  by_cases hz:(flt m i m.2.2.1[i]).2=0
  rotate_left
  ·rw [if_pos hz]
   exact .inr ⟨i,_,Nat.le_refl _,hx,fun q h1 h2=>by omega,.inl ⟨hz,rfl⟩⟩
  rw [if_neg (by simp [hz])]
  by_cases ht:m.2.2.1[i]=yj m m.2.2.1[i]
  rotate_left
  ·rw [if_neg ht]
   exact .inr ⟨i,_,Nat.le_refl _,hx,fun q h1 h2=>by omega,.inr ⟨hz,ht,rfl⟩⟩
  rw [if_pos ht]
  have hg:Good m i:=⟨_,hx,hz,ht⟩
  rcases QGO (m:=m) (show (i+1)+k=m.2.2.1.length by omega) with ⟨h1,h2⟩ | ⟨j,f,h1,h2,h3,h4⟩
  ·refine .inl ⟨h1,fun j h3 h4=>?_⟩
   by_cases e:j=i
   ·subst e;exact hg
   ·exact h2 j (by omega) h4
  ·refine .inr ⟨j,f,by omega,h2,fun q h5 h6=>?_,h4⟩
   by_cases e:q=i
   ·subst e;exact hg
   ·exact h3 q (by omega) h6
theorem QCH:aL ()=some true:=by kernel_rfl
theorem QET {v:List Int} (h:1<=v.length):(T.lQ v).length<=v.length:=T.QBW (T.QHX (by intro e;rw [e] at h;simp at h))
theorem QRC {m:dF} {fi:Int} {f:cZ} (V:Tc m) (v:TV m.1.length f) (hz:(flt m fi f).2=0):Ag m f/\QCq m f/\nlS f.2.2.2.2.1 (yA f) f.2.2.2.2.1.length 0 = -1/\(∀ x∈f.2.2.2.2.1,gT m f x=true)/\¬ (fi=0/\(0 < f.2.1∨f.2.2.1≠-1)):=by
 unfold flt at hz
 split at hz
 ·exact absurd hz (by decide)
 rename_i h1
 split at hz
 ·exact absurd hz (by decide)
 rename_i h2
 split at hz
 ·rename_i h3;exact absurd hz h3
 rename_i h3
 split at hz
 ·exact absurd hz (by decide)
 rename_i h4
 split at hz
 ·exact absurd hz (by simp)
 rename_i h5
 obtain ⟨C,hfit⟩:=QPA V v (by simpa using h1) (by simpa using h3)
 exact ⟨C,by simpa using h4,by simpa using h5,hfit,h2⟩
theorem QCq.isD {m:dF} {f:cZ} (h:QCq m f):F.IsD f.2.2.2.2.1 (bsF m f) (QD3 m f):=by
 obtain ⟨⟨dep,h⟩,_⟩:=h
 rw [QIZ h]
 exact h
theorem QEa {m:dF} {fi:Int} {f:cZ} (V:Tc m) (v:TV m.1.length f) (hz:(flt m fi f).2=0):QPH (yj m f)/\(QD3 m f).length=f.2.2.2.2.1.length/\(yA f).length=f.2.2.2.2.1.length/\(T.lQ (QD3 m f)).length<=200/\(T.lQ (F.ints (yA f))).length<=200:=by
 obtain ⟨C,hs,_⟩:=QRC V v hz
 have h1:=hs.isD.1
 have h2:=(QLH C).2.1
 have hcd:=v.cd
 have l1:=QET (v:=QD3 m f) (by omega)
 have l2:=QET (v:=F.ints (yA f)) (by rw [F.ZR];omega)
 rw [F.ZR] at l2
 refine ⟨⟨by have:=v.sl;show f.2.2.2.1.length<=_;omega,by show f.2.2.2.2.1.length<=_;omega,?_,?_⟩,h1,h2,by omega,by omega⟩
 ·show (T.lQ (QD3 m f)).length<=_;omega
 ·show (T.lQ (F.ints (yA f))).length<=_;omega
theorem QHO {m:dF} (ha:QJG m) (hc:chk m=0) {j:Nat} {f:cZ} (hf:m.2.2.1[j]? = some f) {b e:Int} (hg:∀ q,q < j->Good m q) (he:(flt m j f).2≠0/\(b,e)=flt m j f∨(flt m j f).2=0/\f≠yj m f/\(b,e)=(-1,32)) :
  FU (Zt big) big ((j:Int),b,e,0,m)=some true:=by
 have V:=QIy (QEn hc).1
 have v:=V.ok f (List.mem_of_getElem? hf)
 have hj:=(List.getElem?_eq_some_iff.1 hf).1
 have hn:=V.fn.2
 have:=ZW (g:=Zt big) (mk:=fun i=>((j:Int),b,e,(i:Int),m)) (p:=fun _=>true) (no:=none) (kk:=some true) (n:=j)
  (fun self i hi=>by
   obtain ⟨g,g1,g2,g3⟩:=hg i hi
   have vg:=V.ok g (List.mem_of_getElem? g1)
   have hgi:Mh m.2.2.1 (i:Int)=some g:=by rw [gI (by omega),← List.getElem?_eq_getElem,g1]
   simp only [Zt,ku,bX hi,cond_true,QEA ha hc g1,g2,if_true,Option.bind_some,hgi,wS hi (by omega)]
   rw [QGk _ _ (QEa V vg g2).1,← g3]
   simp)
  (fun self=>by
   have hfi:Mh m.2.2.1 (j:Int)=some f:=by rw [gI hj,← List.getElem?_eq_getElem,hf]
   simp only [Zt,ku,bW,cond_false,QEA ha hc hf,Option.bind_some,QCH,hfi]
   rcases he with ⟨h1,h2⟩ | ⟨h1,h2,h3⟩
   ·obtain ⟨_,_,hr⟩:=QEP h1
    rw [if_neg h1]
    rw [← h2] at hr ⊢
    dsimp only at hr ⊢
    rcases hr with ⟨h0,h⟩ | ⟨h0,h⟩
    ·simp only [decide_eq_false (show ¬ b≥0 by omega)]
     rcases h with rfl | rfl | rfl <;> rfl
    ·simp only [decide_eq_true (show b≥0 from h0)]
     rcases h with rfl | rfl | rfl | rfl <;> rfl
   ·rw [if_pos h1]
    simp only [Prod.mk.injEq] at h3
    obtain ⟨rfl,rfl⟩:=h3
    dsimp only
    rw [QGk _ _ (QEa V v h1).1,decide_eq_false (fun e=>h2 e.symm)]
    rfl) j 0 big (by omega) (bG (by omega))
 refine Eq.trans this ?_
 rw [show ((List.range' 0 j).all fun _=>true)=true by simp [List.all_eq_true]];rfl
theorem QFS (m:dF) (w:V8 [QKP] m):uN m=some true:=by
 show jR (FU (Zt big) big) m=_
 unfold jR
 obtain ⟨b,h1,h2⟩:=QHh m
 rw [h1,Option.bind_some]
 cases b with
 | true=>rw [cond_true,QCH];rfl
 | false=>
  obtain ⟨ha,hb⟩:=QRH w (h2 rfl)
  rw [cond_false,QNO m ha,Option.bind_some,eT]
  by_cases hc:chk m=0
  rotate_left
  ·rw [decide_eq_false hc,Bool.not_false,cond_true,QCH];rfl
  have V:=QIy (QEn hc).1
  rw [decide_eq_true hc,Bool.not_true,cond_false,QK9 ha.l,if_pos hc,Option.bind_some]
  rcases QGO (m:=m) (k:=m.2.2.1.length) (i:=0) (by omega) with ⟨e,_⟩ | ⟨j,f,_,hf,hg,he⟩
  ·rw [e,QCH];rfl
  ·have hj:=(List.getElem?_eq_some_iff.1 hf).1
   obtain ⟨b,e,e1,e2,e3,e4,e5⟩:∃ b e:Int,QFQ m m.2.2.1.length 0=((j:Int),b,e)/\e≠0/\-1<=b/\b < f.2.2.2.2.1.length/\((flt m j f).2≠0/\(b,e)=flt m j f∨(flt m j f).2=0/\f≠yj m f/\(b,e)=(-1,32)):=by
    rcases he with ⟨h3,h4⟩ | ⟨h3,h4,h5⟩
    ·obtain ⟨r1,r2,_⟩:=QEP h3
     exact ⟨_,_,h4,h3,r1,r2,.inl ⟨h3,rfl⟩⟩
    ·have:=(V.ok f (List.mem_of_getElem? hf)).cd.1
     exact ⟨-1,32,h5,by decide,by decide,by omega,.inr ⟨h3,h4,rfl⟩⟩
   have hfi:Mh m.2.2.1 (j:Int)=some f:=by rw [gI hj,← List.getElem?_eq_getElem,hf]
   rw [e1]
   dsimp only
   rw [show (e==(0:Int))=false by rw [beq_eq_false_iff_ne];exact e2,cond_false,decide_eq_false (show ¬ (j:Int) < 0 by omega),cond_false,decide_eq_false (show ¬ (j:Int)≥(m.2.2.1.length:Int) by omega),cond_false,decide_eq_false (show ¬ b < -1 by omega),cond_false,hfi,Option.bind_some,decide_eq_false (show ¬ b≥(f.2.2.2.2.1.length:Int) by omega),cond_false]
   exact QHO ha.l hc hf (fun q hq=>hg q (by omega) hq) e5
end Go.Proofs.YtbgmjjplddddnaaGreatDoor.C
