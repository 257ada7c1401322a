import Derived.Test.YtbgmjjplddddnaaGreatDoorCgM3
set_option linter.unusedVariables false
set_option linter.unusedSimpArgs false
set_option linter.unusedSectionVars false
set_option maxRecDepth 100000
namespace Go.Proofs.YtbgmjjplddddnaaGreatDoor.F
open Go.Lift
theorem w64 {z:Int} (h : -9223372036854775808<=z) (h':z<=9223372036854775807):IntKind.i64.wrap z=z:=wrap_i64 h h'
theorem QVC:big=(big - 2)+1+1:=by decide
theorem mh {α:Type} {xs:List α} {i:Nat} {x:α} (h:xs[i]? = some x):Nk xs (i:Int)=some x:=by rw [TR];exact h
theorem uq {α:Type}:∀ (xs:List α) (i:Nat),nth xs i=xs[i]?
 | [],i=>by cases i <;> rfl
 | x::xs,0=>rfl
 | x::xs,i+1=>(uq xs i).trans List.getElem?_cons_succ.symm
theorem oF {i n:Nat} (h:i < n):(decide ((0:Int)<=(i:Int))&&decide ((i:Int) < (n:Int)))=true:=by simp;omega
def QHV:Ins:=(34,(-1,(0,(0,()))))
def lead (x:Ins) (n:Nat):Bool:=if x.1=22 then idx x.2.1 n else if x.1=23 then idx x.2.2.1 n else true
def okx (n:Nat) (x:Ins):Bool:=uz x&&lead x n
def okC (l:List Ins):Bool:=decide (1<=l.length)&&(decide (l.length<=200)&&(l.all (okx l.length)&&decide (l[l.length - 1]? = some QHV)))
theorem zG (n k:Int):iF (n,k)=some (idx n k):=by
 simp only [iF,QAb,idx]
 by_cases h:(0:Int)<=n <;> simp [h]
theorem QFm (x:Ins) (n:Nat):jo (x,(n:Int))=some (lead x n):=by
 simp only [jo,zQ,lead,zG]
 by_cases h:x.1=22
 ·simp [h,dz]
 ·by_cases h2:x.1=23 <;> simp [h,h2,dz]
theorem QRB {x:Ins} (h:uz x=true):(x.1=34/\x.2.1 = -1)↔x=QHV:=by
 constructor
 ·rintro ⟨h1,h2⟩
  obtain ⟨a,b,c,ho,e,ha,hb,hc,fa,fb,fc⟩:=nK h
  have e34:mP 34=[3,0,0]:=by decide +kernel
  rw [h1,e34] at e
  simp only [List.cons.injEq,and_true] at e
  obtain ⟨rfl,rfl,rfl⟩:=e
  simp [fit] at fb fc
  obtain ⟨p,q,r,s,u⟩:=x
  simp_all [QHV]
 ·rintro rfl;exact ⟨rfl,rfl⟩
theorem sU {α:Type} {p:α->Bool} {l:List α}:l.all p=true↔∀ (k:Nat) (x:α),l[k]? = some x->p x=true:=by
 rw [List.all_eq_true]
 constructor
 ·intro h k x hx;exact h x (BD hx)
 ·intro h x hx
  obtain ⟨k,hk,rfl⟩:=List.getElem_of_mem hx
  exact h k _ (AU hk)
theorem xu (l:List Ins):lU l=some (if okC l then 0 else 8):=by
 show wQ (Gb (rV big) big) l=_
 unfold wQ
 by_cases h0:l.length=0
 ·have:l=[]:=Aq h0
  subst this
  rfl
 by_cases h1:200 < l.length
 ·have e1:((l.length:Int)==0)=false:=by rw [dz];exact AF (by omega)
  have e2:decide ((l.length:Int) > 200)=true:=AB (by omega)
  rw [e1,e2,AJ,AL]
  simp [okC,show ¬ l.length<=200 by omega]
 have e1:((l.length:Int)==0)=false:=by rw [dz];exact AF (by omega)
 have e2:decide ((l.length:Int) > 200)=false:=AF (by omega)
 rw [e1,e2,AJ,AJ]
 refine Qi (σ:=Unit) (g:=rV big) (n:=l.length) (fun _ i=>(l,l,(l.length:Int),(i:Int))) (fun i _=>∀ k x,k < i->l[k]? = some x->okx l.length x=true) (fun r=>r=some (if okC l then 0 else 8)) ?_ ?_ l.length 0 big (by simp) (Ya (by have:=Wy;omega)) () (fun k x hk=>by omega)
 ·intro self _ hI
  show kL self (l,l,(l.length:Int),(l.length:Int))=_
  unfold kL
  dsimp only
  rw [AF (by omega),AJ,w64 (by omega) (by omega)]
  have hlt:l.length - 1 < l.length:=by omega
  have hx:l[l.length - 1]? = some l[l.length - 1]:=AU hlt
  rw [show ((l.length:Int) - 1)=((l.length - 1:Nat):Int) by omega,mh hx,AA]
  have hall:l.all (okx l.length)=true:=sU.2 fun k x hk=>hI k x (Ap.1 hk).1 hk
  have hok:uz l[l.length - 1]=true:=by
   have:=hI _ _ hlt hx
   simp only [okx,AP] at this
   exact this.1
  have hend:=QRB hok
  generalize l[l.length - 1]=x at hx hok hend
  simp only [okC,hall,hx,Ai]
  rw [AB (show 1<=l.length by omega),AB (show l.length<=200 by omega)]
  simp only [Ai,AZ,Ac]
  by_cases a:x.1=34
  ·by_cases b:x.2.1 = -1
   ·rw [AY (hend.1 ⟨a,b⟩)];simp [a,b]
   ·rw [AX fun e=>b (hend.2 e).2];simp [a,b,bne,dz]
  ·rw [AX fun e=>a (hend.2 e).1];simp [a,bne,dz]
 ·intro self _ i hi hI
  have hx:l[i]? = some l[i]:=AU hi
  show (∃ s',_/\kL self (l,l,(l.length:Int),(i:Int))=_)∨kL self (l,l,(l.length:Int),(i:Int))=_
  unfold kL
  dsimp only
  rw [AB (by omega),AL,mh hx,AA,xw,AA,QFm]
  have hbad:okx l.length l[i]=false->okC l=false:=fun hb=>by
   have:l.all (okx l.length)=false:=by
    cases ha:l.all (okx l.length) with
    | false=>rfl
    | true=>rw [sU.1 ha i _ hx] at hb;cases hb
   simp [okC,this]
  cases ho:uz l[i] with
  | false=>
   right
   rw [hbad (by simp [okx,ho])]
   rfl
  | true=>
   cases hl:lead l[i] l.length with
   | false=>
    right
    rw [hbad (by simp [okx,hl])]
    rfl
   | true=>
    left
    refine ⟨(),fun k x hk hx'=>?_,?_⟩
    ·by_cases e:k=i
     ·subst e
      rw [hx] at hx'
      cases hx'
      simp [okx,ho,hl]
     ·exact hI k x (by omega) hx'
    ·simp only [if_true,AA,Az,AJ]
     rw [w64 (by omega) (by omega)]
     rfl
theorem QPD {n:Int} (h:fit 10 n=true):0<=n:=by simp [fit,idx] at h;omega
theorem QHf {x:Ins} (h:uz x=true) (e:x.1=22):0<=x.2.1:=by
 obtain ⟨a,b,c,ho,er,ha,hb,hc,fa,fb,fc⟩:=nK h
 have e22:mP 22=[10,0,0]:=by decide +kernel
 rw [e,e22] at er
 simp only [List.cons.injEq,and_true] at er
 obtain ⟨rfl,rfl,rfl⟩:=er
 exact QPD fa
theorem QDO {x:Ins} (h:uz x=true) (e:x.1=23):0<=x.2.2.1:=by
 obtain ⟨a,b,c,ho,er,ha,hb,hc,fa,fb,fc⟩:=nK h
 have e23:mP 23=[1,10,0]:=by decide +kernel
 rw [e,e23] at er
 simp only [List.cons.injEq,and_true] at er
 obtain ⟨rfl,rfl,rfl⟩:=er
 exact QPD fb
theorem QNj {x:Ins} (h:uz x=true) (n:Nat):lead x n=if x.1=22 then decide (x.2.1 < n) else if x.1=23 then decide (x.2.2.1 < n) else true:=by
 unfold lead idx
 by_cases e:x.1=22
 ·simp [e,QHf h e]
 ·by_cases e2:x.1=23
  ·simp [e,e2,QDO h e2]
  ·simp [e,e2]
def bh (x:Ins) (i:Nat):List Nat:=
 if x.1=22 then [x.2.1.toNat] else if x.1=23 then (if x.2.2.1=(i:Int)+1 then [i+1] else [min (i+1) x.2.2.1.toNat,max (i+1) x.2.2.1.toNat]) else if x.1=34∨x.1=28∨x.1=30 then [] else [i+1]
def G (l:List Ins) (i:Nat):List Nat:=match l[i]? with
 | some x=>bh x i
 | none=>[]
abbrev ints (l:List Nat):List Int:=l.map fun (k:Nat)=>(k:Int)
theorem fC {l:List Ins} (h:okC l=true):1<=l.length/\l.length<=200/\(∀ (k:Nat) (x:Ins),l[k]? = some x->uz x=true/\lead x l.length=true)/\l[l.length - 1]? = some QHV:=by
 simp only [okC,AP,AZ] at h
 refine ⟨h.1,h.2.1,fun k x hx=>?_,h.2.2.2⟩
 have:=sU.1 h.2.2.1 k x hx
 simpa only [okx,AP] using this
theorem QJL {l:List Ins} (h:okC l=true) {i j:Nat} (hi:i < l.length) (hj:j∈G l i):j < l.length:=by
 obtain ⟨h1,h2,h3,h4⟩:=fC h
 have hx:l[i]? = some l[i]:=AU hi
 obtain ⟨ho,hl⟩:=h3 i _ hx
 rw [QNj ho] at hl
 simp only [G,hx,bh] at hj
 have hlast:i=l.length - 1->l[i]=QHV:=fun e=>by
  have:some l[i]=some QHV:=by rw [← hx,e];exact h4
  exact Ar this
 by_cases e:i=l.length - 1
 ·rw [hlast e] at hj
  simp [QHV] at hj
 ·by_cases a:l[i].1=22
  ·simp [a] at hj hl
   have:=QHf ho a
   omega
  ·by_cases b:l[i].1=23
   ·have hB:=QDO ho b
    simp only [a,b,if_false,if_true,show ¬ (23:Int)=22 by decide,AZ] at hj hl
    split at hj <;> simp at hj <;> omega
   ·simp only [a,b,if_false] at hj
    split at hj <;> simp at hj
    omega
theorem QLN (a b:Int):Gb (bT (fun _=>List.replicate) big) big (1,[a,b])=some (if b=a then [a] else [a,b]):=by
 have key:∀ N M,N=(N - 1)+1->M=(M - 2)+1+1->Gb (bT (fun _=>List.replicate) N) M (1,[a,b])=some (if b=a then [a] else [a,b]):=by
  intro N M hN hM
  rw [hM,WZ]
  show l7 (fun _=>List.replicate) (Gb (pz (fun _=>List.replicate) N (Gb (bT (fun _=>List.replicate) N) (M - 2+1))) N) (Gb (bT (fun _=>List.replicate) N) (M - 2+1)) (1,[a,b])=_
  generalize hl:Gb (pz (fun _=>List.replicate) N (Gb (bT (fun _=>List.replicate) N) (M - 2+1))) N=bF
  have h1:bF (1,1,2,1,[a,b])=some [a]:=by
   rw [← hl,hN,WZ]
   show vG (fun _=>List.replicate) _ _ (1,1,2,1,[a,b])=_
   unfold vG
   rfl
  have h2:Gb (bT (fun _=>List.replicate) N) (M - 2+1) (2,[a,b])=some [a,b]:=by
   rw [WZ]
   show l7 (fun _=>List.replicate) _ _ (2,[a,b])=_
   unfold l7
   rfl
  show (bif b==a then bF (1,1,2,1,[a,b]) else Gb (bT (fun _=>List.replicate) N) (M - 2+1) (2,[a,b]))=_
  rw [h1,h2,dz]
  by_cases e:b=a <;> simp [e]
 exact key big big YD QVC
theorem QA6 {l:List Ins} (h:okC l=true) {i:Nat} (hi:i < l.length):mU (l,(i:Int))=some (ints (G l i)):=by
 obtain ⟨h1,h2,h3,h4⟩:=fC h
 have hx:l[i]? = some l[i]:=AU hi
 obtain ⟨ho,_⟩:=h3 i _ hx
 show uR (fun _=>List.replicate) (Gb (bT (fun _=>List.replicate) big) big) (l,(i:Int))=_
 unfold uR
 dsimp only
 rw [mh hx,AA]
 simp only [G,hx,bh]
 have hw:IntKind.i64.wrap ((i:Int)+1)=(i:Int)+1:=w64 (by omega) (by omega)
 rw [hw]
 have hA:=QHf ho
 have hB:=QDO ho
 generalize l[i]=x at *
 by_cases a:x.1=22
 ·have:=hA a
  simp [a,ints]
  omega
 by_cases b:x.1=23
 ·have hB:=hB b
  simp only [a,b,if_false,if_true,dz,decide_true,decide_false,AL,AJ,show ¬ (23:Int)=22 by decide]
  rw [show decide ((List.length ([if x.2.2.1 < (i:Int)+1 then x.2.2.1 else (i:Int)+1,if x.2.2.1 > (i:Int)+1 then x.2.2.1 else (i:Int)+1]:List Int):Int) < 2)=false from rfl,AJ]
  rw [QLN]
  by_cases c:x.2.2.1=(i:Int)+1
  ·rw [AY c,c]
   simp [ints]
  ·rw [AX c,AX (by split <;> split <;> omega)]
   simp only [ints,List.map_cons,List.map_nil,Ac,List.cons.injEq,and_true]
   constructor
   ·split <;> omega
   ·split <;> omega
 simp only [a,b,if_false,dz,decide_false,AJ]
 by_cases c:x.1=34
 ·simp [c]
 by_cases d:x.1=28
 ·simp [c,d]
 by_cases e:x.1=30
 ·simp [c,d,e]
 simp [c,d,e,ints]
end Go.Proofs.YtbgmjjplddddnaaGreatDoor.F
set_option linter.unusedVariables false
set_option linter.unusedSimpArgs false
set_option maxRecDepth 100000
namespace Go.Proofs.YtbgmjjplddddnaaGreatDoor.F
open Go.Lift
theorem vk {V α:Type} {g:(V->Option α)->V->Option α} (I:V->Prop) (μ:V->Nat) (Post:Option α->Prop) (h:∀ self v,I v->(∀ v',I v'->μ v' < μ v->Post (self v'))->Post (g self v)):∀ N v,I v->μ v < N->Post (Gb g N v)
 | 0,v,_,hm=>by omega
 | n+1,v,hI,hm=>h (Gb g n) v hI fun v' h1 h2=>vk I μ Post h n v' h1 (by omega)
inductive Rc (g:Nat->List Nat):Nat->Prop
 | zero:Rc g 0
 | step {i j:Nat}:Rc g i->j∈g i->Rc g j
open Classical in
noncomputable def QAl (l:List Ins):List Bool:=(List.range l.length).map fun i=>decide (Rc (G l) i)
theorem qW (l:List Ins):(QAl l).length=l.length:=by simp [QAl]
theorem QFo {l:List Ins} {i:Nat} (h:i < l.length):(QAl l)[i]? = some true↔Rc (G l) i:=by
 simp [QAl,h]
theorem QHh {l:List Ins} {i:Nat} (h:i < l.length):(QAl l)[i]? = some false↔¬ Rc (G l) i:=by
 simp [QAl,h]
theorem QNk {l:List Ins} {x:List Bool} (hl:x.length=l.length) (h:∀ i,i < l.length->(x[i]? = some true↔Rc (G l) i)):x=QAl l:=by
 apply List.ext_getElem?
 intro i
 by_cases hi:i < l.length
 ·have h1:=h i hi
  have h2:=QFo hi
  have hx:x[i]? = some x[i]:=AU (by omega)
  have hy:(QAl l)[i]? = some ((QAl l)[i]'(by rw [qW];exact hi)):=AU (by rw [qW];exact hi)
  rw [hx] at h1
  rw [hy] at h2
  rw [hx,hy]
  generalize x[i]=a at *
  generalize (QAl l)[i]'(by rw [qW];exact hi)=b at *
  cases a <;> cases b <;> simp_all
 ·rw [Av (by omega),Av (by rw [qW];omega)]
theorem Rc.lt {l:List Ins} (h:okC l=true) {i:Nat} (hi:Rc (G l) i):i < l.length:=by
 induction hi with
 | zero=>exact (fC h).1
 | step _ hj ih=>exact QJL h ih hj
theorem qz:∀ {m:List Bool} {j:Nat},m[j]? = some false->(m.set j true).count false+1=m.count false
 | [],j,h=>by simp at h
 | a::m,0,h=>by simp at h;subst h;simp
 | a::m,j+1,h=>by
  have:=qz (m:=m) (j:=j) (by simpa using h)
  simp only [List.set_cons_succ,List.count_cons]
  omega
theorem dw {α:Type} {m:List α} {i j:Nat} {a:α} (h:j < m.length):(m.set j a)[i]? = if i=j then some a else m[i]?:=by
 by_cases e:i=j
 ·subst e;simp [h]
 ·rw [AX e,List.getElem?_set_ne (Ne.symm e)]
theorem QAx {m:List Bool} {j:Nat} (h:j < m.length):m[j]? = some true∨m[j]? = some false:=by
 rw [AU h]
 cases m[j] <;> simp
structure Nf (g:Nat->List Nat) (Eg:Nat->Nat->Prop) (K:Nat->Prop) (met:List Bool) (pend:List Nat) (cur:Option (Nat×Nat)):Prop where
 m0:met[0]? = some true
 rc:∀ i,met[i]? = some true->Rc g i
 pm:∀ i∈pend,met[i]? = some true
 kn:∀ i,met[i]? = some true->K i
 cl:∀ i,met[i]? = some true->i∈pend∨(∀ j∈g i,met[j]? = some true/\Eg i j)∨∃ k,cur=some (i,k)
 cf:∀ f k,cur=some (f,k)->met[f]? = some true/\∀ j∈(g f).take k,met[j]? = some true/\Eg f j
section
variable {g:Nat->List Nat} {Eg Eg':Nat->Nat->Prop} {K K':Nat->Prop} {met:List Bool} {pend:List Nat} {cur:Option (Nat×Nat)} {f k j:Nat}
theorem Nf.pop (h:Nf g Eg K met (pend++[f]) none):Nf g Eg K met pend (some (f,0)) where
 m0:=h.m0
 rc:=h.rc
 pm:=fun i hi=>h.pm i (by simp [hi])
 kn:=h.kn
 cl:=fun i hi=>by
  rcases h.cl i hi with h1 | h1 | ⟨k,h1⟩
  ·rcases List.mem_append.1 h1 with h1 | h1
   ·exact .inl h1
   ·simp at h1;subst h1;exact .inr (.inr ⟨0,rfl⟩)
  ·exact .inr (.inl h1)
  ·cases h1
 cf:=fun f' k' e=>by
  cases e
  exact ⟨h.pm f (by simp),by simp⟩
theorem Nf.fin (h:Nf g Eg K met pend (some (f,(g f).length))):Nf g Eg K met pend none where
 m0:=h.m0
 rc:=h.rc
 pm:=h.pm
 kn:=h.kn
 cl:=fun i hi=>by
  rcases h.cl i hi with h1 | h1 | ⟨k,h1⟩
  ·exact .inl h1
  ·exact .inr (.inl h1)
  ·cases h1
   have:=(h.cf _ _ rfl).2
   rw [List.take_length] at this
   exact .inr (.inl this)
 cf:=fun f' k' e=>by cases e
theorem QH3 {α:Type} {l:List α} {k:Nat} {j a:α} (hj:l[k]? = some j) (h:a∈l.take (k+1)):a∈l.take k∨a=j:=by
 obtain ⟨hk,e⟩:=Ap.1 hj
 rw [List.take_add_one,hj] at h
 rcases List.mem_append.1 h with h | h
 ·exact .inl h
 ·simp at h;exact .inr h
theorem Nf.old (h:Nf g Eg K met pend (some (f,k))) (hj:(g f)[k]? = some j) (hE:∀ a b,Eg a b->Eg' a b) (hK:∀ a,K a->K' a) (hEj:Eg' f j) (hm:met[j]? = some true):Nf g Eg' K' met pend (some (f,k+1)) where
 m0:=h.m0
 rc:=h.rc
 pm:=h.pm
 kn:=fun i hi=>hK i (h.kn i hi)
 cl:=fun i hi=>by
  rcases h.cl i hi with h1 | h1 | ⟨k',h1⟩
  ·exact .inl h1
  ·exact .inr (.inl fun b hb=>⟨(h1 b hb).1,hE _ _ (h1 b hb).2⟩)
  ·cases h1;exact .inr (.inr ⟨_,rfl⟩)
 cf:=fun f' k' e=>by
  cases e
  refine ⟨(h.cf _ _ rfl).1,fun a ha=>?_⟩
  rcases QH3 hj ha with h1 | rfl
  ·have:=(h.cf _ _ rfl).2 a h1
   exact ⟨this.1,hE _ _ this.2⟩
  ·exact ⟨hm,hEj⟩
theorem Nf.new (h:Nf g Eg K met pend (some (f,k))) (hj:(g f)[k]? = some j) (hE:∀ a b,Eg a b->Eg' a b) (hK:∀ a,K a->K' a) (hEj:Eg' f j) (hKj:K' j) (hm:met[j]? = some false):Nf g Eg' K' (met.set j true) (pend++[j]) (some (f,k+1)):=by
 have hlt:j < met.length:=(Ap.1 hm).1
 have up:∀ i,met[i]? = some true->(met.set j true)[i]? = some true:=fun i hi=>by
  rw [dw hlt]
  split
  ·rfl
  ·exact hi
 have dn:∀ i,(met.set j true)[i]? = some true->i=j∨met[i]? = some true:=fun i hi=>by
  rw [dw hlt] at hi
  split at hi
  ·rename_i e;exact .inl e
  ·exact .inr hi
 have hjm:j∈g f:=BD hj
 have hf:=(h.cf _ _ rfl).1
 exact {
  m0:=up 0 h.m0
  rc:=fun i hi=>(dn i hi).elim (fun e=>e ▸ .step (h.rc f hf) hjm) (h.rc i)
  pm:=fun i hi=>by
   rcases List.mem_append.1 hi with h1 | h1
   ·exact up i (h.pm i h1)
   ·simp at h1;subst h1;rw [dw hlt,AY rfl]
  kn:=fun i hi=>(dn i hi).elim (fun e=>e ▸ hKj) fun h1=>hK i (h.kn i h1)
  cl:=fun i hi=>by
   rcases dn i hi with rfl | hi
   ·exact .inl (by simp)
   ·rcases h.cl i hi with h1 | h1 | ⟨k',h1⟩
    ·exact .inl (by simp [h1])
    ·exact .inr (.inl fun b hb=>⟨up b (h1 b hb).1,hE _ _ (h1 b hb).2⟩)
    ·cases h1;exact .inr (.inr ⟨_,rfl⟩)
  cf:=fun f' k' e=>by
   cases e
   refine ⟨up _ hf,fun a ha=>?_⟩
   rcases QH3 hj ha with h1 | rfl
   ·have:=(h.cf _ _ rfl).2 a h1
    exact ⟨up a this.1,hE _ _ this.2⟩
   ·exact ⟨by rw [dw hlt,AY rfl],hEj⟩ }
theorem Nf.done (h:Nf g Eg K met [] none):∀ i,Rc g i->met[i]? = some true/\K i/\∀ j∈g i,Eg i j:=by
 have cl:∀ i,met[i]? = some true->∀ j∈g i,met[j]? = some true/\Eg i j:=fun i hi=>by
  rcases h.cl i hi with h1 | h1 | ⟨k,h1⟩
  ·cases h1
  ·exact h1
  ·cases h1
 have all:∀ i,Rc g i->met[i]? = some true:=fun i hi=>by
  induction hi with
  | zero=>exact h.m0
  | step _ hj ih=>exact (cl _ ih _ hj).1
 exact fun i hi=>⟨all i hi,h.kn i (all i hi),fun j hj=>(cl i (all i hi) j hj).2⟩
end
theorem Nf.start {g:Nat->List Nat} {Eg:Nat->Nat->Prop} {K:Nat->Prop} {n:Nat} (hn:0 < n) (hK:K 0):Nf g Eg K ((List.replicate n false).set 0 true) [0] none:=by
 have dn:∀ i,((List.replicate n false).set 0 true)[i]? = some true->i=0:=fun i hi=>by
  rw [dw (by simpa using hn)] at hi
  split at hi
  ·assumption
  ·rw [List.getElem?_replicate] at hi
   split at hi <;> simp at hi
 have m0:((List.replicate n false).set 0 true)[0]? = some true:=by rw [dw (by simpa using hn),AY rfl]
 exact {
  m0:=m0
  rc:=fun i hi=>by rw [dn i hi];exact .zero
  pm:=fun i hi=>by simp at hi;subst hi;exact m0
  kn:=fun i hi=>by rw [dn i hi];exact hK
  cl:=fun i hi=>.inl (by rw [dn i hi];simp)
  cf:=fun f k e=>by cases e }
theorem aQ (p:List Nat):(ints p).length=p.length:=by simp [ints]
theorem yF (p:List Nat) (f:Nat):ints (p++[f])=ints p++[(f:Int)]:=by simp [ints]
theorem ints_at {p:List Nat} {k j:Nat} (h:p[k]? = some j):(ints p)[k]? = some (j:Int):=by simp [ints,h]
theorem QAt (p:List Nat) (f:Nat) (hp:p.length<=1000000):IntKind.i64.wrap ((List.length (ints (p++[f])):Int) - 1)=(p.length:Int)/\nth (ints (p++[f])) (Int.toNat (p.length:Int))=some (f:Int)/\List.take (Int.toNat (p.length:Int)) (ints (p++[f]))=ints p:=by
 refine ⟨?_,?_,?_⟩
 ·have hl:(ints (p++[f])).length=p.length+1:=by rw [aQ];simp
  rw [hl,w64 (by omega) (by omega)]
  omega
 ·rw [uq,yF,Aj,← aQ p]
  simp
 ·rw [yF,Aj,← aQ p]
  simp
theorem QC9 {α:Type} {xs:List α} {i:Nat} {x:α} (h:xs[i]? = some x):nth xs (Int.toNat (i:Int))=some x:=by rw [uq,Aj];exact h
def μ2 (met:List Bool) (p:List Nat):Nat:=2 * met.count false+p.length
theorem QLf {l:List Ins} (h:okC l=true):QA8 l=some (QAl l):=by
 obtain ⟨h1,h2,_,_⟩:=fC h
 show QAI (fun _=>List.replicate) (Gb (wI (fun _=>List.replicate) big) big) l=_
 unfold QAI
 have hmk:(decide ((0:Int)<=(l.length:Int))&&(decide ((l.length:Int)<=(l.length:Int))&&(decide ((l.length:Int)<=68719476736)&&true)))=true:=by simp;omega
 have hz:(decide ((0:Int)<=0)&&decide ((0:Int) < (List.length (List.replicate l.length false):Int)))=true:=by simp;omega
 simp only [hmk,hz,AL,Aj,Int.toNat_zero]
 refine vk (g:=wI (fun _=>List.replicate) big)
  (fun v=>∃ leads met p,v=(leads,l,met,ints p)/\leads.length=l.length/\met.length=l.length/\Nf (G l) (fun _ j=>leads[j]? = some true) (fun _=>True) met p none/\leads[0]? = some true/\(∀ i,leads[i]? = some true->Rc (G l) i)/\μ2 met p<=401)
  (fun v=>2 * v.2.2.1.count false+v.2.2.2.length) (fun r=>r=some (QAl l)) ?_ big _ ?_ ?_
 ·rintro self v ⟨leads,met,p,rfl,hl,hm,hd,hl0,hlr,hμ⟩ ih
  show wK (fun _=>List.replicate) (Gb (wJ (fun _=>List.replicate) big self) big) self (leads,l,met,ints p)=_
  unfold wK
  dsimp only
  rcases List.eq_nil_or_concat p with rfl | ⟨p,f,rfl⟩
  ·have hdone:=hd.done
   simp only [ints,List.map_nil,Au]
   rw [show decide (((0:Nat):Int) > 0)=false from rfl,AJ]
   congr 1
   refine QNk hl fun i hi=>⟨hlr i,fun hr=>?_⟩
   cases hr with
   | zero=>exact hl0
   | step hi' hj=>exact (hdone _ hi').2.2 _ hj
  ·have hp:p.length<=1000:=by simp [μ2] at hμ;omega
   simp only [List.concat_eq_append] at hd hμ ih ⊢
   obtain ⟨e1,e2,e3⟩:=QAt p f (by omega)
   have hf:f < l.length:=(hd.rc f (hd.pm f (by simp))).lt h
   rw [e1]
   rw [AB (show (List.length (ints (p++[f])):Int) > 0 by rw [aQ,AQ];simp only [Af,Au];omega),AL]
   rw [show (decide ((0:Int)<=(p.length:Int))&&decide ((p.length:Int) < (List.length (ints (p++[f])):Int)))=true by rw [aQ];simp;omega,AL]
   rw [e2,AA]
   rw [show (decide ((0:Int)<=(p.length:Int))&&decide ((p.length:Int)<=(List.length (ints (p++[f])):Int)))=true by rw [aQ];simp;omega,AL]
   rw [QA6 h hf,AA,e3]
   have hs:(G l f).length<=2:=by
    unfold G
    split
    ·unfold bh;split <;> (try split) <;> (try split) <;> simp
    ·simp
   rw [aQ]
   refine Qi (σ:=List Bool×List Bool×List Nat) (g:=wJ (fun _=>List.replicate) big self) (n:=(G l f).length) (fun s k=>((f:Int),ints (G l f),((G l f).length:Int),(k:Int),s.1,l,s.2.1,ints s.2.2))
    (fun k s=>s.1.length=l.length/\s.2.1.length=l.length/\Nf (G l) (fun _ j=>s.1[j]? = some true) (fun _=>True) s.2.1 s.2.2 (some (f,k))/\s.1[0]? = some true/\(∀ i,s.1[i]? = some true->Rc (G l) i)/\μ2 s.2.1 s.2.2+1<=μ2 met (p++[f]))
    (fun r=>r=some (QAl l)) ?_ ?_ (G l f).length 0 big (by simp) (Ya (by have:=Wy;omega)) (leads,met,p) ⟨hl,hm,hd.pop,hl0,hlr,by simp [μ2];omega⟩
   ·rintro aH ⟨ld,mt,q⟩ ⟨g1,g2,g3,g4,g5,g6⟩
    show sN (fun _=>List.replicate) self aH _=_
    unfold sN
    dsimp only at g1 g2 g3 g4 g5 g6 ⊢
    rw [AF (by omega),AJ]
    refine ih _ ⟨ld,mt,q,rfl,g1,g2,g3.fin,g4,g5,by omega⟩ ?_
    show 2 * mt.count false+(ints q).length < 2 * met.count false+(ints (p++[f])).length
    rw [aQ,aQ]
    unfold μ2 at g6
    omega
   ·rintro aH ⟨ld,mt,q⟩ k hk ⟨g1,g2,g3,g4,g5,g6⟩
    dsimp only at g1 g2 g3 g4 g5 g6 ⊢
    left
    have hj:(G l f)[k]? = some (G l f)[k]:=AU hk
    have hjm:(G l f)[k]∈G l f:=Ae hk
    have hjl:=QJL h hf hjm
    have hjr:Rc (G l) (G l f)[k]:=.step (hd.rc f (hd.pm f (by simp))) hjm
    generalize (G l f)[k]=j at *
    have hset:(ld.set j true)[0]? = some true/\(∀ i,(ld.set j true)[i]? = some true->Rc (G l) i)/\(∀ a b:Nat,(fun (_:Nat) (j:Nat)=>ld[j]? = some true) a b->(fun (_:Nat) (b:Nat)=>(ld.set j true)[b]? = some true) a b)/\(ld.set j true)[j]? = some true:=by
     refine ⟨?_,fun i hi=>?_,fun a b hb=>?_,?_⟩
     ·rw [dw (by omega)];split;rfl;exact g4
     ·rw [dw (by omega)] at hi;split at hi
      ·rename_i e;rw [e];exact hjr
      ·exact g5 i hi
     ·show (ld.set j true)[b]? = some true
      rw [dw (by omega)];split;rfl;exact hb
     ·rw [dw (by omega),AY rfl]
    obtain ⟨s1,s2,s3,s4⟩:=hset
    show ∃ s':List Bool×List Bool×List Nat,_/\sN (fun _=>List.replicate) self aH ((f:Int),ints (G l f),((G l f).length:Int),(k:Int),ld,l,mt,ints q)=_
    unfold sN
    dsimp only
    rw [AB (show (k:Int) < ((G l f).length:Int) by omega),AL,mh (ints_at hj),AA]
    rw [show (decide ((0:Int)<=(j:Int))&&decide ((j:Int) < (ld.length:Int)))=true by simp;omega,show (decide ((0:Int)<=(j:Int))&&decide ((j:Int) < (mt.length:Int)))=true by simp;omega]
    simp only [AL,Aj]
    rw [w64 (z:=(k:Int)+1) (by omega) (by omega),uq]
    rcases QAx (m:=mt) (j:=j) (by omega) with hb | hb
    ·refine ⟨(ld.set j true,mt,q),⟨by simp [g1],g2,g3.old hj s3 (fun _ h=>h) s4 hb,s1,s2,g6⟩,?_⟩
     rw [hb]
     rfl
    ·have hc:=qz hb
     refine ⟨(ld.set j true,mt.set j true,q++[j]),⟨by simp [g1],by simp [g2],g3.new hj s3 (fun _ h=>h) s4 trivial hb,s1,s2,?_⟩,?_⟩
     ·simp only [μ2,AQ,Af,Au] at g6 ⊢
      omega
     ·rw [hb]
      have hq:q.length<=1000:=by simp only [μ2] at g6 hμ;omega
      have hlim:(Nat.ble 1 1&&Nat.ble (List.length (ints q)+List.length ([(j:Int)]:List Int)) lim)=true:=by
       rw [b11,eF (by rw [aQ];simp;omega)];rfl
      simp only [AA,A8,AL,hlim]
      rw [yF]
      rfl
 ·refine ⟨_,_,[0],rfl,by simp,by simp,Nf.start h1 trivial,?_,fun i hi=>?_,?_⟩
  ·rw [dw (by simp;omega),AY rfl]
  ·rw [dw (by simp;omega)] at hi
   split at hi
   ·rename_i e;rw [e];exact .zero
   ·rw [List.getElem?_replicate] at hi
    split at hi <;> simp at hi
  ·have:=qz (m:=List.replicate l.length false) (j:=0) (by rw [List.getElem?_replicate,AY (by omega)])
   rw [List.count_replicate_self] at this
   simp only [μ2,Af,Au]
   omega
 ·have:=qz (m:=List.replicate l.length false) (j:=0) (by rw [List.getElem?_replicate,AY (by omega)])
  rw [List.count_replicate_self] at this
  refine Ya ?_
  have:=Wy
  show 2 * ((List.replicate l.length false).set 0 true).count false+1<=maxLen
  omega
theorem QKN (l:List Ins) (i:Nat):(G l i).length<=2:=by
 unfold G
 split
 ·unfold bh;split <;> (try split) <;> (try split) <;> simp
 ·simp
theorem QBJ {n:Nat} (h:n<=68719476736):(decide ((0:Int)<=(n:Int))&&(decide ((n:Int)<=(n:Int))&&(decide ((n:Int)<=68719476736)&&true)))=true:=by simp;omega
theorem start_lt {n:Nat} {a:Bool} (hn:1<=n):(decide ((0:Int)<=0)&&decide ((0:Int) < (List.length (List.replicate n a):Int)))=true:=by simp;omega
theorem QGh {i n:Nat} (h:i < n):(decide ((0:Int)<=(i:Int))&&decide ((i:Int) < (n:Int)))=true:=by simp;omega
theorem xA (n:Nat) (h:1<=n):((List.replicate n false).set 0 true).count false+1=n:=by
 have:=qz (m:=List.replicate n false) (j:=0) (by rw [List.getElem?_replicate,AY (by omega)])
 rwa [List.count_replicate_self] at this
theorem QM0 {n i:Nat} (h:1<=n) (hi:((List.replicate n false).set 0 true)[i]? = some true):i=0:=by
 rw [dw (by simp;omega)] at hi
 split at hi
 ·assumption
 ·rw [List.getElem?_replicate] at hi
  split at hi <;> simp at hi
noncomputable def xX (l:List Ins):List Bool:=(QAl l).set (l.length - 1) true
theorem QHg {n:Nat} (h1:1<=n) (h2:n<=1000000):IntKind.i64.wrap ((n:Int) - 1)=((n - 1:Nat):Int):=by rw [w64 (by omega) (by omega)];omega
theorem QMq (l:List Ins) (i:Int):yQ (l,i)=some (if okC l=true then (if 0<=i/\i < l.length then (ints (G l i.toNat),0) else ([],2)) else ([],8)):=by
 show QAq (l,i)=_
 unfold QAq
 rw [xu,AA]
 by_cases h:okC l=true
 ·rw [AY h,AY h]
  dsimp only
  rw [zG,show ((0:Int) != 0)=false from rfl,AJ,AA]
  by_cases hi:0<=i/\i < l.length
  ·have e:i=((i.toNat:Nat):Int):=by omega
   rw [AY hi,show idx i (l.length:Int)=true by simp [idx];omega]
   simp only [Az,AJ]
   have:=QA6 h (i:=i.toNat) (by omega)
   rw [← e] at this
   rw [this]
   rfl
  ·rw [AX hi,show idx i (l.length:Int)=false by simp [idx];omega]
   rfl
 ·rw [AX h,AX h]
  rfl
theorem QHK (l:List Ins):rJ l=some (if okC l=true then (xX l,0) else ([],8)):=by
 show xP l=_
 unfold xP
 rw [xu,AA]
 by_cases h:okC l=true
 ·obtain ⟨h1,h2,_,_⟩:=fC h
  rw [AY h,AY h,show ((0:Int) != 0)=false from rfl,AJ,QLf h,AA]
  simp only [QHg h1 (by omega),qW]
  rw [QGh (show l.length - 1 < l.length by omega),AL,Aj]
  rfl
 ·rw [AX h,AX h]
  rfl
theorem QE0 (l:List Ins):(xX l).length=l.length:=by simp [xX,qW]
theorem QJn {l:List Ins} (h:okC l=true) {i:Nat} (hi:i < l.length):(xX l)[i]? = some true↔Rc (G l) i∨i=l.length - 1:=by
 obtain ⟨h1,_⟩:=fC h
 unfold xX
 rw [dw (by rw [qW];omega)]
 split
 ·rename_i e;simp [e]
 ·rename_i e;rw [QFo hi];simp [e]
def TV (a b:Nat):Prop:=∀ t,a.testBit t=true->b.testBit t=true
def diff (a b:Nat):Nat:=a ^^^ (a &&& b)
theorem QEW {a b:Nat}:diff a b=0↔TV a b:=by
 unfold diff TV
 constructor
 ·intro h t ht
  have:=congrArg (fun z=>z.testBit t) h
  simp [ht] at this
  exact this
 ·intro h
  apply Nat.eq_of_testBit_eq
  intro t
  have:=h t
  cases hh:a.testBit t <;> simp_all
theorem TV.refl (a:Nat):TV a a:=fun _ h=>h
theorem TV.trans {a b c:Nat} (h:TV a b) (h':TV b c):TV a c:=fun t ht=>h' t (h t ht)
theorem TV.and {a b c:Nat} (h:TV a b) (h':TV a c):TV a (b &&& c):=fun t ht=>by simp [h t ht,h' t ht]
theorem TV.and_left (a b:Nat):TV (a &&& b) a:=fun t ht=>by simp at ht;exact ht.1
theorem TV.and_right (a b:Nat):TV (a &&& b) b:=fun t ht=>by simp at ht;exact ht.2
theorem TV.or {a b c:Nat} (h:TV a b):TV (a ||| c) (b ||| c):=fun t ht=>by simp at ht ⊢;exact ht.imp (h t) id
theorem TV.antisymm {a b:Nat} (h:TV a b) (h':TV b a):a=b:=Nat.eq_of_testBit_eq fun t=>by
 have h1:=h t
 have h2:=h' t
 cases ha:a.testBit t <;> cases hb:b.testBit t <;> simp_all
theorem TV.zero (a:Nat):TV 0 a:=fun t ht=>by simp at ht
theorem TV.and_eq {a b:Nat} (h:TV a b):a &&& b=a:=TV.antisymm (.and_left _ _) ((TV.refl a).and h)
theorem TV.le {a b:Nat} (h:TV a b):a<=b:=by
 have:=h.and_eq
 rw [← this]
 exact Nat.and_le_right
theorem QEu {a:Nat} (h:a < 65536):a < 2 ^ IntKind.u64.bits:=Nat.lt_trans h (by decide)
theorem QW5 {a b:Nat} (ha:a < 65536) (hb:b < 65536):a ||| b < 65536:=Nat.or_lt_two_pow (n:=16) ha hb
theorem QV9 {a b:Nat} (ha:a < 65536):a &&& b < 65536:=Nat.lt_of_le_of_lt Nat.and_le_left ha
theorem bor {a b:Nat} (ha:a < 65536) (hb:b < 65536):bits .or .u64 (a:Int) (b:Int)=((a ||| b:Nat):Int):=YE rfl (QEu ha) (QEu hb)
theorem QVB {a b:Nat} (ha:a < 65536) (hb:b < 65536):bits .and .u64 (a:Int) (b:Int)=((a &&& b:Nat):Int):=XM rfl (QEu ha) (QEu hb)
theorem QMx {a b:Nat} (ha:a < 65536) (hb:b < 18446744073709551616):bits .andNot .u64 (a:Int) (b:Int)=((diff a b:Nat):Int):=by
 refine Go.Lift.bits_nat rfl (f:=fun a b=>diff a b) ?_ (QEu (Nat.xor_lt_two_pow (n:=16) ha (QV9 ha)))
 simp only [bits]
 congr 2
 apply Nat.eq_of_testBit_eq
 intro t
 rw [BitVec.testBit_toNat]
 simp only [BitVec.ofInt_natCast,BitVec.getLsbD_and,BitVec.getLsbD_not,BitVec.getLsbD_ofNat,diff,Nat.testBit_xor,Nat.testBit_and]
 by_cases h:t < IntKind.u64.bits
 ·simp only [h,decide_true,Ai]
  cases a.testBit t <;> cases b.testBit t <;> rfl
 ·have:a.testBit t=false:=Nat.testBit_lt_two_pow (Nat.lt_of_lt_of_le (QEu ha) (Nat.pow_le_pow_right (by decide) (by omega)))
  simp [this,h]
theorem QRN {s:Int} (h0:0<=s) (h1:s<=16):IntKind.u64.wrap ((1:Int) * 2 ^ (min (Int.toNat s) 64))=((2 ^ s.toNat:Nat):Int):=by
 rw [show min (Int.toNat s) 64=s.toNat by omega,Int.one_mul,wrap_u64]
 have h2:2 ^ s.toNat<=2 ^ 16:=Nat.pow_le_pow_right (by decide) (by omega)
 have e:((2:Int) ^ s.toNat)=((2 ^ s.toNat:Nat):Int):=by simp
 rw [e]
 generalize 2 ^ s.toNat=m at *
 omega
def mk1 (m:Nat) (s:Int):Nat:=m ||| 2 ^ s.toNat
def maskN (ws:List Int):Nat:=ws.foldl mk1 0
def rS (x:Ins):List Int:=rsL (mP x.1) (vals x)
def wS (x:Ins):List Int:=wsL (mP x.1) (vals x)
def Slo (l:List Int):Prop:=∀ v∈l,0<=v/\v<=15
theorem QG3 {x:Ins} (h:uz x=true):Slo (rS x)/\Slo (wS x)/\(rS x).length<=3/\(wS x).length<=3:=by
 obtain ⟨h1,h2,h3⟩:=QJs h
 refine ⟨fun v hv=>?_,fun v hv=>?_,?_,?_⟩
 ·have:=h3 v (List.mem_append.2 (.inl hv));exact ⟨this.1,this.2.1⟩
 ·have:=h3 v (List.mem_append.2 (.inr hv));exact ⟨this.1,this.2.1⟩
 ·unfold rS;omega
 ·unfold wS;omega
theorem QLo {s:Int} (h0:0<=s) (h1:s<=15):2 ^ s.toNat < 65536:=Nat.lt_of_le_of_lt (Nat.pow_le_pow_right (by decide) (show s.toNat<=15 by omega)) (by decide)
theorem QHZ:∀ {l:List Int} {m:Nat},Slo l->m < 65536->l.foldl mk1 m < 65536
 | [],_,_,h=>h
 | v::l,m,hs,h=>QHZ (l:=l) (fun u hu=>hs u (by simp [hu])) (QW5 h (QLo (hs v (by simp)).1 (hs v (by simp)).2))
theorem QJv {l:List Int} {i:Nat} {m:Nat} (h:i < l.length):(l.take (i+1)).foldl mk1 m=mk1 ((l.take i).foldl mk1 m) l[i]:=by
 rw [List.take_add_one,AU h]
 simp only [Option.toList_some,List.foldl_append,List.foldl_cons,List.foldl_nil]
theorem QJe (ws:List Int) (hs:Slo ws) (hl:ws.length<=100):yR ws=some ((maskN ws:Nat):Int):=by
 show uS (Gb (p8 big) big) ws=_
 unfold uS
 refine Qi (σ:=Nat) (g:=p8 big) (n:=ws.length) (fun s i=>((s:Int),ws,(ws.length:Int),(i:Int))) (fun i s=>s=(ws.take i).foldl mk1 0) (fun r=>r=some ((maskN ws:Nat):Int)) ?_ ?_ ws.length 0 big (by simp) (Ya (by have:=Wy;omega)) 0 rfl
 ·rintro self s rfl
  show l8 self _=_
  unfold l8
  dsimp only
  rw [AF (by omega),AJ,List.take_length]
  rfl
 ·rintro self s i hi rfl
  left
  refine ⟨_,rfl,?_⟩
  have hv:=hs ws[i] (Ae hi)
  have h16:(ws.take i).foldl mk1 0 < 65536:=QHZ (fun u hu=>hs u (List.mem_of_mem_take hu)) (by decide)
  show l8 self _=_
  unfold l8
  dsimp only
  rw [AB (by omega),AL,mh (AU hi),AA,AF (by omega),AJ,QRN hv.1 (by omega),bor h16 (QLo hv.1 hv.2),w64 (by omega) (by omega),QJv hi]
  rfl
theorem QGd {n:Int} (h0:0<=n) (h1:n<=16):ig n=some ((2 ^ n.toNat - 1:Nat):Int):=by
 show rC n=_
 unfold rC
 have hp:1<=2 ^ n.toNat:=Nat.one_le_two_pow
 have h2:2 ^ n.toNat<=2 ^ 16:=Nat.pow_le_pow_right (by decide) (by omega)
 rw [AF (by omega),AJ,QRN h0 h1]
 dsimp only
 rw [wrap_u64]
 congr 1
 omega
theorem QFn {n:Int} (h1:n<=16):2 ^ n.toNat - 1 < 65536:=by
 have h2:2 ^ n.toNat<=2 ^ 16:=Nat.pow_le_pow_right (by decide) (by omega)
 omega
theorem QJd {n:Int} {t:Nat}:(2 ^ n.toNat - 1).testBit t=decide (t < n.toNat):=Nat.testBit_two_pow_sub_one _ _
theorem QLe {m n:Int} (h:m<=n):TV (2 ^ m.toNat - 1) (2 ^ n.toNat - 1):=fun t ht=>by
 rw [QJd] at ht ⊢
 simp at ht ⊢
 omega
def QEF (n:Int) (x:Ins):Bool:=(rS x).all (fun v=>decide (v < n))&&(wS x).all (fun v=>decide (v < n))
def QB4 (l:List Ins) (p s:Int):Int:=if s < 0∨s > 16∨p < 0∨p > s then 2 else if l.all (QEF s) then 0 else 16
theorem QGT (a:List Int) (n:Int) (h:a.length<=100):wB (a,n)=some (a.all fun v=>decide (v < n)):=by
 show wT (Gb (rW big) big) (a,n)=_
 unfold wT
 dsimp only
 refine Qi (σ:=Unit) (g:=rW big) (n:=a.length) (fun _ i=>(a,(a.length:Int),(i:Int),n)) (fun i _=>∀ k v,k < i->a[k]? = some v->v < n) (fun r=>r=some (a.all fun v=>decide (v < n))) ?_ ?_ a.length 0 big (by simp) (Ya (by have:=Wy;omega)) () (fun k v hk=>absurd hk (Nat.not_lt_zero _))
 ·intro self _ hI
  show kM self _=_
  unfold kM
  dsimp only
  rw [AF (by omega),AJ]
  rw [show (a.all fun v=>decide (v < n))=true from sU.2 fun k v hk=>AB (hI k v (Ap.1 hk).1 hk)]
  rfl
 ·intro self _ i hi hI
  have hx:a[i]? = some a[i]:=AU hi
  show (∃ s',_/\kM self (a,(a.length:Int),(i:Int),n)=_)∨kM self (a,(a.length:Int),(i:Int),n)=_
  unfold kM
  dsimp only
  rw [AB (by omega),AL,mh hx,AA,w64 (by omega) (by omega)]
  by_cases e:a[i] < n
  ·left
   refine ⟨(),fun k v hk h3=>?_,by rw [AF (by omega)];rfl⟩
   by_cases e2:k=i
   ·subst e2
    rw [hx] at h3
    cases h3
    exact e
   ·exact hI k v (by omega) h3
  ·right
   rw [AB (by omega),AL,AB (by omega)]
   have:(a.all fun v=>decide (v < n))=false:=by
    cases hh:a.all fun v=>decide (v < n) with
    | false=>rfl
    | true=>exact absurd (of_decide_eq_true (sU.1 hh i _ hx)) e
   rw [this]
   rfl
end Go.Proofs.YtbgmjjplddddnaaGreatDoor.F
set_option linter.unusedVariables false
set_option linter.unusedSimpArgs false
set_option maxRecDepth 100000
namespace Go.Proofs.YtbgmjjplddddnaaGreatDoor.F
open Go.Lift
def ma (ms:List Nat) (i:Nat):Nat:=ms.getD i 0
theorem tN {ms:List Nat} {i j v:Nat} (h:j < ms.length):ma (ms.set j v) i=if i=j then v else ma ms i:=by
 unfold ma
 rw [Ad,dw h]
 split <;> simp [Ad]
theorem QDo {ms:List Nat} {i:Nat} (h:i < ms.length):ms[i]? = some (ma ms i):=getD_at h 0
theorem QPI {ms:List Nat} {i:Nat} (h:i < ms.length):nth (ints ms) (Int.toNat (i:Int))=some ((ma ms i:Nat):Int):=QC9 (ints_at (QDo h))
theorem QFp {ms:List Nat} {i:Nat} (h:i < ms.length):Nk (ints ms) (i:Int)=some ((ma ms i:Nat):Int):=mh (ints_at (QDo h))
theorem ints_set (ms:List Nat) (j v:Nat):(ints ms).set j ((v:Nat):Int)=ints (ms.set j v):=by simp [ints,List.map_set]
theorem QNl {ms:List Nat} {j:Nat} (h:j < ms.length):ms.set j (ma ms j)=ms:=by
 apply List.ext_getElem?
 intro i
 rw [dw h]
 split
 ·rename_i e;subst e;rw [QDo h]
 ·rfl
theorem QLk {a b:List Nat} (hl:a.length=b.length) (h:∀ i,i < a.length->ma a i=ma b i):a=b:=by
 apply List.ext_getElem?
 intro i
 by_cases hi:i < a.length
 ·rw [QDo hi,QDo (by omega),h i hi]
 ·rw [Av (by omega),Av (by omega)]
theorem QJ4:∀ {ms:List Nat} {j v:Nat},j < ms.length->(ms.set j v).sum+ma ms j=ms.sum+v
 | [],j,v,h=>by simp at h
 | a::ms,0,v,h=>by simp [ma];omega
 | a::ms,j+1,v,h=>by
  have:=QJ4 (ms:=ms) (j:=j) (v:=v) (by simpa using h)
  have e:ma (a::ms) (j+1)=ma ms j:=by simp [ma]
  rw [e,List.set_cons_succ,List.sum_cons,List.sum_cons]
  omega
theorem QM1 {c:Nat}:∀ {ms:List Nat},(∀ i,i < ms.length->ma ms i<=c)->ms.sum<=ms.length * c
 | [],_=>by simp
 | a::ms,h=>by
  have h0:=h 0 (by simp)
  have:=QM1 (ms:=ms) fun i hi=>by
   have:=h (i+1) (by simpa using hi)
   simpa [ma] using this
  simp only [List.sum_cons,Af,Nat.succ_mul]
  simp [ma] at h0
  omega
structure Sol (g:Nat->List Nat) (W:Nat->Nat) (P A:Nat) (x:Nat->Nat):Prop where
 p:TV (x 0) P
 a:∀ i,Rc g i->TV (x i) A
 e:∀ i j,Rc g i->j∈g i->TV (x j) (x i ||| W i)
def IsG (g:Nat->List Nat) (W:Nat->Nat) (P A:Nat) (m:Nat->Nat):Prop:=Sol g W P A m/\∀ x,Sol g W P A x->∀ i,Rc g i->TV (x i) (m i)
structure Sm (g:Nat->List Nat) (W:Nat->Nat) (P A n:Nat) (ms:List Nat):Prop where
 len:ms.length=n
 up:∀ i,i < n->TV (ma ms i) A
 p0:TV (ma ms 0) P
 gr:∀ x,Sol g W P A x->∀ i,Rc g i->TV (x i) (ma ms i)
def EgM (W:Nat->Nat) (ms:List Nat) (ch:Bool) (i j:Nat):Prop:=ch=true∨TV (ma ms j) (ma ms i ||| W i)
abbrev nw (W:Nat->Nat) (ms:List Nat) (f j:Nat):Nat:=ma ms j &&& (ma ms f ||| W f)
abbrev df (W:Nat->Nat) (ms:List Nat) (f j:Nat):Nat:=diff (ma ms j) (ma ms f ||| W f)
section
variable {g:Nat->List Nat} {W:Nat->Nat} {P A n f j:Nat} {ms:List Nat}
theorem Sm.set (h:Sm g W P A n ms) (hf:Rc g f) (hj:j∈g f) (hjn:j < n):Sm g W P A n (ms.set j (nw W ms f j)) where
 len:=by simp [h.len]
 up:=fun i hi=>by
  rw [tN (by rw [h.len];exact hjn)]
  split
  ·exact (TV.and_left _ _).trans (h.up j hjn)
  ·exact h.up i hi
 p0:=by
  rw [tN (by rw [h.len];exact hjn)]
  split
  ·rename_i e;subst e;exact (TV.and_left _ _).trans h.p0
  ·exact h.p0
 gr:=fun x hx i hi=>by
  rw [tN (by rw [h.len];exact hjn)]
  split
  ·rename_i e;subst e
   exact (h.gr x hx i hi).and ((hx.e f i hf hj).trans (TV.or (h.gr x hx f hf)))
  ·exact h.gr x hx i hi
theorem Sm.done (h:Sm g W P A n ms) (hn:∀ i,Rc g i->i < n) (he:∀ i j,Rc g i->j∈g i->TV (ma ms j) (ma ms i ||| W i)):IsG g W P A (ma ms):=
 ⟨⟨h.p0,fun i hi=>h.up i (hn i hi),he⟩,h.gr⟩
theorem QPC:df W ms f j=0↔nw W ms f j=ma ms j:=by
 rw [df,QEW]
 constructor
 ·exact TV.and_eq
 ·intro h
  rw [← h]
  exact .and_right _ _
theorem QNd (hjn:j < ms.length) (ch:Bool):(∀ a b,EgM W ms ch a b->EgM W (ms.set j (nw W ms f j)) (ch||decide (df W ms f j≠0)) a b)/\EgM W (ms.set j (nw W ms f j)) (ch||decide (df W ms f j≠0)) f j:=by
 by_cases h:df W ms f j=0
 ·have e:=QPC.1 h
  rw [e,QNl hjn]
  constructor
  ·intro a b h
   exact h.imp (fun h=>by simp [h]) id
  ·exact .inr (QEW.1 h)
 ·constructor
  ·intro a b _;left;simp [h]
  ·left;simp [h]
theorem QM2 (hjn:j < ms.length):(ms.set j (nw W ms f j)).sum<=ms.sum/\(df W ms f j≠0->(ms.set j (nw W ms f j)).sum < ms.sum):=by
 have h1:=QJ4 (v:=nw W ms f j) hjn
 have h2:nw W ms f j<=ma ms j:=Nat.and_le_left
 refine ⟨by omega,fun h=>?_⟩
 have h3:nw W ms f j≠ma ms j:=fun e=>h (QPC.2 e)
 omega
structure SW (g:Nat->List Nat) (W:Nat->Nat) (P A n:Nat) (s0:Nat) (ms:List Nat) (ch:Bool):Prop where
 mi:Sm g W P A n ms
 le:ms.sum<=s0
 lt:ch=true->ms.sum < s0
theorem SW.step {s0:Nat} {ch:Bool} (h:SW g W P A n s0 ms ch) (hf:Rc g f) (hj:j∈g f) (hjn:j < n):SW g W P A n s0 (ms.set j (nw W ms f j)) (ch||decide (df W ms f j≠0)):=by
 have hs:=QM2 (W:=W) (f:=f) (show j < ms.length by rw [h.mi.len];exact hjn)
 refine ⟨h.mi.set hf hj hjn,Nat.le_trans hs.1 h.le,fun e=>?_⟩
 have h1:=h.le
 simp only [Bool.or_eq_true,AZ] at e
 rcases e with e | e
 ·have:=h.lt e;omega
 ·have:=hs.2 e;omega
theorem IsG.base {m:Nat->Nat} (h:IsG g W P A m) (hPA:TV P A) (i:Nat) (hi:Rc g i):TV P (m i):=
 h.2 (fun _=>P) ⟨.refl _,fun _ _=>hPA,fun i j _ _ t ht=>by simp [ht]⟩ i hi
end
theorem Sm.start {g:Nat->List Nat} {W:Nat->Nat} {P A n:Nat} {ms:List Nat} (hl:ms.length=n) (hn:0 < n) (hPA:TV P A) (h1:∀ i,i < n->Rc g i->ma ms i=A) (h2:∀ i,i < n->TV (ma ms i) A) (hr:∀ i,Rc g i->i < n):Sm g W P A n (ms.set 0 P) where
 len:=by simp [hl]
 up:=fun i hi=>by
  rw [tN (by omega)]
  split
  ·exact hPA
  ·exact h2 i hi
 p0:=by rw [tN (by omega),AY rfl];exact .refl _
 gr:=fun x hx i hi=>by
  rw [tN (by omega)]
  split
  ·rename_i e;subst e;exact hx.p
  ·rw [h1 i (hr i hi) hi];exact hx.a i hi
theorem Sm.sum {g:Nat->List Nat} {W:Nat->Nat} {P A n:Nat} {ms:List Nat} (h:Sm g W P A n ms) (hn:n<=200) (hA:A < 65536):ms.sum<=13107200:=by
 have:=QM1 (c:=65536) (ms:=ms) fun i hi=>by
  have:=(h.up i (by rw [h.len] at hi;exact hi)).le
  omega
 have h3:ms.length * 65536<=200 * 65536:=Nat.mul_le_mul_right _ (by rw [h.len];exact hn)
 omega
theorem QB6:∀ q:List Nat,(ints q).map Int.toNat=q
 | []=>rfl
 | a::q=>congrArg (a :: ·) (QB6 q)
theorem vw {n:Nat} (h:n<=100000000):n < big:=by
 have:100000000 < big:=by decide
 omega
theorem QMy (d:Nat):(((d:Nat):Int) != 0)=decide (d≠0):=by
 by_cases h:d=0 <;> simp [h]
def aF (g:Nat->List Nat) (ms:List Nat):Prop:=∀ i,¬ Rc g i->ma ms i=0
def Gr (l:List Ins) (ws:List Nat) (P A:Nat) (ms:List Nat):Prop:=ms.length=l.length/\aF (G l) ms/\IsG (G l) (ma ws) P A (ma ms)
theorem QGg {l:List Ins} (h:okC l=true) {ws:List Nat} (hwl:ws.length=l.length) (hW:∀ i,ma ws i < 65536) {P A:Nat} (hA:A < 65536) (hPA:TV P A):∃ ms,u6 (l,ints ws,(P:Int),(A:Int))=some (ints ms)/\Gr l ws P A ms:=by
 obtain ⟨h1,h2,_,_⟩:=fC h
 have hr:∀ i,Rc (G l) i->i < l.length:=fun i hi=>hi.lt h
 show ∃ ms,qb (fun _=>List.replicate) (Gb (mo (fun _=>List.replicate) big) big) (l,ints ws,(P:Int),(A:Int))=_/\_
 unfold qb
 simp only [QBJ (show l.length<=68719476736 by omega),AL,Aj,QLf h,AA,qW]
 rw [show List.replicate l.length (0:Int)=ints (List.replicate l.length 0) by simp [ints]]
 refine Qi (σ:=List Nat) (g:=mo (fun _=>List.replicate) big) (n:=l.length) (fun s i=>(l,(P:Int),(A:Int),(l.length:Int),(i:Int),ints ws,ints s,QAl l)) (fun k s=>s.length=l.length/\(∀ i,i < k->Rc (G l) i->ma s i=A)/\(∀ i,¬ (i < k/\Rc (G l) i)->ma s i=0)) (fun r=>∃ ms,r=some (ints ms)/\Gr l ws P A ms) ?_ ?_ l.length 0 big (by simp) (vw (by omega)) _ ⟨by simp,fun i hi=>absurd hi (Nat.not_lt_zero _),fun i _=>by simp [ma,Ad,List.getElem?_replicate];split <;> rfl⟩
 ·rintro aG s ⟨g1,g2,g3⟩
  show ∃ ms,fT (fun _=>List.replicate) (Gb (mq (fun _=>List.replicate) big aG) big) aG _=_/\_
  unfold fT
  dsimp only
  rw [AF (by omega),AJ,aQ,show (decide ((0:Int)<=0)&&decide ((0:Int) < (s.length:Int)))=true by simp;omega,AL,Int.toNat_zero,ints_set]
  refine vk (g:=mq (fun _=>List.replicate) big aG)
   (fun v=>∃ ms ch,v=(l,ints ws,ints ms,ch)/\Sm (G l) (ma ws) P A l.length ms/\aF (G l) ms/\∀ i j,Rc (G l) i->j∈G l i->EgM (ma ws) ms ch i j)
   (fun v=>2 * (v.2.2.1.map Int.toNat).sum+(if v.2.2.2 then 1 else 0)) (fun r=>∃ ms,r=some (ints ms)/\Gr l ws P A ms) ?_ big _ ?_ ?_
  ·rintro self v ⟨ms,ch,rfl,m1,m2,m3⟩ ih
   show ∃ ms',nE (fun _=>List.replicate) (Gb (nA (fun _=>List.replicate) big aG self) big) aG self (l,ints ws,ints ms,ch)=_/\_
   unfold nE
   dsimp only
   cases ch with
   | false=>
    rw [AJ]
    exact ⟨ms,rfl,m1.len,m2,m1.done hr fun i j hi hj=>(m3 i j hi hj).resolve_left (by simp)⟩
   | true=>
    simp only [QBJ (show l.length<=68719476736 by omega),start_lt h1,AL,Aj,Int.toNat_zero]
    refine vk (g:=nA (fun _=>List.replicate) big aG self)
     (fun v=>∃ ms' ch met p,v=(ints ws,ints ms',ch,l,met,ints p,l)/\met.length=l.length/\Nf (G l) (EgM (ma ws) ms' ch) (fun _=>True) met p none/\SW (G l) (ma ws) P A l.length ms.sum ms' ch/\aF (G l) ms'/\μ2 met p<=401)
     (fun v=>2 * v.2.2.2.2.1.count false+v.2.2.2.2.2.1.length) (fun r=>∃ ms,r=some (ints ms)/\Gr l ws P A ms) ?_ big _ ?_ ?_
    ·rintro aH v ⟨m,ch,met,p,rfl,hm,hd,hs,hz,hμ⟩ ih1
     show ∃ ms',nG (fun _=>List.replicate) (Gb (jC (fun _=>List.replicate) big aG self aH) big) aG self aH (ints ws,ints m,ch,l,met,ints p,l)=_/\_
     unfold nG
     dsimp only
     rcases List.eq_nil_or_concat p with rfl | ⟨p,f,rfl⟩
     ·simp only [aQ,Au]
      rw [show decide (((0:Nat):Int) > 0)=false from rfl,AJ]
      refine ih _ ⟨m,ch,rfl,hs.mi,hz,fun i j hi hj=>(hd.done i hi).2.2 j hj⟩ ?_
      show 2 * ((ints m).map Int.toNat).sum+(if ch then 1 else 0) < 2 * ((ints ms).map Int.toNat).sum+1
      rw [QB6,QB6]
      have h3:=hs.le
      cases ch with
      | false=>simp only [Bool.false_eq_true,if_false];omega
      | true=>have:=hs.lt rfl;simp only [if_true];omega
     ·have hp:p.length<=1000:=by simp [μ2] at hμ;omega
      simp only [List.concat_eq_append] at hd hμ ih1 ⊢
      obtain ⟨e1,e2,e3⟩:=QAt p f (by omega)
      have hrf:Rc (G l) f:=hd.rc f (hd.pm f (by simp))
      have hf:f < l.length:=hr f hrf
      rw [e1]
      rw [AB (show (List.length (ints (p++[f])):Int) > 0 by rw [aQ,AQ];simp only [Af,Au];omega),AL]
      rw [show (decide ((0:Int)<=(p.length:Int))&&decide ((p.length:Int) < (List.length (ints (p++[f])):Int)))=true by rw [aQ];simp;omega,AL]
      rw [e2,AA]
      rw [show (decide ((0:Int)<=(p.length:Int))&&decide ((p.length:Int)<=(List.length (ints (p++[f])):Int)))=true by rw [aQ];simp;omega,AL]
      rw [QA6 h hf,AA,e3]
      have hgl:=QKN l f
      rw [aQ (G l f)]
      refine Qi (σ:=List Nat×Bool×List Bool×List Nat) (g:=jC (fun _=>List.replicate) big aG self aH) (n:=(G l f).length) (fun s k=>((f:Int),ints (G l f),((G l f).length:Int),(k:Int),ints ws,ints s.1,s.2.1,l,s.2.2.1,ints s.2.2.2,l))
       (fun k s=>s.2.2.1.length=l.length/\Nf (G l) (EgM (ma ws) s.1 s.2.1) (fun _=>True) s.2.2.1 s.2.2.2 (some (f,k))/\SW (G l) (ma ws) P A l.length ms.sum s.1 s.2.1/\aF (G l) s.1/\μ2 s.2.2.1 s.2.2.2+1<=μ2 met (p++[f]))
       (fun r=>∃ ms,r=some (ints ms)/\Gr l ws P A ms) ?_ ?_ (G l f).length 0 big (by simp) (vw (by omega)) (m,ch,met,p) ⟨hm,hd.pop,hs,hz,by simp [μ2];omega⟩
      ·rintro bJ ⟨m',c',mt,q⟩ ⟨f1,f2,f3,f4,f5⟩
       dsimp only at f1 f2 f3 f4 f5
       show ∃ ms',jN (fun _=>List.replicate) aG self aH bJ _=_/\_
       unfold jN
       dsimp only
       rw [AF (by omega),AJ]
       refine ih1 _ ⟨m',c',mt,q,rfl,f1,f2.fin,f3,f4,by omega⟩ ?_
       show 2 * mt.count false+(ints q).length < 2 * met.count false+(ints (p++[f])).length
       rw [aQ,aQ]
       unfold μ2 at f5
       omega
      ·rintro bJ ⟨m',c',mt,q⟩ k hk ⟨f1,f2,f3,f4,f5⟩
       dsimp only at f1 f2 f3 f4 f5
       left
       have hj:(G l f)[k]? = some (G l f)[k]:=AU hk
       have hjm:(G l f)[k]∈G l f:=Ae hk
       have hjl:=QJL h hf hjm
       have hjr:Rc (G l) (G l f)[k]:=.step hrf hjm
       generalize (G l f)[k]=j at *
       have hml:m'.length=l.length:=f3.mi.len
       have b16:∀ i,i < l.length->ma m' i < 65536:=fun i hi=>Nat.lt_of_le_of_lt (f3.mi.up i hi).le hA
       have hE:=QNd (W:=ma ws) (f:=f) (show j < m'.length by omega) c'
       have hS:=f3.step hrf hjm hjl
       have hZ:aF (G l) (m'.set j (nw (ma ws) m' f j)):=fun i hi=>by
        rw [tN (by omega),AX (show ¬ i=j from fun e=>hi (e ▸ hjr))]
        exact f4 i hi
       have hor:ma m' f ||| ma ws f < 65536:=QW5 (b16 f hf) (hW f)
       have hst:jC (fun _=>List.replicate) big aG self aH bJ ((f:Int),ints (G l f),((G l f).length:Int),(k:Int),ints ws,ints m',c',l,mt,ints q,l)
         = (nth mt j).bind fun b=>if b then bJ ((f:Int),ints (G l f),((G l f).length:Int),((k+1:Nat):Int),ints ws,ints (m'.set j (nw (ma ws) m' f j)),c'||decide (df (ma ws) m' f j≠0),l,mt,ints q,l)
          else bJ ((f:Int),ints (G l f),((G l f).length:Int),((k+1:Nat):Int),ints ws,ints (m'.set j (nw (ma ws) m' f j)),c'||decide (df (ma ws) m' f j≠0),l,mt.set j true,ints (q++[j]),l):=by
        have hq:q.length<=1000:=by simp only [μ2] at f5 hμ;omega
        have hlim:(Nat.ble 1 1&&Nat.ble (List.length (ints q)+List.length ([(j:Int)]:List Int)) lim)=true:=by
         rw [b11,eF (by rw [aQ];simp;omega)];rfl
        show jN (fun _=>List.replicate) aG self aH bJ _=_
        unfold jN
        dsimp only
        rw [AB (show (k:Int) < ((G l f).length:Int) by omega),AL,mh (ints_at hj),AA]
        simp only [aQ m',f1,hml,QGh hf,QGh hjl,AL,QPI (show f < m'.length by omega),QPI (show j < m'.length by omega),QFp (show f < ws.length by omega),AA,bor (b16 f hf) (hW f),QVB (b16 j hjl) hor,QMx (b16 j hjl) (Nat.lt_trans hor (by decide)),hlim]
        rw [w64 (z:=(k:Int)+1) (by omega) (by omega),Aj,ints_set,QMy,yF]
        cases c' with
        | true=>cases nth mt j with
         | none=>rfl
         | some b=>cases b <;> rfl
        | false=>cases nth mt j with
         | none=>rfl
         | some b=>cases b <;> rfl
       rw [uq] at hst
       dsimp only
       rw [hst]
       rcases QAx (m:=mt) (j:=j) (by omega) with hb | hb
       ·refine ⟨(m'.set j (nw (ma ws) m' f j),c'||decide (df (ma ws) m' f j≠0),mt,q),⟨f1,f2.old hj hE.1 (fun _ h=>h) hE.2 hb,hS,hZ,f5⟩,?_⟩
        rw [hb]
        rfl
       ·have hc:=qz hb
        refine ⟨(m'.set j (nw (ma ws) m' f j),c'||decide (df (ma ws) m' f j≠0),mt.set j true,q++[j]),⟨by simp [f1],f2.new hj hE.1 (fun _ h=>h) hE.2 trivial hb,hS,hZ,?_⟩,?_⟩
        ·simp only [μ2,AQ,Af,Au] at f5 ⊢
         omega
        ·rw [hb]
         rfl
    ·have:=xA l.length h1
     refine ⟨ms,false,_,[0],rfl,by simp,Nf.start h1 trivial,⟨m1,Nat.le_refl _,fun e=>by cases e⟩,m2,?_⟩
     simp only [μ2,Af,Au]
     omega
    ·have:=xA l.length h1
     refine vw ?_
     show 2 * ((List.replicate l.length false).set 0 true).count false+1<=_
     omega
  ·refine ⟨s.set 0 P,true,rfl,Sm.start g1 h1 hPA (fun i hi hr=>g2 i hi hr) (fun i hi=>?_) hr,fun i hi=>?_,fun i j hi hj=>.inl rfl⟩
   ·by_cases WV:Rc (G l) i
    ·rw [g2 i hi WV];exact .refl _
    ·rw [g3 i (fun e=>WV e.2)];exact .zero _
   ·rw [tN (by omega),AX (show ¬ i=0 from fun e=>hi (e ▸ .zero)),g3 i (fun e=>hi e.2)]
  ·refine vw ?_
   have ZC:Sm (G l) (ma ws) P A l.length (s.set 0 P):=Sm.start g1 h1 hPA (fun i hi hr=>g2 i hi hr) (fun i hi=>by
    by_cases WV:Rc (G l) i
    ·rw [g2 i hi WV];exact .refl _
    ·rw [g3 i (fun e=>WV e.2)];exact .zero _) hr
   have:=ZC.sum h2 hA
   show 2 * ((ints (s.set 0 P)).map Int.toNat).sum+1<=_
   rw [QB6]
   omega
 ·rintro aG s i hi ⟨g1,g2,g3⟩
  left
  show ∃ s',_/\fT (fun _=>List.replicate) _ aG _=_
  unfold fT
  dsimp only
  simp only [aQ,qW,g1,QGh hi,AL]
  rw [AB (show (i:Int) < (l.length:Int) by omega),AL,w64 (z:=(i:Int)+1) (by omega) (by omega),Aj,uq,ints_set]
  by_cases WV:Rc (G l) i
  ·rw [(QFo hi).2 WV]
   refine ⟨s.set i A,⟨by simp [g1],fun a ha hra=>?_,fun a ha=>?_⟩,rfl⟩
   ·rw [tN (by omega)]
    split
    ·rfl
    ·exact g2 a (by omega) hra
   ·rw [tN (by omega),AX (show ¬ a=i from fun e=>ha ⟨by omega,e ▸ WV⟩)]
    exact g3 a fun e=>ha ⟨by omega,e.2⟩
  ·rw [(QHh hi).2 WV]
   refine ⟨s,⟨g1,fun a ha hra=>g2 a ?_ hra,fun a ha=>g3 a fun e=>ha ⟨by omega,e.2⟩⟩,rfl⟩
   have:a≠i:=fun e=>WV (e ▸ hra)
   omega
def wm (l:List Ins):List Nat:=l.map fun x=>maskN (wS x)
theorem QI3 (l:List Ins):(wm l).length=l.length:=by simp [wm]
theorem QM9 {l:List Ins} {i:Nat} {x:Ins} (h:l[i]? = some x):ma (wm l) i=maskN (wS x):=by
 unfold ma wm
 rw [Ad,List.getElem?_map,h]
 rfl
theorem QZc {l:List Ins} (h:okC l=true) (i:Nat):ma (wm l) i < 65536:=by
 by_cases hi:i < l.length
 ·have hx:l[i]? = some l[i]:=AU hi
  rw [QM9 hx]
  obtain ⟨_,hs,_,_⟩:=QG3 ((fC h).2.2.1 i _ hx).1
  exact QHZ hs (by decide)
 ·unfold ma
  rw [Ad,Av (by rw [QI3];omega)]
  decide
def IsM (l:List Ins) (ws:List Nat) (P A:Nat) (fs:List Nat):Prop:=fs.length=l.length/\∃ m,IsG (G l) (ma ws) P A m/\∀ i,i < l.length->(Rc (G l) i->i≠l.length - 1->ma fs i=m i)/\(¬ Rc (G l) i∨i=l.length - 1->ma fs i=0)
theorem IsM.same {l:List Ins} {ws:List Nat} {P A:Nat} {a b:List Nat} (h:IsM l ws P A a) (h':IsM l ws P A b):a=b:=by
 obtain ⟨h1,m,h2,h3⟩:=h
 obtain ⟨g1,k,g2,g3⟩:=h'
 refine QLk (by omega) fun i hi=>?_
 by_cases e:Rc (G l) i/\i≠l.length - 1
 ·rw [(h3 i (by omega)).1 e.1 e.2,(g3 i (by omega)).1 e.1 e.2]
  exact (g2.2 m h2.1 i e.1).antisymm (h2.2 k g2.1 i e.1)
 ·have:¬ Rc (G l) i∨i=l.length - 1:=by
   by_cases e1:Rc (G l) i
   ·exact .inr (by by_cases e2:i=l.length - 1;exact e2;exact absurd ⟨e1,e2⟩ e)
   ·exact .inl e1
  rw [(h3 i (by omega)).2 this,(g3 i (by omega)).2 this]
abbrev low (n:Int):Nat:=2 ^ n.toNat - 1
def xC (l:List Ins) (p s:Int) (r:Option (List Int×Int)):Prop:=
 if okC l=true then (if QB4 l p s=0 then ∃ fs,r=some (ints fs,0)/\IsM l (wm l) (low p) (low s) fs else r=some ([],QB4 l p s)) else r=some ([],8)
theorem QJZ {l:List Ins} {p s:Int}:QB4 l p s=0↔(0<=p/\p<=s/\s<=16)/\l.all (QEF s)=true:=by
 unfold QB4
 split
 ·constructor
  ·intro e;omega
  ·intro e;omega
 ·split
  ·rename_i h1 h2
   simp [h2]
   omega
  ·rename_i h1 h2
   simp [h2]
theorem QKm {l:List Ins} (p s:Int):xC l p s (o7 (l,p,s)):=by
 show xC l p s (wR (fun _=>List.replicate) (Gb (nu (fun _=>List.replicate) big) big) (l,p,s))
 unfold wR
 dsimp only
 rw [xu,AA]
 by_cases h:okC l=true
 ·obtain ⟨h1,h2,hok,hlast⟩:=fC h
  have hfit:∀ r,(if QB4 l p s=0 then ∃ fs,r=some (ints fs,(0:Int))/\IsM l (wm l) (low p) (low s) fs else r=some ([],QB4 l p s))->xC l p s r:=fun r hr=>by
   unfold xC
   rw [AY h]
   exact hr
  refine hfit _ ?_
  rw [AY h,show ((0:Int) != 0)=false from rfl,AJ]
  have two:(s < 0∨s > 16∨p < 0∨p > s)->QB4 l p s=2:=fun e=>by unfold QB4;rw [AY e]
  by_cases a:p < 0
  ·rw [two (by omega),AX (by omega),AB a];rfl
  by_cases b:p > s
  ·rw [two (by omega),AX (by omega),AF a,AB b];rfl
  by_cases c:s > 16
  ·rw [two (by omega),AX (by omega),AF a,AF b,AB c];rfl
  have hfr:QB4 l p s=if l.all (QEF s) then 0 else 16:=by unfold QB4;rw [AX (by omega)]
  rw [AF a,AF b,AF c]
  simp only [AJ,QBJ (show l.length<=68719476736 by omega),AL,Aj]
  rw [show List.replicate l.length (0:Int)=ints (List.replicate l.length 0) by simp [ints]]
  refine Qi (σ:=List Nat) (g:=nu (fun _=>List.replicate) big) (n:=l.length) (fun t i=>(l,p,s,l,(l.length:Int),(i:Int),ints t))
   (fun k t=>t.length=l.length/\∀ i x,i < k->l[i]? = some x->QEF s x=true/\ma t i=maskN (wS x))
   (fun r=>if QB4 l p s=0 then ∃ fs,r=some (ints fs,(0:Int))/\IsM l (wm l) (low p) (low s) fs else r=some ([],QB4 l p s)) ?_ ?_ l.length 0 big (by simp) (vw (by omega)) _ ⟨by simp,fun i x hi=>absurd hi (Nat.not_lt_zero _)⟩
  ·rintro self t ⟨g1,g2⟩
   have hall:l.all (QEF s)=true:=sU.2 fun k x hk=>(g2 k x (Ap.1 hk).1 hk).1
   have ht:t=wm l:=QLk (by rw [QI3];exact g1) fun i hi=>by
    have hx:l[i]? = some (l[i]'(by omega)):=AU (by omega)
    rw [(g2 i _ (by omega) hx).2,QM9 hx]
   subst ht
   rw [hfr,AY hall,AY rfl]
   show ∃ fs,ny (fun _=>List.replicate) self _=_/\_
   unfold ny
   dsimp only
   rw [AF (by omega),AJ,QGd (by omega) (by omega),AA,QGd (by omega) (by omega),AA]
   obtain ⟨ms,e,m1,m2,m3⟩:=QGg h (QI3 l) (QZc h) (QFn (n:=s) (by omega)) (QLe (m:=p) (n:=s) (by omega))
   rw [e,AA,aQ,m1,QHg h1 (by omega),QGh (show l.length - 1 < l.length by omega),AL,Aj,show (0:Int)=((0:Nat):Int) from rfl,ints_set]
   refine ⟨_,rfl,by simp [m1],ma ms,m3,fun i hi=>?_⟩
   rw [tN (by omega)]
   by_cases e2:i=l.length - 1
   ·rw [AY e2]
    exact ⟨fun _ h3=>absurd e2 h3,fun _=>rfl⟩
   ·rw [AX e2]
    exact ⟨fun _ _=>rfl,fun hz=>m2 i (hz.resolve_right e2)⟩
  ·rintro self t i hi ⟨g1,g2⟩
   have hx:l[i]? = some l[i]:=AU hi
   have ho:=(hok i _ hx).1
   obtain ⟨sr,sw,lr,lw⟩:=QG3 ho
   have e0:nu (fun _=>List.replicate) big self (l,p,s,l,(l.length:Int),(i:Int),ints t)=ny (fun _=>List.replicate) self (l,p,s,l,(l.length:Int),(i:Int),ints t):=rfl
   rw [e0]
   unfold ny
   dsimp only
   rw [AB (show (i:Int) < (l.length:Int) by omega),AL,mh hx,AA,QGD,AA,AY ho]
   rw [show rsL (mP l[i].1) (vals l[i])=rS l[i] from rfl,show wsL (mP l[i].1) (vals l[i])=wS l[i] from rfl]
   dsimp only
   rw [QGT _ _ (by omega),AA,QGT _ _ (by omega),AA,QJe _ sw (by omega),AA]
   have bad:QEF s l[i]=false->QB4 l p s=16:=fun e=>by
    rw [hfr,AX fun hh=>by rw [sU.1 hh i _ hx] at e;cases e]
   cases e1:(rS l[i]).all fun v=>decide (v < s) with
   | false=>
    right
    rw [bad (by simp [QEF,e1]),AX (by decide)]
    rfl
   | true=>
    cases e2:(wS l[i]).all fun v=>decide (v < s) with
    | false=>
     right
     rw [bad (by simp only [QEF,e1,e2];rfl),AX (by decide)]
     rfl
    | true=>
     left
     refine ⟨t.set i (maskN (wS l[i])),⟨by simp [g1],fun a x ha hxa=>?_⟩,?_⟩
     ·rw [tN (by omega)]
      by_cases e:a=i
      ·subst e
       rw [hx] at hxa
       cases hxa
       exact ⟨by simp only [QEF,e1,e2];rfl,AY rfl⟩
      ·rw [AX e]
       exact g2 a x (by omega) hxa
     ·simp only [Az,AJ,aQ,g1,QGh hi,AL]
      rw [w64 (z:=(i:Int)+1) (by omega) (by omega),Aj,ints_set]
      rfl
 ·unfold xC
  rw [AX h,AX h]
  rfl
theorem xC.same {l:List Ins} {p s:Int} {a b:Option (List Int×Int)} (h:xC l p s a) (h':xC l p s b):a=b:=by
 unfold xC at h h'
 split at h
 ·rename_i e
  rw [AY e] at h'
  split at h
  ·rename_i e2
   rw [AY e2] at h'
   obtain ⟨x,rfl,hx⟩:=h
   obtain ⟨y,rfl,hy⟩:=h'
   rw [hx.same hy]
  ·rename_i e2
   rw [AX e2] at h'
   rw [h,h']
 ·rename_i e
  rw [AX e] at h'
  rw [h,h']
end Go.Proofs.YtbgmjjplddddnaaGreatDoor.F
set_option linter.unusedVariables false
set_option linter.unusedSimpArgs false
set_option maxRecDepth 100000
namespace Go.Proofs.YtbgmjjplddddnaaGreatDoor.F
open Go.Lift
structure Hold (l:List Ins) (P:Nat) (ms:List Nat):Prop where
 len:ms.length=l.length
 p:TV (ma ms 0) P
 e:∀ i j,Rc (G l) i->j∈G l i->TV (ma ms j) (ma ms i ||| ma (wm l) i)
theorem IsM.hold {l:List Ins} (h:okC l=true) {P A:Nat} {fs:List Nat} (hm:IsM l (wm l) P A fs):Hold l P fs:=by
 obtain ⟨h1,h2,hok,hlast⟩:=fC h
 obtain ⟨g1,m,g2,g3⟩:=hm
 have z:ma fs (l.length - 1)=0:=(g3 _ (by omega)).2 (.inr rfl)
 have gn:G l (l.length - 1)=[]:=by
  simp only [G,hlast]
  rfl
 refine ⟨g1,?_,fun i j hi hj=>?_⟩
 ·by_cases e:0=l.length - 1
  ·rw [e,z];exact .zero _
  ·rw [(g3 0 (by omega)).1 .zero e];exact g2.1.p
 ·have hil:=hi.lt h
  have hjl:=QJL h hil hj
  have hin:i≠l.length - 1:=fun e=>by
   subst e
   rw [gn] at hj
   cases hj
  by_cases e:j=l.length - 1
  ·rw [e,z];exact .zero _
  ·rw [(g3 i hil).1 hi hin,(g3 j hjl).1 (.step hi hj) e]
   exact g2.1.e i j hi hj
theorem IsM.up {l:List Ins} (h:okC l=true) {P A:Nat} {fs:List Nat} (hm:IsM l (wm l) P A fs) (hA:A < 65536) (i:Nat):ma fs i < 65536:=by
 obtain ⟨g1,m,g2,g3⟩:=hm
 by_cases hi:i < l.length
 ·by_cases e:Rc (G l) i/\i≠l.length - 1
  ·rw [(g3 i hi).1 e.1 e.2]
   exact Nat.lt_of_le_of_lt (g2.1.a i e.1).le hA
  ·have:¬ Rc (G l) i∨i=l.length - 1:=by
    by_cases e1:Rc (G l) i
    ·exact .inr (by by_cases e2:i=l.length - 1;exact e2;exact absurd ⟨e1,e2⟩ e)
    ·exact .inl e1
   rw [(g3 i hi).2 this]
   decide
 ·unfold ma
  rw [Ad,Av (by omega)]
  decide
def da (d:List Int) (i:Nat):Int:=d.getD i 0
theorem QDV {d:List Int} {i j:Nat} {v:Int} (h:j < d.length):da (d.set j v) i=if i=j then v else da d i:=by
 unfold da
 rw [Ad,dw h]
 split <;> simp [Ad]
theorem QDU {d:List Int} {i:Nat} (h:i < d.length):d[i]? = some (da d i):=getD_at h 0
theorem QPB {d:List Int} {i:Nat} (h:i < d.length):nth d (Int.toNat (i:Int))=some (da d i):=QC9 (QDU h)
theorem QIi {d:List Int} {i:Nat} (h:i < d.length):Nk d (i:Int)=some (da d i):=mh (QDU h)
theorem QR9 {a b:List Int} (hl:a.length=b.length) (h:∀ i,i < a.length->da a i=da b i):a=b:=by
 apply List.ext_getElem?
 intro i
 by_cases hi:i < a.length
 ·rw [QDU hi,QDU (by omega),h i hi]
 ·rw [Av (by omega),Av (by omega)]
structure Right (g:Nat->List Nat) (W:Nat->Int) (n:Nat) (D:Nat->Int):Prop where
 z:D 0=0
 e:∀ i j,Rc g i->j∈g i->D j=D i+W i/\0<=D j/\D j<=4096/\(j=n - 1->D j=0)
theorem Right.bd {g:Nat->List Nat} {W:Nat->Int} {n:Nat} {D:Nat->Int} (h:Right g W n D) {i:Nat} (hi:Rc g i):0<=D i/\D i<=4096:=by
 cases hi with
 | zero=>rw [h.z];omega
 | step hi hj=>have:=h.e _ _ hi hj;omega
theorem Right.last {g:Nat->List Nat} {W:Nat->Int} {n:Nat} {D:Nat->Int} (h:Right g W n D) (hi:Rc g (n - 1)):D (n - 1)=0:=by
 generalize hm:n - 1=m at hi
 cases hi with
 | zero=>exact h.z
 | step hi hj=>exact (h.e _ _ hi hj).2.2.2 hm.symm
theorem Right.uniq {g:Nat->List Nat} {W:Nat->Int} {n:Nat} {D E:Nat->Int} (h:Right g W n D) (h':Right g W n E) {i:Nat} (hi:Rc g i):D i=E i:=by
 induction hi with
 | zero=>rw [h.z,h'.z]
 | step hi hj ih=>rw [(h.e _ _ hi hj).1,(h'.e _ _ hi hj).1,ih]
structure DP (g:Nat->List Nat) (W:Nat->Int) (n:Nat) (dep:List Int) (kn:List Bool):Prop where
 ld:dep.length=n
 lk:kn.length=n
 k0:kn[0]? = some true
 d0:da dep 0=0
 kr:∀ i,kn[i]? = some true->Rc g i/\0<=da dep i/\da dep i<=4096/\∀ D,Right g W n D->da dep i=D i
 un:∀ i,kn[i]? = some false->da dep i=0
def EgD (W:Nat->Int) (dep:List Int) (kn:List Bool) (i j:Nat):Prop:=kn[i]? = some true/\kn[j]? = some true/\da dep j=da dep i+W i
section
variable {g:Nat->List Nat} {W:Nat->Int} {n f j:Nat} {dep:List Int} {kn:List Bool}
theorem QAj (hj:j < kn.length) {i:Nat}:(kn.set j true)[i]? = some true↔i=j∨kn[i]? = some true:=by
 rw [dw hj]
 split
 ·rename_i e;simp [e]
 ·rename_i e;simp [e]
theorem QB0 (h:DP g W n dep kn) (hjn:j < n) {d:Int} (hk:kn[j]? = some true->da dep j=d) {a:Nat} (ha:kn[a]? = some true):da (dep.set j d) a=da dep a:=by
 rw [QDV (by rw [h.ld];exact hjn)]
 split
 ·rename_i e;subst e;exact (hk ha).symm
 ·rfl
theorem DP.step (h:DP g W n dep kn) (hf:kn[f]? = some true) (hj:j∈g f) (hjn:j < n) (h0:0<=da dep f+W f) (h1:da dep f+W f<=4096) (hk:kn[j]? = some true->da dep j=da dep f+W f):DP g W n (dep.set j (da dep f+W f)) (kn.set j true) where
 ld:=by simp [h.ld]
 lk:=by simp [h.lk]
 k0:=(QAj (by rw [h.lk];exact hjn)).2 (.inr h.k0)
 d0:=by rw [QB0 h hjn hk h.k0];exact h.d0
 kr:=fun i hi=>by
  have hrf:=(h.kr f hf).1
  rcases (QAj (by rw [h.lk];exact hjn)).1 hi with rfl | hi
  ·rw [QDV (by rw [h.ld];exact hjn),AY rfl]
   exact ⟨.step hrf hj,h0,h1,fun D hD=>by rw [(hD.e f i hrf hj).1,(h.kr f hf).2.2.2 D hD]⟩
  ·rw [QB0 h hjn hk hi]
   exact h.kr i hi
 un:=fun i hi=>by
  rw [dw (by rw [h.lk];exact hjn)] at hi
  split at hi
  ·cases hi
  ·rename_i e
   rw [QDV (by rw [h.ld];exact hjn),AX e]
   exact h.un i hi
theorem EgD.step (h:DP g W n dep kn) (hf:kn[f]? = some true) (hjn:j < n) (hk:kn[j]? = some true->da dep j=da dep f+W f) :
  (∀ a b,EgD W dep kn a b->EgD W (dep.set j (da dep f+W f)) (kn.set j true) a b)/\EgD W (dep.set j (da dep f+W f)) (kn.set j true) f j:=by
 have up:∀ i,kn[i]? = some true->(kn.set j true)[i]? = some true:=fun i hi=>(QAj (by rw [h.lk];exact hjn)).2 (.inr hi)
 constructor
 ·rintro a b ⟨ha,hb,e⟩
  refine ⟨up a ha,up b hb,?_⟩
  rw [QB0 h hjn hk ha,QB0 h hjn hk hb]
  exact e
 ·refine ⟨up f hf,(QAj (by rw [h.lk];exact hjn)).2 (.inl rfl),?_⟩
  rw [QB0 h hjn hk hf,QDV (by rw [h.ld];exact hjn),AY rfl]
theorem DP.next (h:DP g W n dep kn) (hf:kn[f]? = some true) (hj:j∈g f) {D:Nat->Int} (hD:Right g W n D) :
  (0<=da dep f+W f/\da dep f+W f<=4096)/\(j=n - 1->da dep f+W f=0)/\(kn[j]? = some true->da dep j=da dep f+W f):=by
 have h1:=h.kr f hf
 have h2:=hD.e f j h1.1 hj
 rw [h1.2.2.2 D hD,← h2.1]
 exact ⟨⟨h2.2.1,h2.2.2.1⟩,h2.2.2.2,fun hk=>(h.kr j hk).2.2.2 D hD⟩
end
def IsD (l:List Ins) (bs dep:List Int):Prop:=dep.length=l.length/\∃ D,Right (G l) (da bs) l.length D/\∀ i,i < l.length->(Rc (G l) i->da dep i=D i)/\(¬ Rc (G l) i->da dep i=0)
theorem IsD.same {l:List Ins} {bs a b:List Int} (h:IsD l bs a) (h':IsD l bs b):a=b:=by
 obtain ⟨h1,D,h2,h3⟩:=h
 obtain ⟨g1,E,g2,g3⟩:=h'
 refine QR9 (by omega) fun i hi=>?_
 by_cases e:Rc (G l) i
 ·rw [(h3 i (by omega)).1 e,(g3 i (by omega)).1 e,h2.uniq g2 e]
 ·rw [(h3 i (by omega)).2 e,(g3 i (by omega)).2 e]
theorem DP.isD {l:List Ins} {bs dep:List Int} {kn:List Bool} (h:DP (G l) (da bs) l.length dep kn) (hn:da dep (l.length - 1)=0) (hd:∀ i,Rc (G l) i->kn[i]? = some true/\∀ j∈G l i,EgD (da bs) dep kn i j):IsD l bs dep:=by
 refine ⟨h.ld,da dep,⟨h.d0,fun i j hi hj=>?_⟩,fun i hi=>⟨fun _=>rfl,fun hr=>?_⟩⟩
 ·obtain ⟨_,h1,h2⟩:=(hd i hi).2 j hj
  have:=h.kr j h1
  exact ⟨h2,this.2.1,this.2.2.1,fun e=>by rw [e];exact hn⟩
 ·rcases QAx (m:=kn) (j:=i) (by rw [h.lk];exact hi) with hb | hb
  ·exact absurd (h.kr i hb).1 hr
  ·exact h.un i hb
def QHR (bs:List Int):Bool:=bs.all fun b=>decide (-4096<=b)&&decide (b<=4096)
theorem QVE {bs:List Int} (h:QHR bs=true) (i:Nat) : -4096<=da bs i/\da bs i<=4096:=by
 by_cases hi:i < bs.length
 ·have:=sU.1 h i _ (QDU hi)
  simpa using this
 ·unfold da
  rw [Ad,Av (by omega)]
  simp
def vv (l:List Ins) (bs:List Int) (r:Option (List Int×Int)):Prop:=
 if okC l=true then (if bs.length=l.length/\QHR bs=true then (∃ dep,r=some (dep,0)/\IsD l bs dep)∨((∀ D,¬ Right (G l) (da bs) l.length D)/\r=some ([],36)) else r=some ([],2)) else r=some ([],8)
theorem vv.same {l:List Ins} {bs:List Int} {a b:Option (List Int×Int)} (h:vv l bs a) (h':vv l bs b):a=b:=by
 unfold vv at h h'
 split at h
 ·rename_i e
  rw [AY e] at h'
  split at h
  ·rename_i e2
   rw [AY e2] at h'
   rcases h with ⟨x,rfl,hx⟩ | ⟨hn,rfl⟩
   ·rcases h' with ⟨y,rfl,hy⟩ | ⟨hn,rfl⟩
    ·rw [hx.same hy]
    ·obtain ⟨_,D,hD,_⟩:=hx
     exact absurd hD (hn D)
   ·rcases h' with ⟨y,rfl,hy⟩ | ⟨_,rfl⟩
    ·obtain ⟨_,D,hD,_⟩:=hy
     exact absurd hD (hn D)
    ·rfl
  ·rename_i e2
   rw [AX e2] at h'
   rw [h,h']
 ·rename_i e
  rw [AX e] at h'
  rw [h,h']
theorem DP.start {g:Nat->List Nat} {W:Nat->Int} {n:Nat} (hn:1<=n):DP g W n (List.replicate n 0) ((List.replicate n false).set 0 true):=by
 have z:∀ i,da (List.replicate n (0:Int)) i=0:=fun i=>by
  simp only [da,Ad,List.getElem?_replicate]
  split <;> rfl
 refine ⟨by simp,by simp,by rw [dw (by simp;omega),AY rfl],z 0,fun i hi=>?_,fun i _=>z i⟩
 have:=QM0 hn hi
 subst this
 rw [z]
 exact ⟨.zero,by omega,by omega,fun D hD=>hD.z.symm⟩
theorem QGl (b:Int):pJ b=some (!(decide (-4096<=b)&&decide (b<=4096))):=by
 show vT b=_
 unfold vT
 by_cases h:b < -4096
 ·rw [AB h,AF (show ¬ -4096<=b by omega)];rfl
 ·rw [AF h,AB (show -4096<=b by omega)]
  by_cases h2:b > 4096
  ·rw [AB h2,AF (show ¬ b<=4096 by omega)];rfl
  ·rw [AF h2,AB (show b<=4096 by omega)];rfl
theorem QHb (d:Int) (j n:Nat) (h1:1<=n) (h2:n<=1000000):rM (d,(j:Int),(n:Int))=some (if j=n - 1 then decide (d=0) else decide (0<=d/\d<=4096)):=by
 show xQ (d,(j:Int),(n:Int))=_
 unfold xQ
 dsimp only
 rw [QHg h1 h2]
 by_cases e:j=n - 1
 ·rw [AY e,show ((j:Int)==((n - 1:Nat):Int))=true by simp [e],AL,dz]
 ·rw [AX e,show ((j:Int)==((n - 1:Nat):Int))=false by simp;omega,AJ]
  by_cases a:0<=d
  ·rw [AB (show d≥0 from a),AL]
   simp [a]
  ·rw [AF (show ¬ d≥0 from a),AJ,AF (fun h=>a h.1)]
def Ob (l:List Ins) (bs:List Int) (r:Option (List Int×Int)):Prop:=(∃ dep,r=some (dep,0)/\IsD l bs dep)∨((∀ D,¬ Right (G l) (da bs) l.length D)/\r=some ([],36))
theorem QGY {l:List Ins} (h:okC l=true) {bs:List Int} (hl:bs.length=l.length) (hb:QHR bs=true) (aG):Ob l bs (Gb (jB (fun _=>List.replicate) big aG) big (l,bs,([]:List Int),(0:Int),List.replicate l.length (0:Int),(List.replicate l.length false).set 0 true,l,(List.replicate l.length false).set 0 true,([0]:List Int))):=by
 obtain ⟨h1,h2,hok,hlast⟩:=fC h
 have hr:∀ i,Rc (G l) i->i < l.length:=fun i hi=>hi.lt h
 refine vk (g:=jB (fun _=>List.replicate) big aG)
  (fun v=>∃ dep kn met p,v=(l,bs,([]:List Int),(0:Int),dep,kn,l,met,ints p)/\met.length=l.length/\DP (G l) (da bs) l.length dep kn/\da dep (l.length - 1)=0/\Nf (G l) (EgD (da bs) dep kn) (fun i=>kn[i]? = some true) met p none/\μ2 met p<=401)
  (fun v=>2 * v.2.2.2.2.2.2.2.1.count false+v.2.2.2.2.2.2.2.2.length) (Ob l bs) ?_ big _ ?_ ?_
 ·rintro self v ⟨dep,kn,met,p,rfl,hm,hp,hz,hd,hμ⟩ ih
  show Ob l bs (qI (fun _=>List.replicate) (Gb (pq (fun _=>List.replicate) big aG self) big) aG self (l,bs,([]:List Int),(0:Int),dep,kn,l,met,ints p))
  unfold qI
  dsimp only
  rcases List.eq_nil_or_concat p with rfl | ⟨p,f,rfl⟩
  ·simp only [aQ,Au]
   rw [show decide (((0:Nat):Int) > 0)=false from rfl,AJ]
   exact .inl ⟨dep,rfl,hp.isD hz fun i hi=>(hd.done i hi).2⟩
  ·have hpl:p.length<=1000:=by simp [μ2] at hμ;omega
   simp only [List.concat_eq_append] at hd hμ ih ⊢
   obtain ⟨e1,e2,e3⟩:=QAt p f (by omega)
   have hrf:Rc (G l) f:=hd.rc f (hd.pm f (by simp))
   have Yk:kn[f]? = some true:=hd.kn f (hd.pm f (by simp))
   have hf:f < l.length:=hr f hrf
   rw [e1]
   rw [AB (show (List.length (ints (p++[f])):Int) > 0 by rw [aQ,AQ];simp only [Af,Au];omega),AL]
   rw [show (decide ((0:Int)<=(p.length:Int))&&decide ((p.length:Int) < (List.length (ints (p++[f])):Int)))=true by rw [aQ];simp;omega,AL]
   rw [e2,AA]
   rw [show (decide ((0:Int)<=(p.length:Int))&&decide ((p.length:Int)<=(List.length (ints (p++[f])):Int)))=true by rw [aQ];simp;omega,AL]
   rw [QA6 h hf,AA,e3]
   have hgl:=QKN l f
   rw [aQ (G l f)]
   refine Qi (σ:=List Int×List Bool×List Bool×List Nat) (g:=pq (fun _=>List.replicate) big aG self) (n:=(G l f).length) (fun s k=>((f:Int),ints (G l f),((G l f).length:Int),(k:Int),l,bs,([]:List Int),(0:Int),s.1,s.2.1,l,s.2.2.1,ints s.2.2.2))
    (fun k s=>s.2.2.1.length=l.length/\DP (G l) (da bs) l.length s.1 s.2.1/\da s.1 (l.length - 1)=0/\Nf (G l) (EgD (da bs) s.1 s.2.1) (fun i=>s.2.1[i]? = some true) s.2.2.1 s.2.2.2 (some (f,k))/\s.2.1[f]? = some true/\μ2 s.2.2.1 s.2.2.2+1<=μ2 met (p++[f]))
    (Ob l bs) ?_ ?_ (G l f).length 0 big (by simp) (vw (by omega)) (dep,kn,met,p) ⟨hm,hp,hz,hd.pop,Yk,by simp [μ2];omega⟩
   ·rintro aH ⟨dep,kn,mt,q⟩ ⟨f1,f2,f3,f4,f5,f6⟩
    dsimp only at f1 f2 f3 f4 f5 f6
    show Ob l bs (fu (fun _=>List.replicate) aG self aH _)
    unfold fu
    dsimp only
    rw [AF (by omega),AJ]
    refine ih _ ⟨dep,kn,mt,q,rfl,f1,f2,f3,f4.fin,by omega⟩ ?_
    show 2 * mt.count false+(ints q).length < 2 * met.count false+(ints (p++[f])).length
    rw [aQ,aQ]
    unfold μ2 at f6
    omega
   ·rintro aH ⟨dep,kn,mt,q⟩ k hk ⟨f1,f2,f3,f4,f5,f6⟩
    dsimp only at f1 f2 f3 f4 f5 f6
    have hj:(G l f)[k]? = some (G l f)[k]:=AU hk
    have hjm:(G l f)[k]∈G l f:=Ae hk
    have hjl:=QJL h hf hjm
    generalize (G l f)[k]=j at *
    have hb1:=QVE hb f
    have hk1:=f2.kr f f5
    have hnext:∀ D,Right (G l) (da bs) l.length D->_:=fun D hD=>f2.next f5 hjm hD
    have hgd:=fun hk=>EgD.step f2 f5 hjl hk
    have hpd:=fun a b c=>f2.step f5 hjm hjl a b c
    have hw:IntKind.i64.wrap (da dep f+da bs f)=da dep f+da bs f:=w64 (by omega) (by omega)
    have hld:=f2.ld
    have hlk:=f2.lk
    show (∃ s',_/\fu (fun _=>List.replicate) aG self aH ((f:Int),ints (G l f),((G l f).length:Int),(k:Int),l,bs,([]:List Int),(0:Int),dep,kn,l,mt,ints q)=_)∨Ob l bs (fu (fun _=>List.replicate) aG self aH ((f:Int),ints (G l f),((G l f).length:Int),(k:Int),l,bs,([]:List Int),(0:Int),dep,kn,l,mt,ints q))
    generalize hX:fu (fun _=>List.replicate) aG self aH ((f:Int),ints (G l f),((G l f).length:Int),(k:Int),l,bs,([]:List Int),(0:Int),dep,kn,l,mt,ints q)=X
    have hql:q.length<=1000:=by simp only [μ2] at f6 hμ;omega
    have hlim:(Nat.ble 1 1&&Nat.ble (List.length (ints q)+List.length ([(j:Int)]:List Int)) lim)=true:=by
     rw [b11,eF (by rw [aQ];simp;omega)];rfl
    unfold fu at hX
    dsimp only at hX
    rw [AB (show (k:Int) < ((G l f).length:Int) by omega),AL,mh (ints_at hj),AA] at hX
    simp only [hld,hlk,f1,QGh hf,QGh hjl,AL,QPB (show f < dep.length by omega),QPB (show j < dep.length by omega),QIi (show f < bs.length by omega),AA,hw,QHb _ j l.length h1 (by omega),hlim,BI] at hX
    rw [w64 (z:=(k:Int)+1) (by omega) (by omega),Aj,uq,uq] at hX
    generalize da dep f+da bs f=d at *
    by_cases hD:(if j=l.length - 1 then decide (d=0) else decide (0<=d/\d<=4096))=true
    ·rw [hD] at hX
     have hd0:(0<=d/\d<=4096)/\(j=l.length - 1->d=0):=by
      split at hD
      ·have:=of_decide_eq_true hD;omega
      ·rename_i e
       have:=of_decide_eq_true hD
       exact ⟨this,fun e2=>absurd e2 e⟩
     have good:(kn[j]? = some true->da dep j=d)->X=((mt[j]?).bind fun b=>bif !b then aH ((f:Int),ints (G l f),((G l f).length:Int),((k+1:Nat):Int),l,bs,([]:List Int),(0:Int),dep.set j d,kn.set j true,l,mt.set j true,ints q++[(j:Int)]) else aH ((f:Int),ints (G l f),((G l f).length:Int),((k+1:Nat):Int),l,bs,([]:List Int),(0:Int),dep.set j d,kn.set j true,l,mt,ints q))->(∃ s':List Int×List Bool×List Bool×List Nat,(s'.2.2.1.length=l.length/\DP (G l) (da bs) l.length s'.1 s'.2.1/\da s'.1 (l.length - 1)=0/\Nf (G l) (EgD (da bs) s'.1 s'.2.1) (fun i=>s'.2.1[i]? = some true) s'.2.2.1 s'.2.2.2 (some (f,k+1))/\s'.2.1[f]? = some true/\μ2 s'.2.2.1 s'.2.2.2+1<=μ2 met (p++[f]))/\X=aH ((f:Int),ints (G l f),((G l f).length:Int),((k+1:Nat):Int),l,bs,([]:List Int),(0:Int),s'.1,s'.2.1,l,s'.2.2.1,ints s'.2.2.2))∨Ob l bs X:=fun hkn hx=>by
      left
      have hE:=hgd hkn
      have hS:=hpd hd0.1.1 hd0.1.2 hkn
      have hz2:da (dep.set j d) (l.length - 1)=0:=by
       rw [QDV (by omega)]
       split
       ·rename_i e;exact hd0.2 e.symm
       ·exact f3
      have hkj:(kn.set j true)[j]? = some true:=(QAj (by omega)).2 (.inl rfl)
      have QVW:(kn.set j true)[f]? = some true:=(QAj (by omega)).2 (.inr f5)
      have hK:∀ a,kn[a]? = some true->(kn.set j true)[a]? = some true:=fun a ha=>(QAj (by omega)).2 (.inr ha)
      rcases QAx (m:=mt) (j:=j) (by omega) with hb | hb
      ·refine ⟨(dep.set j d,kn.set j true,mt,q),⟨f1,hS,hz2,f4.old hj hE.1 hK hE.2 hb,QVW,f6⟩,?_⟩
       rw [hx,hb]
       rfl
      ·have hc:=qz hb
       refine ⟨(dep.set j d,kn.set j true,mt.set j true,q++[j]),⟨by simp [f1],hS,hz2,f4.new hj hE.1 hK hE.2 hkj hb,QVW,?_⟩,?_⟩
       ·simp only [μ2,AQ,Af,Au] at f6 ⊢
        omega
       ·rw [hx,hb,yF]
        rfl
     rcases QAx (m:=kn) (j:=j) (by omega) with hb | hb
     ·rw [hb] at hX
      simp only [AA,Az,AJ,AL] at hX
      by_cases e:da dep j=d
      ·rw [show (da dep j != d)=false by simp [e],AJ] at hX
       exact good (fun _=>e) hX.symm
      ·right
       refine .inr ⟨fun D hD=>e ((hnext D hD).2.2 hb),?_⟩
       rw [show (da dep j != d)=true by simpa using e,AL] at hX
       exact hX.symm
     ·rw [hb] at hX
      simp only [AA,Az,AJ,AL] at hX
      exact good (fun e=>by rw [hb] at e;cases e) hX.symm
    ·right
     refine .inr ⟨fun D hD2=>hD ?_,?_⟩
     ·have:=hnext D hD2
      split
      ·rename_i e;exact AB (this.2.1 e)
      ·exact AB this.1
     ·rw [Bool.not_eq_true] at hD
      rw [hD] at hX
      exact hX.symm
 ·have:=xA l.length h1
  have hs:=DP.start (g:=G l) (W:=da bs) h1
  refine ⟨_,_,_,[0],rfl,by simp,hs,?_,Nf.start h1 hs.k0,?_⟩
  ·simp only [da,Ad,List.getElem?_replicate]
   split <;> rfl
  ·simp only [μ2,Af,Au]
   omega
 ·have:=xA l.length h1
  refine vw ?_
  show 2 * ((List.replicate l.length false).set 0 true).count false+1<=_
  omega
theorem QJC (l:List Ins) (bs:List Int):vv l bs (yP (l,bs)):=by
 show vv l bs (uQ (fun _=>List.replicate) (Gb (lX (fun _=>List.replicate) big) big) (l,bs))
 unfold uQ vv
 dsimp only
 rw [xu,AA]
 by_cases h:okC l=true
 ·obtain ⟨h1,h2,hok,hlast⟩:=fC h
  rw [AY h,AY h,show ((0:Int) != 0)=false from rfl,AJ]
  by_cases hl:bs.length=l.length
  ·rw [show ((bs.length:Int) != (l.length:Int))=false by rw [hl];simp,AJ]
   refine Qi (σ:=Unit) (g:=lX (fun _=>List.replicate) big) (n:=bs.length) (fun _ i=>(bs,(bs.length:Int),(i:Int),l,bs,([]:List Int),(0:Int),false)) (fun i _=>∀ k b,k < i->bs[k]? = some b->(decide (-4096<=b)&&decide (b<=4096))=true) (fun r=>if bs.length=l.length/\QHR bs=true then (∃ dep,r=some (dep,0)/\IsD l bs dep)∨((∀ D,¬ Right (G l) (da bs) l.length D)/\r=some ([],36)) else r=some ([],2)) ?_ ?_ bs.length 0 big (by simp) (vw (by omega)) () (fun k b hk=>absurd hk (Nat.not_lt_zero _))
   ·rintro self _ hI
    have hb:QHR bs=true:=sU.2 fun k b hk=>hI k b (Ap.1 hk).1 hk
    rw [AY ⟨hl,hb⟩]
    show Ob l bs (jM (fun _=>List.replicate) (Gb (jB (fun _=>List.replicate) big self) big) self _)
    unfold jM
    dsimp only
    rw [AF (show ¬ (bs.length:Int) < (bs.length:Int) by omega),AJ]
    simp only [QBJ (show l.length<=68719476736 by omega),start_lt h1,AL,AJ,Aj,Int.toNat_zero]
    exact QGY h hl hb self
   ·rintro self _ i hi hI
    have hx:bs[i]? = some bs[i]:=AU hi
    have e0:lX (fun _=>List.replicate) big self (bs,(bs.length:Int),(i:Int),l,bs,([]:List Int),(0:Int),false)=jM (fun _=>List.replicate) (Gb (jB (fun _=>List.replicate) big self) big) self (bs,(bs.length:Int),(i:Int),l,bs,([]:List Int),(0:Int),false):=rfl
    rw [e0]
    unfold jM
    dsimp only
    rw [AB (show (i:Int) < (bs.length:Int) by omega),AL,mh hx,AA,QGl,AA,w64 (z:=(i:Int)+1) (by omega) (by omega)]
    cases e:(decide (-4096<=bs[i])&&decide (bs[i]<=4096)) with
    | true=>
     left
     refine ⟨(),fun k b hk hkb=>?_,rfl⟩
     by_cases e2:k=i
     ·subst e2
      rw [hx] at hkb
      cases hkb
      exact e
     ·exact hI k b (by omega) hkb
    | false=>
     right
     rw [AX (fun hh=>by rw [sU.1 hh.2 i _ hx] at e;cases e),AB (show (i:Int)≥0 by omega)]
     rfl
  ·rw [show ((bs.length:Int) != (l.length:Int))=true by simp;omega,AL,AX (fun e=>hl e.1)]
 ·rw [AX h,AX h]
  rfl
end Go.Proofs.YtbgmjjplddddnaaGreatDoor.F
set_option linter.unusedVariables false
set_option linter.unusedSimpArgs false
set_option maxRecDepth 100000
namespace Go.Proofs.YtbgmjjplddddnaaGreatDoor.F
open Go.Lift
theorem IsD.right {l:List Ins} (h:okC l=true) {bs dep:List Int} (hd:IsD l bs dep):dep.length=l.length/\da dep (l.length - 1)=0/\Right (G l) (da bs) l.length (da dep):=by
 obtain ⟨h1,_⟩:=fC h
 obtain ⟨g1,D,g2,g3⟩:=hd
 have hr:∀ i,Rc (G l) i->da dep i=D i:=fun i hi=>(g3 i (hi.lt h)).1 hi
 refine ⟨g1,?_,⟨by rw [hr 0 .zero,g2.z],fun i j hi hj=>?_⟩⟩
 ·by_cases e:Rc (G l) (l.length - 1)
  ·rw [hr _ e];exact g2.last e
  ·exact (g3 _ (by omega)).2 e
 ·rw [hr j (.step hi hj),hr i hi]
  exact g2.e i j hi hj
end Go.Proofs.YtbgmjjplddddnaaGreatDoor.F
