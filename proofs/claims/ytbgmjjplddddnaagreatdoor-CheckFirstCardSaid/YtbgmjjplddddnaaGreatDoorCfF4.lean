import Derived.Test.YtbgmjjplddddnaaGreatDoorCfM3
set_option linter.unusedVariables false
set_option linter.unusedSimpArgs false
set_option linter.unusedSectionVars false
set_option maxRecDepth 100000
namespace Go.Proofs.YtbgmjjplddddnaaGreatDoor.F
open Go.Lift
theorem w64 {z:Int} (h : -9223372036854775808<=z) (h':z<=9223372036854775807):IntKind.i64.wrap z=z:=wrap_i64 h h'
theorem QVB:big=(big - 2)+1+1:=by decide
theorem kG {α:Type} {xs:List α} {i:Nat} {x:α} (h:xs[i]? = some x):Mh xs (i:Int)=some x:=by rw [SC];exact h
theorem sP {α:Type}:∀ (xs:List α) (i:Nat),nth xs i=xs[i]?
 | [],i=>by cases i <;> rfl
 | x::xs,0=>rfl
 | x::xs,i+1=>(sP xs i).trans List.getElem?_cons_succ.symm
theorem lN {i n:Nat} (h:i < n):(decide ((0:Int)<=(i:Int))&&decide ((i:Int) < (n:Int)))=true:=by simp;omega
def QHK:Ins:=(34,(-1,(0,(0,()))))
def lead (x:Ins) (n:Nat):Bool:=if x.1=22 then idx x.2.1 n else if x.1=23 then idx x.2.2.1 n else true
def okx (n:Nat) (x:Ins):Bool:=sU x&&lead x n
def zJ (l:List Ins):Bool:=decide (1<=l.length)&&(decide (l.length<=200)&&(l.all (okx l.length)&&decide (l[l.length - 1]? = some QHK)))
theorem xP (n k:Int):iO (n,k)=some (idx n k):=by
 simp only [iO,za,vW,idx]
 by_cases h:(0:Int)<=n <;> simp [h]
theorem QFY (x:Ins) (n:Nat):lT (x,(n:Int))=some (lead x n):=by
 simp only [lT,xR,qy,lead,xP]
 by_cases h:x.1=22
 ·simp [h,bE]
 ·by_cases h2:x.1=23 <;> simp [h,h2,bE]
theorem QR2 {x:Ins} (h:sU x=true):(x.1=34/\x.2.1 = -1)↔x=QHK:=by
 constructor
 ·rintro ⟨h1,h2⟩
  obtain ⟨a,b,c,ho,e,ha,hb,hc,fa,fb,fc⟩:=kV h
  have e34:j4 34=[3,0,0]:=by decide +kernel
  rw [h1,e34] at e
  simp only [List.cons.injEq,and_true] at e
  obtain ⟨rfl,rfl,rfl⟩:=e
  simp [fit] at fb fc
  obtain ⟨p,q,r,s,u⟩:=x
  simp_all [QHK]
 ·rintro rfl;exact ⟨rfl,rfl⟩
theorem qX {α:Type} {p:α->Bool} {l:List α}:l.all p=true↔∀ (k:Nat) (x:α),l[k]? = some x->p x=true:=by
 rw [List.all_eq_true]
 constructor
 ·intro h k x hx;exact h x (List.mem_of_getElem? hx)
 ·intro h x hx
  obtain ⟨k,hk,rfl⟩:=List.getElem_of_mem hx
  exact h k _ (List.getElem?_eq_getElem hk)
theorem vw (l:List Ins):jW l=some (if zJ l then 0 else 8):=by
 show ug (FU (pq big) big) l=_
 unfold ug
 by_cases h0:l.length=0
 ·have:l=[]:=List.eq_nil_of_length_eq_zero h0
  subst this
  rfl
 by_cases h1:200 < l.length
 ·have e1:((l.length:Int)==0)=false:=by rw [bE];exact decide_eq_false (by omega)
  have e2:decide ((l.length:Int) > 200)=true:=decide_eq_true (by omega)
  rw [e1,e2,cond_false,cond_true]
  simp [zJ,show ¬ l.length<=200 by omega]
 have e1:((l.length:Int)==0)=false:=by rw [bE];exact decide_eq_false (by omega)
 have e2:decide ((l.length:Int) > 200)=false:=decide_eq_false (by omega)
 rw [e1,e2,cond_false,cond_false]
 refine Pp (σ:=Unit) (g:=pq big) (n:=l.length) (fun _ i=>(l,l,(l.length:Int),(i:Int))) (fun i _=>∀ k x,k < i->l[k]? = some x->okx l.length x=true) (fun r=>r=some (if zJ l then 0 else 8)) ?_ ?_ l.length 0 big (by simp) (Xo (by have:=Vx;omega)) () (fun k x hk=>by omega)
 ·intro self _ hI
  show iY self (l,l,(l.length:Int),(l.length:Int))=_
  unfold iY
  dsimp only
  rw [decide_eq_false (by omega),cond_false,w64 (by omega) (by omega)]
  have hlt:l.length - 1 < l.length:=by omega
  have hx:l[l.length - 1]? = some l[l.length - 1]:=List.getElem?_eq_getElem hlt
  rw [show ((l.length:Int) - 1)=((l.length - 1:Nat):Int) by omega,kG hx,Option.bind_some]
  have hall:l.all (okx l.length)=true:=qX.2 fun k x hk=>hI k x (List.getElem?_eq_some_iff.1 hk).1 hk
  have hok:sU l[l.length - 1]=true:=by
   have:=hI _ _ hlt hx
   simp only [okx,Bool.and_eq_true] at this
   exact this.1
  have hend:=QR2 hok
  generalize l[l.length - 1]=x at hx hok hend
  simp only [zJ,hall,hx,Bool.true_and]
  rw [decide_eq_true (show 1<=l.length by omega),decide_eq_true (show l.length<=200 by omega)]
  simp only [Bool.true_and,decide_eq_true_eq,Option.some.injEq]
  by_cases a:x.1=34
  ·by_cases b:x.2.1 = -1
   ·rw [if_pos (hend.1 ⟨a,b⟩)];simp [a,b]
   ·rw [if_neg fun e=>b (hend.2 e).2];simp [a,b,bne,bE]
  ·rw [if_neg fun e=>a (hend.2 e).1];simp [a,bne,bE]
 ·intro self _ i hi hI
  have hx:l[i]? = some l[i]:=List.getElem?_eq_getElem hi
  show (∃ s',_/\iY self (l,l,(l.length:Int),(i:Int))=_)∨iY self (l,l,(l.length:Int),(i:Int))=_
  unfold iY
  dsimp only
  rw [decide_eq_true (by omega),cond_true,kG hx,Option.bind_some,wB,Option.bind_some,QFY]
  have hbad:okx l.length l[i]=false->zJ l=false:=fun hb=>by
   have:l.all (okx l.length)=false:=by
    cases ha:l.all (okx l.length) with
    | false=>rfl
    | true=>rw [qX.1 ha i _ hx] at hb;cases hb
   simp [zJ,this]
  cases ho:sU l[i] with
  | false=>
   right
   rw [hbad (by simp [okx,ho])]
   rfl
  | true=>
   cases hl:lead l[i] l.length with
   | false=>
    right
    rw [hbad (by simp [okx,hl])]
    rfl
   | true=>
    left
    refine ⟨(),fun k x hk hx'=>?_,?_⟩
    ·by_cases e:k=i
     ·subst e
      rw [hx] at hx'
      cases hx'
      simp [okx,ho,hl]
     ·exact hI k x (by omega) hx'
    ·simp only [if_true,Option.bind_some,Bool.not_true,cond_false]
     rw [w64 (by omega) (by omega)]
     rfl
theorem QP7 {n:Int} (h:fit 10 n=true):0<=n:=by simp [fit,idx] at h;omega
theorem QHU {x:Ins} (h:sU x=true) (e:x.1=22):0<=x.2.1:=by
 obtain ⟨a,b,c,ho,er,ha,hb,hc,fa,fb,fc⟩:=kV h
 have e22:j4 22=[10,0,0]:=by decide +kernel
 rw [e,e22] at er
 simp only [List.cons.injEq,and_true] at er
 obtain ⟨rfl,rfl,rfl⟩:=er
 exact QP7 fa
theorem QCv {x:Ins} (h:sU x=true) (e:x.1=23):0<=x.2.2.1:=by
 obtain ⟨a,b,c,ho,er,ha,hb,hc,fa,fb,fc⟩:=kV h
 have e23:j4 23=[1,10,0]:=by decide +kernel
 rw [e,e23] at er
 simp only [List.cons.injEq,and_true] at er
 obtain ⟨rfl,rfl,rfl⟩:=er
 exact QP7 fb
theorem QNI {x:Ins} (h:sU x=true) (n:Nat):lead x n=if x.1=22 then decide (x.2.1 < n) else if x.1=23 then decide (x.2.2.1 < n) else true:=by
 unfold lead idx
 by_cases e:x.1=22
 ·simp [e,QHU h e]
 ·by_cases e2:x.1=23
  ·simp [e,e2,QCv h e2]
  ·simp [e,e2]
def bh (x:Ins) (i:Nat):List Nat:=
 if x.1=22 then [x.2.1.toNat] else if x.1=23 then (if x.2.2.1=(i:Int)+1 then [i+1] else [min (i+1) x.2.2.1.toNat,max (i+1) x.2.2.1.toNat]) else if x.1=34∨x.1=28∨x.1=30 then [] else [i+1]
def G (l:List Ins) (i:Nat):List Nat:=match l[i]? with
 | some x=>bh x i
 | none=>[]
abbrev ints (l:List Nat):List Int:=l.map fun (k:Nat)=>(k:Int)
theorem bT {l:List Ins} (h:zJ l=true):1<=l.length/\l.length<=200/\(∀ (k:Nat) (x:Ins),l[k]? = some x->sU x=true/\lead x l.length=true)/\l[l.length - 1]? = some QHK:=by
 simp only [zJ,Bool.and_eq_true,decide_eq_true_eq] at h
 refine ⟨h.1,h.2.1,fun k x hx=>?_,h.2.2.2⟩
 have:=qX.1 h.2.2.1 k x hx
 simpa only [okx,Bool.and_eq_true] using this
theorem QJC {l:List Ins} (h:zJ l=true) {i j:Nat} (hi:i < l.length) (hj:j∈G l i):j < l.length:=by
 obtain ⟨h1,h2,h3,h4⟩:=bT h
 have hx:l[i]? = some l[i]:=List.getElem?_eq_getElem hi
 obtain ⟨ho,hl⟩:=h3 i _ hx
 rw [QNI ho] at hl
 simp only [G,hx,bh] at hj
 have hlast:i=l.length - 1->l[i]=QHK:=fun e=>by
  have:some l[i]=some QHK:=by rw [← hx,e];exact h4
  exact Option.some.inj this
 by_cases e:i=l.length - 1
 ·rw [hlast e] at hj
  simp [QHK] at hj
 ·by_cases a:l[i].1=22
  ·simp [a] at hj hl
   have:=QHU ho a
   omega
  ·by_cases b:l[i].1=23
   ·have hB:=QCv ho b
    simp only [a,b,if_false,if_true,show ¬ (23:Int)=22 by decide,decide_eq_true_eq] at hj hl
    split at hj <;> simp at hj <;> omega
   ·simp only [a,b,if_false] at hj
    split at hj <;> simp at hj
    omega
theorem QL6 (a b:Int):FU (Zz (fun _=>List.replicate) big) big (1,[a,b])=some (if b=a then [a] else [a,b]):=by
 have key:∀ N M,N=(N - 1)+1->M=(M - 2)+1+1->FU (Zz (fun _=>List.replicate) N) M (1,[a,b])=some (if b=a then [a] else [a,b]):=by
  intro N M hN hM
  rw [hM,Vh]
  show jh (fun _=>List.replicate) (FU (nO (fun _=>List.replicate) N (FU (Zz (fun _=>List.replicate) N) (M - 2+1))) N) (FU (Zz (fun _=>List.replicate) N) (M - 2+1)) (1,[a,b])=_
  generalize hl:FU (nO (fun _=>List.replicate) N (FU (Zz (fun _=>List.replicate) N) (M - 2+1))) N=Zv
  have h1:Zv (1,1,2,1,[a,b])=some [a]:=by
   rw [← hl,hN,Vh]
   show tO (fun _=>List.replicate) _ _ (1,1,2,1,[a,b])=_
   unfold tO
   rfl
  have h2:FU (Zz (fun _=>List.replicate) N) (M - 2+1) (2,[a,b])=some [a,b]:=by
   rw [Vh]
   show jh (fun _=>List.replicate) _ _ (2,[a,b])=_
   unfold jh
   rfl
  show (bif b==a then Zv (1,1,2,1,[a,b]) else FU (Zz (fun _=>List.replicate) N) (M - 2+1) (2,[a,b]))=_
  rw [h1,h2,bE]
  by_cases e:b=a <;> simp [e]
 exact key big big XO QVB
theorem yw {l:List Ins} (h:zJ l=true) {i:Nat} (hi:i < l.length):j6 (l,(i:Int))=some (ints (G l i)):=by
 obtain ⟨h1,h2,h3,h4⟩:=bT h
 have hx:l[i]? = some l[i]:=List.getElem?_eq_getElem hi
 obtain ⟨ho,_⟩:=h3 i _ hx
 show rU (fun _=>List.replicate) (FU (Zz (fun _=>List.replicate) big) big) (l,(i:Int))=_
 unfold rU
 dsimp only
 rw [kG hx,Option.bind_some]
 simp only [G,hx,bh]
 have hw:IntKind.i64.wrap ((i:Int)+1)=(i:Int)+1:=w64 (by omega) (by omega)
 rw [hw]
 have hA:=QHU ho
 have hB:=QCv ho
 generalize l[i]=x at *
 by_cases a:x.1=22
 ·have:=hA a
  simp [a,ints]
  omega
 by_cases b:x.1=23
 ·have hB:=hB b
  simp only [a,b,if_false,if_true,bE,decide_true,decide_false,cond_true,cond_false,show ¬ (23:Int)=22 by decide]
  rw [show decide ((List.length ([if x.2.2.1 < (i:Int)+1 then x.2.2.1 else (i:Int)+1,if x.2.2.1 > (i:Int)+1 then x.2.2.1 else (i:Int)+1]:List Int):Int) < 2)=false from rfl,cond_false]
  rw [QL6]
  by_cases c:x.2.2.1=(i:Int)+1
  ·rw [if_pos c,c]
   simp [ints]
  ·rw [if_neg c,if_neg (by split <;> split <;> omega)]
   simp only [ints,List.map_cons,List.map_nil,Option.some.injEq,List.cons.injEq,and_true]
   constructor
   ·split <;> omega
   ·split <;> omega
 simp only [a,b,if_false,bE,decide_false,cond_false]
 by_cases c:x.1=34
 ·simp [c]
 by_cases d:x.1=28
 ·simp [c,d]
 by_cases e:x.1=30
 ·simp [c,d,e]
 simp [c,d,e,ints]
end Go.Proofs.YtbgmjjplddddnaaGreatDoor.F
set_option linter.unusedVariables false
set_option linter.unusedSimpArgs false
set_option maxRecDepth 100000
namespace Go.Proofs.YtbgmjjplddddnaaGreatDoor.F
open Go.Lift
theorem uG {V α:Type} {g:(V->Option α)->V->Option α} (I:V->Prop) (μ:V->Nat) (Post:Option α->Prop) (h:∀ self v,I v->(∀ v',I v'->μ v' < μ v->Post (self v'))->Post (g self v)):∀ N v,I v->μ v < N->Post (FU g N v)
 | 0,v,_,hm=>by omega
 | n+1,v,hI,hm=>h (FU g n) v hI fun v' h1 h2=>uG I μ Post h n v' h1 (by omega)
inductive Rc (g:Nat->List Nat):Nat->Prop
 | zero:Rc g 0
 | step {i j:Nat}:Rc g i->j∈g i->Rc g j
open Classical in
noncomputable def QA4 (l:List Ins):List Bool:=(List.range l.length).map fun i=>decide (Rc (G l) i)
theorem oK (l:List Ins):(QA4 l).length=l.length:=by simp [QA4]
theorem QFZ {l:List Ins} {i:Nat} (h:i < l.length):(QA4 l)[i]? = some true↔Rc (G l) i:=by
 simp [QA4,h]
theorem QHW {l:List Ins} {i:Nat} (h:i < l.length):(QA4 l)[i]? = some false↔¬ Rc (G l) i:=by
 simp [QA4,h]
theorem QNJ {l:List Ins} {x:List Bool} (hl:x.length=l.length) (h:∀ i,i < l.length->(x[i]? = some true↔Rc (G l) i)):x=QA4 l:=by
 apply List.ext_getElem?
 intro i
 by_cases hi:i < l.length
 ·have h1:=h i hi
  have h2:=QFZ hi
  have hx:x[i]? = some x[i]:=List.getElem?_eq_getElem (by omega)
  have hy:(QA4 l)[i]? = some ((QA4 l)[i]'(by rw [oK];exact hi)):=List.getElem?_eq_getElem (by rw [oK];exact hi)
  rw [hx] at h1
  rw [hy] at h2
  rw [hx,hy]
  generalize x[i]=a at *
  generalize (QA4 l)[i]'(by rw [oK];exact hi)=b at *
  cases a <;> cases b <;> simp_all
 ·rw [List.getElem?_eq_none (by omega),List.getElem?_eq_none (by rw [oK];omega)]
theorem Rc.lt {l:List Ins} (h:zJ l=true) {i:Nat} (hi:Rc (G l) i):i < l.length:=by
 induction hi with
 | zero=>exact (bT h).1
 | step _ hj ih=>exact QJC h ih hj
theorem pI:∀ {m:List Bool} {j:Nat},m[j]? = some false->(m.set j true).count false+1=m.count false
 | [],j,h=>by simp at h
 | a::m,0,h=>by simp at h;subst h;simp
 | a::m,j+1,h=>by
  have:=pI (m:=m) (j:=j) (by simpa using h)
  simp only [List.set_cons_succ,List.count_cons]
  omega
theorem bA {α:Type} {m:List α} {i j:Nat} {a:α} (h:j < m.length):(m.set j a)[i]? = if i=j then some a else m[i]?:=by
 by_cases e:i=j
 ·subst e;simp [h]
 ·rw [if_neg e,List.getElem?_set_ne (Ne.symm e)]
theorem QAI {m:List Bool} {j:Nat} (h:j < m.length):m[j]? = some true∨m[j]? = some false:=by
 rw [List.getElem?_eq_getElem h]
 cases m[j] <;> simp
structure M0 (g:Nat->List Nat) (Eg:Nat->Nat->Prop) (K:Nat->Prop) (met:List Bool) (pend:List Nat) (cur:Option (Nat×Nat)):Prop where
 m0:met[0]? = some true
 rc:∀ i,met[i]? = some true->Rc g i
 pm:∀ i∈pend,met[i]? = some true
 kn:∀ i,met[i]? = some true->K i
 cl:∀ i,met[i]? = some true->i∈pend∨(∀ j∈g i,met[j]? = some true/\Eg i j)∨∃ k,cur=some (i,k)
 cf:∀ f k,cur=some (f,k)->met[f]? = some true/\∀ j∈(g f).take k,met[j]? = some true/\Eg f j
section
variable {g:Nat->List Nat} {Eg Eg':Nat->Nat->Prop} {K K':Nat->Prop} {met:List Bool} {pend:List Nat} {cur:Option (Nat×Nat)} {f k j:Nat}
theorem M0.pop (h:M0 g Eg K met (pend++[f]) none):M0 g Eg K met pend (some (f,0)) where
 m0:=h.m0
 rc:=h.rc
 pm:=fun i hi=>h.pm i (by simp [hi])
 kn:=h.kn
 cl:=fun i hi=>by
  rcases h.cl i hi with h1 | h1 | ⟨k,h1⟩
  ·rcases List.mem_append.1 h1 with h1 | h1
   ·exact .inl h1
   ·simp at h1;subst h1;exact .inr (.inr ⟨0,rfl⟩)
  ·exact .inr (.inl h1)
  ·cases h1
 cf:=fun f' k' e=>by
  cases e
  exact ⟨h.pm f (by simp),by simp⟩
theorem M0.fin (h:M0 g Eg K met pend (some (f,(g f).length))):M0 g Eg K met pend none where
 m0:=h.m0
 rc:=h.rc
 pm:=h.pm
 kn:=h.kn
 cl:=fun i hi=>by
  rcases h.cl i hi with h1 | h1 | ⟨k,h1⟩
  ·exact .inl h1
  ·exact .inr (.inl h1)
  ·cases h1
   have:=(h.cf _ _ rfl).2
   rw [List.take_length] at this
   exact .inr (.inl this)
 cf:=fun f' k' e=>by cases e
theorem QGs {α:Type} {l:List α} {k:Nat} {j a:α} (hj:l[k]? = some j) (h:a∈l.take (k+1)):a∈l.take k∨a=j:=by
 obtain ⟨hk,e⟩:=List.getElem?_eq_some_iff.1 hj
 rw [List.take_add_one,hj] at h
 rcases List.mem_append.1 h with h | h
 ·exact .inl h
 ·simp at h;exact .inr h
theorem M0.old (h:M0 g Eg K met pend (some (f,k))) (hj:(g f)[k]? = some j) (hE:∀ a b,Eg a b->Eg' a b) (hK:∀ a,K a->K' a) (hEj:Eg' f j) (hm:met[j]? = some true):M0 g Eg' K' met pend (some (f,k+1)) where
 m0:=h.m0
 rc:=h.rc
 pm:=h.pm
 kn:=fun i hi=>hK i (h.kn i hi)
 cl:=fun i hi=>by
  rcases h.cl i hi with h1 | h1 | ⟨k',h1⟩
  ·exact .inl h1
  ·exact .inr (.inl fun b hb=>⟨(h1 b hb).1,hE _ _ (h1 b hb).2⟩)
  ·cases h1;exact .inr (.inr ⟨_,rfl⟩)
 cf:=fun f' k' e=>by
  cases e
  refine ⟨(h.cf _ _ rfl).1,fun a ha=>?_⟩
  rcases QGs hj ha with h1 | rfl
  ·have:=(h.cf _ _ rfl).2 a h1
   exact ⟨this.1,hE _ _ this.2⟩
  ·exact ⟨hm,hEj⟩
theorem M0.new (h:M0 g Eg K met pend (some (f,k))) (hj:(g f)[k]? = some j) (hE:∀ a b,Eg a b->Eg' a b) (hK:∀ a,K a->K' a) (hEj:Eg' f j) (hKj:K' j) (hm:met[j]? = some false):M0 g Eg' K' (met.set j true) (pend++[j]) (some (f,k+1)):=by
 have hlt:j < met.length:=(List.getElem?_eq_some_iff.1 hm).1
 have up:∀ i,met[i]? = some true->(met.set j true)[i]? = some true:=fun i hi=>by
  rw [bA hlt]
  split
  ·rfl
  ·exact hi
 have dn:∀ i,(met.set j true)[i]? = some true->i=j∨met[i]? = some true:=fun i hi=>by
  rw [bA hlt] at hi
  split at hi
  ·rename_i e;exact .inl e
  ·exact .inr hi
 have hjm:j∈g f:=List.mem_of_getElem? hj
 have hf:=(h.cf _ _ rfl).1
 exact {
  m0:=up 0 h.m0
  rc:=fun i hi=>(dn i hi).elim (fun e=>e ▸ .step (h.rc f hf) hjm) (h.rc i)
  pm:=fun i hi=>by
   rcases List.mem_append.1 hi with h1 | h1
   ·exact up i (h.pm i h1)
   ·simp at h1;subst h1;rw [bA hlt,if_pos rfl]
  kn:=fun i hi=>(dn i hi).elim (fun e=>e ▸ hKj) fun h1=>hK i (h.kn i h1)
  cl:=fun i hi=>by
   rcases dn i hi with rfl | hi
   ·exact .inl (by simp)
   ·rcases h.cl i hi with h1 | h1 | ⟨k',h1⟩
    ·exact .inl (by simp [h1])
    ·exact .inr (.inl fun b hb=>⟨up b (h1 b hb).1,hE _ _ (h1 b hb).2⟩)
    ·cases h1;exact .inr (.inr ⟨_,rfl⟩)
  cf:=fun f' k' e=>by
   cases e
   refine ⟨up _ hf,fun a ha=>?_⟩
   rcases QGs hj ha with h1 | rfl
   ·have:=(h.cf _ _ rfl).2 a h1
    exact ⟨up a this.1,hE _ _ this.2⟩
   ·exact ⟨by rw [bA hlt,if_pos rfl],hEj⟩ }
theorem M0.done (h:M0 g Eg K met [] none):∀ i,Rc g i->met[i]? = some true/\K i/\∀ j∈g i,Eg i j:=by
 have cl:∀ i,met[i]? = some true->∀ j∈g i,met[j]? = some true/\Eg i j:=fun i hi=>by
  rcases h.cl i hi with h1 | h1 | ⟨k,h1⟩
  ·cases h1
  ·exact h1
  ·cases h1
 have all:∀ i,Rc g i->met[i]? = some true:=fun i hi=>by
  induction hi with
  | zero=>exact h.m0
  | step _ hj ih=>exact (cl _ ih _ hj).1
 exact fun i hi=>⟨all i hi,h.kn i (all i hi),fun j hj=>(cl i (all i hi) j hj).2⟩
end
theorem M0.start {g:Nat->List Nat} {Eg:Nat->Nat->Prop} {K:Nat->Prop} {n:Nat} (hn:0 < n) (hK:K 0):M0 g Eg K ((List.replicate n false).set 0 true) [0] none:=by
 have dn:∀ i,((List.replicate n false).set 0 true)[i]? = some true->i=0:=fun i hi=>by
  rw [bA (by simpa using hn)] at hi
  split at hi
  ·assumption
  ·rw [List.getElem?_replicate] at hi
   split at hi <;> simp at hi
 have m0:((List.replicate n false).set 0 true)[0]? = some true:=by rw [bA (by simpa using hn),if_pos rfl]
 exact {
  m0:=m0
  rc:=fun i hi=>by rw [dn i hi];exact .zero
  pm:=fun i hi=>by simp at hi;subst hi;exact m0
  kn:=fun i hi=>by rw [dn i hi];exact hK
  cl:=fun i hi=>.inl (by rw [dn i hi];simp)
  cf:=fun f k e=>by cases e }
theorem ZR (p:List Nat):(ints p).length=p.length:=by simp [ints]
theorem wE (p:List Nat) (f:Nat):ints (p++[f])=ints p++[(f:Int)]:=by simp [ints]
theorem ints_at {p:List Nat} {k j:Nat} (h:p[k]? = some j):(ints p)[k]? = some (j:Int):=by simp [ints,h]
theorem QAD (p:List Nat) (f:Nat) (hp:p.length<=1000000):IntKind.i64.wrap ((List.length (ints (p++[f])):Int) - 1)=(p.length:Int)/\nth (ints (p++[f])) (Int.toNat (p.length:Int))=some (f:Int)/\List.take (Int.toNat (p.length:Int)) (ints (p++[f]))=ints p:=by
 refine ⟨?_,?_,?_⟩
 ·have hl:(ints (p++[f])).length=p.length+1:=by rw [ZR];simp
  rw [hl,w64 (by omega) (by omega)]
  omega
 ·rw [sP,wE,Int.toNat_natCast,← ZR p]
  simp
 ·rw [wE,Int.toNat_natCast,← ZR p]
  simp
theorem QBf {α:Type} {xs:List α} {i:Nat} {x:α} (h:xs[i]? = some x):nth xs (Int.toNat (i:Int))=some x:=by rw [sP,Int.toNat_natCast];exact h
def μ2 (met:List Bool) (p:List Nat):Nat:=2 * met.count false+p.length
theorem QLM {l:List Ins} (h:zJ l=true):y5 l=some (QA4 l):=by
 obtain ⟨h1,h2,_,_⟩:=bT h
 show zH (fun _=>List.replicate) (FU (uU (fun _=>List.replicate) big) big) l=_
 unfold zH
 have hmk:(decide ((0:Int)<=(l.length:Int))&&(decide ((l.length:Int)<=(l.length:Int))&&(decide ((l.length:Int)<=68719476736)&&true)))=true:=by simp;omega
 have hz:(decide ((0:Int)<=0)&&decide ((0:Int) < (List.length (List.replicate l.length false):Int)))=true:=by simp;omega
 simp only [hmk,hz,cond_true,Int.toNat_natCast,Int.toNat_zero]
 refine uG (g:=uU (fun _=>List.replicate) big)
  (fun v=>∃ leads met p,v=(leads,l,met,ints p)/\leads.length=l.length/\met.length=l.length/\M0 (G l) (fun _ j=>leads[j]? = some true) (fun _=>True) met p none/\leads[0]? = some true/\(∀ i,leads[i]? = some true->Rc (G l) i)/\μ2 met p<=401)
  (fun v=>2 * v.2.2.1.count false+v.2.2.2.length) (fun r=>r=some (QA4 l)) ?_ big _ ?_ ?_
 ·rintro self v ⟨leads,met,p,rfl,hl,hm,hd,hl0,hlr,hμ⟩ ih
  show uW (fun _=>List.replicate) (FU (uV (fun _=>List.replicate) big self) big) self (leads,l,met,ints p)=_
  unfold uW
  dsimp only
  rcases List.eq_nil_or_concat p with rfl | ⟨p,f,rfl⟩
  ·have hdone:=hd.done
   simp only [ints,List.map_nil,List.length_nil]
   rw [show decide (((0:Nat):Int) > 0)=false from rfl,cond_false]
   congr 1
   refine QNJ hl fun i hi=>⟨hlr i,fun hr=>?_⟩
   cases hr with
   | zero=>exact hl0
   | step hi' hj=>exact (hdone _ hi').2.2 _ hj
  ·have hp:p.length<=1000:=by simp [μ2] at hμ;omega
   simp only [List.concat_eq_append] at hd hμ ih ⊢
   obtain ⟨e1,e2,e3⟩:=QAD p f (by omega)
   have hf:f < l.length:=(hd.rc f (hd.pm f (by simp))).lt h
   rw [e1]
   rw [decide_eq_true (show (List.length (ints (p++[f])):Int) > 0 by rw [ZR,List.length_append];simp only [List.length_cons,List.length_nil];omega),cond_true]
   rw [show (decide ((0:Int)<=(p.length:Int))&&decide ((p.length:Int) < (List.length (ints (p++[f])):Int)))=true by rw [ZR];simp;omega,cond_true]
   rw [e2,Option.bind_some]
   rw [show (decide ((0:Int)<=(p.length:Int))&&decide ((p.length:Int)<=(List.length (ints (p++[f])):Int)))=true by rw [ZR];simp;omega,cond_true]
   rw [yw h hf,Option.bind_some,e3]
   have hs:(G l f).length<=2:=by
    unfold G
    split
    ·unfold bh;split <;> (try split) <;> (try split) <;> simp
    ·simp
   rw [ZR]
   refine Pp (σ:=List Bool×List Bool×List Nat) (g:=uV (fun _=>List.replicate) big self) (n:=(G l f).length) (fun s k=>((f:Int),ints (G l f),((G l f).length:Int),(k:Int),s.1,l,s.2.1,ints s.2.2))
    (fun k s=>s.1.length=l.length/\s.2.1.length=l.length/\M0 (G l) (fun _ j=>s.1[j]? = some true) (fun _=>True) s.2.1 s.2.2 (some (f,k))/\s.1[0]? = some true/\(∀ i,s.1[i]? = some true->Rc (G l) i)/\μ2 s.2.1 s.2.2+1<=μ2 met (p++[f]))
    (fun r=>r=some (QA4 l)) ?_ ?_ (G l f).length 0 big (by simp) (Xo (by have:=Vx;omega)) (leads,met,p) ⟨hl,hm,hd.pop,hl0,hlr,by simp [μ2];omega⟩
   ·rintro ZH ⟨ld,mt,q⟩ ⟨g1,g2,g3,g4,g5,g6⟩
    show qR (fun _=>List.replicate) self ZH _=_
    unfold qR
    dsimp only at g1 g2 g3 g4 g5 g6 ⊢
    rw [decide_eq_false (by omega),cond_false]
    refine ih _ ⟨ld,mt,q,rfl,g1,g2,g3.fin,g4,g5,by omega⟩ ?_
    show 2 * mt.count false+(ints q).length < 2 * met.count false+(ints (p++[f])).length
    rw [ZR,ZR]
    unfold μ2 at g6
    omega
   ·rintro ZH ⟨ld,mt,q⟩ k hk ⟨g1,g2,g3,g4,g5,g6⟩
    dsimp only at g1 g2 g3 g4 g5 g6 ⊢
    left
    have hj:(G l f)[k]? = some (G l f)[k]:=List.getElem?_eq_getElem hk
    have hjm:(G l f)[k]∈G l f:=List.getElem_mem hk
    have hjl:=QJC h hf hjm
    have hjr:Rc (G l) (G l f)[k]:=.step (hd.rc f (hd.pm f (by simp))) hjm
    generalize (G l f)[k]=j at *
    have hset:(ld.set j true)[0]? = some true/\(∀ i,(ld.set j true)[i]? = some true->Rc (G l) i)/\(∀ a b:Nat,(fun (_:Nat) (j:Nat)=>ld[j]? = some true) a b->(fun (_:Nat) (b:Nat)=>(ld.set j true)[b]? = some true) a b)/\(ld.set j true)[j]? = some true:=by
     refine ⟨?_,fun i hi=>?_,fun a b hb=>?_,?_⟩
     ·rw [bA (by omega)];split;rfl;exact g4
     ·rw [bA (by omega)] at hi;split at hi
      ·rename_i e;rw [e];exact hjr
      ·exact g5 i hi
     ·show (ld.set j true)[b]? = some true
      rw [bA (by omega)];split;rfl;exact hb
     ·rw [bA (by omega),if_pos rfl]
    obtain ⟨s1,s2,s3,s4⟩:=hset
    show ∃ s':List Bool×List Bool×List Nat,_/\qR (fun _=>List.replicate) self ZH ((f:Int),ints (G l f),((G l f).length:Int),(k:Int),ld,l,mt,ints q)=_
    unfold qR
    dsimp only
    rw [decide_eq_true (show (k:Int) < ((G l f).length:Int) by omega),cond_true,kG (ints_at hj),Option.bind_some]
    rw [show (decide ((0:Int)<=(j:Int))&&decide ((j:Int) < (ld.length:Int)))=true by simp;omega,show (decide ((0:Int)<=(j:Int))&&decide ((j:Int) < (mt.length:Int)))=true by simp;omega]
    simp only [cond_true,Int.toNat_natCast]
    rw [w64 (z:=(k:Int)+1) (by omega) (by omega),sP]
    rcases QAI (m:=mt) (j:=j) (by omega) with hb | hb
    ·refine ⟨(ld.set j true,mt,q),⟨by simp [g1],g2,g3.old hj s3 (fun _ h=>h) s4 hb,s1,s2,g6⟩,?_⟩
     rw [hb]
     rfl
    ·have hc:=pI hb
     refine ⟨(ld.set j true,mt.set j true,q++[j]),⟨by simp [g1],by simp [g2],g3.new hj s3 (fun _ h=>h) s4 trivial hb,s1,s2,?_⟩,?_⟩
     ·simp only [μ2,List.length_append,List.length_cons,List.length_nil] at g6 ⊢
      omega
     ·rw [hb]
      have hq:q.length<=1000:=by simp only [μ2] at g6 hμ;omega
      have hlim:(Nat.ble 1 1&&Nat.ble (List.length (ints q)+List.length ([(j:Int)]:List Int)) lim)=true:=by
       rw [b11,bg (by rw [ZR];simp;omega)];rfl
      simp only [Option.bind_some,Bool.not_false,cond_true,hlim]
      rw [wE]
      rfl
 ·refine ⟨_,_,[0],rfl,by simp,by simp,M0.start h1 trivial,?_,fun i hi=>?_,?_⟩
  ·rw [bA (by simp;omega),if_pos rfl]
  ·rw [bA (by simp;omega)] at hi
   split at hi
   ·rename_i e;rw [e];exact .zero
   ·rw [List.getElem?_replicate] at hi
    split at hi <;> simp at hi
  ·have:=pI (m:=List.replicate l.length false) (j:=0) (by rw [List.getElem?_replicate,if_pos (by omega)])
   rw [List.count_replicate_self] at this
   simp only [μ2,List.length_cons,List.length_nil]
   omega
 ·have:=pI (m:=List.replicate l.length false) (j:=0) (by rw [List.getElem?_replicate,if_pos (by omega)])
  rw [List.count_replicate_self] at this
  refine Xo ?_
  have:=Vx
  show 2 * ((List.replicate l.length false).set 0 true).count false+1<=maxLen
  omega
theorem QKC (l:List Ins) (i:Nat):(G l i).length<=2:=by
 unfold G
 split
 ·unfold bh;split <;> (try split) <;> (try split) <;> simp
 ·simp
theorem QAj {n:Nat} (h:n<=68719476736):(decide ((0:Int)<=(n:Int))&&(decide ((n:Int)<=(n:Int))&&(decide ((n:Int)<=68719476736)&&true)))=true:=by simp;omega
theorem start_lt {n:Nat} {a:Bool} (hn:1<=n):(decide ((0:Int)<=0)&&decide ((0:Int) < (List.length (List.replicate n a):Int)))=true:=by simp;omega
theorem QGU {i n:Nat} (h:i < n):(decide ((0:Int)<=(i:Int))&&decide ((i:Int) < (n:Int)))=true:=by simp;omega
theorem vD (n:Nat) (h:1<=n):((List.replicate n false).set 0 true).count false+1=n:=by
 have:=pI (m:=List.replicate n false) (j:=0) (by rw [List.getElem?_replicate,if_pos (by omega)])
 rwa [List.count_replicate_self] at this
theorem QLg {n i:Nat} (h:1<=n) (hi:((List.replicate n false).set 0 true)[i]? = some true):i=0:=by
 rw [bA (by simp;omega)] at hi
 split at hi
 ·assumption
 ·rw [List.getElem?_replicate] at hi
  split at hi <;> simp at hi
noncomputable def vZ (l:List Ins):List Bool:=(QA4 l).set (l.length - 1) true
theorem QHV {n:Nat} (h1:1<=n) (h2:n<=1000000):IntKind.i64.wrap ((n:Int) - 1)=((n - 1:Nat):Int):=by rw [w64 (by omega) (by omega)];omega
theorem QMT (l:List Ins) (i:Int):z8 (l,i)=some (if zJ l=true then (if 0<=i/\i < l.length then (ints (G l i.toNat),0) else ([],2)) else ([],8)):=by
 show xH (l,i)=_
 unfold xH
 rw [vw,Option.bind_some]
 by_cases h:zJ l=true
 ·rw [if_pos h,if_pos h]
  dsimp only
  rw [xP,show ((0:Int) != 0)=false from rfl,cond_false,Option.bind_some]
  by_cases hi:0<=i/\i < l.length
  ·have e:i=((i.toNat:Nat):Int):=by omega
   rw [if_pos hi,show idx i (l.length:Int)=true by simp [idx];omega]
   simp only [Bool.not_true,cond_false]
   have:=yw h (i:=i.toNat) (by omega)
   rw [← e] at this
   rw [this]
   rfl
  ·rw [if_neg hi,show idx i (l.length:Int)=false by simp [idx];omega]
   rfl
 ·rw [if_neg h,if_neg h]
  rfl
theorem QH7 (l:List Ins):vG l=some (if zJ l=true then (vZ l,0) else ([],8)):=by
 show qF l=_
 unfold qF
 rw [vw,Option.bind_some]
 by_cases h:zJ l=true
 ·obtain ⟨h1,h2,_,_⟩:=bT h
  rw [if_pos h,if_pos h,show ((0:Int) != 0)=false from rfl,cond_false,QLM h,Option.bind_some]
  simp only [QHV h1 (by omega),oK]
  rw [QGU (show l.length - 1 < l.length by omega),cond_true,Int.toNat_natCast]
  rfl
 ·rw [if_neg h,if_neg h]
  rfl
theorem QAB (l:List Ins):(vZ l).length=l.length:=by simp [vZ,oK]
theorem QJe {l:List Ins} (h:zJ l=true) {i:Nat} (hi:i < l.length):(vZ l)[i]? = some true↔Rc (G l) i∨i=l.length - 1:=by
 obtain ⟨h1,_⟩:=bT h
 unfold vZ
 rw [bA (by rw [oK];omega)]
 split
 ·rename_i e;simp [e]
 ·rename_i e;rw [QFZ hi];simp [e]
def TT (a b:Nat):Prop:=∀ t,a.testBit t=true->b.testBit t=true
def diff (a b:Nat):Nat:=a ^^^ (a &&& b)
theorem QEF {a b:Nat}:diff a b=0↔TT a b:=by
 unfold diff TT
 constructor
 ·intro h t ht
  have:=congrArg (fun z=>z.testBit t) h
  simp [ht] at this
  exact this
 ·intro h
  apply Nat.eq_of_testBit_eq
  intro t
  have:=h t
  cases hh:a.testBit t <;> simp_all
theorem TT.refl (a:Nat):TT a a:=fun _ h=>h
theorem TT.trans {a b c:Nat} (h:TT a b) (h':TT b c):TT a c:=fun t ht=>h' t (h t ht)
theorem TT.and {a b c:Nat} (h:TT a b) (h':TT a c):TT a (b &&& c):=fun t ht=>by simp [h t ht,h' t ht]
theorem TT.and_left (a b:Nat):TT (a &&& b) a:=fun t ht=>by simp at ht;exact ht.1
theorem TT.and_right (a b:Nat):TT (a &&& b) b:=fun t ht=>by simp at ht;exact ht.2
theorem TT.or {a b c:Nat} (h:TT a b):TT (a ||| c) (b ||| c):=fun t ht=>by simp at ht ⊢;exact ht.imp (h t) id
theorem TT.antisymm {a b:Nat} (h:TT a b) (h':TT b a):a=b:=Nat.eq_of_testBit_eq fun t=>by
 have h1:=h t
 have h2:=h' t
 cases ha:a.testBit t <;> cases hb:b.testBit t <;> simp_all
theorem TT.zero (a:Nat):TT 0 a:=fun t ht=>by simp at ht
theorem TT.and_eq {a b:Nat} (h:TT a b):a &&& b=a:=TT.antisymm (.and_left _ _) ((TT.refl a).and h)
theorem TT.le {a b:Nat} (h:TT a b):a<=b:=by
 have:=h.and_eq
 rw [← this]
 exact Nat.and_le_right
theorem QEd {a:Nat} (h:a < 65536):a < 2 ^ IntKind.u64.bits:=Nat.lt_trans h (by decide)
theorem QWS {a b:Nat} (ha:a < 65536) (hb:b < 65536):a ||| b < 65536:=Nat.or_lt_two_pow (n:=16) ha hb
theorem QV8 {a b:Nat} (ha:a < 65536):a &&& b < 65536:=Nat.lt_of_le_of_lt Nat.and_le_left ha
theorem bor {a b:Nat} (ha:a < 65536) (hb:b < 65536):bits .or .u64 (a:Int) (b:Int)=((a ||| b:Nat):Int):=XP rfl (QEd ha) (QEd hb)
theorem QVA {a b:Nat} (ha:a < 65536) (hb:b < 65536):bits .and .u64 (a:Int) (b:Int)=((a &&& b:Nat):Int):=WH rfl (QEd ha) (QEd hb)
theorem QMa {a b:Nat} (ha:a < 65536) (hb:b < 18446744073709551616):bits .andNot .u64 (a:Int) (b:Int)=((diff a b:Nat):Int):=by
 refine Go.Lift.bits_nat rfl (f:=fun a b=>diff a b) ?_ (QEd (Nat.xor_lt_two_pow (n:=16) ha (QV8 ha)))
 simp only [bits]
 congr 2
 apply Nat.eq_of_testBit_eq
 intro t
 rw [BitVec.testBit_toNat]
 simp only [BitVec.ofInt_natCast,BitVec.getLsbD_and,BitVec.getLsbD_not,BitVec.getLsbD_ofNat,diff,Nat.testBit_xor,Nat.testBit_and]
 by_cases h:t < IntKind.u64.bits
 ·simp only [h,decide_true,Bool.true_and]
  cases a.testBit t <;> cases b.testBit t <;> rfl
 ·have:a.testBit t=false:=Nat.testBit_lt_two_pow (Nat.lt_of_lt_of_le (QEd ha) (Nat.pow_le_pow_right (by decide) (by omega)))
  simp [this,h]
theorem QRA {s:Int} (h0:0<=s) (h1:s<=16):IntKind.u64.wrap ((1:Int) * 2 ^ (min (Int.toNat s) 64))=((2 ^ s.toNat:Nat):Int):=by
 rw [show min (Int.toNat s) 64=s.toNat by omega,Int.one_mul,wrap_u64]
 have h2:2 ^ s.toNat<=2 ^ 16:=Nat.pow_le_pow_right (by decide) (by omega)
 have e:((2:Int) ^ s.toNat)=((2 ^ s.toNat:Nat):Int):=by simp
 rw [e]
 generalize 2 ^ s.toNat=m at *
 omega
def mk1 (m:Nat) (s:Int):Nat:=m ||| 2 ^ s.toNat
def maskN (ws:List Int):Nat:=ws.foldl mk1 0
def rS (x:Ins):List Int:=rsL (j4 x.1) (vals x)
def wS (x:Ins):List Int:=wsL (j4 x.1) (vals x)
def Slo (l:List Int):Prop:=∀ v∈l,0<=v/\v<=15
theorem QFo {x:Ins} (h:sU x=true):Slo (rS x)/\Slo (wS x)/\(rS x).length<=3/\(wS x).length<=3:=by
 obtain ⟨h1,h2,h3⟩:=QJi h
 refine ⟨fun v hv=>?_,fun v hv=>?_,?_,?_⟩
 ·have:=h3 v (List.mem_append.2 (.inl hv));exact ⟨this.1,this.2.1⟩
 ·have:=h3 v (List.mem_append.2 (.inr hv));exact ⟨this.1,this.2.1⟩
 ·unfold rS;omega
 ·unfold wS;omega
theorem QLW {s:Int} (h0:0<=s) (h1:s<=15):2 ^ s.toNat < 65536:=Nat.lt_of_le_of_lt (Nat.pow_le_pow_right (by decide) (show s.toNat<=15 by omega)) (by decide)
theorem QHP:∀ {l:List Int} {m:Nat},Slo l->m < 65536->l.foldl mk1 m < 65536
 | [],_,_,h=>h
 | v::l,m,hs,h=>QHP (l:=l) (fun u hu=>hs u (by simp [hu])) (QWS h (QLW (hs v (by simp)).1 (hs v (by simp)).2))
theorem QJl {l:List Int} {i:Nat} {m:Nat} (h:i < l.length):(l.take (i+1)).foldl mk1 m=mk1 ((l.take i).foldl mk1 m) l[i]:=by
 rw [List.take_add_one,List.getElem?_eq_getElem h]
 simp only [Option.toList_some,List.foldl_append,List.foldl_cons,List.foldl_nil]
theorem QJU (ws:List Int) (hs:Slo ws) (hl:ws.length<=100):wP ws=some ((maskN ws:Nat):Int):=by
 show rV (FU (nP big) big) ws=_
 unfold rV
 refine Pp (σ:=Nat) (g:=nP big) (n:=ws.length) (fun s i=>((s:Int),ws,(ws.length:Int),(i:Int))) (fun i s=>s=(ws.take i).foldl mk1 0) (fun r=>r=some ((maskN ws:Nat):Int)) ?_ ?_ ws.length 0 big (by simp) (Xo (by have:=Vx;omega)) 0 rfl
 ·rintro self s rfl
  show ji self _=_
  unfold ji
  dsimp only
  rw [decide_eq_false (by omega),cond_false,List.take_length]
  rfl
 ·rintro self s i hi rfl
  left
  refine ⟨_,rfl,?_⟩
  have hv:=hs ws[i] (List.getElem_mem hi)
  have h16:(ws.take i).foldl mk1 0 < 65536:=QHP (fun u hu=>hs u (List.mem_of_mem_take hu)) (by decide)
  show ji self _=_
  unfold ji
  dsimp only
  rw [decide_eq_true (by omega),cond_true,kG (List.getElem?_eq_getElem hi),Option.bind_some,decide_eq_false (by omega),cond_false,QRA hv.1 (by omega),bor h16 (QLW hv.1 hv.2),w64 (by omega) (by omega),QJl hi]
  rfl
theorem QGP {n:Int} (h0:0<=n) (h1:n<=16):kC n=some ((2 ^ n.toNat - 1:Nat):Int):=by
 show kQ n=_
 unfold kQ
 have hp:1<=2 ^ n.toNat:=Nat.one_le_two_pow
 have h2:2 ^ n.toNat<=2 ^ 16:=Nat.pow_le_pow_right (by decide) (by omega)
 rw [decide_eq_false (by omega),cond_false,QRA h0 h1]
 dsimp only
 rw [wrap_u64]
 congr 1
 omega
theorem QIn {n:Int} (h1:n<=16):2 ^ n.toNat - 1 < 65536:=by
 have h2:2 ^ n.toNat<=2 ^ 16:=Nat.pow_le_pow_right (by decide) (by omega)
 omega
theorem QJT {n:Int} {t:Nat}:(2 ^ n.toNat - 1).testBit t=decide (t < n.toNat):=Nat.testBit_two_pow_sub_one _ _
theorem QLL {m n:Int} (h:m<=n):TT (2 ^ m.toNat - 1) (2 ^ n.toNat - 1):=fun t ht=>by
 rw [QJT] at ht ⊢
 simp at ht ⊢
 omega
def QDr (n:Int) (x:Ins):Bool:=(rS x).all (fun v=>decide (v < n))&&(wS x).all (fun v=>decide (v < n))
def QAQ (l:List Ins) (p s:Int):Int:=if s < 0∨s > 16∨p < 0∨p > s then 2 else if l.all (QDr s) then 0 else 16
theorem QGD (a:List Int) (n:Int) (h:a.length<=100):uM (a,n)=some (a.all fun v=>decide (v < n)):=by
 show uj (FU (pz big) big) (a,n)=_
 unfold uj
 dsimp only
 refine Pp (σ:=Unit) (g:=pz big) (n:=a.length) (fun _ i=>(a,(a.length:Int),(i:Int),n)) (fun i _=>∀ k v,k < i->a[k]? = some v->v < n) (fun r=>r=some (a.all fun v=>decide (v < n))) ?_ ?_ a.length 0 big (by simp) (Xo (by have:=Vx;omega)) () (fun k v hk=>absurd hk (Nat.not_lt_zero _))
 ·intro self _ hI
  show iZ self _=_
  unfold iZ
  dsimp only
  rw [decide_eq_false (by omega),cond_false]
  rw [show (a.all fun v=>decide (v < n))=true from qX.2 fun k v hk=>decide_eq_true (hI k v (List.getElem?_eq_some_iff.1 hk).1 hk)]
  rfl
 ·intro self _ i hi hI
  have hx:a[i]? = some a[i]:=List.getElem?_eq_getElem hi
  show (∃ s',_/\iZ self (a,(a.length:Int),(i:Int),n)=_)∨iZ self (a,(a.length:Int),(i:Int),n)=_
  unfold iZ
  dsimp only
  rw [decide_eq_true (by omega),cond_true,kG hx,Option.bind_some,w64 (by omega) (by omega)]
  by_cases e:a[i] < n
  ·left
   refine ⟨(),fun k v hk h3=>?_,by rw [decide_eq_false (by omega)];rfl⟩
   by_cases e2:k=i
   ·subst e2
    rw [hx] at h3
    cases h3
    exact e
   ·exact hI k v (by omega) h3
  ·right
   rw [decide_eq_true (by omega),cond_true,decide_eq_true (by omega)]
   have:(a.all fun v=>decide (v < n))=false:=by
    cases hh:a.all fun v=>decide (v < n) with
    | false=>rfl
    | true=>exact absurd (of_decide_eq_true (qX.1 hh i _ hx)) e
   rw [this]
   rfl
end Go.Proofs.YtbgmjjplddddnaaGreatDoor.F
set_option linter.unusedVariables false
set_option linter.unusedSimpArgs false
set_option maxRecDepth 100000
namespace Go.Proofs.YtbgmjjplddddnaaGreatDoor.F
open Go.Lift
def ma (ms:List Nat) (i:Nat):Nat:=ms.getD i 0
theorem qw {ms:List Nat} {i j v:Nat} (h:j < ms.length):ma (ms.set j v) i=if i=j then v else ma ms i:=by
 unfold ma
 rw [List.getD_eq_getElem?_getD,bA h]
 split <;> simp [List.getD_eq_getElem?_getD]
theorem QDJ {ms:List Nat} {i:Nat} (h:i < ms.length):ms[i]? = some (ma ms i):=getD_at h 0
theorem QPB {ms:List Nat} {i:Nat} (h:i < ms.length):nth (ints ms) (Int.toNat (i:Int))=some ((ma ms i:Nat):Int):=QBf (ints_at (QDJ h))
theorem QIo {ms:List Nat} {i:Nat} (h:i < ms.length):Mh (ints ms) (i:Int)=some ((ma ms i:Nat):Int):=kG (ints_at (QDJ h))
theorem ints_set (ms:List Nat) (j v:Nat):(ints ms).set j ((v:Nat):Int)=ints (ms.set j v):=by simp [ints,List.map_set]
theorem QNK {ms:List Nat} {j:Nat} (h:j < ms.length):ms.set j (ma ms j)=ms:=by
 apply List.ext_getElem?
 intro i
 rw [bA h]
 split
 ·rename_i e;subst e;rw [QDJ h]
 ·rfl
theorem QLR {a b:List Nat} (hl:a.length=b.length) (h:∀ i,i < a.length->ma a i=ma b i):a=b:=by
 apply List.ext_getElem?
 intro i
 by_cases hi:i < a.length
 ·rw [QDJ hi,QDJ (by omega),h i hi]
 ·rw [List.getElem?_eq_none (by omega),List.getElem?_eq_none (by omega)]
theorem QIu:∀ {ms:List Nat} {j v:Nat},j < ms.length->(ms.set j v).sum+ma ms j=ms.sum+v
 | [],j,v,h=>by simp at h
 | a::ms,0,v,h=>by simp [ma];omega
 | a::ms,j+1,v,h=>by
  have:=QIu (ms:=ms) (j:=j) (v:=v) (by simpa using h)
  have e:ma (a::ms) (j+1)=ma ms j:=by simp [ma]
  rw [e,List.set_cons_succ,List.sum_cons,List.sum_cons]
  omega
theorem QLh {c:Nat}:∀ {ms:List Nat},(∀ i,i < ms.length->ma ms i<=c)->ms.sum<=ms.length * c
 | [],_=>by simp
 | a::ms,h=>by
  have h0:=h 0 (by simp)
  have:=QLh (ms:=ms) fun i hi=>by
   have:=h (i+1) (by simpa using hi)
   simpa [ma] using this
  simp only [List.sum_cons,List.length_cons,Nat.succ_mul]
  simp [ma] at h0
  omega
structure Sol (g:Nat->List Nat) (W:Nat->Nat) (P A:Nat) (x:Nat->Nat):Prop where
 p:TT (x 0) P
 a:∀ i,Rc g i->TT (x i) A
 e:∀ i j,Rc g i->j∈g i->TT (x j) (x i ||| W i)
def IsG (g:Nat->List Nat) (W:Nat->Nat) (P A:Nat) (m:Nat->Nat):Prop:=Sol g W P A m/\∀ x,Sol g W P A x->∀ i,Rc g i->TT (x i) (m i)
structure RV (g:Nat->List Nat) (W:Nat->Nat) (P A n:Nat) (ms:List Nat):Prop where
 len:ms.length=n
 up:∀ i,i < n->TT (ma ms i) A
 p0:TT (ma ms 0) P
 gr:∀ x,Sol g W P A x->∀ i,Rc g i->TT (x i) (ma ms i)
def EgM (W:Nat->Nat) (ms:List Nat) (ch:Bool) (i j:Nat):Prop:=ch=true∨TT (ma ms j) (ma ms i ||| W i)
abbrev nw (W:Nat->Nat) (ms:List Nat) (f j:Nat):Nat:=ma ms j &&& (ma ms f ||| W f)
abbrev df (W:Nat->Nat) (ms:List Nat) (f j:Nat):Nat:=diff (ma ms j) (ma ms f ||| W f)
section
variable {g:Nat->List Nat} {W:Nat->Nat} {P A n f j:Nat} {ms:List Nat}
theorem RV.set (h:RV g W P A n ms) (hf:Rc g f) (hj:j∈g f) (hjn:j < n):RV g W P A n (ms.set j (nw W ms f j)) where
 len:=by simp [h.len]
 up:=fun i hi=>by
  rw [qw (by rw [h.len];exact hjn)]
  split
  ·exact (TT.and_left _ _).trans (h.up j hjn)
  ·exact h.up i hi
 p0:=by
  rw [qw (by rw [h.len];exact hjn)]
  split
  ·rename_i e;subst e;exact (TT.and_left _ _).trans h.p0
  ·exact h.p0
 gr:=fun x hx i hi=>by
  rw [qw (by rw [h.len];exact hjn)]
  split
  ·rename_i e;subst e
   exact (h.gr x hx i hi).and ((hx.e f i hf hj).trans (TT.or (h.gr x hx f hf)))
  ·exact h.gr x hx i hi
theorem RV.done (h:RV g W P A n ms) (hn:∀ i,Rc g i->i < n) (he:∀ i j,Rc g i->j∈g i->TT (ma ms j) (ma ms i ||| W i)):IsG g W P A (ma ms):=
 ⟨⟨h.p0,fun i hi=>h.up i (hn i hi),he⟩,h.gr⟩
theorem QP6:df W ms f j=0↔nw W ms f j=ma ms j:=by
 rw [df,QEF]
 constructor
 ·exact TT.and_eq
 ·intro h
  rw [← h]
  exact .and_right _ _
theorem QNC (hjn:j < ms.length) (ch:Bool):(∀ a b,EgM W ms ch a b->EgM W (ms.set j (nw W ms f j)) (ch||decide (df W ms f j≠0)) a b)/\EgM W (ms.set j (nw W ms f j)) (ch||decide (df W ms f j≠0)) f j:=by
 by_cases h:df W ms f j=0
 ·have e:=QP6.1 h
  rw [e,QNK hjn]
  constructor
  ·intro a b h
   exact h.imp (fun h=>by simp [h]) id
  ·exact .inr (QEF.1 h)
 ·constructor
  ·intro a b _;left;simp [h]
  ·left;simp [h]
theorem QLi (hjn:j < ms.length):(ms.set j (nw W ms f j)).sum<=ms.sum/\(df W ms f j≠0->(ms.set j (nw W ms f j)).sum < ms.sum):=by
 have h1:=QIu (v:=nw W ms f j) hjn
 have h2:nw W ms f j<=ma ms j:=Nat.and_le_left
 refine ⟨by omega,fun h=>?_⟩
 have h3:nw W ms f j≠ma ms j:=fun e=>h (QP6.2 e)
 omega
structure SW (g:Nat->List Nat) (W:Nat->Nat) (P A n:Nat) (s0:Nat) (ms:List Nat) (ch:Bool):Prop where
 mi:RV g W P A n ms
 le:ms.sum<=s0
 lt:ch=true->ms.sum < s0
theorem SW.step {s0:Nat} {ch:Bool} (h:SW g W P A n s0 ms ch) (hf:Rc g f) (hj:j∈g f) (hjn:j < n):SW g W P A n s0 (ms.set j (nw W ms f j)) (ch||decide (df W ms f j≠0)):=by
 have hs:=QLi (W:=W) (f:=f) (show j < ms.length by rw [h.mi.len];exact hjn)
 refine ⟨h.mi.set hf hj hjn,Nat.le_trans hs.1 h.le,fun e=>?_⟩
 have h1:=h.le
 simp only [Bool.or_eq_true,decide_eq_true_eq] at e
 rcases e with e | e
 ·have:=h.lt e;omega
 ·have:=hs.2 e;omega
theorem IsG.base {m:Nat->Nat} (h:IsG g W P A m) (hPA:TT P A) (i:Nat) (hi:Rc g i):TT P (m i):=
 h.2 (fun _=>P) ⟨.refl _,fun _ _=>hPA,fun i j _ _ t ht=>by simp [ht]⟩ i hi
end
theorem RV.start {g:Nat->List Nat} {W:Nat->Nat} {P A n:Nat} {ms:List Nat} (hl:ms.length=n) (hn:0 < n) (hPA:TT P A) (h1:∀ i,i < n->Rc g i->ma ms i=A) (h2:∀ i,i < n->TT (ma ms i) A) (hr:∀ i,Rc g i->i < n):RV g W P A n (ms.set 0 P) where
 len:=by simp [hl]
 up:=fun i hi=>by
  rw [qw (by omega)]
  split
  ·exact hPA
  ·exact h2 i hi
 p0:=by rw [qw (by omega),if_pos rfl];exact .refl _
 gr:=fun x hx i hi=>by
  rw [qw (by omega)]
  split
  ·rename_i e;subst e;exact hx.p
  ·rw [h1 i (hr i hi) hi];exact hx.a i hi
theorem RV.sum {g:Nat->List Nat} {W:Nat->Nat} {P A n:Nat} {ms:List Nat} (h:RV g W P A n ms) (hn:n<=200) (hA:A < 65536):ms.sum<=13107200:=by
 have:=QLh (c:=65536) (ms:=ms) fun i hi=>by
  have:=(h.up i (by rw [h.len] at hi;exact hi)).le
  omega
 have h3:ms.length * 65536<=200 * 65536:=Nat.mul_le_mul_right _ (by rw [h.len];exact hn)
 omega
theorem QAS:∀ q:List Nat,(ints q).map Int.toNat=q
 | []=>rfl
 | a::q=>congrArg (a :: ·) (QAS q)
theorem uL {n:Nat} (h:n<=100000000):n < big:=by
 have:100000000 < big:=by decide
 omega
theorem QMb (d:Nat):(((d:Nat):Int) != 0)=decide (d≠0):=by
 by_cases h:d=0 <;> simp [h]
def Zr (g:Nat->List Nat) (ms:List Nat):Prop:=∀ i,¬ Rc g i->ma ms i=0
def Gr (l:List Ins) (ws:List Nat) (P A:Nat) (ms:List Nat):Prop:=ms.length=l.length/\Zr (G l) ms/\IsG (G l) (ma ws) P A (ma ms)
theorem QGT {l:List Ins} (h:zJ l=true) {ws:List Nat} (hwl:ws.length=l.length) (hW:∀ i,ma ws i < 65536) {P A:Nat} (hA:A < 65536) (hPA:TT P A):∃ ms,sZ (l,ints ws,(P:Int),(A:Int))=some (ints ms)/\Gr l ws P A ms:=by
 obtain ⟨h1,h2,_,_⟩:=bT h
 have hr:∀ i,Rc (G l) i->i < l.length:=fun i hi=>hi.lt h
 show ∃ ms,oP (fun _=>List.replicate) (FU (kH (fun _=>List.replicate) big) big) (l,ints ws,(P:Int),(A:Int))=_/\_
 unfold oP
 simp only [QAj (show l.length<=68719476736 by omega),cond_true,Int.toNat_natCast,QLM h,Option.bind_some,oK]
 rw [show List.replicate l.length (0:Int)=ints (List.replicate l.length 0) by simp [ints]]
 refine Pp (σ:=List Nat) (g:=kH (fun _=>List.replicate) big) (n:=l.length) (fun s i=>(l,(P:Int),(A:Int),(l.length:Int),(i:Int),ints ws,ints s,QA4 l)) (fun k s=>s.length=l.length/\(∀ i,i < k->Rc (G l) i->ma s i=A)/\(∀ i,¬ (i < k/\Rc (G l) i)->ma s i=0)) (fun r=>∃ ms,r=some (ints ms)/\Gr l ws P A ms) ?_ ?_ l.length 0 big (by simp) (uL (by omega)) _ ⟨by simp,fun i hi=>absurd hi (Nat.not_lt_zero _),fun i _=>by simp [ma,List.getD_eq_getElem?_getD,List.getElem?_replicate];split <;> rfl⟩
 ·rintro ZG s ⟨g1,g2,g3⟩
  show ∃ ms,dA (fun _=>List.replicate) (FU (kI (fun _=>List.replicate) big ZG) big) ZG _=_/\_
  unfold dA
  dsimp only
  rw [decide_eq_false (by omega),cond_false,ZR,show (decide ((0:Int)<=0)&&decide ((0:Int) < (s.length:Int)))=true by simp;omega,cond_true,Int.toNat_zero,ints_set]
  refine uG (g:=kI (fun _=>List.replicate) big ZG)
   (fun v=>∃ ms ch,v=(l,ints ws,ints ms,ch)/\RV (G l) (ma ws) P A l.length ms/\Zr (G l) ms/\∀ i j,Rc (G l) i->j∈G l i->EgM (ma ws) ms ch i j)
   (fun v=>2 * (v.2.2.1.map Int.toNat).sum+(if v.2.2.2 then 1 else 0)) (fun r=>∃ ms,r=some (ints ms)/\Gr l ws P A ms) ?_ big _ ?_ ?_
  ·rintro self v ⟨ms,ch,rfl,m1,m2,m3⟩ ih
   show ∃ ms',kM (fun _=>List.replicate) (FU (kJ (fun _=>List.replicate) big ZG self) big) ZG self (l,ints ws,ints ms,ch)=_/\_
   unfold kM
   dsimp only
   cases ch with
   | false=>
    rw [cond_false]
    exact ⟨ms,rfl,m1.len,m2,m1.done hr fun i j hi hj=>(m3 i j hi hj).resolve_left (by simp)⟩
   | true=>
    simp only [QAj (show l.length<=68719476736 by omega),start_lt h1,cond_true,Int.toNat_natCast,Int.toNat_zero]
    refine uG (g:=kJ (fun _=>List.replicate) big ZG self)
     (fun v=>∃ ms' ch met p,v=(ints ws,ints ms',ch,l,met,ints p,l)/\met.length=l.length/\M0 (G l) (EgM (ma ws) ms' ch) (fun _=>True) met p none/\SW (G l) (ma ws) P A l.length ms.sum ms' ch/\Zr (G l) ms'/\μ2 met p<=401)
     (fun v=>2 * v.2.2.2.2.1.count false+v.2.2.2.2.2.1.length) (fun r=>∃ ms,r=some (ints ms)/\Gr l ws P A ms) ?_ big _ ?_ ?_
    ·rintro ZH v ⟨m,ch,met,p,rfl,hm,hd,hs,hz,hμ⟩ ih1
     show ∃ ms',kN (fun _=>List.replicate) (FU (fT (fun _=>List.replicate) big ZG self ZH) big) ZG self ZH (ints ws,ints m,ch,l,met,ints p,l)=_/\_
     unfold kN
     dsimp only
     rcases List.eq_nil_or_concat p with rfl | ⟨p,f,rfl⟩
     ·simp only [ZR,List.length_nil]
      rw [show decide (((0:Nat):Int) > 0)=false from rfl,cond_false]
      refine ih _ ⟨m,ch,rfl,hs.mi,hz,fun i j hi hj=>(hd.done i hi).2.2 j hj⟩ ?_
      show 2 * ((ints m).map Int.toNat).sum+(if ch then 1 else 0) < 2 * ((ints ms).map Int.toNat).sum+1
      rw [QAS,QAS]
      have h3:=hs.le
      cases ch with
      | false=>simp only [Bool.false_eq_true,if_false];omega
      | true=>have:=hs.lt rfl;simp only [if_true];omega
     ·have hp:p.length<=1000:=by simp [μ2] at hμ;omega
      simp only [List.concat_eq_append] at hd hμ ih1 ⊢
      obtain ⟨e1,e2,e3⟩:=QAD p f (by omega)
      have hrf:Rc (G l) f:=hd.rc f (hd.pm f (by simp))
      have hf:f < l.length:=hr f hrf
      rw [e1]
      rw [decide_eq_true (show (List.length (ints (p++[f])):Int) > 0 by rw [ZR,List.length_append];simp only [List.length_cons,List.length_nil];omega),cond_true]
      rw [show (decide ((0:Int)<=(p.length:Int))&&decide ((p.length:Int) < (List.length (ints (p++[f])):Int)))=true by rw [ZR];simp;omega,cond_true]
      rw [e2,Option.bind_some]
      rw [show (decide ((0:Int)<=(p.length:Int))&&decide ((p.length:Int)<=(List.length (ints (p++[f])):Int)))=true by rw [ZR];simp;omega,cond_true]
      rw [yw h hf,Option.bind_some,e3]
      have hgl:=QKC l f
      rw [ZR (G l f)]
      refine Pp (σ:=List Nat×Bool×List Bool×List Nat) (g:=fT (fun _=>List.replicate) big ZG self ZH) (n:=(G l f).length) (fun s k=>((f:Int),ints (G l f),((G l f).length:Int),(k:Int),ints ws,ints s.1,s.2.1,l,s.2.2.1,ints s.2.2.2,l))
       (fun k s=>s.2.2.1.length=l.length/\M0 (G l) (EgM (ma ws) s.1 s.2.1) (fun _=>True) s.2.2.1 s.2.2.2 (some (f,k))/\SW (G l) (ma ws) P A l.length ms.sum s.1 s.2.1/\Zr (G l) s.1/\μ2 s.2.2.1 s.2.2.2+1<=μ2 met (p++[f]))
       (fun r=>∃ ms,r=some (ints ms)/\Gr l ws P A ms) ?_ ?_ (G l f).length 0 big (by simp) (uL (by omega)) (m,ch,met,p) ⟨hm,hd.pop,hs,hz,by simp [μ2];omega⟩
      ·rintro Zo ⟨m',c',mt,q⟩ ⟨f1,f2,f3,f4,f5⟩
       dsimp only at f1 f2 f3 f4 f5
       show ∃ ms',gK (fun _=>List.replicate) ZG self ZH Zo _=_/\_
       unfold gK
       dsimp only
       rw [decide_eq_false (by omega),cond_false]
       refine ih1 _ ⟨m',c',mt,q,rfl,f1,f2.fin,f3,f4,by omega⟩ ?_
       show 2 * mt.count false+(ints q).length < 2 * met.count false+(ints (p++[f])).length
       rw [ZR,ZR]
       unfold μ2 at f5
       omega
      ·rintro Zo ⟨m',c',mt,q⟩ k hk ⟨f1,f2,f3,f4,f5⟩
       dsimp only at f1 f2 f3 f4 f5
       left
       have hj:(G l f)[k]? = some (G l f)[k]:=List.getElem?_eq_getElem hk
       have hjm:(G l f)[k]∈G l f:=List.getElem_mem hk
       have hjl:=QJC h hf hjm
       have hjr:Rc (G l) (G l f)[k]:=.step hrf hjm
       generalize (G l f)[k]=j at *
       have hml:m'.length=l.length:=f3.mi.len
       have b16:∀ i,i < l.length->ma m' i < 65536:=fun i hi=>Nat.lt_of_le_of_lt (f3.mi.up i hi).le hA
       have hE:=QNC (W:=ma ws) (f:=f) (show j < m'.length by omega) c'
       have hS:=f3.step hrf hjm hjl
       have hZ:Zr (G l) (m'.set j (nw (ma ws) m' f j)):=fun i hi=>by
        rw [qw (by omega),if_neg (show ¬ i=j from fun e=>hi (e ▸ hjr))]
        exact f4 i hi
       have hor:ma m' f ||| ma ws f < 65536:=QWS (b16 f hf) (hW f)
       have hst:fT (fun _=>List.replicate) big ZG self ZH Zo ((f:Int),ints (G l f),((G l f).length:Int),(k:Int),ints ws,ints m',c',l,mt,ints q,l)
         = (nth mt j).bind fun b=>if b then Zo ((f:Int),ints (G l f),((G l f).length:Int),((k+1:Nat):Int),ints ws,ints (m'.set j (nw (ma ws) m' f j)),c'||decide (df (ma ws) m' f j≠0),l,mt,ints q,l)
          else Zo ((f:Int),ints (G l f),((G l f).length:Int),((k+1:Nat):Int),ints ws,ints (m'.set j (nw (ma ws) m' f j)),c'||decide (df (ma ws) m' f j≠0),l,mt.set j true,ints (q++[j]),l):=by
        have hq:q.length<=1000:=by simp only [μ2] at f5 hμ;omega
        have hlim:(Nat.ble 1 1&&Nat.ble (List.length (ints q)+List.length ([(j:Int)]:List Int)) lim)=true:=by
         rw [b11,bg (by rw [ZR];simp;omega)];rfl
        show gK (fun _=>List.replicate) ZG self ZH Zo _=_
        unfold gK
        dsimp only
        rw [decide_eq_true (show (k:Int) < ((G l f).length:Int) by omega),cond_true,kG (ints_at hj),Option.bind_some]
        simp only [ZR m',f1,hml,QGU hf,QGU hjl,cond_true,QPB (show f < m'.length by omega),QPB (show j < m'.length by omega),QIo (show f < ws.length by omega),Option.bind_some,bor (b16 f hf) (hW f),QVA (b16 j hjl) hor,QMa (b16 j hjl) (Nat.lt_trans hor (by decide)),hlim]
        rw [w64 (z:=(k:Int)+1) (by omega) (by omega),Int.toNat_natCast,ints_set,QMb,wE]
        cases c' with
        | true=>cases nth mt j with
         | none=>rfl
         | some b=>cases b <;> rfl
        | false=>cases nth mt j with
         | none=>rfl
         | some b=>cases b <;> rfl
       rw [sP] at hst
       dsimp only
       rw [hst]
       rcases QAI (m:=mt) (j:=j) (by omega) with hb | hb
       ·refine ⟨(m'.set j (nw (ma ws) m' f j),c'||decide (df (ma ws) m' f j≠0),mt,q),⟨f1,f2.old hj hE.1 (fun _ h=>h) hE.2 hb,hS,hZ,f5⟩,?_⟩
        rw [hb]
        rfl
       ·have hc:=pI hb
        refine ⟨(m'.set j (nw (ma ws) m' f j),c'||decide (df (ma ws) m' f j≠0),mt.set j true,q++[j]),⟨by simp [f1],f2.new hj hE.1 (fun _ h=>h) hE.2 trivial hb,hS,hZ,?_⟩,?_⟩
        ·simp only [μ2,List.length_append,List.length_cons,List.length_nil] at f5 ⊢
         omega
        ·rw [hb]
         rfl
    ·have:=vD l.length h1
     refine ⟨ms,false,_,[0],rfl,by simp,M0.start h1 trivial,⟨m1,Nat.le_refl _,fun e=>by cases e⟩,m2,?_⟩
     simp only [μ2,List.length_cons,List.length_nil]
     omega
    ·have:=vD l.length h1
     refine uL ?_
     show 2 * ((List.replicate l.length false).set 0 true).count false+1<=_
     omega
  ·refine ⟨s.set 0 P,true,rfl,RV.start g1 h1 hPA (fun i hi hr=>g2 i hi hr) (fun i hi=>?_) hr,fun i hi=>?_,fun i j hi hj=>.inl rfl⟩
   ·by_cases Vd:Rc (G l) i
    ·rw [g2 i hi Vd];exact .refl _
    ·rw [g3 i (fun e=>Vd e.2)];exact .zero _
   ·rw [qw (by omega),if_neg (show ¬ i=0 from fun e=>hi (e ▸ .zero)),g3 i (fun e=>hi e.2)]
  ·refine uL ?_
   have YR:RV (G l) (ma ws) P A l.length (s.set 0 P):=RV.start g1 h1 hPA (fun i hi hr=>g2 i hi hr) (fun i hi=>by
    by_cases Vd:Rc (G l) i
    ·rw [g2 i hi Vd];exact .refl _
    ·rw [g3 i (fun e=>Vd e.2)];exact .zero _) hr
   have:=YR.sum h2 hA
   show 2 * ((ints (s.set 0 P)).map Int.toNat).sum+1<=_
   rw [QAS]
   omega
 ·rintro ZG s i hi ⟨g1,g2,g3⟩
  left
  show ∃ s',_/\dA (fun _=>List.replicate) _ ZG _=_
  unfold dA
  dsimp only
  simp only [ZR,oK,g1,QGU hi,cond_true]
  rw [decide_eq_true (show (i:Int) < (l.length:Int) by omega),cond_true,w64 (z:=(i:Int)+1) (by omega) (by omega),Int.toNat_natCast,sP,ints_set]
  by_cases Vd:Rc (G l) i
  ·rw [(QFZ hi).2 Vd]
   refine ⟨s.set i A,⟨by simp [g1],fun a ha hra=>?_,fun a ha=>?_⟩,rfl⟩
   ·rw [qw (by omega)]
    split
    ·rfl
    ·exact g2 a (by omega) hra
   ·rw [qw (by omega),if_neg (show ¬ a=i from fun e=>ha ⟨by omega,e ▸ Vd⟩)]
    exact g3 a fun e=>ha ⟨by omega,e.2⟩
  ·rw [(QHW hi).2 Vd]
   refine ⟨s,⟨g1,fun a ha hra=>g2 a ?_ hra,fun a ha=>g3 a fun e=>ha ⟨by omega,e.2⟩⟩,rfl⟩
   have:a≠i:=fun e=>Vd (e ▸ hra)
   omega
def wm (l:List Ins):List Nat:=l.map fun x=>maskN (wS x)
theorem QHu (l:List Ins):(wm l).length=l.length:=by simp [wm]
theorem QLm {l:List Ins} {i:Nat} {x:Ins} (h:l[i]? = some x):ma (wm l) i=maskN (wS x):=by
 unfold ma wm
 rw [List.getD_eq_getElem?_getD,List.getElem?_map,h]
 rfl
theorem QZz {l:List Ins} (h:zJ l=true) (i:Nat):ma (wm l) i < 65536:=by
 by_cases hi:i < l.length
 ·have hx:l[i]? = some l[i]:=List.getElem?_eq_getElem hi
  rw [QLm hx]
  obtain ⟨_,hs,_,_⟩:=QFo ((bT h).2.2.1 i _ hx).1
  exact QHP hs (by decide)
 ·unfold ma
  rw [List.getD_eq_getElem?_getD,List.getElem?_eq_none (by rw [QHu];omega)]
  decide
def IsM (l:List Ins) (ws:List Nat) (P A:Nat) (fs:List Nat):Prop:=fs.length=l.length/\∃ m,IsG (G l) (ma ws) P A m/\∀ i,i < l.length->(Rc (G l) i->i≠l.length - 1->ma fs i=m i)/\(¬ Rc (G l) i∨i=l.length - 1->ma fs i=0)
theorem IsM.same {l:List Ins} {ws:List Nat} {P A:Nat} {a b:List Nat} (h:IsM l ws P A a) (h':IsM l ws P A b):a=b:=by
 obtain ⟨h1,m,h2,h3⟩:=h
 obtain ⟨g1,k,g2,g3⟩:=h'
 refine QLR (by omega) fun i hi=>?_
 by_cases e:Rc (G l) i/\i≠l.length - 1
 ·rw [(h3 i (by omega)).1 e.1 e.2,(g3 i (by omega)).1 e.1 e.2]
  exact (g2.2 m h2.1 i e.1).antisymm (h2.2 k g2.1 i e.1)
 ·have:¬ Rc (G l) i∨i=l.length - 1:=by
   by_cases e1:Rc (G l) i
   ·exact .inr (by by_cases e2:i=l.length - 1;exact e2;exact absurd ⟨e1,e2⟩ e)
   ·exact .inl e1
  rw [(h3 i (by omega)).2 this,(g3 i (by omega)).2 this]
abbrev low (n:Int):Nat:=2 ^ n.toNat - 1
def vF (l:List Ins) (p s:Int) (r:Option (List Int×Int)):Prop:=
 if zJ l=true then (if QAQ l p s=0 then ∃ fs,r=some (ints fs,0)/\IsM l (wm l) (low p) (low s) fs else r=some ([],QAQ l p s)) else r=some ([],8)
theorem QJP {l:List Ins} {p s:Int}:QAQ l p s=0↔(0<=p/\p<=s/\s<=16)/\l.all (QDr s)=true:=by
 unfold QAQ
 split
 ·constructor
  ·intro e;omega
  ·intro e;omega
 ·split
  ·rename_i h1 h2
   simp [h2]
   omega
  ·rename_i h1 h2
   simp [h2]
theorem QKY {l:List Ins} (p s:Int):vF l p s (mR (l,p,s)):=by
 show vF l p s (uh (fun _=>List.replicate) (FU (lJ (fun _=>List.replicate) big) big) (l,p,s))
 unfold uh
 dsimp only
 rw [vw,Option.bind_some]
 by_cases h:zJ l=true
 ·obtain ⟨h1,h2,hok,hlast⟩:=bT h
  have hfit:∀ r,(if QAQ l p s=0 then ∃ fs,r=some (ints fs,(0:Int))/\IsM l (wm l) (low p) (low s) fs else r=some ([],QAQ l p s))->vF l p s r:=fun r hr=>by
   unfold vF
   rw [if_pos h]
   exact hr
  refine hfit _ ?_
  rw [if_pos h,show ((0:Int) != 0)=false from rfl,cond_false]
  have two:(s < 0∨s > 16∨p < 0∨p > s)->QAQ l p s=2:=fun e=>by unfold QAQ;rw [if_pos e]
  by_cases a:p < 0
  ·rw [two (by omega),if_neg (by omega),decide_eq_true a];rfl
  by_cases b:p > s
  ·rw [two (by omega),if_neg (by omega),decide_eq_false a,decide_eq_true b];rfl
  by_cases c:s > 16
  ·rw [two (by omega),if_neg (by omega),decide_eq_false a,decide_eq_false b,decide_eq_true c];rfl
  have hfr:QAQ l p s=if l.all (QDr s) then 0 else 16:=by unfold QAQ;rw [if_neg (by omega)]
  rw [decide_eq_false a,decide_eq_false b,decide_eq_false c]
  simp only [cond_false,QAj (show l.length<=68719476736 by omega),cond_true,Int.toNat_natCast]
  rw [show List.replicate l.length (0:Int)=ints (List.replicate l.length 0) by simp [ints]]
  refine Pp (σ:=List Nat) (g:=lJ (fun _=>List.replicate) big) (n:=l.length) (fun t i=>(l,p,s,l,(l.length:Int),(i:Int),ints t))
   (fun k t=>t.length=l.length/\∀ i x,i < k->l[i]? = some x->QDr s x=true/\ma t i=maskN (wS x))
   (fun r=>if QAQ l p s=0 then ∃ fs,r=some (ints fs,(0:Int))/\IsM l (wm l) (low p) (low s) fs else r=some ([],QAQ l p s)) ?_ ?_ l.length 0 big (by simp) (uL (by omega)) _ ⟨by simp,fun i x hi=>absurd hi (Nat.not_lt_zero _)⟩
  ·rintro self t ⟨g1,g2⟩
   have hall:l.all (QDr s)=true:=qX.2 fun k x hk=>(g2 k x (List.getElem?_eq_some_iff.1 hk).1 hk).1
   have ht:t=wm l:=QLR (by rw [QHu];exact g1) fun i hi=>by
    have hx:l[i]? = some (l[i]'(by omega)):=List.getElem?_eq_getElem (by omega)
    rw [(g2 i _ (by omega) hx).2,QLm hx]
   subst ht
   rw [hfr,if_pos hall,if_pos rfl]
   show ∃ fs,lK (fun _=>List.replicate) self _=_/\_
   unfold lK
   dsimp only
   rw [decide_eq_false (by omega),cond_false,QGP (by omega) (by omega),Option.bind_some,QGP (by omega) (by omega),Option.bind_some]
   obtain ⟨ms,e,m1,m2,m3⟩:=QGT h (QHu l) (QZz h) (QIn (n:=s) (by omega)) (QLL (m:=p) (n:=s) (by omega))
   rw [e,Option.bind_some,ZR,m1,QHV h1 (by omega),QGU (show l.length - 1 < l.length by omega),cond_true,Int.toNat_natCast,show (0:Int)=((0:Nat):Int) from rfl,ints_set]
   refine ⟨_,rfl,by simp [m1],ma ms,m3,fun i hi=>?_⟩
   rw [qw (by omega)]
   by_cases e2:i=l.length - 1
   ·rw [if_pos e2]
    exact ⟨fun _ h3=>absurd e2 h3,fun _=>rfl⟩
   ·rw [if_neg e2]
    exact ⟨fun _ _=>rfl,fun hz=>m2 i (hz.resolve_right e2)⟩
  ·rintro self t i hi ⟨g1,g2⟩
   have hx:l[i]? = some l[i]:=List.getElem?_eq_getElem hi
   have ho:=(hok i _ hx).1
   obtain ⟨sr,sw,lr,lw⟩:=QFo ho
   have e0:lJ (fun _=>List.replicate) big self (l,p,s,l,(l.length:Int),(i:Int),ints t)=lK (fun _=>List.replicate) self (l,p,s,l,(l.length:Int),(i:Int),ints t):=rfl
   rw [e0]
   unfold lK
   dsimp only
   rw [decide_eq_true (show (i:Int) < (l.length:Int) by omega),cond_true,kG hx,Option.bind_some,QFz,Option.bind_some,if_pos ho]
   rw [show rsL (j4 l[i].1) (vals l[i])=rS l[i] from rfl,show wsL (j4 l[i].1) (vals l[i])=wS l[i] from rfl]
   dsimp only
   rw [QGD _ _ (by omega),Option.bind_some,QGD _ _ (by omega),Option.bind_some,QJU _ sw (by omega),Option.bind_some]
   have bad:QDr s l[i]=false->QAQ l p s=16:=fun e=>by
    rw [hfr,if_neg fun hh=>by rw [qX.1 hh i _ hx] at e;cases e]
   cases e1:(rS l[i]).all fun v=>decide (v < s) with
   | false=>
    right
    rw [bad (by simp [QDr,e1]),if_neg (by decide)]
    rfl
   | true=>
    cases e2:(wS l[i]).all fun v=>decide (v < s) with
    | false=>
     right
     rw [bad (by simp only [QDr,e1,e2];rfl),if_neg (by decide)]
     rfl
    | true=>
     left
     refine ⟨t.set i (maskN (wS l[i])),⟨by simp [g1],fun a x ha hxa=>?_⟩,?_⟩
     ·rw [qw (by omega)]
      by_cases e:a=i
      ·subst e
       rw [hx] at hxa
       cases hxa
       exact ⟨by simp only [QDr,e1,e2];rfl,if_pos rfl⟩
      ·rw [if_neg e]
       exact g2 a x (by omega) hxa
     ·simp only [Bool.not_true,cond_false,ZR,g1,QGU hi,cond_true]
      rw [w64 (z:=(i:Int)+1) (by omega) (by omega),Int.toNat_natCast,ints_set]
      rfl
 ·unfold vF
  rw [if_neg h,if_neg h]
  rfl
theorem vF.same {l:List Ins} {p s:Int} {a b:Option (List Int×Int)} (h:vF l p s a) (h':vF l p s b):a=b:=by
 unfold vF at h h'
 split at h
 ·rename_i e
  rw [if_pos e] at h'
  split at h
  ·rename_i e2
   rw [if_pos e2] at h'
   obtain ⟨x,rfl,hx⟩:=h
   obtain ⟨y,rfl,hy⟩:=h'
   rw [hx.same hy]
  ·rename_i e2
   rw [if_neg e2] at h'
   rw [h,h']
 ·rename_i e
  rw [if_neg e] at h'
  rw [h,h']
end Go.Proofs.YtbgmjjplddddnaaGreatDoor.F
set_option linter.unusedVariables false
set_option linter.unusedSimpArgs false
set_option maxRecDepth 100000
namespace Go.Proofs.YtbgmjjplddddnaaGreatDoor.F
open Go.Lift
structure Hold (l:List Ins) (P:Nat) (ms:List Nat):Prop where
 len:ms.length=l.length
 p:TT (ma ms 0) P
 e:∀ i j,Rc (G l) i->j∈G l i->TT (ma ms j) (ma ms i ||| ma (wm l) i)
theorem IsM.hold {l:List Ins} (h:zJ l=true) {P A:Nat} {fs:List Nat} (hm:IsM l (wm l) P A fs):Hold l P fs:=by
 obtain ⟨h1,h2,hok,hlast⟩:=bT h
 obtain ⟨g1,m,g2,g3⟩:=hm
 have z:ma fs (l.length - 1)=0:=(g3 _ (by omega)).2 (.inr rfl)
 have gn:G l (l.length - 1)=[]:=by
  simp only [G,hlast]
  rfl
 refine ⟨g1,?_,fun i j hi hj=>?_⟩
 ·by_cases e:0=l.length - 1
  ·rw [e,z];exact .zero _
  ·rw [(g3 0 (by omega)).1 .zero e];exact g2.1.p
 ·have hil:=hi.lt h
  have hjl:=QJC h hil hj
  have hin:i≠l.length - 1:=fun e=>by
   subst e
   rw [gn] at hj
   cases hj
  by_cases e:j=l.length - 1
  ·rw [e,z];exact .zero _
  ·rw [(g3 i hil).1 hi hin,(g3 j hjl).1 (.step hi hj) e]
   exact g2.1.e i j hi hj
theorem IsM.up {l:List Ins} (h:zJ l=true) {P A:Nat} {fs:List Nat} (hm:IsM l (wm l) P A fs) (hA:A < 65536) (i:Nat):ma fs i < 65536:=by
 obtain ⟨g1,m,g2,g3⟩:=hm
 by_cases hi:i < l.length
 ·by_cases e:Rc (G l) i/\i≠l.length - 1
  ·rw [(g3 i hi).1 e.1 e.2]
   exact Nat.lt_of_le_of_lt (g2.1.a i e.1).le hA
  ·have:¬ Rc (G l) i∨i=l.length - 1:=by
    by_cases e1:Rc (G l) i
    ·exact .inr (by by_cases e2:i=l.length - 1;exact e2;exact absurd ⟨e1,e2⟩ e)
    ·exact .inl e1
   rw [(g3 i hi).2 this]
   decide
 ·unfold ma
  rw [List.getD_eq_getElem?_getD,List.getElem?_eq_none (by omega)]
  decide
def da (d:List Int) (i:Nat):Int:=d.getD i 0
theorem QD2 {d:List Int} {i j:Nat} {v:Int} (h:j < d.length):da (d.set j v) i=if i=j then v else da d i:=by
 unfold da
 rw [List.getD_eq_getElem?_getD,bA h]
 split <;> simp [List.getD_eq_getElem?_getD]
theorem QD1 {d:List Int} {i:Nat} (h:i < d.length):d[i]? = some (da d i):=getD_at h 0
theorem QP5 {d:List Int} {i:Nat} (h:i < d.length):nth d (Int.toNat (i:Int))=some (da d i):=QBf (QD1 h)
theorem QIY {d:List Int} {i:Nat} (h:i < d.length):Mh d (i:Int)=some (da d i):=kG (QD1 h)
theorem QR1 {a b:List Int} (hl:a.length=b.length) (h:∀ i,i < a.length->da a i=da b i):a=b:=by
 apply List.ext_getElem?
 intro i
 by_cases hi:i < a.length
 ·rw [QD1 hi,QD1 (by omega),h i hi]
 ·rw [List.getElem?_eq_none (by omega),List.getElem?_eq_none (by omega)]
structure Right (g:Nat->List Nat) (W:Nat->Int) (n:Nat) (D:Nat->Int):Prop where
 z:D 0=0
 e:∀ i j,Rc g i->j∈g i->D j=D i+W i/\0<=D j/\D j<=4096/\(j=n - 1->D j=0)
theorem Right.bd {g:Nat->List Nat} {W:Nat->Int} {n:Nat} {D:Nat->Int} (h:Right g W n D) {i:Nat} (hi:Rc g i):0<=D i/\D i<=4096:=by
 cases hi with
 | zero=>rw [h.z];omega
 | step hi hj=>have:=h.e _ _ hi hj;omega
theorem Right.last {g:Nat->List Nat} {W:Nat->Int} {n:Nat} {D:Nat->Int} (h:Right g W n D) (hi:Rc g (n - 1)):D (n - 1)=0:=by
 generalize hm:n - 1=m at hi
 cases hi with
 | zero=>exact h.z
 | step hi hj=>exact (h.e _ _ hi hj).2.2.2 hm.symm
theorem Right.uniq {g:Nat->List Nat} {W:Nat->Int} {n:Nat} {D E:Nat->Int} (h:Right g W n D) (h':Right g W n E) {i:Nat} (hi:Rc g i):D i=E i:=by
 induction hi with
 | zero=>rw [h.z,h'.z]
 | step hi hj ih=>rw [(h.e _ _ hi hj).1,(h'.e _ _ hi hj).1,ih]
structure DP (g:Nat->List Nat) (W:Nat->Int) (n:Nat) (dep:List Int) (kn:List Bool):Prop where
 ld:dep.length=n
 lk:kn.length=n
 k0:kn[0]? = some true
 d0:da dep 0=0
 kr:∀ i,kn[i]? = some true->Rc g i/\0<=da dep i/\da dep i<=4096/\∀ D,Right g W n D->da dep i=D i
 un:∀ i,kn[i]? = some false->da dep i=0
def EgD (W:Nat->Int) (dep:List Int) (kn:List Bool) (i j:Nat):Prop:=kn[i]? = some true/\kn[j]? = some true/\da dep j=da dep i+W i
section
variable {g:Nat->List Nat} {W:Nat->Int} {n f j:Nat} {dep:List Int} {kn:List Bool}
theorem QA2 (hj:j < kn.length) {i:Nat}:(kn.set j true)[i]? = some true↔i=j∨kn[i]? = some true:=by
 rw [bA hj]
 split
 ·rename_i e;simp [e]
 ·rename_i e;simp [e]
theorem QAM (h:DP g W n dep kn) (hjn:j < n) {d:Int} (hk:kn[j]? = some true->da dep j=d) {a:Nat} (ha:kn[a]? = some true):da (dep.set j d) a=da dep a:=by
 rw [QD2 (by rw [h.ld];exact hjn)]
 split
 ·rename_i e;subst e;exact (hk ha).symm
 ·rfl
theorem DP.step (h:DP g W n dep kn) (hf:kn[f]? = some true) (hj:j∈g f) (hjn:j < n) (h0:0<=da dep f+W f) (h1:da dep f+W f<=4096) (hk:kn[j]? = some true->da dep j=da dep f+W f):DP g W n (dep.set j (da dep f+W f)) (kn.set j true) where
 ld:=by simp [h.ld]
 lk:=by simp [h.lk]
 k0:=(QA2 (by rw [h.lk];exact hjn)).2 (.inr h.k0)
 d0:=by rw [QAM h hjn hk h.k0];exact h.d0
 kr:=fun i hi=>by
  have hrf:=(h.kr f hf).1
  rcases (QA2 (by rw [h.lk];exact hjn)).1 hi with rfl | hi
  ·rw [QD2 (by rw [h.ld];exact hjn),if_pos rfl]
   exact ⟨.step hrf hj,h0,h1,fun D hD=>by rw [(hD.e f i hrf hj).1,(h.kr f hf).2.2.2 D hD]⟩
  ·rw [QAM h hjn hk hi]
   exact h.kr i hi
 un:=fun i hi=>by
  rw [bA (by rw [h.lk];exact hjn)] at hi
  split at hi
  ·cases hi
  ·rename_i e
   rw [QD2 (by rw [h.ld];exact hjn),if_neg e]
   exact h.un i hi
theorem EgD.step (h:DP g W n dep kn) (hf:kn[f]? = some true) (hjn:j < n) (hk:kn[j]? = some true->da dep j=da dep f+W f) :
  (∀ a b,EgD W dep kn a b->EgD W (dep.set j (da dep f+W f)) (kn.set j true) a b)/\EgD W (dep.set j (da dep f+W f)) (kn.set j true) f j:=by
 have up:∀ i,kn[i]? = some true->(kn.set j true)[i]? = some true:=fun i hi=>(QA2 (by rw [h.lk];exact hjn)).2 (.inr hi)
 constructor
 ·rintro a b ⟨ha,hb,e⟩
  refine ⟨up a ha,up b hb,?_⟩
  rw [QAM h hjn hk ha,QAM h hjn hk hb]
  exact e
 ·refine ⟨up f hf,(QA2 (by rw [h.lk];exact hjn)).2 (.inl rfl),?_⟩
  rw [QAM h hjn hk hf,QD2 (by rw [h.ld];exact hjn),if_pos rfl]
theorem DP.next (h:DP g W n dep kn) (hf:kn[f]? = some true) (hj:j∈g f) {D:Nat->Int} (hD:Right g W n D) :
  (0<=da dep f+W f/\da dep f+W f<=4096)/\(j=n - 1->da dep f+W f=0)/\(kn[j]? = some true->da dep j=da dep f+W f):=by
 have h1:=h.kr f hf
 have h2:=hD.e f j h1.1 hj
 rw [h1.2.2.2 D hD,← h2.1]
 exact ⟨⟨h2.2.1,h2.2.2.1⟩,h2.2.2.2,fun hk=>(h.kr j hk).2.2.2 D hD⟩
end
def IsD (l:List Ins) (bs dep:List Int):Prop:=dep.length=l.length/\∃ D,Right (G l) (da bs) l.length D/\∀ i,i < l.length->(Rc (G l) i->da dep i=D i)/\(¬ Rc (G l) i->da dep i=0)
theorem IsD.same {l:List Ins} {bs a b:List Int} (h:IsD l bs a) (h':IsD l bs b):a=b:=by
 obtain ⟨h1,D,h2,h3⟩:=h
 obtain ⟨g1,E,g2,g3⟩:=h'
 refine QR1 (by omega) fun i hi=>?_
 by_cases e:Rc (G l) i
 ·rw [(h3 i (by omega)).1 e,(g3 i (by omega)).1 e,h2.uniq g2 e]
 ·rw [(h3 i (by omega)).2 e,(g3 i (by omega)).2 e]
theorem DP.isD {l:List Ins} {bs dep:List Int} {kn:List Bool} (h:DP (G l) (da bs) l.length dep kn) (hn:da dep (l.length - 1)=0) (hd:∀ i,Rc (G l) i->kn[i]? = some true/\∀ j∈G l i,EgD (da bs) dep kn i j):IsD l bs dep:=by
 refine ⟨h.ld,da dep,⟨h.d0,fun i j hi hj=>?_⟩,fun i hi=>⟨fun _=>rfl,fun hr=>?_⟩⟩
 ·obtain ⟨_,h1,h2⟩:=(hd i hi).2 j hj
  have:=h.kr j h1
  exact ⟨h2,this.2.1,this.2.2.1,fun e=>by rw [e];exact hn⟩
 ·rcases QAI (m:=kn) (j:=i) (by rw [h.lk];exact hi) with hb | hb
  ·exact absurd (h.kr i hb).1 hr
  ·exact h.un i hb
def QHF (bs:List Int):Bool:=bs.all fun b=>decide (-4096<=b)&&decide (b<=4096)
theorem QVD {bs:List Int} (h:QHF bs=true) (i:Nat) : -4096<=da bs i/\da bs i<=4096:=by
 by_cases hi:i < bs.length
 ·have:=qX.1 h i _ (QD1 hi)
  simpa using this
 ·unfold da
  rw [List.getD_eq_getElem?_getD,List.getElem?_eq_none (by omega)]
  simp
def uJ (l:List Ins) (bs:List Int) (r:Option (List Int×Int)):Prop:=
 if zJ l=true then (if bs.length=l.length/\QHF bs=true then (∃ dep,r=some (dep,0)/\IsD l bs dep)∨((∀ D,¬ Right (G l) (da bs) l.length D)/\r=some ([],36)) else r=some ([],2)) else r=some ([],8)
theorem uJ.same {l:List Ins} {bs:List Int} {a b:Option (List Int×Int)} (h:uJ l bs a) (h':uJ l bs b):a=b:=by
 unfold uJ at h h'
 split at h
 ·rename_i e
  rw [if_pos e] at h'
  split at h
  ·rename_i e2
   rw [if_pos e2] at h'
   rcases h with ⟨x,rfl,hx⟩ | ⟨hn,rfl⟩
   ·rcases h' with ⟨y,rfl,hy⟩ | ⟨hn,rfl⟩
    ·rw [hx.same hy]
    ·obtain ⟨_,D,hD,_⟩:=hx
     exact absurd hD (hn D)
   ·rcases h' with ⟨y,rfl,hy⟩ | ⟨_,rfl⟩
    ·obtain ⟨_,D,hD,_⟩:=hy
     exact absurd hD (hn D)
    ·rfl
  ·rename_i e2
   rw [if_neg e2] at h'
   rw [h,h']
 ·rename_i e
  rw [if_neg e] at h'
  rw [h,h']
theorem DP.start {g:Nat->List Nat} {W:Nat->Int} {n:Nat} (hn:1<=n):DP g W n (List.replicate n 0) ((List.replicate n false).set 0 true):=by
 have z:∀ i,da (List.replicate n (0:Int)) i=0:=fun i=>by
  simp only [da,List.getD_eq_getElem?_getD,List.getElem?_replicate]
  split <;> rfl
 refine ⟨by simp,by simp,by rw [bA (by simp;omega),if_pos rfl],z 0,fun i hi=>?_,fun i _=>z i⟩
 have:=QLg hn hi
 subst this
 rw [z]
 exact ⟨.zero,by omega,by omega,fun D hD=>hD.z.symm⟩
theorem QGY (b:Int):sj b=some (!(decide (-4096<=b)&&decide (b<=4096))):=by
 show oQ b=_
 unfold oQ
 by_cases h:b < -4096
 ·rw [decide_eq_true h,decide_eq_false (show ¬ -4096<=b by omega)];rfl
 ·rw [decide_eq_false h,decide_eq_true (show -4096<=b by omega)]
  by_cases h2:b > 4096
  ·rw [decide_eq_true h2,decide_eq_false (show ¬ b<=4096 by omega)];rfl
  ·rw [decide_eq_false h2,decide_eq_true (show b<=4096 by omega)];rfl
theorem QHR (d:Int) (j n:Nat) (h1:1<=n) (h2:n<=1000000):vH (d,(j:Int),(n:Int))=some (if j=n - 1 then decide (d=0) else decide (0<=d/\d<=4096)):=by
 show qG (d,(j:Int),(n:Int))=_
 unfold qG
 dsimp only
 rw [QHV h1 h2]
 by_cases e:j=n - 1
 ·rw [if_pos e,show ((j:Int)==((n - 1:Nat):Int))=true by simp [e],cond_true,bE]
 ·rw [if_neg e,show ((j:Int)==((n - 1:Nat):Int))=false by simp;omega,cond_false]
  by_cases a:0<=d
  ·rw [decide_eq_true (show d≥0 from a),cond_true]
   simp [a]
  ·rw [decide_eq_false (show ¬ d≥0 from a),cond_false,decide_eq_false (fun h=>a h.1)]
def Nf (l:List Ins) (bs:List Int) (r:Option (List Int×Int)):Prop:=(∃ dep,r=some (dep,0)/\IsD l bs dep)∨((∀ D,¬ Right (G l) (da bs) l.length D)/\r=some ([],36))
theorem QGJ {l:List Ins} (h:zJ l=true) {bs:List Int} (hl:bs.length=l.length) (hb:QHF bs=true) (ZG):Nf l bs (FU (fQ (fun _=>List.replicate) big ZG) big (l,bs,([]:List Int),(0:Int),List.replicate l.length (0:Int),(List.replicate l.length false).set 0 true,l,(List.replicate l.length false).set 0 true,([0]:List Int))):=by
 obtain ⟨h1,h2,hok,hlast⟩:=bT h
 have hr:∀ i,Rc (G l) i->i < l.length:=fun i hi=>hi.lt h
 refine uG (g:=fQ (fun _=>List.replicate) big ZG)
  (fun v=>∃ dep kn met p,v=(l,bs,([]:List Int),(0:Int),dep,kn,l,met,ints p)/\met.length=l.length/\DP (G l) (da bs) l.length dep kn/\da dep (l.length - 1)=0/\M0 (G l) (EgD (da bs) dep kn) (fun i=>kn[i]? = some true) met p none/\μ2 met p<=401)
  (fun v=>2 * v.2.2.2.2.2.2.2.1.count false+v.2.2.2.2.2.2.2.2.length) (Nf l bs) ?_ big _ ?_ ?_
 ·rintro self v ⟨dep,kn,met,p,rfl,hm,hp,hz,hd,hμ⟩ ih
  show Nf l bs (ng (fun _=>List.replicate) (FU (nN (fun _=>List.replicate) big ZG self) big) ZG self (l,bs,([]:List Int),(0:Int),dep,kn,l,met,ints p))
  unfold ng
  dsimp only
  rcases List.eq_nil_or_concat p with rfl | ⟨p,f,rfl⟩
  ·simp only [ZR,List.length_nil]
   rw [show decide (((0:Nat):Int) > 0)=false from rfl,cond_false]
   exact .inl ⟨dep,rfl,hp.isD hz fun i hi=>(hd.done i hi).2⟩
  ·have hpl:p.length<=1000:=by simp [μ2] at hμ;omega
   simp only [List.concat_eq_append] at hd hμ ih ⊢
   obtain ⟨e1,e2,e3⟩:=QAD p f (by omega)
   have hrf:Rc (G l) f:=hd.rc f (hd.pm f (by simp))
   have Xy:kn[f]? = some true:=hd.kn f (hd.pm f (by simp))
   have hf:f < l.length:=hr f hrf
   rw [e1]
   rw [decide_eq_true (show (List.length (ints (p++[f])):Int) > 0 by rw [ZR,List.length_append];simp only [List.length_cons,List.length_nil];omega),cond_true]
   rw [show (decide ((0:Int)<=(p.length:Int))&&decide ((p.length:Int) < (List.length (ints (p++[f])):Int)))=true by rw [ZR];simp;omega,cond_true]
   rw [e2,Option.bind_some]
   rw [show (decide ((0:Int)<=(p.length:Int))&&decide ((p.length:Int)<=(List.length (ints (p++[f])):Int)))=true by rw [ZR];simp;omega,cond_true]
   rw [yw h hf,Option.bind_some,e3]
   have hgl:=QKC l f
   rw [ZR (G l f)]
   refine Pp (σ:=List Int×List Bool×List Bool×List Nat) (g:=nN (fun _=>List.replicate) big ZG self) (n:=(G l f).length) (fun s k=>((f:Int),ints (G l f),((G l f).length:Int),(k:Int),l,bs,([]:List Int),(0:Int),s.1,s.2.1,l,s.2.2.1,ints s.2.2.2))
    (fun k s=>s.2.2.1.length=l.length/\DP (G l) (da bs) l.length s.1 s.2.1/\da s.1 (l.length - 1)=0/\M0 (G l) (EgD (da bs) s.1 s.2.1) (fun i=>s.2.1[i]? = some true) s.2.2.1 s.2.2.2 (some (f,k))/\s.2.1[f]? = some true/\μ2 s.2.2.1 s.2.2.2+1<=μ2 met (p++[f]))
    (Nf l bs) ?_ ?_ (G l f).length 0 big (by simp) (uL (by omega)) (dep,kn,met,p) ⟨hm,hp,hz,hd.pop,Xy,by simp [μ2];omega⟩
   ·rintro ZH ⟨dep,kn,mt,q⟩ ⟨f1,f2,f3,f4,f5,f6⟩
    dsimp only at f1 f2 f3 f4 f5 f6
    show Nf l bs (dJ (fun _=>List.replicate) ZG self ZH _)
    unfold dJ
    dsimp only
    rw [decide_eq_false (by omega),cond_false]
    refine ih _ ⟨dep,kn,mt,q,rfl,f1,f2,f3,f4.fin,by omega⟩ ?_
    show 2 * mt.count false+(ints q).length < 2 * met.count false+(ints (p++[f])).length
    rw [ZR,ZR]
    unfold μ2 at f6
    omega
   ·rintro ZH ⟨dep,kn,mt,q⟩ k hk ⟨f1,f2,f3,f4,f5,f6⟩
    dsimp only at f1 f2 f3 f4 f5 f6
    have hj:(G l f)[k]? = some (G l f)[k]:=List.getElem?_eq_getElem hk
    have hjm:(G l f)[k]∈G l f:=List.getElem_mem hk
    have hjl:=QJC h hf hjm
    generalize (G l f)[k]=j at *
    have hb1:=QVD hb f
    have hk1:=f2.kr f f5
    have hnext:∀ D,Right (G l) (da bs) l.length D->_:=fun D hD=>f2.next f5 hjm hD
    have hgd:=fun hk=>EgD.step f2 f5 hjl hk
    have hpd:=fun a b c=>f2.step f5 hjm hjl a b c
    have hw:IntKind.i64.wrap (da dep f+da bs f)=da dep f+da bs f:=w64 (by omega) (by omega)
    have hld:=f2.ld
    have hlk:=f2.lk
    show (∃ s',_/\dJ (fun _=>List.replicate) ZG self ZH ((f:Int),ints (G l f),((G l f).length:Int),(k:Int),l,bs,([]:List Int),(0:Int),dep,kn,l,mt,ints q)=_)∨Nf l bs (dJ (fun _=>List.replicate) ZG self ZH ((f:Int),ints (G l f),((G l f).length:Int),(k:Int),l,bs,([]:List Int),(0:Int),dep,kn,l,mt,ints q))
    generalize hX:dJ (fun _=>List.replicate) ZG self ZH ((f:Int),ints (G l f),((G l f).length:Int),(k:Int),l,bs,([]:List Int),(0:Int),dep,kn,l,mt,ints q)=X
    have hql:q.length<=1000:=by simp only [μ2] at f6 hμ;omega
    have hlim:(Nat.ble 1 1&&Nat.ble (List.length (ints q)+List.length ([(j:Int)]:List Int)) lim)=true:=by
     rw [b11,bg (by rw [ZR];simp;omega)];rfl
    unfold dJ at hX
    dsimp only at hX
    rw [decide_eq_true (show (k:Int) < ((G l f).length:Int) by omega),cond_true,kG (ints_at hj),Option.bind_some] at hX
    simp only [hld,hlk,f1,QGU hf,QGU hjl,cond_true,QP5 (show f < dep.length by omega),QP5 (show j < dep.length by omega),QIY (show f < bs.length by omega),Option.bind_some,hw,QHR _ j l.length h1 (by omega),hlim,List.length_set] at hX
    rw [w64 (z:=(k:Int)+1) (by omega) (by omega),Int.toNat_natCast,sP,sP] at hX
    generalize da dep f+da bs f=d at *
    by_cases hD:(if j=l.length - 1 then decide (d=0) else decide (0<=d/\d<=4096))=true
    ·rw [hD] at hX
     have hd0:(0<=d/\d<=4096)/\(j=l.length - 1->d=0):=by
      split at hD
      ·have:=of_decide_eq_true hD;omega
      ·rename_i e
       have:=of_decide_eq_true hD
       exact ⟨this,fun e2=>absurd e2 e⟩
     have good:(kn[j]? = some true->da dep j=d)->X=((mt[j]?).bind fun b=>bif !b then ZH ((f:Int),ints (G l f),((G l f).length:Int),((k+1:Nat):Int),l,bs,([]:List Int),(0:Int),dep.set j d,kn.set j true,l,mt.set j true,ints q++[(j:Int)]) else ZH ((f:Int),ints (G l f),((G l f).length:Int),((k+1:Nat):Int),l,bs,([]:List Int),(0:Int),dep.set j d,kn.set j true,l,mt,ints q))->(∃ s':List Int×List Bool×List Bool×List Nat,(s'.2.2.1.length=l.length/\DP (G l) (da bs) l.length s'.1 s'.2.1/\da s'.1 (l.length - 1)=0/\M0 (G l) (EgD (da bs) s'.1 s'.2.1) (fun i=>s'.2.1[i]? = some true) s'.2.2.1 s'.2.2.2 (some (f,k+1))/\s'.2.1[f]? = some true/\μ2 s'.2.2.1 s'.2.2.2+1<=μ2 met (p++[f]))/\X=ZH ((f:Int),ints (G l f),((G l f).length:Int),((k+1:Nat):Int),l,bs,([]:List Int),(0:Int),s'.1,s'.2.1,l,s'.2.2.1,ints s'.2.2.2))∨Nf l bs X:=fun hkn hx=>by
      left
      have hE:=hgd hkn
      have hS:=hpd hd0.1.1 hd0.1.2 hkn
      have hz2:da (dep.set j d) (l.length - 1)=0:=by
       rw [QD2 (by omega)]
       split
       ·rename_i e;exact hd0.2 e.symm
       ·exact f3
      have hkj:(kn.set j true)[j]? = some true:=(QA2 (by omega)).2 (.inl rfl)
      have QVV:(kn.set j true)[f]? = some true:=(QA2 (by omega)).2 (.inr f5)
      have hK:∀ a,kn[a]? = some true->(kn.set j true)[a]? = some true:=fun a ha=>(QA2 (by omega)).2 (.inr ha)
      rcases QAI (m:=mt) (j:=j) (by omega) with hb | hb
      ·refine ⟨(dep.set j d,kn.set j true,mt,q),⟨f1,hS,hz2,f4.old hj hE.1 hK hE.2 hb,QVV,f6⟩,?_⟩
       rw [hx,hb]
       rfl
      ·have hc:=pI hb
       refine ⟨(dep.set j d,kn.set j true,mt.set j true,q++[j]),⟨by simp [f1],hS,hz2,f4.new hj hE.1 hK hE.2 hkj hb,QVV,?_⟩,?_⟩
       ·simp only [μ2,List.length_append,List.length_cons,List.length_nil] at f6 ⊢
        omega
       ·rw [hx,hb,wE]
        rfl
     rcases QAI (m:=kn) (j:=j) (by omega) with hb | hb
     ·rw [hb] at hX
      simp only [Option.bind_some,Bool.not_true,cond_false,cond_true] at hX
      by_cases e:da dep j=d
      ·rw [show (da dep j != d)=false by simp [e],cond_false] at hX
       exact good (fun _=>e) hX.symm
      ·right
       refine .inr ⟨fun D hD=>e ((hnext D hD).2.2 hb),?_⟩
       rw [show (da dep j != d)=true by simpa using e,cond_true] at hX
       exact hX.symm
     ·rw [hb] at hX
      simp only [Option.bind_some,Bool.not_true,cond_false,cond_true] at hX
      exact good (fun e=>by rw [hb] at e;cases e) hX.symm
    ·right
     refine .inr ⟨fun D hD2=>hD ?_,?_⟩
     ·have:=hnext D hD2
      split
      ·rename_i e;exact decide_eq_true (this.2.1 e)
      ·exact decide_eq_true this.1
     ·rw [Bool.not_eq_true] at hD
      rw [hD] at hX
      exact hX.symm
 ·have:=vD l.length h1
  have hs:=DP.start (g:=G l) (W:=da bs) h1
  refine ⟨_,_,_,[0],rfl,by simp,hs,?_,M0.start h1 hs.k0,?_⟩
  ·simp only [da,List.getD_eq_getElem?_getD,List.getElem?_replicate]
   split <;> rfl
  ·simp only [μ2,List.length_cons,List.length_nil]
   omega
 ·have:=vD l.length h1
  refine uL ?_
  show 2 * ((List.replicate l.length false).set 0 true).count false+1<=_
  omega
theorem QJ3 (l:List Ins) (bs:List Int):uJ l bs (wO (l,bs)):=by
 show uJ l bs (rT (fun _=>List.replicate) (FU (jX (fun _=>List.replicate) big) big) (l,bs))
 unfold rT uJ
 dsimp only
 rw [vw,Option.bind_some]
 by_cases h:zJ l=true
 ·obtain ⟨h1,h2,hok,hlast⟩:=bT h
  rw [if_pos h,if_pos h,show ((0:Int) != 0)=false from rfl,cond_false]
  by_cases hl:bs.length=l.length
  ·rw [show ((bs.length:Int) != (l.length:Int))=false by rw [hl];simp,cond_false]
   refine Pp (σ:=Unit) (g:=jX (fun _=>List.replicate) big) (n:=bs.length) (fun _ i=>(bs,(bs.length:Int),(i:Int),l,bs,([]:List Int),(0:Int),false)) (fun i _=>∀ k b,k < i->bs[k]? = some b->(decide (-4096<=b)&&decide (b<=4096))=true) (fun r=>if bs.length=l.length/\QHF bs=true then (∃ dep,r=some (dep,0)/\IsD l bs dep)∨((∀ D,¬ Right (G l) (da bs) l.length D)/\r=some ([],36)) else r=some ([],2)) ?_ ?_ bs.length 0 big (by simp) (uL (by omega)) () (fun k b hk=>absurd hk (Nat.not_lt_zero _))
   ·rintro self _ hI
    have hb:QHF bs=true:=qX.2 fun k b hk=>hI k b (List.getElem?_eq_some_iff.1 hk).1 hk
    rw [if_pos ⟨hl,hb⟩]
    show Nf l bs (gJ (fun _=>List.replicate) (FU (fQ (fun _=>List.replicate) big self) big) self _)
    unfold gJ
    dsimp only
    rw [decide_eq_false (show ¬ (bs.length:Int) < (bs.length:Int) by omega),cond_false]
    simp only [QAj (show l.length<=68719476736 by omega),start_lt h1,cond_true,cond_false,Int.toNat_natCast,Int.toNat_zero]
    exact QGJ h hl hb self
   ·rintro self _ i hi hI
    have hx:bs[i]? = some bs[i]:=List.getElem?_eq_getElem hi
    have e0:jX (fun _=>List.replicate) big self (bs,(bs.length:Int),(i:Int),l,bs,([]:List Int),(0:Int),false)=gJ (fun _=>List.replicate) (FU (fQ (fun _=>List.replicate) big self) big) self (bs,(bs.length:Int),(i:Int),l,bs,([]:List Int),(0:Int),false):=rfl
    rw [e0]
    unfold gJ
    dsimp only
    rw [decide_eq_true (show (i:Int) < (bs.length:Int) by omega),cond_true,kG hx,Option.bind_some,QGY,Option.bind_some,w64 (z:=(i:Int)+1) (by omega) (by omega)]
    cases e:(decide (-4096<=bs[i])&&decide (bs[i]<=4096)) with
    | true=>
     left
     refine ⟨(),fun k b hk hkb=>?_,rfl⟩
     by_cases e2:k=i
     ·subst e2
      rw [hx] at hkb
      cases hkb
      exact e
     ·exact hI k b (by omega) hkb
    | false=>
     right
     rw [if_neg (fun hh=>by rw [qX.1 hh.2 i _ hx] at e;cases e),decide_eq_true (show (i:Int)≥0 by omega)]
     rfl
  ·rw [show ((bs.length:Int) != (l.length:Int))=true by simp;omega,cond_true,if_neg (fun e=>hl e.1)]
 ·rw [if_neg h,if_neg h]
  rfl
end Go.Proofs.YtbgmjjplddddnaaGreatDoor.F
set_option linter.unusedVariables false
set_option linter.unusedSimpArgs false
set_option maxRecDepth 100000
namespace Go.Proofs.YtbgmjjplddddnaaGreatDoor.F
open Go.Lift
theorem IsD.right {l:List Ins} (h:zJ l=true) {bs dep:List Int} (hd:IsD l bs dep):dep.length=l.length/\da dep (l.length - 1)=0/\Right (G l) (da bs) l.length (da dep):=by
 obtain ⟨h1,_⟩:=bT h
 obtain ⟨g1,D,g2,g3⟩:=hd
 have hr:∀ i,Rc (G l) i->da dep i=D i:=fun i hi=>(g3 i (hi.lt h)).1 hi
 refine ⟨g1,?_,⟨by rw [hr 0 .zero,g2.z],fun i j hi hj=>?_⟩⟩
 ·by_cases e:Rc (G l) (l.length - 1)
  ·rw [hr _ e];exact g2.last e
  ·exact (g3 _ (by omega)).2 e
 ·rw [hr j (.step hi hj),hr i hi]
  exact g2.e i j hi hj
end Go.Proofs.YtbgmjjplddddnaaGreatDoor.F
