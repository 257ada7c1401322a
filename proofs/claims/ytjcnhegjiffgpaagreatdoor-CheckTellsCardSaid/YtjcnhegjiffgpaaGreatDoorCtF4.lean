import Derived.Test.YtjcnhegjiffgpaaGreatDoorCtM3
set_option linter.unusedVariables false
set_option linter.unusedSimpArgs false
set_option linter.unusedSectionVars false
set_option maxRecDepth 100000
namespace Go.Proofs.YtjcnhegjiffgpaaGreatDoor.F
open Go.Lift
abbrev IT7:Ty:=.pair (.int .u8) (.pair (.int .i64) (.pair (.int .i64) (.pair (.int .i64) .unit)))
theorem fQ {z:Int} (h : -9223372036854775808<=z) (h':z<=9223372036854775807):IntKind.i64.wrap z=z:=wrap_i64 h h'
theorem QYl:big=(big - 2)+1+1:=by decide
theorem Gn {α:Type} {xs:List α} {i:Nat} {x:α} (h:xs[i]? = some x):BX xs (i:Int)=some x:=by rw [XC];exact h
theorem M8 {α:Type}:∀ (xs:List α) (i:Nat),nth xs i=xs[i]?
 | [],i=>by cases i <;> rfl
 | x::xs,0=>rfl
 | x::xs,i+1=>(M8 xs i).trans List.getElem?_cons_succ.symm
theorem ML {i n:Nat} (h:i < n):(decide ((0:Int)<=(i:Int))&&decide ((i:Int) < (n:Int)))=true:=by simp;omega
def QBa:Ins:=(34,(-1,(0,(0,()))))
def lead (x:Ins) (n:Nat):Bool:=if x.1=22 then idx x.2.1 n else if x.1=23 then idx x.2.2.1 n else true
def xJ (n:Nat) (x:Ins):Bool:=Qf x&&lead x n
def VP (l:List Ins):Bool:=decide (1<=l.length)&&(decide (l.length<=200)&&(l.all (xJ l.length)&&decide (l[l.length - 1]? = some QBa)))
theorem Yk (n k:Int):IB (n,k)=some (idx n k):=by
 simp only [IB,dM,idx]
 by_cases h:(0:Int)<=n <;> simp [h]
theorem QA1 (x:Ins) (n:Nat):J8 (x,(n:Int))=some (lead x n):=by
 simp only [J8,Yp,lead,Yk]
 by_cases h:x.1=22
 ·simp [h,EW]
 ·by_cases h2:x.1=23 <;> simp [h,h2,EW]
theorem QTV {x:Ins} (h:Qf x=true):(x.1=34/\x.2.1 = -1)↔x=QBa:=by
 constructor
 ·rintro ⟨h1,h2⟩
  obtain ⟨a,b,c,ho,e,ha,hb,hc,fa,fb,fc⟩:=Jc h
  have e34:Xc 34=[3,0,0]:=by decide +kernel
  rw [h1,e34] at e
  simp only [List.cons.injEq,and_true] at e
  obtain ⟨rfl,rfl,rfl⟩:=e
  simp [fit] at fb fc
  obtain ⟨p,q,r,s,u⟩:=x
  simp_all [QBa]
 ·rintro rfl;exact ⟨rfl,rfl⟩
theorem Ow {α:Type} {p:α->Bool} {l:List α}:l.all p=true↔∀ (k:Nat) (x:α),l[k]? = some x->p x=true:=by
 rw [List.all_eq_true]
 constructor
 ·intro h k x hx;exact h x (BF hx)
 ·intro h x hx
  obtain ⟨k,hk,rfl⟩:=List.getElem_of_mem hx
  exact h k _ (AU hk)
theorem Wu (l:List Ins):LZ l=some (if VP l then 0 else 8):=by
 show R9 (BP (Ni big) big) l=_
 unfold R9
 by_cases h0:l.length=0
 ·have:l=[]:=Ar h0
  subst this
  rfl
 by_cases h1:200 < l.length
 ·have e1:((l.length:Int)==0)=false:=by rw [EW];exact AF (by omega)
  have e2:decide ((l.length:Int) > 200)=true:=AB (by omega)
  rw [e1,e2,AJ,AL]
  simp [VP,show ¬ l.length<=200 by omega]
 have e1:((l.length:Int)==0)=false:=by rw [EW];exact AF (by omega)
 have e2:decide ((l.length:Int) > 200)=false:=AF (by omega)
 rw [e1,e2,AJ,AJ]
 refine Bg (σ:=Unit) (g:=Ni big) (n:=l.length) (λ_ i=>(l,l,(l.length:Int),(i:Int))) (λi _=>∀ k x,k < i->l[k]? = some x->xJ l.length x=true) (λr=>r=some (if VP l then 0 else 8)) ?_ ?_ l.length 0 big (by simp) (WE (by have:=Bw;omega)) () (λk x hk=>by omega)
 ·intro self _ hI
  show Kj self (l,l,(l.length:Int),(l.length:Int))=_
  unfold Kj
  dsimp only
  rw [AF (by omega),AJ,fQ (by omega) (by omega)]
  have hlt:l.length - 1 < l.length:=by omega
  have hx:l[l.length - 1]? = some l[l.length - 1]:=AU hlt
  rw [show ((l.length:Int) - 1)=((l.length - 1:Nat):Int) by omega,Gn hx,AA]
  have hall:l.all (xJ l.length)=true:=Ow.2 λk x hk=>hI k x (Aq.1 hk).1 hk
  have hok:Qf l[l.length - 1]=true:=by
   have:=hI _ _ hlt hx
   simp only [xJ,AP] at this
   exact this.1
  have hend:=QTV hok
  generalize l[l.length - 1]=x at hx hok hend
  simp only [VP,hall,hx,Ai]
  rw [AB (show 1<=l.length by omega),AB (show l.length<=200 by omega)]
  simp only [Ai,AZ,Ac]
  by_cases a:x.1=34
  ·by_cases b:x.2.1 = -1
   ·rw [AY (hend.1 ⟨a,b⟩)];simp [a,b]
   ·rw [AX λe=>b (hend.2 e).2];simp [a,b,bne,EW]
  ·rw [AX λe=>a (hend.2 e).1];simp [a,bne,EW]
 ·intro self _ i hi hI
  have hx:l[i]? = some l[i]:=AU hi
  show (∃ s',_/\Kj self (l,l,(l.length:Int),(i:Int))=_)\/Kj self (l,l,(l.length:Int),(i:Int))=_
  unfold Kj
  dsimp only
  rw [AB (by omega),AL,Gn hx,AA,Wv,AA,QA1]
  have hbad:xJ l.length l[i]=false->VP l=false:=λhb=>by
   have:l.all (xJ l.length)=false:=by
    cases ha:l.all (xJ l.length) with
    | false=>rfl
    | true=>rw [Ow.1 ha i _ hx] at hb;cases hb
   simp [VP,this]
  cases ho:Qf l[i] with
  | false=>
   right
   rw [hbad (by simp [xJ,ho])]
   rfl
  | true=>
   cases hl:lead l[i] l.length with
   | false=>
    right
    rw [hbad (by simp [xJ,hl])]
    rfl
   | true=>
    left
    refine ⟨(),λk x hk hx'=>?_,?_⟩
    ·by_cases e:k=i
     ·subst e
      rw [hx] at hx'
      cases hx'
      simp [xJ,ho,hl]
     ·exact hI k x (by omega) hx'
    ·simp only [if_true,AA,A8,AJ]
     rw [fQ (by omega) (by omega)]
     rfl
theorem YU (N:Nat) (BM) {rs ns:List Int} {i r n:Int} (h0:0<=i) (h3:i < 3) (hr:BX rs i=some (wu r)) (hn:nth ns i.toNat=some n) (hl:Rl r) :
  Ee N BM (rs,i,ns)=if fit r n then BM (rs,IntKind.i64.wrap (i+1),ns) else some 8:=by
 show MH BM _=_
 unfold MH
 dsimp only
 rw [AB h3,AB h0,AL,hr]
 simp only [AA,Bool.and_self,AL,hn,QCM r n hl]
 cases fit r n <;> rfl
theorem fF (x:Ins) (h0:0<=x.1) (h1:x.1<=255):PG x=some (if Qf x then 0 else 8):=by
 show J5 (BP (Ee big) big) x=_
 unfold J5
 rw [gG h0 h1,AA,show D7 x=some (vals x) from rfl,AA]
 cases h:ZY x.1 with
 | false=>simp [Qf,h]
 | true=>
  obtain ⟨a,b,c,e,ha,hb,hc⟩:=XR h
  simp only [if_true,e,List.map_cons,List.map_nil]
  show BP (Ee big) big ([wu a,wu b,wu c],0,vals x)=_
  rw [qg,Ba,YU _ _ (by decide) (by decide) (d9 _ _) rfl ha,w01]
  simp only [Qf,h,e,zk,vals,Ai,Bool.and_true]
  cases fit a x.2.1 with
  | false=>rfl
  | true=>
   rw [AY rfl,Ba,YU _ _ (by decide) (by decide) (eB _ _ _) rfl hb,w12]
   cases fit b x.2.2.1 with
   | false=>rfl
   | true=>
    rw [AY rfl,Ba,YU _ _ (by decide) (by decide) (eD _ _ _ _) rfl hc,w23]
    cases fit c x.2.2.2.1 with
    | false=>rfl
    | true=>rfl
def WfC (l:List Ins):Prop:=∀ x∈l,0<=x.1/\x.1<=255
theorem QR5 {n:Int} (h:fit 10 n=true):0<=n:=by simp [fit,idx] at h;omega
theorem zy {x:Ins} (h:Qf x=true) (e:x.1=22):0<=x.2.1:=by
 obtain ⟨a,b,c,ho,er,ha,hb,hc,fa,fb,fc⟩:=Jc h
 have e22:Xc 22=[10,0,0]:=by decide +kernel
 rw [e,e22] at er
 simp only [List.cons.injEq,and_true] at er
 obtain ⟨rfl,rfl,rfl⟩:=er
 exact QR5 fa
theorem gT {x:Ins} (h:Qf x=true) (e:x.1=23):0<=x.2.2.1:=by
 obtain ⟨a,b,c,ho,er,ha,hb,hc,fa,fb,fc⟩:=Jc h
 have e23:Xc 23=[1,10,0]:=by decide +kernel
 rw [e,e23] at er
 simp only [List.cons.injEq,and_true] at er
 obtain ⟨rfl,rfl,rfl⟩:=er
 exact QR5 fb
theorem QFd {x:Ins} (h:Qf x=true) (n:Nat):lead x n=if x.1=22 then decide (x.2.1 < n) else if x.1=23 then decide (x.2.2.1 < n) else true:=by
 unfold lead idx
 by_cases e:x.1=22
 ·simp [e,zy h e]
 ·by_cases e2:x.1=23
  ·simp [e,e2,gT h e2]
  ·simp [e,e2]
theorem QEC (l:List Ins) (hw:WfC l):Xy l=some (if VP l then 0 else 8):=by
 show QW (BP (Lm big) big) l=_
 unfold QW
 by_cases h0:l.length=0
 ·have:l=[]:=Ar h0
  subst this
  rfl
 by_cases h1:200 < l.length
 ·have e1:decide ((l.length:Int) < 1)=false:=by simp;omega
  have e2:decide ((l.length:Int) > 200)=true:=by simp;omega
  rw [e1,e2,AJ,AL]
  simp [VP,show ¬ l.length<=200 by omega]
 have e1:decide ((l.length:Int) < 1)=false:=AF (by omega)
 have e2:decide ((l.length:Int) > 200)=false:=AF (by omega)
 rw [e1,e2,AJ,AJ]
 refine Bg (σ:=Unit) (g:=Lm big) (n:=l.length) (λ_ i=>(l,(i:Int))) (λi _=>∀ k x,k < i->l[k]? = some x->xJ l.length x=true) (λr=>r=some (if VP l then 0 else 8)) ?_ ?_ l.length 0 big (by simp) (WE (by have:=Bw;omega)) () (λk x hk=>by omega)
 ·intro self _ hI
  show JO self (l,(l.length:Int))=_
  unfold JO
  dsimp only
  rw [AF (by omega),AJ,fQ (by omega) (by omega)]
  have hlt:l.length - 1 < l.length:=by omega
  have hx:l[l.length - 1]? = some l[l.length - 1]:=AU hlt
  rw [show ((l.length:Int) - 1)=((l.length - 1:Nat):Int) by omega,Gn hx,AA]
  have hall:l.all (xJ l.length)=true:=Ow.2 λk x hk=>hI k x (Aq.1 hk).1 hk
  generalize l[l.length - 1]=x at hx
  simp only [VP,hall,hx,Ai]
  rw [AB (show 1<=l.length by omega),AB (show l.length<=200 by omega)]
  simp only [Ai,AZ,Ac]
  by_cases a:x=QBa
  ·subst a
   rfl
  ·rw [Oh (t:=IT7) (show x≠((34:Int),((-1:Int),((0:Int),((0:Int),())))) from a),AX a]
   rfl
 ·intro self _ i hi hI
  have hx:l[i]? = some l[i]:=AU hi
  have hm:l[i]∈l:=Ae hi
  show (∃ s',_/\JO self (l,(i:Int))=_)\/JO self (l,(i:Int))=_
  unfold JO
  dsimp only
  rw [AB (by omega),AL,Gn hx,AA,fF _ (hw _ hm).1 (hw _ hm).2,AA]
  have hbad:xJ l.length l[i]=false->VP l=false:=λhb=>by
   have:l.all (xJ l.length)=false:=by
    cases ha:l.all (xJ l.length) with
    | false=>rfl
    | true=>rw [Ow.1 ha i _ hx] at hb;cases hb
   simp [VP,this]
  cases ho:Qf l[i] with
  | false=>
   right
   rw [hbad (by simp [xJ,ho])]
   rfl
  | true=>
   have hlead:=QFd ho l.length
   simp only [if_true,show ((0:Int) != 0)=false from rfl,AJ]
   have next:lead l[i] l.length=true->∃ s':Unit,(∀ k x,k < i+1->l[k]? = some x->xJ l.length x=true)/\self (l,IntKind.i64.wrap ((i:Int)+1))=self (l,((i+1:Nat):Int)):=λhl=>by
    refine ⟨(),λk x hk hx'=>?_,by rw [fQ (by omega) (by omega)];rfl⟩
    by_cases e:k=i
    ·subst e
     rw [hx] at hx'
     cases hx'
     simp [xJ,ho,hl]
    ·exact hI k x (by omega) hx'
   have fail:lead l[i] l.length=false->VP l=false:=λhl=>hbad (by simp [xJ,hl])
   generalize l[i]=x at *
   by_cases a:x.1=22
   ·rw [AY a] at hlead
    have b:¬ x.1=23:=by omega
    by_cases c:x.2.1 < (l.length:Int)
    ·left
     have:=next (by rw [hlead];simp [c])
     have c':decide (x.2.1>=(l.length:Int))=false:=by simp;omega
     simpa only [a,b,c',EW,decide_true,decide_false,AL,AJ,if_true,if_false,show ¬ (22:Int)=23 by decide] using this
    ·right
     have c':decide (x.2.1>=(l.length:Int))=true:=by simp;omega
     rw [fail (by rw [hlead];simp [c])]
     simp only [a,c',EW,decide_true,AL]
     rfl
   ·by_cases b:x.1=23
    ·rw [AX a,AY b] at hlead
     by_cases c:x.2.2.1 < (l.length:Int)
     ·left
      have:=next (by rw [hlead];simp [c])
      have c':decide (x.2.2.1>=(l.length:Int))=false:=by simp;omega
      simpa only [a,b,c',EW,decide_true,decide_false,AL,AJ,show ¬ (23:Int)=22 by decide] using this
     ·right
      have c':decide (x.2.2.1>=(l.length:Int))=true:=by simp;omega
      rw [fail (by rw [hlead];simp [c])]
      simp only [a,b,c',EW,decide_true,decide_false,AL,AJ,show ¬ (23:Int)=22 by decide]
      rfl
    ·left
     rw [AX a,AX b] at hlead
     have:=next hlead
     simpa only [a,b,EW,decide_false,AJ] using this
def bh (x:Ins) (i:Nat):List Nat:=
 if x.1=22 then [x.2.1.toNat] else if x.1=23 then (if x.2.2.1=(i:Int)+1 then [i+1] else [min (i+1) x.2.2.1.toNat,max (i+1) x.2.2.1.toNat]) else if x.1=34\/x.1=28\/x.1=30 then [] else [i+1]
def G (l:List Ins) (i:Nat):List Nat:=match l[i]? with
 | some x=>bh x i
 | none=>[]
abbrev ints (l:List Nat):List Int:=l.map λ(k:Nat)=>(k:Int)
theorem Eo {l:List Ins} (h:VP l=true):1<=l.length/\l.length<=200/\(∀ (k:Nat) (x:Ins),l[k]? = some x->Qf x=true/\lead x l.length=true)/\l[l.length - 1]? = some QBa:=by
 simp only [VP,AP,AZ] at h
 refine ⟨h.1,h.2.1,λk x hx=>?_,h.2.2.2⟩
 have:=Ow.1 h.2.2.1 k x hx
 simpa only [xJ,AP] using this
theorem QAw {l:List Ins} (h:VP l=true) {i j:Nat} (hi:i < l.length) (hj:j∈G l i):j < l.length:=by
 obtain ⟨h1,h2,h3,h4⟩:=Eo h
 have hx:l[i]? = some l[i]:=AU hi
 obtain ⟨ho,hl⟩:=h3 i _ hx
 rw [QFd ho] at hl
 simp only [G,hx,bh] at hj
 have hlast:i=l.length - 1->l[i]=QBa:=λe=>by
  have:some l[i]=some QBa:=by rw [<- hx,e];exact h4
  exact Au this
 by_cases e:i=l.length - 1
 ·rw [hlast e] at hj
  simp [QBa] at hj
 ·by_cases a:l[i].1=22
  ·simp [a] at hj hl
   have:=zy ho a
   omega
  ·by_cases b:l[i].1=23
   ·have hB:=gT ho b
    simp only [a,b,if_false,if_true,show ¬ (23:Int)=22 by decide,AZ] at hj hl
    split at hj <;> simp at hj <;> omega
   ·simp only [a,b,if_false] at hj
    split at hj <;> simp at hj
    omega
theorem QKf (a b:Int):BP (D5 (λ_=>List.replicate) big) big (1,[a,b])=some (if b=a then [a] else [a,b]):=by
 have key:∀ N M,N=(N - 1)+1->M=(M - 2)+1+1->BP (D5 (λ_=>List.replicate) N) M (1,[a,b])=some (if b=a then [a] else [a,b]):=by
  intro N M hN hM
  rw [hM,Ba]
  show Lx (λ_=>List.replicate) (BP (PZ (λ_=>List.replicate) N (BP (D5 (λ_=>List.replicate) N) (M - 2+1))) N) (BP (D5 (λ_=>List.replicate) N) (M - 2+1)) (1,[a,b])=_
  generalize hl:BP (PZ (λ_=>List.replicate) N (BP (D5 (λ_=>List.replicate) N) (M - 2+1))) N=Ca
  have h1:Ca (1,1,2,1,[a,b])=some [a]:=by
   rw [<- hl,hN,Ba]
   show Uh (λ_=>List.replicate) _ _ (1,1,2,1,[a,b])=_
   unfold Uh
   rfl
  have h2:BP (D5 (λ_=>List.replicate) N) (M - 2+1) (2,[a,b])=some [a,b]:=by
   rw [Ba]
   show Lx (λ_=>List.replicate) _ _ (2,[a,b])=_
   unfold Lx
   rfl
  show (bif b==a then Ca (1,1,2,1,[a,b]) else BP (D5 (λ_=>List.replicate) N) (M - 2+1) (2,[a,b]))=_
  rw [h1,h2,EW]
  by_cases e:b=a <;> simp [e]
 exact key big big gP QYl
theorem aK {l:List Ins} (h:VP l=true) {i:Nat} (hi:i < l.length):Md (l,(i:Int))=some (ints (G l i)):=by
 obtain ⟨h1,h2,h3,h4⟩:=Eo h
 have hx:l[i]? = some l[i]:=AU hi
 obtain ⟨ho,_⟩:=h3 i _ hx
 show Tz (λ_=>List.replicate) (BP (D5 (λ_=>List.replicate) big) big) (l,(i:Int))=_
 unfold Tz
 dsimp only
 rw [Gn hx,AA]
 simp only [G,hx,bh]
 have hw:IntKind.i64.wrap ((i:Int)+1)=(i:Int)+1:=fQ (by omega) (by omega)
 rw [hw]
 have hA:=zy ho
 have hB:=gT ho
 generalize l[i]=x at *
 by_cases a:x.1=22
 ·have:=hA a
  simp [a,ints]
  omega
 by_cases b:x.1=23
 ·have hB:=hB b
  simp only [a,b,if_false,if_true,EW,decide_true,decide_false,AL,AJ,show ¬ (23:Int)=22 by decide]
  rw [show decide ((List.length ([if x.2.2.1 < (i:Int)+1 then x.2.2.1 else (i:Int)+1,if x.2.2.1 > (i:Int)+1 then x.2.2.1 else (i:Int)+1]:List Int):Int) < 2)=false from rfl,AJ]
  rw [QKf]
  by_cases c:x.2.2.1=(i:Int)+1
  ·rw [AY c,c]
   simp [ints]
  ·rw [AX c,AX (by split <;> split <;> omega)]
   simp only [ints,List.map_cons,List.map_nil,Ac,List.cons.injEq,and_true]
   constructor
   ·split <;> omega
   ·split <;> omega
 simp only [a,b,if_false,EW,decide_false,AJ]
 by_cases c:x.1=34
 ·simp [c]
 by_cases d:x.1=28
 ·simp [c,d]
 by_cases e:x.1=30
 ·simp [c,d,e]
 simp [c,d,e,ints]
theorem jY {l:List Ins} (h:VP l=true) {i:Nat} (hi:i < l.length):IE (l,(i:Int))=some (ints (G l i)):=by
 obtain ⟨h1,h2,h3,h4⟩:=Eo h
 have hx:l[i]? = some l[i]:=AU hi
 obtain ⟨ho,_⟩:=h3 i _ hx
 show Wh (l,(i:Int))=_
 unfold Wh
 dsimp only
 rw [Gn hx,AA]
 simp only [G,hx,bh]
 have hw:IntKind.i64.wrap ((i:Int)+1)=(i:Int)+1:=fQ (by omega) (by omega)
 rw [hw]
 have hA:=zy ho
 have hB:=gT ho
 generalize l[i]=x at *
 by_cases a:x.1=22
 ·have:=hA a
  simp [a,ints]
  omega
 by_cases b:x.1=23
 ·have hB:=hB b
  by_cases c:x.2.2.1=(i:Int)+1
  ·simp [a,b,c,ints]
  ·simp only [a,b,c,if_false,if_true,EW,decide_true,decide_false,AL,AJ,show ¬ (23:Int)=22 by decide,show ¬ (23:Int)=34 by decide,show ¬ (23:Int)=28 by decide,show ¬ (23:Int)=30 by decide]
   simp only [ints,List.map_cons,List.map_nil,Ac,List.cons.injEq,and_true]
   constructor
   ·split <;> omega
   ·split <;> omega
 simp only [a,b,if_false,EW,decide_false,AJ]
 by_cases c:x.1=34
 ·simp [c]
 by_cases d:x.1=28
 ·simp [c,d]
 by_cases e:x.1=30
 ·simp [c,d,e]
 simp [c,d,e,ints]
end Go.Proofs.YtjcnhegjiffgpaaGreatDoor.F
set_option linter.unusedVariables false
set_option linter.unusedSimpArgs false
set_option maxRecDepth 100000
namespace Go.Proofs.YtjcnhegjiffgpaaGreatDoor.F
open Go.Lift
theorem MV {V α:Type} {g:(V->Option α)->V->Option α} (I:V->Prop) (μ:V->Nat) (Post:Option α->Prop) (h:∀ self v,I v->(∀ v',I v'->μ v' < μ v->Post (self v'))->Post (g self v)):∀ N v,I v->μ v < N->Post (BP g N v)
 | 0,v,_,hm=>by omega
 | n+1,v,hI,hm=>h (BP g n) v hI λv' h1 h2=>MV I μ Post h n v' h1 (by omega)
inductive Rc (g:Nat->List Nat):Nat->Prop
 | zero:Rc g 0
 | step {i j:Nat}:Rc g i->j∈g i->Rc g j
open Classical in
noncomputable def KL (l:List Ins):List Bool:=(List.range l.length).map λi=>decide (Rc (G l) i)
theorem KM (l:List Ins):(KL l).length=l.length:=by simp [KL]
theorem bI {l:List Ins} {i:Nat} (h:i < l.length):(KL l)[i]? = some true↔Rc (G l) i:=by
 simp [KL,h]
theorem eT {l:List Ins} {i:Nat} (h:i < l.length):(KL l)[i]? = some false↔¬ Rc (G l) i:=by
 simp [KL,h]
theorem QFe {l:List Ins} {x:List Bool} (hl:x.length=l.length) (h:∀ i,i < l.length->(x[i]? = some true↔Rc (G l) i)):x=KL l:=by
 apply List.ext_getElem?
 intro i
 by_cases hi:i < l.length
 ·have h1:=h i hi
  have h2:=bI hi
  have hx:x[i]? = some x[i]:=AU (by omega)
  have hy:(KL l)[i]? = some ((KL l)[i]'(by rw [KM];exact hi)):=AU (by rw [KM];exact hi)
  rw [hx] at h1
  rw [hy] at h2
  rw [hx,hy]
  generalize x[i]=a at *
  generalize (KL l)[i]'(by rw [KM];exact hi)=b at *
  cases a <;> cases b <;> simp_all
 ·rw [Aw (by omega),Aw (by rw [KM];omega)]
theorem Rc.lt {l:List Ins} (h:VP l=true) {i:Nat} (hi:Rc (G l) i):i < l.length:=by
 induction hi with
 | zero=>exact (Eo h).1
 | step _ hj ih=>exact QAw h ih hj
theorem Mh:∀ {m:List Bool} {j:Nat},m[j]? = some false->(m.set j true).count false+1=m.count false
 | [],j,h=>by simp at h
 | a::m,0,h=>by simp at h;subst h;simp
 | a::m,j+1,h=>by
  have:=Mh (m:=m) (j:=j) (by simpa using h)
  simp only [List.set_cons_succ,List.count_cons]
  omega
theorem ER {α:Type} {m:List α} {i j:Nat} {a:α} (h:j < m.length):(m.set j a)[i]? = if i=j then some a else m[i]?:=by
 by_cases e:i=j
 ·subst e;simp [h]
 ·rw [AX e,List.getElem?_set_ne (Ne.symm e)]
theorem Xk {m:List Bool} {j:Nat} (h:j < m.length):m[j]? = some true\/m[j]? = some false:=by
 rw [AU h]
 cases m[j] <;> simp
structure DI (g:Nat->List Nat) (Eg:Nat->Nat->Prop) (K:Nat->Prop) (met:List Bool) (pend:List Nat) (cur:Option (Nat×Nat)):Prop where
 m0:met[0]? = some true
 rc:∀ i,met[i]? = some true->Rc g i
 pm:∀ i∈pend,met[i]? = some true
 kn:∀ i,met[i]? = some true->K i
 cl:∀ i,met[i]? = some true->i∈pend\/(∀ j∈g i,met[j]? = some true/\Eg i j)\/∃ k,cur=some (i,k)
 cf:∀ f k,cur=some (f,k)->met[f]? = some true/\∀ j∈(g f).take k,met[j]? = some true/\Eg f j
section
variable {g:Nat->List Nat} {Eg Eg':Nat->Nat->Prop} {K K':Nat->Prop} {met:List Bool} {pend:List Nat} {cur:Option (Nat×Nat)} {f k j:Nat}
theorem DI.pop (h:DI g Eg K met (pend++[f]) none):DI g Eg K met pend (some (f,0)) where
 m0:=h.m0
 rc:=h.rc
 pm:=λi hi=>h.pm i (by simp [hi])
 kn:=h.kn
 cl:=λi hi=>by
  rcases h.cl i hi with h1 | h1 | ⟨k,h1⟩
  ·rcases List.mem_append.1 h1 with h1 | h1
   ·exact .inl h1
   ·simp at h1;subst h1;exact .inr (.inr ⟨0,rfl⟩)
  ·exact .inr (.inl h1)
  ·cases h1
 cf:=λf' k' e=>by
  cases e
  exact ⟨h.pm f (by simp),by simp⟩
theorem DI.fin (h:DI g Eg K met pend (some (f,(g f).length))):DI g Eg K met pend none where
 m0:=h.m0
 rc:=h.rc
 pm:=h.pm
 kn:=h.kn
 cl:=λi hi=>by
  rcases h.cl i hi with h1 | h1 | ⟨k,h1⟩
  ·exact .inl h1
  ·exact .inr (.inl h1)
  ·cases h1
   have:=(h.cf _ _ rfl).2
   rw [List.take_length] at this
   exact .inr (.inl this)
 cf:=λf' k' e=>by cases e
theorem XY {α:Type} {l:List α} {k:Nat} {j a:α} (hj:l[k]? = some j) (h:a∈l.take (k+1)):a∈l.take k\/a=j:=by
 obtain ⟨hk,e⟩:=Aq.1 hj
 rw [List.take_add_one,hj] at h
 rcases List.mem_append.1 h with h | h
 ·exact .inl h
 ·simp at h;exact .inr h
theorem DI.old (h:DI g Eg K met pend (some (f,k))) (hj:(g f)[k]? = some j) (hE:∀ a b,Eg a b->Eg' a b) (hK:∀ a,K a->K' a) (hEj:Eg' f j) (hm:met[j]? = some true):DI g Eg' K' met pend (some (f,k+1)) where
 m0:=h.m0
 rc:=h.rc
 pm:=h.pm
 kn:=λi hi=>hK i (h.kn i hi)
 cl:=λi hi=>by
  rcases h.cl i hi with h1 | h1 | ⟨k',h1⟩
  ·exact .inl h1
  ·exact .inr (.inl λb hb=>⟨(h1 b hb).1,hE _ _ (h1 b hb).2⟩)
  ·cases h1;exact .inr (.inr ⟨_,rfl⟩)
 cf:=λf' k' e=>by
  cases e
  refine ⟨(h.cf _ _ rfl).1,λa ha=>?_⟩
  rcases XY hj ha with h1 | rfl
  ·have:=(h.cf _ _ rfl).2 a h1
   exact ⟨this.1,hE _ _ this.2⟩
  ·exact ⟨hm,hEj⟩
theorem DI.new (h:DI g Eg K met pend (some (f,k))) (hj:(g f)[k]? = some j) (hE:∀ a b,Eg a b->Eg' a b) (hK:∀ a,K a->K' a) (hEj:Eg' f j) (hKj:K' j) (hm:met[j]? = some false):DI g Eg' K' (met.set j true) (pend++[j]) (some (f,k+1)):=by
 have hlt:j < met.length:=(Aq.1 hm).1
 have up:∀ i,met[i]? = some true->(met.set j true)[i]? = some true:=λi hi=>by
  rw [ER hlt]
  split
  ·rfl
  ·exact hi
 have dn:∀ i,(met.set j true)[i]? = some true->i=j\/met[i]? = some true:=λi hi=>by
  rw [ER hlt] at hi
  split at hi
  ·rename_i e;exact .inl e
  ·exact .inr hi
 have hjm:j∈g f:=BF hj
 have hf:=(h.cf _ _ rfl).1
 exact {
  m0:=up 0 h.m0
  rc:=λi hi=>(dn i hi).elim (λe=>e ▸ .step (h.rc f hf) hjm) (h.rc i)
  pm:=λi hi=>by
   rcases List.mem_append.1 hi with h1 | h1
   ·exact up i (h.pm i h1)
   ·simp at h1;subst h1;rw [ER hlt,AY rfl]
  kn:=λi hi=>(dn i hi).elim (λe=>e ▸ hKj) λh1=>hK i (h.kn i h1)
  cl:=λi hi=>by
   rcases dn i hi with rfl | hi
   ·exact .inl (by simp)
   ·rcases h.cl i hi with h1 | h1 | ⟨k',h1⟩
    ·exact .inl (by simp [h1])
    ·exact .inr (.inl λb hb=>⟨up b (h1 b hb).1,hE _ _ (h1 b hb).2⟩)
    ·cases h1;exact .inr (.inr ⟨_,rfl⟩)
  cf:=λf' k' e=>by
   cases e
   refine ⟨up _ hf,λa ha=>?_⟩
   rcases XY hj ha with h1 | rfl
   ·have:=(h.cf _ _ rfl).2 a h1
    exact ⟨up a this.1,hE _ _ this.2⟩
   ·exact ⟨by rw [ER hlt,AY rfl],hEj⟩ }
theorem DI.done (h:DI g Eg K met [] none):∀ i,Rc g i->met[i]? = some true/\K i/\∀ j∈g i,Eg i j:=by
 have cl:∀ i,met[i]? = some true->∀ j∈g i,met[j]? = some true/\Eg i j:=λi hi=>by
  rcases h.cl i hi with h1 | h1 | ⟨k,h1⟩
  ·cases h1
  ·exact h1
  ·cases h1
 have all:∀ i,Rc g i->met[i]? = some true:=λi hi=>by
  induction hi with
  | zero=>exact h.m0
  | step _ hj ih=>exact (cl _ ih _ hj).1
 exact λi hi=>⟨all i hi,h.kn i (all i hi),λj hj=>(cl i (all i hi) j hj).2⟩
end
theorem DI.start {g:Nat->List Nat} {Eg:Nat->Nat->Prop} {K:Nat->Prop} {n:Nat} (hn:0 < n) (hK:K 0):DI g Eg K ((List.replicate n false).set 0 true) [0] none:=by
 have dn:∀ i,((List.replicate n false).set 0 true)[i]? = some true->i=0:=λi hi=>by
  rw [ER (by simpa using hn)] at hi
  split at hi
  ·assumption
  ·rw [List.getElem?_replicate] at hi
   split at hi <;> simp at hi
 have m0:((List.replicate n false).set 0 true)[0]? = some true:=by rw [ER (by simpa using hn),AY rfl]
 exact {
  m0:=m0
  rc:=λi hi=>by rw [dn i hi];exact .zero
  pm:=λi hi=>by simp at hi;subst hi;exact m0
  kn:=λi hi=>by rw [dn i hi];exact hK
  cl:=λi hi=>.inl (by rw [dn i hi];simp)
  cf:=λf k e=>by cases e }
theorem Bo (p:List Nat):(ints p).length=p.length:=by simp [ints]
theorem XG (p:List Nat) (f:Nat):ints (p++[f])=ints p++[(f:Int)]:=by simp [ints]
theorem ints_at {p:List Nat} {k j:Nat} (h:p[k]? = some j):(ints p)[k]? = some (j:Int):=by simp [ints,h]
theorem fK (p:List Nat) (f:Nat) (hp:p.length<=1000000):IntKind.i64.wrap ((List.length (ints (p++[f])):Int) - 1)=(p.length:Int)/\nth (ints (p++[f])) (Int.toNat (p.length:Int))=some (f:Int)/\List.take (Int.toNat (p.length:Int)) (ints (p++[f]))=ints p:=by
 refine ⟨?_,?_,?_⟩
 ·have hl:(ints (p++[f])).length=p.length+1:=by rw [Bo];simp
  rw [hl,fQ (by omega) (by omega)]
  omega
 ·rw [M8,XG,Aj,<- Bo p]
  simp
 ·rw [XG,Aj,<- Bo p]
  simp
theorem Jb {α:Type} {xs:List α} {i:Nat} {x:α} (h:xs[i]? = some x):nth xs (Int.toNat (i:Int))=some x:=by rw [M8,Aj];exact h
def μ2 (met:List Bool) (p:List Nat):Nat:=2 * met.count false+p.length
theorem QLA {l:List Ins} (h:VP l=true):aM l=some (KL l):=by
 obtain ⟨h1,h2,_,_⟩:=Eo h
 show bN (λ_=>List.replicate) (BP (Vu (λ_=>List.replicate) big) big) l=_
 unfold bN
 have hmk:(decide ((0:Int)<=(l.length:Int))&&(decide ((l.length:Int)<=(l.length:Int))&&(decide ((l.length:Int)<=68719476736)&&true)))=true:=by simp;omega
 have hz:(decide ((0:Int)<=0)&&decide ((0:Int) < (List.length (List.replicate l.length false):Int)))=true:=by simp;omega
 simp only [hmk,hz,AL,Aj,Int.toNat_zero]
 refine MV (g:=Vu (λ_=>List.replicate) big)
  (λv=>∃ leads met p,v=(leads,l,met,ints p)/\leads.length=l.length/\met.length=l.length/\DI (G l) (λ_ j=>leads[j]? = some true) (λ_=>True) met p none/\leads[0]? = some true/\(∀ i,leads[i]? = some true->Rc (G l) i)/\μ2 met p<=401)
  (λv=>2 * v.2.2.1.count false+v.2.2.2.length) (λr=>r=some (KL l)) ?_ big _ ?_ ?_
 ·rintro self v ⟨leads,met,p,rfl,hl,hm,hd,hl0,hlr,hμ⟩ ih
  show Vw (λ_=>List.replicate) (BP (Vv (λ_=>List.replicate) big self) big) self (leads,l,met,ints p)=_
  unfold Vw
  dsimp only
  rcases List.eq_nil_or_concat p with rfl | ⟨p,f,rfl⟩
  ·have hdone:=hd.done
   simp only [ints,List.map_nil,Av]
   rw [show decide (((0:Nat):Int) > 0)=false from rfl,AJ]
   congr 1
   refine QFe hl λi hi=>⟨hlr i,λhr=>?_⟩
   cases hr with
   | zero=>exact hl0
   | step hi' hj=>exact (hdone _ hi').2.2 _ hj
  ·have hp:p.length<=1000:=by simp [μ2] at hμ;omega
   simp only [List.concat_eq_append] at hd hμ ih ⊢
   obtain ⟨e1,e2,e3⟩:=fK p f (by omega)
   have hf:f < l.length:=(hd.rc f (hd.pm f (by simp))).lt h
   rw [e1]
   rw [AB (show (List.length (ints (p++[f])):Int) > 0 by rw [Bo,AQ];simp only [Af,Av];omega),AL]
   rw [show (decide ((0:Int)<=(p.length:Int))&&decide ((p.length:Int) < (List.length (ints (p++[f])):Int)))=true by rw [Bo];simp;omega,AL]
   rw [e2,AA]
   rw [show (decide ((0:Int)<=(p.length:Int))&&decide ((p.length:Int)<=(List.length (ints (p++[f])):Int)))=true by rw [Bo];simp;omega,AL]
   rw [aK h hf,AA,e3]
   have hs:(G l f).length<=2:=by
    unfold G
    split
    ·unfold bh;split <;> (try split) <;> (try split) <;> simp
    ·simp
   rw [Bo]
   refine Bg (σ:=List Bool×List Bool×List Nat) (g:=Vv (λ_=>List.replicate) big self) (n:=(G l f).length) (λs k=>((f:Int),ints (G l f),((G l f).length:Int),(k:Int),s.1,l,s.2.1,ints s.2.2))
    (λk s=>s.1.length=l.length/\s.2.1.length=l.length/\DI (G l) (λ_ j=>s.1[j]? = some true) (λ_=>True) s.2.1 s.2.2 (some (f,k))/\s.1[0]? = some true/\(∀ i,s.1[i]? = some true->Rc (G l) i)/\μ2 s.2.1 s.2.2+1<=μ2 met (p++[f]))
    (λr=>r=some (KL l)) ?_ ?_ (G l f).length 0 big (by simp) (WE (by have:=Bw;omega)) (leads,met,p) ⟨hl,hm,hd.pop,hl0,hlr,by simp [μ2];omega⟩
   ·rintro BQ ⟨ld,mt,q⟩ ⟨g1,g2,g3,g4,g5,g6⟩
    show R4 (λ_=>List.replicate) self BQ _=_
    unfold R4
    dsimp only at g1 g2 g3 g4 g5 g6 ⊢
    rw [AF (by omega),AJ]
    refine ih _ ⟨ld,mt,q,rfl,g1,g2,g3.fin,g4,g5,by omega⟩ ?_
    show 2 * mt.count false+(ints q).length < 2 * met.count false+(ints (p++[f])).length
    rw [Bo,Bo]
    unfold μ2 at g6
    omega
   ·rintro BQ ⟨ld,mt,q⟩ k hk ⟨g1,g2,g3,g4,g5,g6⟩
    dsimp only at g1 g2 g3 g4 g5 g6 ⊢
    left
    have hj:(G l f)[k]? = some (G l f)[k]:=AU hk
    have hjm:(G l f)[k]∈G l f:=Ae hk
    have hjl:=QAw h hf hjm
    have hjr:Rc (G l) (G l f)[k]:=.step (hd.rc f (hd.pm f (by simp))) hjm
    generalize (G l f)[k]=j at *
    have hset:(ld.set j true)[0]? = some true/\(∀ i,(ld.set j true)[i]? = some true->Rc (G l) i)/\(∀ a b:Nat,(λ(_:Nat) (j:Nat)=>ld[j]? = some true) a b->(λ(_:Nat) (b:Nat)=>(ld.set j true)[b]? = some true) a b)/\(ld.set j true)[j]? = some true:=by
     refine ⟨?_,λi hi=>?_,λa b hb=>?_,?_⟩
     ·rw [ER (by omega)];split;rfl;exact g4
     ·rw [ER (by omega)] at hi;split at hi
      ·rename_i e;rw [e];exact hjr
      ·exact g5 i hi
     ·show (ld.set j true)[b]? = some true
      rw [ER (by omega)];split;rfl;exact hb
     ·rw [ER (by omega),AY rfl]
    obtain ⟨s1,s2,s3,s4⟩:=hset
    show ∃ s':List Bool×List Bool×List Nat,_/\R4 (λ_=>List.replicate) self BQ ((f:Int),ints (G l f),((G l f).length:Int),(k:Int),ld,l,mt,ints q)=_
    unfold R4
    dsimp only
    rw [AB (show (k:Int) < ((G l f).length:Int) by omega),AL,Gn (ints_at hj),AA]
    rw [show (decide ((0:Int)<=(j:Int))&&decide ((j:Int) < (ld.length:Int)))=true by simp;omega,show (decide ((0:Int)<=(j:Int))&&decide ((j:Int) < (mt.length:Int)))=true by simp;omega]
    simp only [AL,Aj]
    rw [fQ (z:=(k:Int)+1) (by omega) (by omega),M8]
    rcases Xk (m:=mt) (j:=j) (by omega) with hb | hb
    ·refine ⟨(ld.set j true,mt,q),⟨by simp [g1],g2,g3.old hj s3 (λ_ h=>h) s4 hb,s1,s2,g6⟩,?_⟩
     rw [hb]
     rfl
    ·have hc:=Mh hb
     refine ⟨(ld.set j true,mt.set j true,q++[j]),⟨by simp [g1],by simp [g2],g3.new hj s3 (λ_ h=>h) s4 trivial hb,s1,s2,?_⟩,?_⟩
     ·simp only [μ2,AQ,Af,Av] at g6 ⊢
      omega
     ·rw [hb]
      have hq:q.length<=1000:=by simp only [μ2] at g6 hμ;omega
      have hlim:(Nat.ble 1 1&&Nat.ble (List.length (ints q)+List.length ([(j:Int)]:List Int)) lim)=true:=by
       rw [b11,EP (by rw [Bo];simp;omega)];rfl
      simp only [AA,A9,AL,hlim]
      rw [XG]
      rfl
 ·refine ⟨_,_,[0],rfl,by simp,by simp,DI.start h1 trivial,?_,λi hi=>?_,?_⟩
  ·rw [ER (by simp;omega),AY rfl]
  ·rw [ER (by simp;omega)] at hi
   split at hi
   ·rename_i e;rw [e];exact .zero
   ·rw [List.getElem?_replicate] at hi
    split at hi <;> simp at hi
  ·have:=Mh (m:=List.replicate l.length false) (j:=0) (by rw [List.getElem?_replicate,AY (by omega)])
   rw [List.count_replicate_self] at this
   simp only [μ2,Af,Av]
   omega
 ·have:=Mh (m:=List.replicate l.length false) (j:=0) (by rw [List.getElem?_replicate,AY (by omega)])
  rw [List.count_replicate_self] at this
  refine WE ?_
  have:=Bw
  show 2 * ((List.replicate l.length false).set 0 true).count false+1<=maxLen
  omega
theorem qM (l:List Ins) (i:Nat):(G l i).length<=2:=by
 unfold G
 split
 ·unfold bh;split <;> (try split) <;> (try split) <;> simp
 ·simp
theorem Yo {n:Nat} (h:n<=68719476736):(decide ((0:Int)<=(n:Int))&&(decide ((n:Int)<=(n:Int))&&(decide ((n:Int)<=68719476736)&&true)))=true:=by simp;omega
theorem start_lt {n:Nat} {a:Bool} (hn:1<=n):(decide ((0:Int)<=0)&&decide ((0:Int) < (List.length (List.replicate n a):Int)))=true:=by simp;omega
theorem RA {i n:Nat} (h:i < n):(decide ((0:Int)<=(i:Int))&&decide ((i:Int) < (n:Int)))=true:=by simp;omega
theorem Oi (n:Nat) (h:1<=n):((List.replicate n false).set 0 true).count false+1=n:=by
 have:=Mh (m:=List.replicate n false) (j:=0) (by rw [List.getElem?_replicate,AY (by omega)])
 rwa [List.count_replicate_self] at this
theorem QCj {n i:Nat} (h:1<=n) (hi:((List.replicate n false).set 0 true)[i]? = some true):i=0:=by
 rw [ER (by simp;omega)] at hi
 split at hi
 ·assumption
 ·rw [List.getElem?_replicate] at hi
  split at hi <;> simp at hi
theorem QJQ {l:List Ins} (h:VP l=true):Ua l=some (KL l):=by
 obtain ⟨h1,h2,_,_⟩:=Eo h
 show YK (λ_=>List.replicate) (BP (Tp (λ_=>List.replicate) big) big) l=_
 unfold YK
 simp only [Yo (show l.length<=68719476736 by omega),start_lt h1,AL,Aj,Int.toNat_zero]
 refine MV (g:=Tp (λ_=>List.replicate) big)
  (λv=>∃ ch inn,v=(l,ch,inn)/\inn.length=l.length/\inn[0]? = some true/\(∀ i,inn[i]? = some true->Rc (G l) i)/\(ch=false->∀ a b,inn[a]? = some true->b∈G l a->inn[b]? = some true))
  (λv=>2 * v.2.2.count false+(if v.2.1 then 1 else 0)) (λr=>r=some (KL l)) ?_ big _ ?_ ?_
 ·rintro self v ⟨ch,inn,rfl,hl,hz,hr,hc⟩ ih
  show Tt (λ_=>List.replicate) (BP (Tq (λ_=>List.replicate) big self) big) self (l,ch,inn)=_
  unfold Tt
  dsimp only
  cases ch with
  | false=>
   rw [AJ]
   congr 1
   refine QFe hl λi hi=>⟨hr i,λdI=>?_⟩
   induction dI with
   | zero=>exact hz
   | step hi' hj ih'=>exact hc rfl _ _ (ih' (hi'.lt h)) hj
  | true=>
   rw [AL]
   refine Bg (σ:=Bool×List Bool) (g:=Tq (λ_=>List.replicate) big self) (n:=l.length) (λs i=>(l,s.1,(i:Int),s.2))
    (λi s=>s.2.length=l.length/\s.2[0]? = some true/\(∀ i,s.2[i]? = some true->Rc (G l) i)/\s.2.count false<=inn.count false/\(s.1=true->s.2.count false < inn.count false)/\(s.1=false->∀ a b,a < i->s.2[a]? = some true->b∈G l a->s.2[b]? = some true))
    (λr=>r=some (KL l)) ?_ ?_ l.length 0 big (by simp) (WE (by have:=Bw;omega)) (false,inn) ⟨hl,hz,hr,Nat.le_refl _,(λe=>nomatch e),λ_ a b ha=>absurd ha (Nat.not_lt_zero _)⟩
   ·rintro BQ ⟨c,s⟩ ⟨g1,g2,g3,g4,g5,g6⟩
    dsimp only at g1 g2 g3 g4 g5 g6
    show M4 (λ_=>List.replicate) _ self BQ (l,c,(l.length:Int),s)=_
    unfold M4
    dsimp only
    rw [AF (by omega),AJ]
    refine ih _ ⟨c,s,rfl,g1,g2,g3,λhf a b ha hb=>g6 hf a b ?_ ha hb⟩ ?_
    ·exact (g3 a ha).lt h
    ·show 2 * s.count false+(if c then 1 else 0) < 2 * inn.count false+1
     cases c with
     | false=>simp;omega
     | true=>have:=g5 rfl;simp;omega
   ·rintro BQ ⟨c,s⟩ i hi ⟨g1,g2,g3,g4,g5,g6⟩
    dsimp only at g1 g2 g3 g4 g5 g6
    left
    show ∃ s':Bool×List Bool,_/\M4 (λ_=>List.replicate) (BP (Ph (λ_=>List.replicate) big self BQ) big) self BQ (l,c,(i:Int),s)=_
    unfold M4
    dsimp only
    rw [AB (by omega),AL,jY h hi,AA]
    refine Bg (σ:=Bool×List Bool) (g:=Ph (λ_=>List.replicate) big self BQ) (n:=(G l i).length) (λs k=>(l,s.1,(i:Int),(k:Int),s.2,ints (G l i)))
     (λk s=>(s.2.length=l.length/\s.2[0]? = some true/\(∀ i,s.2[i]? = some true->Rc (G l) i)/\s.2.count false<=inn.count false/\(s.1=true->s.2.count false < inn.count false)/\(s.1=false->∀ a b,a < i->s.2[a]? = some true->b∈G l a->s.2[b]? = some true))/\(s.1=false->s.2[i]? = some true->∀ b∈(G l i).take k,s.2[b]? = some true))
     (λr=>∃ s':Bool×List Bool,(s'.2.length=l.length/\s'.2[0]? = some true/\(∀ i,s'.2[i]? = some true->Rc (G l) i)/\s'.2.count false<=inn.count false/\(s'.1=true->s'.2.count false < inn.count false)/\(s'.1=false->∀ a b,a < i+1->s'.2[a]? = some true->b∈G l a->s'.2[b]? = some true))/\r=BQ (l,s'.1,((i+1:Nat):Int),s'.2))
     ?_ ?_ (G l i).length 0 big (by simp) (WE (by have:=Bw;have:=qM l i;omega)) (c,s) ⟨⟨g1,g2,g3,g4,g5,g6⟩,λ_ _ b hb=>by simp at hb⟩
    ·rintro Bp ⟨c,s⟩ ⟨⟨g1,g2,g3,g4,g5,g6⟩,g7⟩
     dsimp only at g1 g2 g3 g4 g5 g6 g7
     show ∃ s':Bool×List Bool,_/\Pv (λ_=>List.replicate) self BQ Bp (l,c,(i:Int),((G l i).length:Int),s,ints (G l i))=_
     unfold Pv
     dsimp only
     rw [Bo,AF (by omega),AJ,fQ (by omega) (by omega)]
     refine ⟨(c,s),⟨g1,g2,g3,g4,g5,λhf a b ha h3 hb=>?_⟩,rfl⟩
     by_cases e:a=i
     ·subst e
      exact g7 hf h3 b (by rw [List.take_length];exact hb)
     ·exact g6 hf a b (by omega) h3 hb
    ·rintro Bp ⟨c,s⟩ k hk ⟨⟨g1,g2,g3,g4,g5,g6⟩,g7⟩
     have hgl:=qM l i
     dsimp only at g1 g2 g3 g4 g5 g6 g7
     have hj:(G l i)[k]? = some (G l i)[k]:=AU hk
     have hjm:(G l i)[k]∈G l i:=Ae hk
     have hjl:=QAw h hi hjm
     generalize (G l i)[k]=j at *
     have e0:Ph (λ_=>List.replicate) big self BQ Bp (l,c,(i:Int),(k:Int),s,ints (G l i))=Pv (λ_=>List.replicate) self BQ Bp (l,c,(i:Int),(k:Int),s,ints (G l i)):=rfl
     have e1:=Jb (ints_at hj)
     dsimp only
     rw [e0]
     unfold Pv
     dsimp only
     rw [Bo,AB (by omega),AL]
     simp only [RA (show i < s.length by omega),RA hk,RA (show j < s.length by omega),AL]
     rw [fQ (z:=(k:Int)+1) (by omega) (by omega),fQ (z:=(i:Int)+1) (by omega) (by omega),e1]
     rcases Xk (m:=s) (j:=i) (by omega) with hb | hb
     ·left
      rw [Jb hb]
      simp only [AA,AL,RA (show j < s.length by omega)]
      rcases Xk (m:=s) (j:=j) (by omega) with hb2 | hb2
      ·rw [Jb hb2]
       refine ⟨(c,s),⟨⟨g1,g2,g3,g4,g5,g6⟩,λhf hi2 b hbm=>?_⟩,rfl⟩
       rcases XY hj hbm with h3 | rfl
       ·exact g7 hf hi2 b h3
       ·exact hb2
      ·rw [Jb hb2]
       have hcn:=Mh hb2
       refine ⟨(true,s.set j true),⟨⟨by simp [g1],?_,λt ht=>?_,(show (s.set j true).count false<=inn.count false by omega),(λ_=>show (s.set j true).count false < inn.count false by omega),(λe=>nomatch e)⟩,(λe=>nomatch e)⟩,rfl⟩
       ·rw [ER (by omega)];split;rfl;exact g2
       ·rw [ER (by omega)] at ht
        split at ht
        ·rename_i e;rw [e];exact .step (g3 i hb) hjm
        ·exact g3 t ht
     ·right
      rw [Jb hb]
      simp only [AA,AJ]
      refine ⟨(c,s),⟨g1,g2,g3,g4,g5,λhf a b ha h3 hbm=>?_⟩,rfl⟩
      by_cases e:a=i
      ·subst e
       rw [hb] at h3
       cases h3
      ·exact g6 hf a b (by omega) h3 hbm
 ·refine ⟨true,_,rfl,by simp,?_,λi hi=>?_,λe=>by cases e⟩
  ·rw [ER (by simp;omega),AY rfl]
  ·rw [QCj h1 hi];exact .zero
 ·have:=Oi l.length h1
  refine WE ?_
  have:=Bw
  show 2 * ((List.replicate l.length false).set 0 true).count false+1<=maxLen
  omega
noncomputable def NV (l:List Ins):List Bool:=(KL l).set (l.length - 1) true
theorem QA0 {n:Nat} (h1:1<=n) (h2:n<=1000000):IntKind.i64.wrap ((n:Int) - 1)=((n - 1:Nat):Int):=by rw [fQ (by omega) (by omega)];omega
theorem QMm (l:List Ins) (i:Int):Xp (l,i)=some (if VP l=true then (if 0<=i/\i < l.length then (ints (G l i.toNat),0) else ([],2)) else ([],8)):=by
 show fB (l,i)=_
 unfold fB
 rw [Wu,AA]
 by_cases h:VP l=true
 ·rw [AY h,AY h]
  dsimp only
  rw [Yk,show ((0:Int) != 0)=false from rfl,AJ,AA]
  by_cases hi:0<=i/\i < l.length
  ·have e:i=((i.toNat:Nat):Int):=by omega
   rw [AY hi,show idx i (l.length:Int)=true by simp [idx];omega]
   simp only [A8,AJ]
   have:=aK h (i:=i.toNat) (by omega)
   rw [<- e] at this
   rw [this]
   rfl
  ·rw [AX hi,show idx i (l.length:Int)=false by simp [idx];omega]
   rfl
 ·rw [AX h,AX h]
  rfl
theorem QDC (l:List Ins):RP l=some (if VP l=true then (NV l,0) else ([],8)):=by
 show WV l=_
 unfold WV
 rw [Wu,AA]
 by_cases h:VP l=true
 ·obtain ⟨h1,h2,_,_⟩:=Eo h
  rw [AY h,AY h,show ((0:Int) != 0)=false from rfl,AJ,QLA h,AA]
  simp only [QA0 h1 (by omega),KM]
  rw [RA (show l.length - 1 < l.length by omega),AL,Aj]
  rfl
 ·rw [AX h,AX h]
  rfl
theorem fG (l:List Ins):(NV l).length=l.length:=by simp [NV,KM]
theorem xY {l:List Ins} (h:VP l=true) {i:Nat} (hi:i < l.length):(NV l)[i]? = some true↔Rc (G l) i\/i=l.length - 1:=by
 obtain ⟨h1,_⟩:=Eo h
 unfold NV
 rw [ER (by rw [KM];omega)]
 split
 ·rename_i e;simp [e]
 ·rename_i e;rw [bI hi];simp [e]
def Sb (a b:Nat):Prop:=∀ t,a.testBit t=true->b.testBit t=true
def diff (a b:Nat):Nat:=a ^^^ (a &&& b)
theorem wH {a b:Nat}:diff a b=0↔Sb a b:=by
 unfold diff Sb
 constructor
 ·intro h t ht
  have:=congrArg (λz=>z.testBit t) h
  simp [ht] at this
  exact this
 ·intro h
  apply Nat.eq_of_testBit_eq
  intro t
  have:=h t
  cases hh:a.testBit t <;> simp_all
theorem Sb.refl (a:Nat):Sb a a:=λ_ h=>h
theorem Sb.trans {a b c:Nat} (h:Sb a b) (h':Sb b c):Sb a c:=λt ht=>h' t (h t ht)
theorem Sb.and {a b c:Nat} (h:Sb a b) (h':Sb a c):Sb a (b &&& c):=λt ht=>by simp [h t ht,h' t ht]
theorem Sb.and_left (a b:Nat):Sb (a &&& b) a:=λt ht=>by simp at ht;exact ht.1
theorem Sb.and_right (a b:Nat):Sb (a &&& b) b:=λt ht=>by simp at ht;exact ht.2
theorem Sb.or {a b c:Nat} (h:Sb a b):Sb (a ||| c) (b ||| c):=λt ht=>by simp at ht ⊢;exact ht.imp (h t) id
theorem Sb.antisymm {a b:Nat} (h:Sb a b) (h':Sb b a):a=b:=Nat.eq_of_testBit_eq λt=>by
 have h1:=h t
 have h2:=h' t
 cases ha:a.testBit t <;> cases hb:b.testBit t <;> simp_all
theorem Sb.zero (a:Nat):Sb 0 a:=λt ht=>by simp at ht
theorem Sb.and_eq {a b:Nat} (h:Sb a b):a &&& b=a:=Sb.antisymm (.and_left _ _) ((Sb.refl a).and h)
theorem Sb.le {a b:Nat} (h:Sb a b):a<=b:=by
 have:=h.and_eq
 rw [<- this]
 exact Nat.and_le_right
theorem yG {a:Nat} (h:a < 65536):a < 2 ^ IntKind.u64.bits:=Nat.lt_trans h (by decide)
theorem QTx {a b:Nat} (ha:a < 65536) (hb:b < 65536):a ||| b < 65536:=Nat.or_lt_two_pow (n:=16) ha hb
theorem QYe {a b:Nat} (ha:a < 65536):a &&& b < 65536:=Nat.lt_of_le_of_lt Nat.and_le_left ha
theorem bor {a b:Nat} (ha:a < 65536) (hb:b < 65536):bits .or .u64 (a:Int) (b:Int)=((a ||| b:Nat):Int):=yV rfl (yG ha) (yG hb)
theorem QSk {a b:Nat} (ha:a < 65536) (hb:b < 65536):bits .and .u64 (a:Int) (b:Int)=((a &&& b:Nat):Int):=QKa rfl (yG ha) (yG hb)
theorem QMs {a b:Nat} (ha:a < 65536) (hb:b < 18446744073709551616):bits .andNot .u64 (a:Int) (b:Int)=((diff a b:Nat):Int):=by
 refine Go.Lift.bits_nat rfl (f:=λa b=>diff a b) ?_ (yG (Nat.xor_lt_two_pow (n:=16) ha (QYe ha)))
 simp only [bits]
 congr 2
 apply Nat.eq_of_testBit_eq
 intro t
 rw [BitVec.testBit_toNat]
 simp only [BitVec.ofInt_natCast,BitVec.getLsbD_and,BitVec.getLsbD_not,BitVec.getLsbD_ofNat,diff,Nat.testBit_xor,Nat.testBit_and]
 by_cases h:t < IntKind.u64.bits
 ·simp only [h,decide_true,Ai]
  cases a.testBit t <;> cases b.testBit t <;> rfl
 ·have:a.testBit t=false:=Nat.testBit_lt_two_pow (Nat.lt_of_lt_of_le (yG ha) (Nat.pow_le_pow_right (by decide) (by omega)))
  simp [this,h]
theorem QLw {s:Int} (h0:0<=s) (h1:s<=16):IntKind.u64.wrap ((1:Int) * 2 ^ (min (Int.toNat s) 64))=((2 ^ s.toNat:Nat):Int):=by
 rw [show min (Int.toNat s) 64=s.toNat by omega,Int.one_mul,wrap_u64]
 have h2:2 ^ s.toNat<=2 ^ 16:=Nat.pow_le_pow_right (by decide) (by omega)
 have e:((2:Int) ^ s.toNat)=((2 ^ s.toNat:Nat):Int):=by simp
 rw [e]
 generalize 2 ^ s.toNat=m at *
 omega
def mk1 (m:Nat) (s:Int):Nat:=m ||| 2 ^ s.toNat
def maskN (ws:List Int):Nat:=ws.foldl mk1 0
def rS (x:Ins):List Int:=rsL (Xc x.1) (vals x)
def wS (x:Ins):List Int:=wsL (Xc x.1) (vals x)
def Slo (l:List Int):Prop:=∀ v∈l,0<=v/\v<=15
theorem VK {x:Ins} (h:Qf x=true):Slo (rS x)/\Slo (wS x)/\(rS x).length<=3/\(wS x).length<=3:=by
 obtain ⟨h1,h2,h3⟩:=QHd h
 refine ⟨λv hv=>?_,λv hv=>?_,?_,?_⟩
 ·have:=h3 v (List.mem_append.2 (.inl hv));exact ⟨this.1,this.2.1⟩
 ·have:=h3 v (List.mem_append.2 (.inr hv));exact ⟨this.1,this.2.1⟩
 ·unfold rS;omega
 ·unfold wS;omega
theorem QFr {s:Int} (h0:0<=s) (h1:s<=15):2 ^ s.toNat < 65536:=Nat.lt_of_le_of_lt (Nat.pow_le_pow_right (by decide) (show s.toNat<=15 by omega)) (by decide)
theorem zl:∀ {l:List Int} {m:Nat},Slo l->m < 65536->l.foldl mk1 m < 65536
 | [],_,_,h=>h
 | v::l,m,hs,h=>zl (l:=l) (λu hu=>hs u (by simp [hu])) (QTx h (QFr (hs v (by simp)).1 (hs v (by simp)).2))
theorem yF {l:List Int} {i:Nat} {m:Nat} (h:i < l.length):(l.take (i+1)).foldl mk1 m=mk1 ((l.take i).foldl mk1 m) l[i]:=by
 rw [List.take_add_one,AU h]
 simp only [Option.toList_some,List.foldl_append,List.foldl_cons,List.foldl_nil]
theorem QHC (ws:List Int) (hs:Slo ws) (hl:ws.length<=100):Xq ws=some ((maskN ws:Nat):Int):=by
 show QI (BP (Lf big) big) ws=_
 unfold QI
 refine Bg (σ:=Nat) (g:=Lf big) (n:=ws.length) (λs i=>((s:Int),ws,(ws.length:Int),(i:Int))) (λi s=>s=(ws.take i).foldl mk1 0) (λr=>r=some ((maskN ws:Nat):Int)) ?_ ?_ ws.length 0 big (by simp) (WE (by have:=Bw;omega)) 0 rfl
 ·rintro self s rfl
  show L6 self _=_
  unfold L6
  dsimp only
  rw [AF (by omega),AJ,List.take_length]
  rfl
 ·rintro self s i hi rfl
  left
  refine ⟨_,rfl,?_⟩
  have hv:=hs ws[i] (Ae hi)
  have h16:(ws.take i).foldl mk1 0 < 65536:=zl (λu hu=>hs u (List.mem_of_mem_take hu)) (by decide)
  show L6 self _=_
  unfold L6
  dsimp only
  rw [AB (by omega),AL,Gn (AU hi),AA,AF (by omega),AJ,QLw hv.1 (by omega),bor h16 (QFr hv.1 hv.2),fQ (by omega) (by omega),yF hi]
  rfl
theorem QBz {n:Int} (h0:0<=n) (h1:n<=16):PI n=some ((2 ^ n.toNat - 1:Nat):Int):=by
 show YJ n=_
 unfold YJ
 have hp:1<=2 ^ n.toNat:=Nat.one_le_two_pow
 have h2:2 ^ n.toNat<=2 ^ 16:=Nat.pow_le_pow_right (by decide) (by omega)
 rw [AF (by omega),AJ,QLw h0 h1]
 dsimp only
 rw [wrap_u64]
 congr 1
 omega
theorem QBh {n:Int} (h0:0<=n) (h1:n<=16):Iw n=some ((2 ^ n.toNat - 1:Nat):Int):=by
 show RG n=_
 unfold RG
 have hp:1<=2 ^ n.toNat:=Nat.one_le_two_pow
 have h2:2 ^ n.toNat<=2 ^ 16:=Nat.pow_le_pow_right (by decide) (by omega)
 rw [AF (by omega),AJ,QLw h0 h1]
 dsimp only
 rw [wrap_u64]
 congr 1
 omega
theorem qC {n:Int} (h1:n<=16):2 ^ n.toNat - 1 < 65536:=by
 have h2:2 ^ n.toNat<=2 ^ 16:=Nat.pow_le_pow_right (by decide) (by omega)
 omega
theorem QH5 {n:Int} {t:Nat}:(2 ^ n.toNat - 1).testBit t=decide (t < n.toNat):=Nat.testBit_two_pow_sub_one _ _
theorem QC0 {m n:Int} (h:m<=n):Sb (2 ^ m.toNat - 1) (2 ^ n.toNat - 1):=λt ht=>by
 rw [QH5] at ht ⊢
 simp at ht ⊢
 omega
theorem fP (N:Nat) (BM) {rs R W ns:List Int} {i r n:Int} (h0:0<=i) (h3:i < 3) (hr:BX rs i=some (wu r)) (hn:nth ns i.toNat=some n) (hl:Rl r) (hf:fit r n=true) (hR:R.length<=100) (hW:W.length<=100) :
  GJ N BM (rs,i,R,W,ns)=BM (rs,IntKind.i64.wrap (i+1),R++rs1 r n,W++ws1 r n,ns):=by
 show Q8 BM _=_
 unfold Q8
 dsimp only
 rw [AB h3,AB h0,AL]
 have c1:(Nat.ble 1 1&&Nat.ble (R.length+List.length ([n]:List Int)) lim)=true:=by rw [b11,EP (by simp;omega)];rfl
 have c2:(Nat.ble 1 1&&Nat.ble (W.length+List.length ([n]:List Int)) lim)=true:=by rw [b11,EP (by simp;omega)];rfl
 simp only [hr,AA,Bool.and_self,AL,hn,c1,c2]
 rcases VI hl with rfl | rfl | rfl | rfl | rfl | rfl | rfl | rfl | rfl | rfl | rfl <;> simp [fit,idx] at hf <;> by_cases hn1:n = -1 <;> simp [rs1,ws1,hn1,wu,EW] <;> (try omega) <;> (have h9:(0:Int)<=n:=by omega) <;> simp [h9]
theorem Xg {x:Ins} (h:Qf x=true) (h0:0<=x.1) (h1:x.1<=255):I4 x=some (rS x,wS x):=by
 show MQ (BP (GJ big) big) x=_
 unfold MQ
 obtain ⟨a,b,c,ho,e,ha,hb,hc,fa,fb,fc⟩:=Jc h
 rw [gG h0 h1,AA,show D7 x=some (vals x) from rfl,AA,AY ho,e]
 have l1:=YX a x.2.1
 have l2:=YX b x.2.2.1
 show BP (GJ big) big ([wu a,wu b,wu c],0,[],[],vals x)=_
 rw [qg,Ba,fP _ _ (by decide) (by decide) (d9 _ _) rfl ha fa (by simp) (by simp),w01]
 rw [Ba,fP _ _ (by decide) (by decide) (eB _ _ _) rfl hb fb (by simp only [AQ,Av];omega) (by simp only [AQ,Av];omega),w12]
 rw [Ba,fP _ _ (by decide) (by decide) (eD _ _ _ _) rfl hc fc (by simp only [AQ,Av];omega) (by simp only [AQ,Av];omega),w23]
 show some (_,_)=_
 simp [rS,wS,e,vals,rsL,wsL]
theorem QDF {x:Ins} (h:Qf x=true) (h0:0<=x.1) (h1:x.1<=255):PK x=some ((maskN (wS x):Nat):Int):=by
 show MR (BP (JA big) big) x=_
 unfold MR
 rw [Xg h h0 h1,AA]
 obtain ⟨_,hs,_,hl⟩:=VK h
 generalize wS x=ws at *
 dsimp only
 refine Bg (σ:=Nat) (g:=JA big) (n:=ws.length) (λs i=>(ws,(s:Int),(i:Int))) (λi s=>s=(ws.take i).foldl mk1 0) (λr=>r=some ((maskN ws:Nat):Int)) ?_ ?_ ws.length 0 big (by simp) (WE (by have:=Bw;omega)) 0 rfl
 ·rintro self s rfl
  show JQ self _=_
  unfold JQ
  dsimp only
  rw [AF (by omega),AJ,List.take_length]
  rfl
 ·rintro self s i hi rfl
  left
  refine ⟨_,rfl,?_⟩
  have hv:=hs ws[i] (Ae hi)
  have h16:(ws.take i).foldl mk1 0 < 65536:=zl (λu hu=>hs u (List.mem_of_mem_take hu)) (by decide)
  show JQ self _=_
  unfold JQ
  dsimp only
  rw [AB (by omega),AL,Gn (AU hi),AA,AF (by omega),AJ,QLw hv.1 (by omega),bor h16 (QFr hv.1 hv.2),fQ (by omega) (by omega),yF hi]
  rfl
def vI (n:Int) (x:Ins):Bool:=(rS x).all (λv=>decide (v < n))&&(wS x).all (λv=>decide (v < n))
def iD (l:List Ins) (p s:Int):Int:=if s < 0\/s > 16\/p < 0\/p > s then 2 else if l.all (vI s) then 0 else 16
theorem QBO (a:List Int) (n:Int) (h:a.length<=100):VZ (a,n)=some (a.all λv=>decide (v < n)):=by
 show SA (BP (Nk big) big) (a,n)=_
 unfold SA
 dsimp only
 refine Bg (σ:=Unit) (g:=Nk big) (n:=a.length) (λ_ i=>(a,(a.length:Int),(i:Int),n)) (λi _=>∀ k v,k < i->a[k]? = some v->v < n) (λr=>r=some (a.all λv=>decide (v < n))) ?_ ?_ a.length 0 big (by simp) (WE (by have:=Bw;omega)) () (λk v hk=>absurd hk (Nat.not_lt_zero _))
 ·intro self _ hI
  show Kk self _=_
  unfold Kk
  dsimp only
  rw [AF (by omega),AJ]
  rw [show (a.all λv=>decide (v < n))=true from Ow.2 λk v hk=>AB (hI k v (Aq.1 hk).1 hk)]
  rfl
 ·intro self _ i hi hI
  have hx:a[i]? = some a[i]:=AU hi
  show (∃ s',_/\Kk self (a,(a.length:Int),(i:Int),n)=_)\/Kk self (a,(a.length:Int),(i:Int),n)=_
  unfold Kk
  dsimp only
  rw [AB (by omega),AL,Gn hx,AA,fQ (by omega) (by omega)]
  by_cases e:a[i] < n
  ·left
   refine ⟨(),λk v hk h3=>?_,by rw [AF (by omega)];rfl⟩
   by_cases e2:k=i
   ·subst e2
    rw [hx] at h3
    cases h3
    exact e
   ·exact hI k v (by omega) h3
  ·right
   rw [AB (by omega),AL,AB (by omega)]
   have:(a.all λv=>decide (v < n))=false:=by
    cases hh:a.all λv=>decide (v < n) with
    | false=>rfl
    | true=>exact absurd (of_decide_eq_true (Ow.1 hh i _ hx)) e
   rw [this]
   rfl
end Go.Proofs.YtjcnhegjiffgpaaGreatDoor.F
set_option linter.unusedVariables false
set_option linter.unusedSimpArgs false
set_option maxRecDepth 100000
namespace Go.Proofs.YtjcnhegjiffgpaaGreatDoor.F
open Go.Lift
def ma (ms:List Nat) (i:Nat):Nat:=ms.getD i 0
theorem QC {ms:List Nat} {i j v:Nat} (h:j < ms.length):ma (ms.set j v) i=if i=j then v else ma ms i:=by
 unfold ma
 rw [Ad,ER h]
 split <;> simp [Ad]
theorem sS {ms:List Nat} {i:Nat} (h:i < ms.length):ms[i]? = some (ma ms i):=getD_at h 0
theorem QC3 {ms:List Nat} {i:Nat} (h:i < ms.length):nth (ints ms) (Int.toNat (i:Int))=some ((ma ms i:Nat):Int):=Jb (ints_at (sS h))
theorem qG {ms:List Nat} {i:Nat} (h:i < ms.length):BX (ints ms) (i:Int)=some ((ma ms i:Nat):Int):=Gn (ints_at (sS h))
theorem ints_set (ms:List Nat) (j v:Nat):(ints ms).set j ((v:Nat):Int)=ints (ms.set j v):=by simp [ints,List.map_set]
theorem QFg {ms:List Nat} {j:Nat} (h:j < ms.length):ms.set j (ma ms j)=ms:=by
 apply List.ext_getElem?
 intro i
 rw [ER h]
 split
 ·rename_i e;subst e;rw [sS h]
 ·rfl
theorem QLH {a b:List Nat} (hl:a.length=b.length) (h:∀ i,i < a.length->ma a i=ma b i):a=b:=by
 apply List.ext_getElem?
 intro i
 by_cases hi:i < a.length
 ·rw [sS hi,sS (by omega),h i hi]
 ·rw [Aw (by omega),Aw (by omega)]
theorem QG7:∀ {ms:List Nat} {j v:Nat},j < ms.length->(ms.set j v).sum+ma ms j=ms.sum+v
 | [],j,v,h=>by simp at h
 | a::ms,0,v,h=>by simp [ma];omega
 | a::ms,j+1,v,h=>by
  have:=QG7 (ms:=ms) (j:=j) (v:=v) (by simpa using h)
  have e:ma (a::ms) (j+1)=ma ms j:=by simp [ma]
  rw [e,List.set_cons_succ,List.sum_cons,List.sum_cons]
  omega
theorem QM4 {c:Nat}:∀ {ms:List Nat},(∀ i,i < ms.length->ma ms i<=c)->ms.sum<=ms.length * c
 | [],_=>by simp
 | a::ms,h=>by
  have h0:=h 0 (by simp)
  have:=QM4 (ms:=ms) λi hi=>by
   have:=h (i+1) (by simpa using hi)
   simpa [ma] using this
  simp only [List.sum_cons,Af,Nat.succ_mul]
  simp [ma] at h0
  omega
structure vU (g:Nat->List Nat) (W:Nat->Nat) (P A:Nat) (x:Nat->Nat):Prop where
 p:Sb (x 0) P
 a:∀ i,Rc g i->Sb (x i) A
 e:∀ i j,Rc g i->j∈g i->Sb (x j) (x i ||| W i)
def IsG (g:Nat->List Nat) (W:Nat->Nat) (P A:Nat) (m:Nat->Nat):Prop:=vU g W P A m/\∀ x,vU g W P A x->∀ i,Rc g i->Sb (x i) (m i)
structure MI (g:Nat->List Nat) (W:Nat->Nat) (P A n:Nat) (ms:List Nat):Prop where
 len:ms.length=n
 up:∀ i,i < n->Sb (ma ms i) A
 p0:Sb (ma ms 0) P
 gr:∀ x,vU g W P A x->∀ i,Rc g i->Sb (x i) (ma ms i)
def EgM (W:Nat->Nat) (ms:List Nat) (ch:Bool) (i j:Nat):Prop:=ch=true\/Sb (ma ms j) (ma ms i ||| W i)
abbrev nw (W:Nat->Nat) (ms:List Nat) (f j:Nat):Nat:=ma ms j &&& (ma ms f ||| W f)
abbrev df (W:Nat->Nat) (ms:List Nat) (f j:Nat):Nat:=diff (ma ms j) (ma ms f ||| W f)
section
variable {g:Nat->List Nat} {W:Nat->Nat} {P A n f j:Nat} {ms:List Nat}
theorem MI.set (h:MI g W P A n ms) (hf:Rc g f) (hj:j∈g f) (hjn:j < n):MI g W P A n (ms.set j (nw W ms f j)) where
 len:=by simp [h.len]
 up:=λi hi=>by
  rw [QC (by rw [h.len];exact hjn)]
  split
  ·exact (Sb.and_left _ _).trans (h.up j hjn)
  ·exact h.up i hi
 p0:=by
  rw [QC (by rw [h.len];exact hjn)]
  split
  ·rename_i e;subst e;exact (Sb.and_left _ _).trans h.p0
  ·exact h.p0
 gr:=λx hx i hi=>by
  rw [QC (by rw [h.len];exact hjn)]
  split
  ·rename_i e;subst e
   exact (h.gr x hx i hi).and ((hx.e f i hf hj).trans (Sb.or (h.gr x hx f hf)))
  ·exact h.gr x hx i hi
theorem MI.done (h:MI g W P A n ms) (hn:∀ i,Rc g i->i < n) (he:∀ i j,Rc g i->j∈g i->Sb (ma ms j) (ma ms i ||| W i)):IsG g W P A (ma ms):=
 ⟨⟨h.p0,λi hi=>h.up i (hn i hi),he⟩,h.gr⟩
theorem QFK:df W ms f j=0↔nw W ms f j=ma ms j:=by
 rw [df,wH]
 constructor
 ·exact Sb.and_eq
 ·intro h
  rw [<- h]
  exact .and_right _ _
theorem QFN (hjn:j < ms.length) (ch:Bool):(∀ a b,EgM W ms ch a b->EgM W (ms.set j (nw W ms f j)) (ch||decide (df W ms f j≠0)) a b)/\EgM W (ms.set j (nw W ms f j)) (ch||decide (df W ms f j≠0)) f j:=by
 by_cases h:df W ms f j=0
 ·have e:=QFK.1 h
  rw [e,QFg hjn]
  constructor
  ·intro a b h
   exact h.imp (λh=>by simp [h]) id
  ·exact .inr (wH.1 h)
 ·constructor
  ·intro a b _;left;simp [h]
  ·left;simp [h]
theorem QM5 (hjn:j < ms.length):(ms.set j (nw W ms f j)).sum<=ms.sum/\(df W ms f j≠0->(ms.set j (nw W ms f j)).sum < ms.sum):=by
 have h1:=QG7 (v:=nw W ms f j) hjn
 have h2:nw W ms f j<=ma ms j:=Nat.and_le_left
 refine ⟨by omega,λh=>?_⟩
 have h3:nw W ms f j≠ma ms j:=λe=>h (QFK.2 e)
 omega
structure SW (g:Nat->List Nat) (W:Nat->Nat) (P A n:Nat) (s0:Nat) (ms:List Nat) (ch:Bool):Prop where
 mi:MI g W P A n ms
 le:ms.sum<=s0
 lt:ch=true->ms.sum < s0
theorem SW.step {s0:Nat} {ch:Bool} (h:SW g W P A n s0 ms ch) (hf:Rc g f) (hj:j∈g f) (hjn:j < n):SW g W P A n s0 (ms.set j (nw W ms f j)) (ch||decide (df W ms f j≠0)):=by
 have hs:=QM5 (W:=W) (f:=f) (show j < ms.length by rw [h.mi.len];exact hjn)
 refine ⟨h.mi.set hf hj hjn,Nat.le_trans hs.1 h.le,λe=>?_⟩
 have h1:=h.le
 simp only [Bool.or_eq_true,AZ] at e
 rcases e with e | e
 ·have:=h.lt e;omega
 ·have:=hs.2 e;omega
theorem IsG.base {m:Nat->Nat} (h:IsG g W P A m) (hPA:Sb P A) (i:Nat) (hi:Rc g i):Sb P (m i):=
 h.2 (λ_=>P) ⟨.refl _,λ_ _=>hPA,λi j _ _ t ht=>by simp [ht]⟩ i hi
end
theorem MI.start {g:Nat->List Nat} {W:Nat->Nat} {P A n:Nat} {ms:List Nat} (hl:ms.length=n) (hn:0 < n) (hPA:Sb P A) (h1:∀ i,i < n->Rc g i->ma ms i=A) (h2:∀ i,i < n->Sb (ma ms i) A) (hr:∀ i,Rc g i->i < n):MI g W P A n (ms.set 0 P) where
 len:=by simp [hl]
 up:=λi hi=>by
  rw [QC (by omega)]
  split
  ·exact hPA
  ·exact h2 i hi
 p0:=by rw [QC (by omega),AY rfl];exact .refl _
 gr:=λx hx i hi=>by
  rw [QC (by omega)]
  split
  ·rename_i e;subst e;exact hx.p
  ·rw [h1 i (hr i hi) hi];exact hx.a i hi
theorem MI.sum {g:Nat->List Nat} {W:Nat->Nat} {P A n:Nat} {ms:List Nat} (h:MI g W P A n ms) (hn:n<=200) (hA:A < 65536):ms.sum<=13107200:=by
 have:=QM4 (c:=65536) (ms:=ms) λi hi=>by
  have:=(h.up i (by rw [h.len] at hi;exact hi)).le
  omega
 have h3:ms.length * 65536<=200 * 65536:=Nat.mul_le_mul_right _ (by rw [h.len];exact hn)
 omega
theorem Uu:∀ q:List Nat,(ints q).map Int.toNat=q
 | []=>rfl
 | a::q=>congrArg (a :: ·) (Uu q)
theorem MZ {n:Nat} (h:n<=100000000):n < big:=by
 have:100000000 < big:=by decide
 omega
theorem QMt (d:Nat):(((d:Nat):Int) != 0)=decide (d≠0):=by
 by_cases h:d=0 <;> simp [h]
def Zr (g:Nat->List Nat) (ms:List Nat):Prop:=∀ i,¬ Rc g i->ma ms i=0
def Gr (l:List Ins) (ws:List Nat) (P A:Nat) (ms:List Nat):Prop:=ms.length=l.length/\Zr (G l) ms/\IsG (G l) (ma ws) P A (ma ms)
theorem QBk {l:List Ins} (h:VP l=true) {ws:List Nat} (hwl:ws.length=l.length) (hW:∀ i,ma ws i < 65536) {P A:Nat} (hA:A < 65536) (hPA:Sb P A):∃ ms,UY (l,ints ws,(P:Int),(A:Int))=some (ints ms)/\Gr l ws P A ms:=by
 obtain ⟨h1,h2,_,_⟩:=Eo h
 have hr:∀ i,Rc (G l) i->i < l.length:=λi hi=>hi.lt h
 show ∃ ms,QH (λ_=>List.replicate) (BP (Ml (λ_=>List.replicate) big) big) (l,ints ws,(P:Int),(A:Int))=_/\_
 unfold QH
 simp only [Yo (show l.length<=68719476736 by omega),AL,Aj,QLA h,AA,KM]
 rw [show List.replicate l.length (0:Int)=ints (List.replicate l.length 0) by simp [ints]]
 refine Bg (σ:=List Nat) (g:=Ml (λ_=>List.replicate) big) (n:=l.length) (λs i=>(l,(P:Int),(A:Int),(l.length:Int),(i:Int),ints ws,ints s,KL l)) (λk s=>s.length=l.length/\(∀ i,i < k->Rc (G l) i->ma s i=A)/\(∀ i,¬ (i < k/\Rc (G l) i)->ma s i=0)) (λr=>∃ ms,r=some (ints ms)/\Gr l ws P A ms) ?_ ?_ l.length 0 big (by simp) (MZ (by omega)) _ ⟨by simp,λi hi=>absurd hi (Nat.not_lt_zero _),λi _=>by simp [ma,Ad,List.getElem?_replicate];split <;> rfl⟩
 ·rintro BM s ⟨g1,g2,g3⟩
  show ∃ ms,GK (λ_=>List.replicate) (BP (Mq (λ_=>List.replicate) big BM) big) BM _=_/\_
  unfold GK
  dsimp only
  rw [AF (by omega),AJ,Bo,show (decide ((0:Int)<=0)&&decide ((0:Int) < (s.length:Int)))=true by simp;omega,AL,Int.toNat_zero,ints_set]
  refine MV (g:=Mq (λ_=>List.replicate) big BM)
   (λv=>∃ ms ch,v=(l,ints ws,ints ms,ch)/\MI (G l) (ma ws) P A l.length ms/\Zr (G l) ms/\∀ i j,Rc (G l) i->j∈G l i->EgM (ma ws) ms ch i j)
   (λv=>2 * (v.2.2.1.map Int.toNat).sum+(if v.2.2.2 then 1 else 0)) (λr=>∃ ms,r=some (ints ms)/\Gr l ws P A ms) ?_ big _ ?_ ?_
  ·rintro self v ⟨ms,ch,rfl,m1,m2,m3⟩ ih
   show ∃ ms',Mw (λ_=>List.replicate) (BP (Mr (λ_=>List.replicate) big BM self) big) BM self (l,ints ws,ints ms,ch)=_/\_
   unfold Mw
   dsimp only
   cases ch with
   | false=>
    rw [AJ]
    exact ⟨ms,rfl,m1.len,m2,m1.done hr λi j hi hj=>(m3 i j hi hj).resolve_left (by simp)⟩
   | true=>
    simp only [Yo (show l.length<=68719476736 by omega),start_lt h1,AL,Aj,Int.toNat_zero]
    refine MV (g:=Mr (λ_=>List.replicate) big BM self)
     (λv=>∃ ms' ch met p,v=(ints ws,ints ms',ch,l,met,ints p,l)/\met.length=l.length/\DI (G l) (EgM (ma ws) ms' ch) (λ_=>True) met p none/\SW (G l) (ma ws) P A l.length ms.sum ms' ch/\Zr (G l) ms'/\μ2 met p<=401)
     (λv=>2 * v.2.2.2.2.1.count false+v.2.2.2.2.2.1.length) (λr=>∃ ms,r=some (ints ms)/\Gr l ws P A ms) ?_ big _ ?_ ?_
    ·rintro BQ v ⟨m,ch,met,p,rfl,hm,hd,hs,hz,hμ⟩ ih1
     show ∃ ms',Mx (λ_=>List.replicate) (BP (I6 (λ_=>List.replicate) big BM self BQ) big) BM self BQ (ints ws,ints m,ch,l,met,ints p,l)=_/\_
     unfold Mx
     dsimp only
     rcases List.eq_nil_or_concat p with rfl | ⟨p,f,rfl⟩
     ·simp only [Bo,Av]
      rw [show decide (((0:Nat):Int) > 0)=false from rfl,AJ]
      refine ih _ ⟨m,ch,rfl,hs.mi,hz,λi j hi hj=>(hd.done i hi).2.2 j hj⟩ ?_
      show 2 * ((ints m).map Int.toNat).sum+(if ch then 1 else 0) < 2 * ((ints ms).map Int.toNat).sum+1
      rw [Uu,Uu]
      have h3:=hs.le
      cases ch with
      | false=>simp only [Bool.false_eq_true,if_false];omega
      | true=>have:=hs.lt rfl;simp only [if_true];omega
     ·have hp:p.length<=1000:=by simp [μ2] at hμ;omega
      simp only [List.concat_eq_append] at hd hμ ih1 ⊢
      obtain ⟨e1,e2,e3⟩:=fK p f (by omega)
      have hrf:Rc (G l) f:=hd.rc f (hd.pm f (by simp))
      have hf:f < l.length:=hr f hrf
      rw [e1]
      rw [AB (show (List.length (ints (p++[f])):Int) > 0 by rw [Bo,AQ];simp only [Af,Av];omega),AL]
      rw [show (decide ((0:Int)<=(p.length:Int))&&decide ((p.length:Int) < (List.length (ints (p++[f])):Int)))=true by rw [Bo];simp;omega,AL]
      rw [e2,AA]
      rw [show (decide ((0:Int)<=(p.length:Int))&&decide ((p.length:Int)<=(List.length (ints (p++[f])):Int)))=true by rw [Bo];simp;omega,AL]
      rw [aK h hf,AA,e3]
      have hgl:=qM l f
      rw [Bo (G l f)]
      refine Bg (σ:=List Nat×Bool×List Bool×List Nat) (g:=I6 (λ_=>List.replicate) big BM self BQ) (n:=(G l f).length) (λs k=>((f:Int),ints (G l f),((G l f).length:Int),(k:Int),ints ws,ints s.1,s.2.1,l,s.2.2.1,ints s.2.2.2,l))
       (λk s=>s.2.2.1.length=l.length/\DI (G l) (EgM (ma ws) s.1 s.2.1) (λ_=>True) s.2.2.1 s.2.2.2 (some (f,k))/\SW (G l) (ma ws) P A l.length ms.sum s.1 s.2.1/\Zr (G l) s.1/\μ2 s.2.2.1 s.2.2.2+1<=μ2 met (p++[f]))
       (λr=>∃ ms,r=some (ints ms)/\Gr l ws P A ms) ?_ ?_ (G l f).length 0 big (by simp) (MZ (by omega)) (m,ch,met,p) ⟨hm,hd.pop,hs,hz,by simp [μ2];omega⟩
      ·rintro Bp ⟨m',c',mt,q⟩ ⟨f1,f2,f3,f4,f5⟩
       dsimp only at f1 f2 f3 f4 f5
       show ∃ ms',JL (λ_=>List.replicate) BM self BQ Bp _=_/\_
       unfold JL
       dsimp only
       rw [AF (by omega),AJ]
       refine ih1 _ ⟨m',c',mt,q,rfl,f1,f2.fin,f3,f4,by omega⟩ ?_
       show 2 * mt.count false+(ints q).length < 2 * met.count false+(ints (p++[f])).length
       rw [Bo,Bo]
       unfold μ2 at f5
       omega
      ·rintro Bp ⟨m',c',mt,q⟩ k hk ⟨f1,f2,f3,f4,f5⟩
       dsimp only at f1 f2 f3 f4 f5
       left
       have hj:(G l f)[k]? = some (G l f)[k]:=AU hk
       have hjm:(G l f)[k]∈G l f:=Ae hk
       have hjl:=QAw h hf hjm
       have hjr:Rc (G l) (G l f)[k]:=.step hrf hjm
       generalize (G l f)[k]=j at *
       have hml:m'.length=l.length:=f3.mi.len
       have b16:∀ i,i < l.length->ma m' i < 65536:=λi hi=>Nat.lt_of_le_of_lt (f3.mi.up i hi).le hA
       have hE:=QFN (W:=ma ws) (f:=f) (show j < m'.length by omega) c'
       have hS:=f3.step hrf hjm hjl
       have hZ:Zr (G l) (m'.set j (nw (ma ws) m' f j)):=λi hi=>by
        rw [QC (by omega),AX (show ¬ i=j from λe=>hi (e ▸ hjr))]
        exact f4 i hi
       have hor:ma m' f ||| ma ws f < 65536:=QTx (b16 f hf) (hW f)
       have hst:I6 (λ_=>List.replicate) big BM self BQ Bp ((f:Int),ints (G l f),((G l f).length:Int),(k:Int),ints ws,ints m',c',l,mt,ints q,l)
         = (nth mt j).bind λb=>if b then Bp ((f:Int),ints (G l f),((G l f).length:Int),((k+1:Nat):Int),ints ws,ints (m'.set j (nw (ma ws) m' f j)),c'||decide (df (ma ws) m' f j≠0),l,mt,ints q,l)
          else Bp ((f:Int),ints (G l f),((G l f).length:Int),((k+1:Nat):Int),ints ws,ints (m'.set j (nw (ma ws) m' f j)),c'||decide (df (ma ws) m' f j≠0),l,mt.set j true,ints (q++[j]),l):=by
        have hq:q.length<=1000:=by simp only [μ2] at f5 hμ;omega
        have hlim:(Nat.ble 1 1&&Nat.ble (List.length (ints q)+List.length ([(j:Int)]:List Int)) lim)=true:=by
         rw [b11,EP (by rw [Bo];simp;omega)];rfl
        show JL (λ_=>List.replicate) BM self BQ Bp _=_
        unfold JL
        dsimp only
        rw [AB (show (k:Int) < ((G l f).length:Int) by omega),AL,Gn (ints_at hj),AA]
        simp only [Bo m',f1,hml,RA hf,RA hjl,AL,QC3 (show f < m'.length by omega),QC3 (show j < m'.length by omega),qG (show f < ws.length by omega),AA,bor (b16 f hf) (hW f),QSk (b16 j hjl) hor,QMs (b16 j hjl) (Nat.lt_trans hor (by decide)),hlim]
        rw [fQ (z:=(k:Int)+1) (by omega) (by omega),Aj,ints_set,QMt,XG]
        cases c' with
        | true=>cases nth mt j with
         | none=>rfl
         | some b=>cases b <;> rfl
        | false=>cases nth mt j with
         | none=>rfl
         | some b=>cases b <;> rfl
       rw [M8] at hst
       dsimp only
       rw [hst]
       rcases Xk (m:=mt) (j:=j) (by omega) with hb | hb
       ·refine ⟨(m'.set j (nw (ma ws) m' f j),c'||decide (df (ma ws) m' f j≠0),mt,q),⟨f1,f2.old hj hE.1 (λ_ h=>h) hE.2 hb,hS,hZ,f5⟩,?_⟩
        rw [hb]
        rfl
       ·have hc:=Mh hb
        refine ⟨(m'.set j (nw (ma ws) m' f j),c'||decide (df (ma ws) m' f j≠0),mt.set j true,q++[j]),⟨by simp [f1],f2.new hj hE.1 (λ_ h=>h) hE.2 trivial hb,hS,hZ,?_⟩,?_⟩
        ·simp only [μ2,AQ,Af,Av] at f5 ⊢
         omega
        ·rw [hb]
         rfl
    ·have:=Oi l.length h1
     refine ⟨ms,false,_,[0],rfl,by simp,DI.start h1 trivial,⟨m1,Nat.le_refl _,λe=>by cases e⟩,m2,?_⟩
     simp only [μ2,Af,Av]
     omega
    ·have:=Oi l.length h1
     refine MZ ?_
     show 2 * ((List.replicate l.length false).set 0 true).count false+1<=_
     omega
  ·refine ⟨s.set 0 P,true,rfl,MI.start g1 h1 hPA (λi hi hr=>g2 i hi hr) (λi hi=>?_) hr,λi hi=>?_,λi j hi hj=>.inl rfl⟩
   ·by_cases dI:Rc (G l) i
    ·rw [g2 i hi dI];exact .refl _
    ·rw [g3 i (λe=>dI e.2)];exact .zero _
   ·rw [QC (by omega),AX (show ¬ i=0 from λe=>hi (e ▸ .zero)),g3 i (λe=>hi e.2)]
  ·refine MZ ?_
   have hmi:MI (G l) (ma ws) P A l.length (s.set 0 P):=MI.start g1 h1 hPA (λi hi hr=>g2 i hi hr) (λi hi=>by
    by_cases dI:Rc (G l) i
    ·rw [g2 i hi dI];exact .refl _
    ·rw [g3 i (λe=>dI e.2)];exact .zero _) hr
   have:=hmi.sum h2 hA
   show 2 * ((ints (s.set 0 P)).map Int.toNat).sum+1<=_
   rw [Uu]
   omega
 ·rintro BM s i hi ⟨g1,g2,g3⟩
  left
  show ∃ s',_/\GK (λ_=>List.replicate) _ BM _=_
  unfold GK
  dsimp only
  simp only [Bo,KM,g1,RA hi,AL]
  rw [AB (show (i:Int) < (l.length:Int) by omega),AL,fQ (z:=(i:Int)+1) (by omega) (by omega),Aj,M8,ints_set]
  by_cases dI:Rc (G l) i
  ·rw [(bI hi).2 dI]
   refine ⟨s.set i A,⟨by simp [g1],λa ha hra=>?_,λa ha=>?_⟩,rfl⟩
   ·rw [QC (by omega)]
    split
    ·rfl
    ·exact g2 a (by omega) hra
   ·rw [QC (by omega),AX (show ¬ a=i from λe=>ha ⟨by omega,e ▸ dI⟩)]
    exact g3 a λe=>ha ⟨by omega,e.2⟩
  ·rw [(eT hi).2 dI]
   refine ⟨s,⟨g1,λa ha hra=>g2 a ?_ hra,λa ha=>g3 a λe=>ha ⟨by omega,e.2⟩⟩,rfl⟩
   have:a≠i:=λe=>dI (e ▸ hra)
   omega
def wm (l:List Ins):List Nat:=l.map λx=>maskN (wS x)
theorem QAd (l:List Ins):(wm l).length=l.length:=by simp [wm]
theorem QEg {l:List Ins} {i:Nat} {x:Ins} (h:l[i]? = some x):ma (wm l) i=maskN (wS x):=by
 unfold ma wm
 rw [Ad,List.getElem?_map,h]
 rfl
theorem QZz {l:List Ins} (h:VP l=true) (i:Nat):ma (wm l) i < 65536:=by
 by_cases hi:i < l.length
 ·have hx:l[i]? = some l[i]:=AU hi
  rw [QEg hx]
  obtain ⟨_,hs,_,_⟩:=VK ((Eo h).2.2.1 i _ hx).1
  exact zl hs (by decide)
 ·unfold ma
  rw [Ad,Aw (by rw [QAd];omega)]
  decide
def IsM (l:List Ins) (ws:List Nat) (P A:Nat) (fs:List Nat):Prop:=fs.length=l.length/\∃ m,IsG (G l) (ma ws) P A m/\∀ i,i < l.length->(Rc (G l) i->i≠l.length - 1->ma fs i=m i)/\(¬ Rc (G l) i\/i=l.length - 1->ma fs i=0)
theorem IsM.same {l:List Ins} {ws:List Nat} {P A:Nat} {a b:List Nat} (h:IsM l ws P A a) (h':IsM l ws P A b):a=b:=by
 obtain ⟨h1,m,h2,h3⟩:=h
 obtain ⟨g1,k,g2,g3⟩:=h'
 refine QLH (by omega) λi hi=>?_
 by_cases e:Rc (G l) i/\i≠l.length - 1
 ·rw [(h3 i (by omega)).1 e.1 e.2,(g3 i (by omega)).1 e.1 e.2]
  exact (g2.2 m h2.1 i e.1).antisymm (h2.2 k g2.1 i e.1)
 ·have:¬ Rc (G l) i\/i=l.length - 1:=by
   by_cases e1:Rc (G l) i
   ·exact .inr (by by_cases e2:i=l.length - 1;exact e2;exact absurd ⟨e1,e2⟩ e)
   ·exact .inl e1
  rw [(h3 i (by omega)).2 this,(g3 i (by omega)).2 this]
abbrev low (n:Int):Nat:=2 ^ n.toNat - 1
theorem QEz {l:List Ins} (h:VP l=true) (hw:WfC l) {p s:Int} (hp:0<=p) (hps:p<=s) (hs:s<=16):∃ fs,Ve (l,p,s)=some (ints fs)/\IsM l (wm l) (low p) (low s) fs:=by
 obtain ⟨h1,h2,hok,hlast⟩:=Eo h
 have hr:∀ i,Rc (G l) i->i < l.length:=λi hi=>hi.lt h
 have hA:low s < 65536:=qC hs
 have hPA:Sb (low p) (low s):=QC0 hps
 have hW:=QZz h
 have hwl:=QAd l
 have QZL:=QBz hp (show p<=16 by omega)
 have QZK:=QBz (show 0<=s by omega) hs
 rw [show 2 ^ p.toNat - 1=low p from rfl] at QZL
 rw [show 2 ^ s.toNat - 1=low s from rfl] at QZK
 generalize low p=P at *
 generalize low s=A at *
 show ∃ fs,V4 (λ_=>List.replicate) (BP (Rj (λ_=>List.replicate) big) big) (l,p,s)=_/\_
 unfold V4
 simp only [Yo (show l.length<=68719476736 by omega),AL,Aj,QJQ h,AA]
 rw [show List.replicate l.length (0:Int)=ints (List.replicate l.length 0) by simp [ints]]
 refine Bg (σ:=List Nat) (g:=Rj (λ_=>List.replicate) big) (n:=l.length) (λt i=>(l,p,s,(i:Int),KL l,ints t)) (λk t=>t.length=l.length/\∀ i,i < k->ma t i=A) (λr=>∃ fs,r=some (ints fs)/\IsM l (wm l) P A fs) ?_ ?_ l.length 0 big (by simp) (MZ (by omega)) _ ⟨by simp,λi hi=>absurd hi (Nat.not_lt_zero _)⟩
 ·rintro BM t ⟨g1,g2⟩
  show ∃ fs,Kl (λ_=>List.replicate) (BP (Rk (λ_=>List.replicate) big BM) big) BM _=_/\_
  unfold Kl
  dsimp only
  rw [AF (by omega),AJ,QZL,AA,Bo,show (decide ((0:Int)<=0)&&decide ((0:Int) < (t.length:Int)))=true by simp;omega,AL,Int.toNat_zero,ints_set]
  have hst:MI (G l) (ma (wm l)) P A l.length (t.set 0 P):=MI.start g1 h1 hPA (λi hi _=>g2 i hi) (λi hi=>by rw [g2 i hi];exact .refl _) hr
  refine MV (g:=Rk (λ_=>List.replicate) big BM)
   (λv=>∃ ms ch,v=(l,ch,KL l,ints ms)/\MI (G l) (ma (wm l)) P A l.length ms/\∀ i j,Rc (G l) i->j∈G l i->EgM (ma (wm l)) ms ch i j)
   (λv=>2 * (v.2.2.2.map Int.toNat).sum+(if v.2.1 then 1 else 0)) (λr=>∃ fs,r=some (ints fs)/\IsM l (wm l) P A fs) ?_ big _ ?_ ?_
  ·rintro self v ⟨ms,ch,rfl,m1,m3⟩ ih
   show ∃ fs,Rp (λ_=>List.replicate) (BP (Rm (λ_=>List.replicate) big BM self) big) (BP (Ro (λ_=>List.replicate) big BM self) big) BM self (l,ch,KL l,ints ms)=_/\_
   unfold Rp
   dsimp only
   cases ch with
   | false=>
    rw [AJ]
    have hG:IsG (G l) (ma (wm l)) P A (ma ms):=m1.done hr λi j hi hj=>(m3 i j hi hj).resolve_left (by simp)
    refine Bg (σ:=List Nat) (g:=Ro (λ_=>List.replicate) big BM self) (n:=l.length) (λt i=>(l,(i:Int),KL l,ints t)) (λk t=>t.length=l.length/\∀ i,(k<=i->ma t i=ma ms i)/\(i < k->(Rc (G l) i->i≠l.length - 1->ma t i=ma ms i)/\(¬ Rc (G l) i\/i=l.length - 1->ma t i=0))) (λr=>∃ fs,r=some (ints fs)/\IsM l (wm l) P A fs) ?_ ?_ l.length 0 big (by simp) (MZ (by omega)) ms ⟨m1.len,λi=>⟨λ_=>rfl,λhi=>absurd hi (Nat.not_lt_zero _)⟩⟩
    ·rintro BQ t ⟨f1,f2⟩
     show ∃ fs,Nw (λ_=>List.replicate) BM self BQ _=_/\_
     unfold Nw
     dsimp only
     rw [AF (by omega),AJ]
     exact ⟨t,rfl,f1,ma ms,hG,λi hi=>(f2 i).2 hi⟩
    ·rintro BQ t i hi ⟨f1,f2⟩
     left
     show ∃ s',_/\Nw (λ_=>List.replicate) BM self BQ _=_
     unfold Nw
     dsimp only
     simp only [Bo,KM,f1,RA hi,AL,QA0 h1 (show l.length<=1000000 by omega)]
     rw [AB (show (i:Int) < (l.length:Int) by omega),AL,fQ (z:=(i:Int)+1) (by omega) (by omega),Aj,M8,show (0:Int)=((0:Nat):Int) from rfl,ints_set]
     have zero:(¬ Rc (G l) i\/i=l.length - 1)->(t.set i 0).length=l.length/\∀ a,(i+1<=a->ma (t.set i 0) a=ma ms a)/\(a < i+1->(Rc (G l) a->a≠l.length - 1->ma (t.set i 0) a=ma ms a)/\(¬ Rc (G l) a\/a=l.length - 1->ma (t.set i 0) a=0)):=λhz=>by
      refine ⟨by simp [f1],λa=>?_⟩
      rw [QC (by omega)]
      by_cases e:a=i
      ·subst e
       rw [AY rfl]
       refine ⟨λe=>by omega,λ_=>⟨λe1 e2=>?_,λ_=>rfl⟩⟩
       rcases hz with hz | hz
       ·exact absurd e1 hz
       ·exact absurd hz e2
      ·rw [AX e]
       exact ⟨λe=>(f2 a).1 (by omega),λe=>(f2 a).2 (by omega)⟩
     by_cases dI:Rc (G l) i
     ·rw [(bI hi).2 dI]
      by_cases e:i=l.length - 1
      ·refine ⟨t.set i 0,zero (.inr e),?_⟩
       rw [show ((i:Int)==((l.length - 1:Nat):Int))=true by simp [e]]
       rfl
      ·refine ⟨t,⟨f1,λa=>⟨λha=>(f2 a).1 (by omega),λha=>?_⟩⟩,?_⟩
       ·by_cases e3:a=i
        ·subst e3
         exact ⟨λ_ _=>(f2 a).1 (Nat.le_refl _),λhz=>hz.elim (λhz=>absurd dI hz) λhz=>absurd hz e⟩
        ·exact (f2 a).2 (by omega)
       ·rw [show ((i:Int)==((l.length - 1:Nat):Int))=false by simp;omega]
        rfl
     ·rw [(eT hi).2 dI]
      exact ⟨t.set i 0,zero (.inl dI),rfl⟩
   | true=>
    rw [AL]
    refine Bg (σ:=List Nat×Bool) (g:=Rm (λ_=>List.replicate) big BM self) (n:=l.length) (λt i=>(l,t.2,(i:Int),KL l,ints t.1))
     (λi t=>SW (G l) (ma (wm l)) P A l.length ms.sum t.1 t.2/\∀ a b,a < i->Rc (G l) a->b∈G l a->EgM (ma (wm l)) t.1 t.2 a b)
     (λr=>∃ fs,r=some (ints fs)/\IsM l (wm l) P A fs) ?_ ?_ l.length 0 big (by simp) (MZ (by omega)) (ms,false) ⟨⟨m1,Nat.le_refl _,(λe=>nomatch e)⟩,λa b ha=>absurd ha (Nat.not_lt_zero _)⟩
    ·rintro BQ ⟨m,c⟩ ⟨f1,f2⟩
     dsimp only at f1 f2
     show ∃ fs,Km (λ_=>List.replicate) _ BM self BQ (l,c,(l.length:Int),KL l,ints m)=_/\_
     unfold Km
     dsimp only
     rw [AF (by omega),AJ]
     refine ih _ ⟨m,c,rfl,f1.mi,λi j hi hj=>f2 i j (hr i hi) hi hj⟩ ?_
     show 2 * ((ints m).map Int.toNat).sum+(if c then 1 else 0) < 2 * ((ints ms).map Int.toNat).sum+1
     rw [Uu,Uu]
     have h3:=f1.le
     cases c with
     | false=>simp only [Bool.false_eq_true,if_false];omega
     | true=>have:=f1.lt rfl;simp only [if_true];omega
    ·rintro BQ ⟨m,c⟩ i hi ⟨f1,f2⟩
     dsimp only at f1 f2
     left
     show ∃ s':List Nat×Bool,_/\Km (λ_=>List.replicate) (BP (Np (λ_=>List.replicate) big BM self BQ) big) BM self BQ (l,c,(i:Int),KL l,ints m)=_
     unfold Km
     dsimp only
     rw [AB (show (i:Int) < (l.length:Int) by omega),AL,jY h hi,AA]
     have hgl:=qM l i
     refine Bg (σ:=List Nat×Bool) (g:=Np (λ_=>List.replicate) big BM self BQ) (n:=(G l i).length) (λt k=>(l,t.2,(i:Int),(k:Int),KL l,ints t.1,ints (G l i)))
      (λk t=>(SW (G l) (ma (wm l)) P A l.length ms.sum t.1 t.2/\∀ a b,a < i->Rc (G l) a->b∈G l a->EgM (ma (wm l)) t.1 t.2 a b)/\(Rc (G l) i->∀ b∈(G l i).take k,EgM (ma (wm l)) t.1 t.2 i b))
      (λr=>∃ s':List Nat×Bool,(SW (G l) (ma (wm l)) P A l.length ms.sum s'.1 s'.2/\∀ a b,a < i+1->Rc (G l) a->b∈G l a->EgM (ma (wm l)) s'.1 s'.2 a b)/\r=BQ (l,s'.2,((i+1:Nat):Int),KL l,ints s'.1))
      ?_ ?_ (G l i).length 0 big (by simp) (MZ (by omega)) (m,c) ⟨⟨f1,f2⟩,λ_ b hb=>by simp at hb⟩
     ·rintro Bp ⟨m,c⟩ ⟨⟨f1,f2⟩,f3⟩
      dsimp only at f1 f2 f3
      show ∃ s':List Nat×Bool,_/\Nv (λ_=>List.replicate) BM self BQ Bp (l,c,(i:Int),((G l i).length:Int),KL l,ints m,ints (G l i))=_
      unfold Nv
      dsimp only
      rw [Bo (G l i),AF (by omega),AJ,fQ (by omega) (by omega)]
      refine ⟨(m,c),⟨f1,λa b ha hra hb=>?_⟩,rfl⟩
      by_cases e:a=i
      ·subst e
       exact f3 hra b (by rw [List.take_length];exact hb)
      ·exact f2 a b (by omega) hra hb
     ·rintro Bp ⟨m,c⟩ k hk ⟨⟨f1,f2⟩,f3⟩
      dsimp only at f1 f2 f3
      have hj:(G l i)[k]? = some (G l i)[k]:=AU hk
      have hjm:(G l i)[k]∈G l i:=Ae hk
      have hjl:=QAw h hi hjm
      generalize (G l i)[k]=j at *
      have hml:m.length=l.length:=f1.mi.len
      have b16:∀ i,i < l.length->ma m i < 65536:=λi hi=>Nat.lt_of_le_of_lt (f1.mi.up i hi).le hA
      have hor:ma m i ||| ma (wm l) i < 65536:=QTx (b16 i hi) (hW i)
      have hx:l[i]? = some l[i]:=AU hi
      have hwx:=hw _ (Ae hi)
      have hwr:PK l[i]=some ((ma (wm l) i:Nat):Int):=by rw [QDF (hok i _ hx).1 hwx.1 hwx.2,QEg hx]
      have hgk:=Jb (ints_at hj)
      have e0:Np (λ_=>List.replicate) big BM self BQ Bp (l,c,(i:Int),(k:Int),KL l,ints m,ints (G l i))=Nv (λ_=>List.replicate) BM self BQ Bp (l,c,(i:Int),(k:Int),KL l,ints m,ints (G l i)):=rfl
      dsimp only
      rw [e0]
      unfold Nv
      dsimp only
      simp only [Bo,KM,hml,RA hi,RA hk,RA hjl,AL,hgk,QC3 (show i < m.length by omega),QC3 (show j < m.length by omega),Gn hx,hwr,AA,bor (b16 i hi) (hW i),QSk (b16 j hjl) hor]
      rw [AB (show (k:Int) < ((G l i).length:Int) by omega),AL,fQ (z:=(k:Int)+1) (by omega) (by omega),fQ (z:=(i:Int)+1) (by omega) (by omega),show nth (KL l) (Int.toNat (i:Int))=(KL l)[i]? by rw [M8,Aj],Aj,ints_set]
      by_cases dI:Rc (G l) i
      ·left
       have hE:=QFN (W:=ma (wm l)) (f:=i) (show j < m.length by omega) c
       have hS:=f1.step dI hjm hjl
       refine ⟨(m.set j (nw (ma (wm l)) m i j),c||decide (df (ma (wm l)) m i j≠0)),⟨⟨hS,λa b ha hra hb=>hE.1 _ _ (f2 a b ha hra hb)⟩,λdI b hb=>?_⟩,?_⟩
       ·rcases XY hj hb with h3 | rfl
        ·exact hE.1 _ _ (f3 dI b h3)
        ·exact hE.2
       ·rw [(bI hi).2 dI,AA,AL]
        by_cases e:df (ma (wm l)) m i j=0
        ·have e2:=QFK.1 e
         rw [show (((ma m j &&& (ma m i ||| ma (wm l) i):Nat):Int) != ((ma m j:Nat):Int))=false by
          rw [show ma m j &&& (ma m i ||| ma (wm l) i)=ma m j from e2];simp]
         dsimp only
         rw [e,e2,QFg (by omega)]
         simp
        ·have e2:ma m j &&& (ma m i ||| ma (wm l) i)≠ma m j:=λe2=>e (QFK.2 e2)
         rw [show (((ma m j &&& (ma m i ||| ma (wm l) i):Nat):Int) != ((ma m j:Nat):Int))=true by
          simp only [bne_iff_ne,ne_eq,Int.natCast_inj];exact e2]
         rw [show decide (df (ma (wm l)) m i j≠0)=true by simpa using e,Bool.or_true]
         rfl
      ·right
       rw [(eT hi).2 dI,AA,AJ]
       refine ⟨(m,c),⟨f1,λa b ha hra hb=>?_⟩,rfl⟩
       exact f2 a b (by
        have:a≠i:=λe=>dI (e ▸ hra)
        omega) hra hb
  ·exact ⟨t.set 0 P,true,rfl,hst,λi j hi hj=>.inl rfl⟩
  ·refine MZ ?_
   have:=hst.sum h2 hA
   show 2 * ((ints (t.set 0 P)).map Int.toNat).sum+1<=_
   rw [Uu]
   omega
 ·rintro BM t i hi ⟨g1,g2⟩
  left
  show ∃ s',_/\Kl (λ_=>List.replicate) _ BM _=_
  unfold Kl
  dsimp only
  simp only [Bo,g1,RA hi,AL,QZK,AA]
  rw [AB (show (i:Int) < (l.length:Int) by omega),AL,fQ (z:=(i:Int)+1) (by omega) (by omega),Aj,ints_set]
  refine ⟨t.set i A,⟨by simp [g1],λa ha=>?_⟩,rfl⟩
  rw [QC (by omega)]
  split
  ·rfl
  ·exact g2 a (by omega)
def WC (l:List Ins) (p s:Int) (r:Option (List Int×Int)):Prop:=
 if VP l=true then (if iD l p s=0 then ∃ fs,r=some (ints fs,0)/\IsM l (wm l) (low p) (low s) fs else r=some ([],iD l p s)) else r=some ([],8)
theorem QGn {l:List Ins} {p s:Int}:iD l p s=0↔(0<=p/\p<=s/\s<=16)/\l.all (vI s)=true:=by
 unfold iD
 split
 ·constructor
  ·intro e;omega
  ·intro e;omega
 ·split
  ·rename_i h1 h2
   simp [h2]
   omega
  ·rename_i h1 h2
   simp [h2]
theorem QJb {l:List Ins} (p s:Int):WC l p s (Og (l,p,s)):=by
 show WC l p s (V3 (λ_=>List.replicate) (BP (Nj (λ_=>List.replicate) big) big) (l,p,s))
 unfold V3
 dsimp only
 rw [Wu,AA]
 by_cases h:VP l=true
 ·obtain ⟨h1,h2,hok,hlast⟩:=Eo h
  have hfit:∀ r,(if iD l p s=0 then ∃ fs,r=some (ints fs,(0:Int))/\IsM l (wm l) (low p) (low s) fs else r=some ([],iD l p s))->WC l p s r:=λr hr=>by
   unfold WC
   rw [AY h]
   exact hr
  refine hfit _ ?_
  rw [AY h,show ((0:Int) != 0)=false from rfl,AJ]
  have two:(s < 0\/s > 16\/p < 0\/p > s)->iD l p s=2:=λe=>by unfold iD;rw [AY e]
  by_cases a:p < 0
  ·rw [two (by omega),AX (by omega),AB a];rfl
  by_cases b:p > s
  ·rw [two (by omega),AX (by omega),AF a,AB b];rfl
  by_cases c:s > 16
  ·rw [two (by omega),AX (by omega),AF a,AF b,AB c];rfl
  have hfr:iD l p s=if l.all (vI s) then 0 else 16:=by unfold iD;rw [AX (by omega)]
  rw [AF a,AF b,AF c]
  simp only [AJ,Yo (show l.length<=68719476736 by omega),AL,Aj]
  rw [show List.replicate l.length (0:Int)=ints (List.replicate l.length 0) by simp [ints]]
  refine Bg (σ:=List Nat) (g:=Nj (λ_=>List.replicate) big) (n:=l.length) (λt i=>(l,p,s,l,(l.length:Int),(i:Int),ints t))
   (λk t=>t.length=l.length/\∀ i x,i < k->l[i]? = some x->vI s x=true/\ma t i=maskN (wS x))
   (λr=>if iD l p s=0 then ∃ fs,r=some (ints fs,(0:Int))/\IsM l (wm l) (low p) (low s) fs else r=some ([],iD l p s)) ?_ ?_ l.length 0 big (by simp) (MZ (by omega)) _ ⟨by simp,λi x hi=>absurd hi (Nat.not_lt_zero _)⟩
  ·rintro self t ⟨g1,g2⟩
   have hall:l.all (vI s)=true:=Ow.2 λk x hk=>(g2 k x (Aq.1 hk).1 hk).1
   have ht:t=wm l:=QLH (by rw [QAd];exact g1) λi hi=>by
    have hx:l[i]? = some (l[i]'(by omega)):=AU (by omega)
    rw [(g2 i _ (by omega) hx).2,QEg hx]
   subst ht
   rw [hfr,AY hall,AY rfl]
   show ∃ fs,Ns (λ_=>List.replicate) self _=_/\_
   unfold Ns
   dsimp only
   rw [AF (by omega),AJ,QBh (by omega) (by omega),AA,QBh (by omega) (by omega),AA]
   obtain ⟨ms,e,m1,m2,m3⟩:=QBk h (QAd l) (QZz h) (qC (n:=s) (by omega)) (QC0 (m:=p) (n:=s) (by omega))
   rw [e,AA,Bo,m1,QA0 h1 (by omega),RA (show l.length - 1 < l.length by omega),AL,Aj,show (0:Int)=((0:Nat):Int) from rfl,ints_set]
   refine ⟨_,rfl,by simp [m1],ma ms,m3,λi hi=>?_⟩
   rw [QC (by omega)]
   by_cases e2:i=l.length - 1
   ·rw [AY e2]
    exact ⟨λ_ h3=>absurd e2 h3,λ_=>rfl⟩
   ·rw [AX e2]
    exact ⟨λ_ _=>rfl,λhz=>m2 i (hz.resolve_right e2)⟩
  ·rintro self t i hi ⟨g1,g2⟩
   have hx:l[i]? = some l[i]:=AU hi
   have ho:=(hok i _ hx).1
   obtain ⟨sr,sw,lr,lw⟩:=VK ho
   have e0:Nj (λ_=>List.replicate) big self (l,p,s,l,(l.length:Int),(i:Int),ints t)=Ns (λ_=>List.replicate) self (l,p,s,l,(l.length:Int),(i:Int),ints t):=rfl
   rw [e0]
   unfold Ns
   dsimp only
   rw [AB (show (i:Int) < (l.length:Int) by omega),AL,Gn hx,AA,QB3,AA,AY ho]
   rw [show rsL (Xc l[i].1) (vals l[i])=rS l[i] from rfl,show wsL (Xc l[i].1) (vals l[i])=wS l[i] from rfl]
   dsimp only
   rw [QBO _ _ (by omega),AA,QBO _ _ (by omega),AA,QHC _ sw (by omega),AA]
   have bad:vI s l[i]=false->iD l p s=16:=λe=>by
    rw [hfr,AX λhh=>by rw [Ow.1 hh i _ hx] at e;cases e]
   cases e1:(rS l[i]).all λv=>decide (v < s) with
   | false=>
    right
    rw [bad (by simp [vI,e1]),AX (by decide)]
    rfl
   | true=>
    cases e2:(wS l[i]).all λv=>decide (v < s) with
    | false=>
     right
     rw [bad (by simp only [vI,e1,e2];rfl),AX (by decide)]
     rfl
    | true=>
     left
     refine ⟨t.set i (maskN (wS l[i])),⟨by simp [g1],λa x ha hxa=>?_⟩,?_⟩
     ·rw [QC (by omega)]
      by_cases e:a=i
      ·subst e
       rw [hx] at hxa
       cases hxa
       exact ⟨by simp only [vI,e1,e2];rfl,AY rfl⟩
      ·rw [AX e]
       exact g2 a x (by omega) hxa
     ·simp only [A8,AJ,Bo,g1,RA hi,AL]
      rw [fQ (z:=(i:Int)+1) (by omega) (by omega),Aj,ints_set]
      rfl
 ·unfold WC
  rw [AX h,AX h]
  rfl
theorem WC.same {l:List Ins} {p s:Int} {a b:Option (List Int×Int)} (h:WC l p s a) (h':WC l p s b):a=b:=by
 unfold WC at h h'
 split at h
 ·rename_i e
  rw [AY e] at h'
  split at h
  ·rename_i e2
   rw [AY e2] at h'
   obtain ⟨x,rfl,hx⟩:=h
   obtain ⟨y,rfl,hy⟩:=h'
   rw [hx.same hy]
  ·rename_i e2
   rw [AX e2] at h'
   rw [h,h']
 ·rename_i e
  rw [AX e] at h'
  rw [h,h']
end Go.Proofs.YtjcnhegjiffgpaaGreatDoor.F
set_option linter.unusedVariables false
set_option linter.unusedSimpArgs false
set_option maxRecDepth 100000
namespace Go.Proofs.YtjcnhegjiffgpaaGreatDoor.F
open Go.Lift
theorem IsM.up {l:List Ins} (h:VP l=true) {P A:Nat} {fs:List Nat} (hm:IsM l (wm l) P A fs) (hA:A < 65536) (i:Nat):ma fs i < 65536:=by
 obtain ⟨g1,m,g2,g3⟩:=hm
 by_cases hi:i < l.length
 ·by_cases e:Rc (G l) i/\i≠l.length - 1
  ·rw [(g3 i hi).1 e.1 e.2]
   exact Nat.lt_of_le_of_lt (g2.1.a i e.1).le hA
  ·have:¬ Rc (G l) i\/i=l.length - 1:=by
    by_cases e1:Rc (G l) i
    ·exact .inr (by by_cases e2:i=l.length - 1;exact e2;exact absurd ⟨e1,e2⟩ e)
    ·exact .inl e1
   rw [(g3 i hi).2 this]
   decide
 ·unfold ma
  rw [Ad,Aw (by omega)]
  decide
def da (d:List Int) (i:Nat):Int:=d.getD i 0
theorem q8 {d:List Int} {i j:Nat} {v:Int} (h:j < d.length):da (d.set j v) i=if i=j then v else da d i:=by
 unfold da
 rw [Ad,ER h]
 split <;> simp [Ad]
theorem qz {d:List Int} {i:Nat} (h:i < d.length):d[i]? = some (da d i):=getD_at h 0
theorem QR4 {d:List Int} {i:Nat} (h:i < d.length):nth d (Int.toNat (i:Int))=some (da d i):=Jb (qz h)
theorem QFJ {d:List Int} {i:Nat} (h:i < d.length):BX d (i:Int)=some (da d i):=Gn (qz h)
theorem QTQ {a b:List Int} (hl:a.length=b.length) (h:∀ i,i < a.length->da a i=da b i):a=b:=by
 apply List.ext_getElem?
 intro i
 by_cases hi:i < a.length
 ·rw [qz hi,qz (by omega),h i hi]
 ·rw [Aw (by omega),Aw (by omega)]
structure Right (g:Nat->List Nat) (W:Nat->Int) (n:Nat) (D:Nat->Int):Prop where
 z:D 0=0
 e:∀ i j,Rc g i->j∈g i->D j=D i+W i/\0<=D j/\D j<=4096/\(j=n - 1->D j=0)
theorem Right.bd {g:Nat->List Nat} {W:Nat->Int} {n:Nat} {D:Nat->Int} (h:Right g W n D) {i:Nat} (hi:Rc g i):0<=D i/\D i<=4096:=by
 cases hi with
 | zero=>rw [h.z];omega
 | step hi hj=>have:=h.e _ _ hi hj;omega
theorem Right.last {g:Nat->List Nat} {W:Nat->Int} {n:Nat} {D:Nat->Int} (h:Right g W n D) (hi:Rc g (n - 1)):D (n - 1)=0:=by
 generalize hm:n - 1=m at hi
 cases hi with
 | zero=>exact h.z
 | step hi hj=>exact (h.e _ _ hi hj).2.2.2 hm.symm
theorem Right.uniq {g:Nat->List Nat} {W:Nat->Int} {n:Nat} {D E:Nat->Int} (h:Right g W n D) (h':Right g W n E) {i:Nat} (hi:Rc g i):D i=E i:=by
 induction hi with
 | zero=>rw [h.z,h'.z]
 | step hi hj ih=>rw [(h.e _ _ hi hj).1,(h'.e _ _ hi hj).1,ih]
structure DP (g:Nat->List Nat) (W:Nat->Int) (n:Nat) (dep:List Int) (kn:List Bool):Prop where
 ld:dep.length=n
 lk:kn.length=n
 k0:kn[0]? = some true
 d0:da dep 0=0
 kr:∀ i,kn[i]? = some true->Rc g i/\0<=da dep i/\da dep i<=4096/\∀ D,Right g W n D->da dep i=D i
 un:∀ i,kn[i]? = some false->da dep i=0
def EgD (W:Nat->Int) (dep:List Int) (kn:List Bool) (i j:Nat):Prop:=kn[i]? = some true/\kn[j]? = some true/\da dep j=da dep i+W i
section
variable {g:Nat->List Nat} {W:Nat->Int} {n f j:Nat} {dep:List Int} {kn:List Bool}
theorem eH (hj:j < kn.length) {i:Nat}:(kn.set j true)[i]? = some true↔i=j\/kn[i]? = some true:=by
 rw [ER hj]
 split
 ·rename_i e;simp [e]
 ·rename_i e;simp [e]
theorem gX (h:DP g W n dep kn) (hjn:j < n) {d:Int} (hk:kn[j]? = some true->da dep j=d) {a:Nat} (ha:kn[a]? = some true):da (dep.set j d) a=da dep a:=by
 rw [q8 (by rw [h.ld];exact hjn)]
 split
 ·rename_i e;subst e;exact (hk ha).symm
 ·rfl
theorem DP.step (h:DP g W n dep kn) (hf:kn[f]? = some true) (hj:j∈g f) (hjn:j < n) (h0:0<=da dep f+W f) (h1:da dep f+W f<=4096) (hk:kn[j]? = some true->da dep j=da dep f+W f):DP g W n (dep.set j (da dep f+W f)) (kn.set j true) where
 ld:=by simp [h.ld]
 lk:=by simp [h.lk]
 k0:=(eH (by rw [h.lk];exact hjn)).2 (.inr h.k0)
 d0:=by rw [gX h hjn hk h.k0];exact h.d0
 kr:=λi hi=>by
  have hrf:=(h.kr f hf).1
  rcases (eH (by rw [h.lk];exact hjn)).1 hi with rfl | hi
  ·rw [q8 (by rw [h.ld];exact hjn),AY rfl]
   exact ⟨.step hrf hj,h0,h1,λD hD=>by rw [(hD.e f i hrf hj).1,(h.kr f hf).2.2.2 D hD]⟩
  ·rw [gX h hjn hk hi]
   exact h.kr i hi
 un:=λi hi=>by
  rw [ER (by rw [h.lk];exact hjn)] at hi
  split at hi
  ·cases hi
  ·rename_i e
   rw [q8 (by rw [h.ld];exact hjn),AX e]
   exact h.un i hi
theorem EgD.step (h:DP g W n dep kn) (hf:kn[f]? = some true) (hjn:j < n) (hk:kn[j]? = some true->da dep j=da dep f+W f) :
  (∀ a b,EgD W dep kn a b->EgD W (dep.set j (da dep f+W f)) (kn.set j true) a b)/\EgD W (dep.set j (da dep f+W f)) (kn.set j true) f j:=by
 have up:∀ i,kn[i]? = some true->(kn.set j true)[i]? = some true:=λi hi=>(eH (by rw [h.lk];exact hjn)).2 (.inr hi)
 constructor
 ·rintro a b ⟨ha,hb,e⟩
  refine ⟨up a ha,up b hb,?_⟩
  rw [gX h hjn hk ha,gX h hjn hk hb]
  exact e
 ·refine ⟨up f hf,(eH (by rw [h.lk];exact hjn)).2 (.inl rfl),?_⟩
  rw [gX h hjn hk hf,q8 (by rw [h.ld];exact hjn),AY rfl]
theorem DP.next (h:DP g W n dep kn) (hf:kn[f]? = some true) (hj:j∈g f) {D:Nat->Int} (hD:Right g W n D) :
  (0<=da dep f+W f/\da dep f+W f<=4096)/\(j=n - 1->da dep f+W f=0)/\(kn[j]? = some true->da dep j=da dep f+W f):=by
 have h1:=h.kr f hf
 have h2:=hD.e f j h1.1 hj
 rw [h1.2.2.2 D hD,<- h2.1]
 exact ⟨⟨h2.2.1,h2.2.2.1⟩,h2.2.2.2,λhk=>(h.kr j hk).2.2.2 D hD⟩
end
def uz (l:List Ins) (bs dep:List Int):Prop:=dep.length=l.length/\∃ D,Right (G l) (da bs) l.length D/\∀ i,i < l.length->(Rc (G l) i->da dep i=D i)/\(¬ Rc (G l) i->da dep i=0)
theorem uz.same {l:List Ins} {bs a b:List Int} (h:uz l bs a) (h':uz l bs b):a=b:=by
 obtain ⟨h1,D,h2,h3⟩:=h
 obtain ⟨g1,E,g2,g3⟩:=h'
 refine QTQ (by omega) λi hi=>?_
 by_cases e:Rc (G l) i
 ·rw [(h3 i (by omega)).1 e,(g3 i (by omega)).1 e,h2.uniq g2 e]
 ·rw [(h3 i (by omega)).2 e,(g3 i (by omega)).2 e]
theorem DP.isD {l:List Ins} {bs dep:List Int} {kn:List Bool} (h:DP (G l) (da bs) l.length dep kn) (hn:da dep (l.length - 1)=0) (hd:∀ i,Rc (G l) i->kn[i]? = some true/\∀ j∈G l i,EgD (da bs) dep kn i j):uz l bs dep:=by
 refine ⟨h.ld,da dep,⟨h.d0,λi j hi hj=>?_⟩,λi hi=>⟨λ_=>rfl,λhr=>?_⟩⟩
 ·obtain ⟨_,h1,h2⟩:=(hd i hi).2 j hj
  have:=h.kr j h1
  exact ⟨h2,this.2.1,this.2.2.1,λe=>by rw [e];exact hn⟩
 ·rcases Xk (m:=kn) (j:=i) (by rw [h.lk];exact hi) with hb | hb
  ·exact absurd (h.kr i hb).1 hr
  ·exact h.un i hb
def QDU (bs:List Int):Bool:=bs.all λb=>decide (-4096<=b)&&decide (b<=4096)
theorem QYr {bs:List Int} (h:QDU bs=true) (i:Nat) : -4096<=da bs i/\da bs i<=4096:=by
 by_cases hi:i < bs.length
 ·have:=Ow.1 h i _ (qz hi)
  simpa using this
 ·unfold da
  rw [Ad,Aw (by omega)]
  simp
def VU (l:List Ins) (bs:List Int) (r:Option (List Int×Int)):Prop:=
 if VP l=true then (if bs.length=l.length/\QDU bs=true then (∃ dep,r=some (dep,0)/\uz l bs dep)\/((∀ D,¬ Right (G l) (da bs) l.length D)/\r=some ([],36)) else r=some ([],2)) else r=some ([],8)
theorem VU.same {l:List Ins} {bs:List Int} {a b:Option (List Int×Int)} (h:VU l bs a) (h':VU l bs b):a=b:=by
 unfold VU at h h'
 split at h
 ·rename_i e
  rw [AY e] at h'
  split at h
  ·rename_i e2
   rw [AY e2] at h'
   rcases h with ⟨x,rfl,hx⟩ | ⟨hn,rfl⟩
   ·rcases h' with ⟨y,rfl,hy⟩ | ⟨hn,rfl⟩
    ·rw [hx.same hy]
    ·obtain ⟨_,D,hD,_⟩:=hx
     exact absurd hD (hn D)
   ·rcases h' with ⟨y,rfl,hy⟩ | ⟨_,rfl⟩
    ·obtain ⟨_,D,hD,_⟩:=hy
     exact absurd hD (hn D)
    ·rfl
  ·rename_i e2
   rw [AX e2] at h'
   rw [h,h']
 ·rename_i e
  rw [AX e] at h'
  rw [h,h']
theorem DP.start {g:Nat->List Nat} {W:Nat->Int} {n:Nat} (hn:1<=n):DP g W n (List.replicate n 0) ((List.replicate n false).set 0 true):=by
 have z:∀ i,da (List.replicate n (0:Int)) i=0:=λi=>by
  simp only [da,Ad,List.getElem?_replicate]
  split <;> rfl
 refine ⟨by simp,by simp,by rw [ER (by simp;omega),AY rfl],z 0,λi hi=>?_,λi _=>z i⟩
 have:=QCj hn hi
 subst this
 rw [z]
 exact ⟨.zero,by omega,by omega,λD hD=>hD.z.symm⟩
theorem QBu (b:Int):Oz b=some (!(decide (-4096<=b)&&decide (b<=4096))):=by
 show U4 b=_
 unfold U4
 by_cases h:b < -4096
 ·rw [AB h,AF (show ¬ -4096<=b by omega)];rfl
 ·rw [AF h,AB (show -4096<=b by omega)]
  by_cases h2:b > 4096
  ·rw [AB h2,AF (show ¬ b<=4096 by omega)];rfl
  ·rw [AF h2,AB (show b<=4096 by omega)];rfl
theorem QDl (d:Int) (j n:Nat) (h1:1<=n) (h2:n<=1000000):RQ (d,(j:Int),(n:Int))=some (if j=n - 1 then decide (d=0) else decide (0<=d/\d<=4096)):=by
 show WW (d,(j:Int),(n:Int))=_
 unfold WW
 dsimp only
 rw [QA0 h1 h2]
 by_cases e:j=n - 1
 ·rw [AY e,show ((j:Int)==((n - 1:Nat):Int))=true by simp [e],AL,EW]
 ·rw [AX e,show ((j:Int)==((n - 1:Nat):Int))=false by simp;omega,AJ]
  by_cases a:0<=d
  ·rw [AB (show d>=0 from a),AL]
   simp [a]
  ·rw [AF (show ¬ d>=0 from a),AJ,AF (λh=>a h.1)]
def DR (l:List Ins) (bs:List Int) (r:Option (List Int×Int)):Prop:=(∃ dep,r=some (dep,0)/\uz l bs dep)\/((∀ D,¬ Right (G l) (da bs) l.length D)/\r=some ([],36))
theorem QBX {l:List Ins} (h:VP l=true) {bs:List Int} (hl:bs.length=l.length) (hb:QDU bs=true) (BM):DR l bs (BP (I5 (λ_=>List.replicate) big BM) big (l,bs,([]:List Int),(0:Int),List.replicate l.length (0:Int),(List.replicate l.length false).set 0 true,l,(List.replicate l.length false).set 0 true,([0]:List Int))):=by
 obtain ⟨h1,h2,hok,hlast⟩:=Eo h
 have hr:∀ i,Rc (G l) i->i < l.length:=λi hi=>hi.lt h
 refine MV (g:=I5 (λ_=>List.replicate) big BM)
  (λv=>∃ dep kn met p,v=(l,bs,([]:List Int),(0:Int),dep,kn,l,met,ints p)/\met.length=l.length/\DP (G l) (da bs) l.length dep kn/\da dep (l.length - 1)=0/\DI (G l) (EgD (da bs) dep kn) (λi=>kn[i]? = some true) met p none/\μ2 met p<=401)
  (λv=>2 * v.2.2.2.2.2.2.2.1.count false+v.2.2.2.2.2.2.2.2.length) (DR l bs) ?_ big _ ?_ ?_
 ·rintro self v ⟨dep,kn,met,p,rfl,hm,hp,hz,hd,hμ⟩ ih
  show DR l bs (Pm (λ_=>List.replicate) (BP (PY (λ_=>List.replicate) big BM self) big) BM self (l,bs,([]:List Int),(0:Int),dep,kn,l,met,ints p))
  unfold Pm
  dsimp only
  rcases List.eq_nil_or_concat p with rfl | ⟨p,f,rfl⟩
  ·simp only [Bo,Av]
   rw [show decide (((0:Nat):Int) > 0)=false from rfl,AJ]
   exact .inl ⟨dep,rfl,hp.isD hz λi hi=>(hd.done i hi).2⟩
  ·have hpl:p.length<=1000:=by simp [μ2] at hμ;omega
   simp only [List.concat_eq_append] at hd hμ ih ⊢
   obtain ⟨e1,e2,e3⟩:=fK p f (by omega)
   have hrf:Rc (G l) f:=hd.rc f (hd.pm f (by simp))
   have hkf:kn[f]? = some true:=hd.kn f (hd.pm f (by simp))
   have hf:f < l.length:=hr f hrf
   rw [e1]
   rw [AB (show (List.length (ints (p++[f])):Int) > 0 by rw [Bo,AQ];simp only [Af,Av];omega),AL]
   rw [show (decide ((0:Int)<=(p.length:Int))&&decide ((p.length:Int) < (List.length (ints (p++[f])):Int)))=true by rw [Bo];simp;omega,AL]
   rw [e2,AA]
   rw [show (decide ((0:Int)<=(p.length:Int))&&decide ((p.length:Int)<=(List.length (ints (p++[f])):Int)))=true by rw [Bo];simp;omega,AL]
   rw [aK h hf,AA,e3]
   have hgl:=qM l f
   rw [Bo (G l f)]
   refine Bg (σ:=List Int×List Bool×List Bool×List Nat) (g:=PY (λ_=>List.replicate) big BM self) (n:=(G l f).length) (λs k=>((f:Int),ints (G l f),((G l f).length:Int),(k:Int),l,bs,([]:List Int),(0:Int),s.1,s.2.1,l,s.2.2.1,ints s.2.2.2))
    (λk s=>s.2.2.1.length=l.length/\DP (G l) (da bs) l.length s.1 s.2.1/\da s.1 (l.length - 1)=0/\DI (G l) (EgD (da bs) s.1 s.2.1) (λi=>s.2.1[i]? = some true) s.2.2.1 s.2.2.2 (some (f,k))/\s.2.1[f]? = some true/\μ2 s.2.2.1 s.2.2.2+1<=μ2 met (p++[f]))
    (DR l bs) ?_ ?_ (G l f).length 0 big (by simp) (MZ (by omega)) (dep,kn,met,p) ⟨hm,hp,hz,hd.pop,hkf,by simp [μ2];omega⟩
   ·rintro BQ ⟨dep,kn,mt,q⟩ ⟨f1,f2,f3,f4,f5,f6⟩
    dsimp only at f1 f2 f3 f4 f5 f6
    show DR l bs (Gf (λ_=>List.replicate) BM self BQ _)
    unfold Gf
    dsimp only
    rw [AF (by omega),AJ]
    refine ih _ ⟨dep,kn,mt,q,rfl,f1,f2,f3,f4.fin,by omega⟩ ?_
    show 2 * mt.count false+(ints q).length < 2 * met.count false+(ints (p++[f])).length
    rw [Bo,Bo]
    unfold μ2 at f6
    omega
   ·rintro BQ ⟨dep,kn,mt,q⟩ k hk ⟨f1,f2,f3,f4,f5,f6⟩
    dsimp only at f1 f2 f3 f4 f5 f6
    have hj:(G l f)[k]? = some (G l f)[k]:=AU hk
    have hjm:(G l f)[k]∈G l f:=Ae hk
    have hjl:=QAw h hf hjm
    generalize (G l f)[k]=j at *
    have hb1:=QYr hb f
    have hk1:=f2.kr f f5
    have hnext:∀ D,Right (G l) (da bs) l.length D->_:=λD hD=>f2.next f5 hjm hD
    have hgd:=λhk=>EgD.step f2 f5 hjl hk
    have hpd:=λa b c=>f2.step f5 hjm hjl a b c
    have hw:IntKind.i64.wrap (da dep f+da bs f)=da dep f+da bs f:=fQ (by omega) (by omega)
    have hld:=f2.ld
    have hlk:=f2.lk
    show (∃ s',_/\Gf (λ_=>List.replicate) BM self BQ ((f:Int),ints (G l f),((G l f).length:Int),(k:Int),l,bs,([]:List Int),(0:Int),dep,kn,l,mt,ints q)=_)\/DR l bs (Gf (λ_=>List.replicate) BM self BQ ((f:Int),ints (G l f),((G l f).length:Int),(k:Int),l,bs,([]:List Int),(0:Int),dep,kn,l,mt,ints q))
    generalize hX:Gf (λ_=>List.replicate) BM self BQ ((f:Int),ints (G l f),((G l f).length:Int),(k:Int),l,bs,([]:List Int),(0:Int),dep,kn,l,mt,ints q)=X
    have hql:q.length<=1000:=by simp only [μ2] at f6 hμ;omega
    have hlim:(Nat.ble 1 1&&Nat.ble (List.length (ints q)+List.length ([(j:Int)]:List Int)) lim)=true:=by
     rw [b11,EP (by rw [Bo];simp;omega)];rfl
    unfold Gf at hX
    dsimp only at hX
    rw [AB (show (k:Int) < ((G l f).length:Int) by omega),AL,Gn (ints_at hj),AA] at hX
    simp only [hld,hlk,f1,RA hf,RA hjl,AL,QR4 (show f < dep.length by omega),QR4 (show j < dep.length by omega),QFJ (show f < bs.length by omega),AA,hw,QDl _ j l.length h1 (by omega),hlim,BJ] at hX
    rw [fQ (z:=(k:Int)+1) (by omega) (by omega),Aj,M8,M8] at hX
    generalize da dep f+da bs f=d at *
    by_cases hD:(if j=l.length - 1 then decide (d=0) else decide (0<=d/\d<=4096))=true
    ·rw [hD] at hX
     have hd0:(0<=d/\d<=4096)/\(j=l.length - 1->d=0):=by
      split at hD
      ·have:=of_decide_eq_true hD;omega
      ·rename_i e
       have:=of_decide_eq_true hD
       exact ⟨this,λe2=>absurd e2 e⟩
     have good:(kn[j]? = some true->da dep j=d)->X=((mt[j]?).bind λb=>bif !b then BQ ((f:Int),ints (G l f),((G l f).length:Int),((k+1:Nat):Int),l,bs,([]:List Int),(0:Int),dep.set j d,kn.set j true,l,mt.set j true,ints q++[(j:Int)]) else BQ ((f:Int),ints (G l f),((G l f).length:Int),((k+1:Nat):Int),l,bs,([]:List Int),(0:Int),dep.set j d,kn.set j true,l,mt,ints q))->(∃ s':List Int×List Bool×List Bool×List Nat,(s'.2.2.1.length=l.length/\DP (G l) (da bs) l.length s'.1 s'.2.1/\da s'.1 (l.length - 1)=0/\DI (G l) (EgD (da bs) s'.1 s'.2.1) (λi=>s'.2.1[i]? = some true) s'.2.2.1 s'.2.2.2 (some (f,k+1))/\s'.2.1[f]? = some true/\μ2 s'.2.2.1 s'.2.2.2+1<=μ2 met (p++[f]))/\X=BQ ((f:Int),ints (G l f),((G l f).length:Int),((k+1:Nat):Int),l,bs,([]:List Int),(0:Int),s'.1,s'.2.1,l,s'.2.2.1,ints s'.2.2.2))\/DR l bs X:=λhkn hx=>by
      left
      have hE:=hgd hkn
      have hS:=hpd hd0.1.1 hd0.1.2 hkn
      have hz2:da (dep.set j d) (l.length - 1)=0:=by
       rw [q8 (by omega)]
       split
       ·rename_i e;exact hd0.2 e.symm
       ·exact f3
      have hkj:(kn.set j true)[j]? = some true:=(eH (by omega)).2 (.inl rfl)
      have QZG:(kn.set j true)[f]? = some true:=(eH (by omega)).2 (.inr f5)
      have hK:∀ a,kn[a]? = some true->(kn.set j true)[a]? = some true:=λa ha=>(eH (by omega)).2 (.inr ha)
      rcases Xk (m:=mt) (j:=j) (by omega) with hb | hb
      ·refine ⟨(dep.set j d,kn.set j true,mt,q),⟨f1,hS,hz2,f4.old hj hE.1 hK hE.2 hb,QZG,f6⟩,?_⟩
       rw [hx,hb]
       rfl
      ·have hc:=Mh hb
       refine ⟨(dep.set j d,kn.set j true,mt.set j true,q++[j]),⟨by simp [f1],hS,hz2,f4.new hj hE.1 hK hE.2 hkj hb,QZG,?_⟩,?_⟩
       ·simp only [μ2,AQ,Af,Av] at f6 ⊢
        omega
       ·rw [hx,hb,XG]
        rfl
     rcases Xk (m:=kn) (j:=j) (by omega) with hb | hb
     ·rw [hb] at hX
      simp only [AA,A8,AJ,AL] at hX
      by_cases e:da dep j=d
      ·rw [show (da dep j != d)=false by simp [e],AJ] at hX
       exact good (λ_=>e) hX.symm
      ·right
       refine .inr ⟨λD hD=>e ((hnext D hD).2.2 hb),?_⟩
       rw [show (da dep j != d)=true by simpa using e,AL] at hX
       exact hX.symm
     ·rw [hb] at hX
      simp only [AA,A8,AJ,AL] at hX
      exact good (λe=>by rw [hb] at e;cases e) hX.symm
    ·right
     refine .inr ⟨λD hD2=>hD ?_,?_⟩
     ·have:=hnext D hD2
      split
      ·rename_i e;exact AB (this.2.1 e)
      ·exact AB this.1
     ·rw [Bool.not_eq_true] at hD
      rw [hD] at hX
      exact hX.symm
 ·have:=Oi l.length h1
  have hs:=DP.start (g:=G l) (W:=da bs) h1
  refine ⟨_,_,_,[0],rfl,by simp,hs,?_,DI.start h1 hs.k0,?_⟩
  ·simp only [da,Ad,List.getElem?_replicate]
   split <;> rfl
  ·simp only [μ2,Af,Av]
   omega
 ·have:=Oi l.length h1
  refine MZ ?_
  show 2 * ((List.replicate l.length false).set 0 true).count false+1<=_
  omega
theorem QGJ (l:List Ins) (bs:List Int):VU l bs (Xo (l,bs)):=by
 show VU l bs (Tx (λ_=>List.replicate) (BP (Ld (λ_=>List.replicate) big) big) (l,bs))
 unfold Tx VU
 dsimp only
 rw [Wu,AA]
 by_cases h:VP l=true
 ·obtain ⟨h1,h2,hok,hlast⟩:=Eo h
  rw [AY h,AY h,show ((0:Int) != 0)=false from rfl,AJ]
  by_cases hl:bs.length=l.length
  ·rw [show ((bs.length:Int) != (l.length:Int))=false by rw [hl];simp,AJ]
   refine Bg (σ:=Unit) (g:=Ld (λ_=>List.replicate) big) (n:=bs.length) (λ_ i=>(bs,(bs.length:Int),(i:Int),l,bs,([]:List Int),(0:Int),false)) (λi _=>∀ k b,k < i->bs[k]? = some b->(decide (-4096<=b)&&decide (b<=4096))=true) (λr=>if bs.length=l.length/\QDU bs=true then (∃ dep,r=some (dep,0)/\uz l bs dep)\/((∀ D,¬ Right (G l) (da bs) l.length D)/\r=some ([],36)) else r=some ([],2)) ?_ ?_ bs.length 0 big (by simp) (MZ (by omega)) () (λk b hk=>absurd hk (Nat.not_lt_zero _))
   ·rintro self _ hI
    have hb:QDU bs=true:=Ow.2 λk b hk=>hI k b (Aq.1 hk).1 hk
    rw [AY ⟨hl,hb⟩]
    show DR l bs (JK (λ_=>List.replicate) (BP (I5 (λ_=>List.replicate) big self) big) self _)
    unfold JK
    dsimp only
    rw [AF (show ¬ (bs.length:Int) < (bs.length:Int) by omega),AJ]
    simp only [Yo (show l.length<=68719476736 by omega),start_lt h1,AL,AJ,Aj,Int.toNat_zero]
    exact QBX h hl hb self
   ·rintro self _ i hi hI
    have hx:bs[i]? = some bs[i]:=AU hi
    have e0:Ld (λ_=>List.replicate) big self (bs,(bs.length:Int),(i:Int),l,bs,([]:List Int),(0:Int),false)=JK (λ_=>List.replicate) (BP (I5 (λ_=>List.replicate) big self) big) self (bs,(bs.length:Int),(i:Int),l,bs,([]:List Int),(0:Int),false):=rfl
    rw [e0]
    unfold JK
    dsimp only
    rw [AB (show (i:Int) < (bs.length:Int) by omega),AL,Gn hx,AA,QBu,AA,fQ (z:=(i:Int)+1) (by omega) (by omega)]
    cases e:(decide (-4096<=bs[i])&&decide (bs[i]<=4096)) with
    | true=>
     left
     refine ⟨(),λk b hk hkb=>?_,rfl⟩
     by_cases e2:k=i
     ·subst e2
      rw [hx] at hkb
      cases hkb
      exact e
     ·exact hI k b (by omega) hkb
    | false=>
     right
     rw [AX (λhh=>by rw [Ow.1 hh.2 i _ hx] at e;cases e),AB (show (i:Int)>=0 by omega)]
     rfl
  ·rw [show ((bs.length:Int) != (l.length:Int))=true by simp;omega,AL,AX (λe=>hl e.1)]
 ·rw [AX h,AX h]
  rfl
end Go.Proofs.YtjcnhegjiffgpaaGreatDoor.F
set_option linter.unusedVariables false
set_option linter.unusedSimpArgs false
set_option maxRecDepth 100000
namespace Go.Proofs.YtjcnhegjiffgpaaGreatDoor.F
open Go.Lift
theorem uz.right {l:List Ins} (h:VP l=true) {bs dep:List Int} (hd:uz l bs dep):dep.length=l.length/\da dep (l.length - 1)=0/\Right (G l) (da bs) l.length (da dep):=by
 obtain ⟨h1,_⟩:=Eo h
 obtain ⟨g1,D,g2,g3⟩:=hd
 have hr:∀ i,Rc (G l) i->da dep i=D i:=λi hi=>(g3 i (hi.lt h)).1 hi
 refine ⟨g1,?_,⟨by rw [hr 0 .zero,g2.z],λi j hi hj=>?_⟩⟩
 ·by_cases e:Rc (G l) (l.length - 1)
  ·rw [hr _ e];exact g2.last e
  ·exact (g3 _ (by omega)).2 e
 ·rw [hr j (.step hi hj),hr i hi]
  exact g2.e i j hi hj
end Go.Proofs.YtjcnhegjiffgpaaGreatDoor.F
