import Derived.Test.YtbgmjjplddddnaaGreatDoorCwK2
set_option linter.unusedVariables false
set_option linter.unusedSimpArgs false
set_option linter.unusedSectionVars false
set_option maxRecDepth 100000
namespace Go.Proofs.YtbgmjjplddddnaaGreatDoor
open Go.Lift
abbrev cO:=List Int×Int×Int×List K.tV×List Ins×List T.Tc×List T.Tc×Unit
abbrev cK:=List K.dI×List (List Int)×List cO×Unit
theorem dz {i n:Nat} (h:i < n):decide ((i:Int) < (n:Int))=true:=AB (by omega)
theorem dx {n:Nat}:decide ((n:Int) < (n:Int))=false:=by simp
theorem gI {α:Type} {l:List α} {i:Nat} (h:i < l.length):Nk l (i:Int)=some l[i]:=by
 unfold Nk
 simp [h,T.QSc]
theorem wS {i n:Nat} (h:i < n) (hn:n<=1000000000):IntKind.i64.wrap ((i:Int)+1)=((i+1:Nat):Int):=by
 rw [T.t64 (by omega) (by omega)];rfl
theorem dP {n:Nat} (h:n<=1000000000):n < big:=QIB (by rw [QCr];omega)
theorem ah {V β:Type} {g:(V->Option β)->V->Option β} {mk:Nat->V} {p:Nat->Bool} {no kk:Option β} {n:Nat} (hs:∀ self i,i < n->g self (mk i)=bif p i then self (mk (i+1)) else no) (he:∀ self,g self (mk n)=kk) :
  ∀ (k i M:Nat),i+k=n->k < M->Gb g M (mk i)=bif (List.range' i k).all p then kk else no
 | k,i,0,_,h=>by omega
 | 0,i,M+1,hi,_=>by
  rw [WZ,show i=n by omega,he]
  rfl
 | k+1,i,M+1,hi,hM=>by
  rw [WZ,hs _ i (by omega),List.range'_succ,List.all_cons]
  cases p i with
  | false=>rfl
  | true=>
   rw [AL,Ai]
   exact ah hs he k (i+1) M (by omega) (by omega)
theorem QBf {α:Type} (l:List α) (q:α->Bool):(List.range' 0 l.length).all (fun i=>(l[i]?).all q)=l.all q:=by
 rw [Bool.eq_iff_iff]
 simp only [List.all_eq_true,List.mem_range'_1]
 constructor
 ·intro h x hx
  obtain ⟨i,hi,rfl⟩:=List.mem_iff_getElem.1 hx
  have:=h i ⟨by omega,by omega⟩
  simpa [hi] using this
 ·intro h i hi
  have:i < l.length:=by omega
  simp [this,h _ (Ae this)]
theorem pat {α:Type} {l:List α} {q:α->Bool} {i:Nat} (h:i < l.length):(l[i]?).all q=q l[i]:=by simp [h]
def QAs (ns:List (List Int)):List (List Int×Bool):=ns.foldl (fun m s=>@MO .str .bool s true m) []
theorem QBG (ns:List (List Int)) (s:List Int):QAs (ns++[s])=@MO .str .bool s true (QAs ns):=by simp [QAs]
theorem QET (ns:List (List Int)):∀ i,i<=ns.length->K.Marks .str (QAs (ns.take i)) (fun s=>s∈ns.take i)
 | 0,_=>by
  intro x
  simp [QAs,K.Marks.nil x]
 | i+1,hi=>by
  have ih:=QET ns i (by omega)
  rw [Ah (by omega),QBG]
  intro x
  rw [ih.put ns[i] x]
  show (x=ns[i]∨x∈ns.take i)↔x∈ns.take i++[ns[i]]
  rw [List.mem_append,List.mem_singleton,or_comm]
def jy (ns:List (List Int)):Bool:=ns.all K.dA&&decide ns.Nodup
theorem wW (ns:List (List Int)):ns.Nodup↔∀ i (h:i < ns.length),ns[i] ∉ ns.take i:=by
 unfold List.Nodup
 rw [List.pairwise_iff_getElem]
 constructor
 ·intro h i hi hm
  obtain ⟨j,hj,e⟩:=List.mem_take_iff_getElem.1 hm
  exact h j i (by omega) hi (by omega) e
 ·intro h i j hi hj hij e
  exact h j hj (List.mem_take_iff_getElem.2 ⟨i,by omega,e⟩)
def pN (ns:List (List Int)) (i:Nat):Bool:=(ns[i]?).all fun s=>K.dA s&&!(@Pw .str .bool s false (QAs (ns.take i))).1
theorem QFR (ns:List (List Int)):(List.range' 0 ns.length).all (pN ns)=jy ns:=by
 rw [Bool.eq_iff_iff]
 simp only [List.all_eq_true,List.mem_range'_1,jy,AP,AZ,wW]
 have key:∀ i (h:i < ns.length),pN ns i=true↔K.dA ns[i]=true/\ns[i] ∉ ns.take i:=by
  intro i h
  unfold pN
  rw [pat h,AP,Bool.not_eq_true',← Bool.not_eq_true,QET ns i (by omega) ns[i]]
 constructor
 ·intro h
  refine ⟨fun s hs=>?_,fun i hi=>((key i hi).1 (h i ⟨by omega,by omega⟩)).2⟩
  obtain ⟨i,hi,rfl⟩:=List.mem_iff_getElem.1 hs
  exact ((key i hi).1 (h i ⟨by omega,by omega⟩)).1
 ·intro h i hi
  have hi':i < ns.length:=by omega
  exact (key i hi').2 ⟨h.1 _ (Ae hi'),h.2 i hi'⟩
def vT (l:List K.dI):Bool:=decide (K.Valid l)&&(List.range' 0 l.length).all fun i=>decide (K.sz (K.exS l) (i:Nat)<=256)
def zZ (l:List (List Int)):Bool:=decide (l.length<=32)&&l.all fun s=>decide (s.length<=64)
def QAU (n:Int) (fs:List K.tV):Bool:=decide (fs.length<=16)&&((fs.all fun f=>K.iL f.2.1 n)&&jy (fs.map (·.1)))
def QBW (l:List Ins):Bool:=decide (1<=l.length)&&(decide (l.length<=200)&&l.all rF)
def okF (n:Int) (f:cO):Bool:=QAU n f.2.2.2.1&&(decide (0<=f.2.1)&&(decide (f.2.1<=f.2.2.2.1.length)&&((decide (f.2.2.1 = -1)||K.iL f.2.2.1 n)&&(QBW f.2.2.2.2.1&&(decide (T.iP f.2.2.2.2.2.1 f.2.2.2.2.1.length=0)&&decide (T.iP f.2.2.2.2.2.2.1 f.2.2.2.2.1.length=0))))))
def QAi (l:List cO) (n:Int):Bool:=decide (1<=l.length)&&(decide (l.length<=32)&&(l.all (okF n)&&jy (l.map (·.1))))
def QA1 (m:cK):Bool:=vT m.1&&(zZ m.2.1&&QAi m.2.2.1 m.1.length)
theorem QL6:K.Valid []:=by
 refine ⟨by simp,fun i h=>by simp at h,?_⟩
 simp [K.wN,K.yP]
theorem QL5 (l:List K.dI):(List.range' 0 l.length).all (fun i=>decide (K.yX l (i:Nat)=0))=vT l:=by
 rw [Bool.eq_iff_iff]
 simp only [vT,List.all_eq_true,List.mem_range'_1,AP,AZ]
 constructor
 ·intro h
  refine ⟨?_,fun i hi=>(K.QFn (h i hi)).2.2.2⟩
  cases l with
  | nil=>exact QL6
  | cons t r=>exact (K.QFn (h 0 ⟨by omega,by simp⟩)).1
 ·intro h i hi
  exact K.QCa h.1 (by omega) (by omega) (h.2 i hi)
theorem QHB (l:List K.dI) (hl:l.length<=1000000):tq l=some (vT l):=by
 show oh (Gb (eP big) big) l=_
 unfold oh
 have:=ah (g:=eP big) (mk:=fun i=>(l,(l.length:Int),(i:Int))) (p:=fun i=>decide (K.yX l (i:Nat)=0)) (no:=some false) (kk:=some true) (n:=l.length)
  (fun self i hi=>by
   simp only [eP,qc,dz hi,AL,K.QJP,AA,wS hi (by omega)]
   by_cases h:K.yX l (i:Nat)=0
   ·simp [h]
   ·have e:(K.yX l (i:Nat) != (0:Int))=true:=by simp [h]
    rw [AX h,AF h]
    exact (congrArg (fun b=>bif b then some false else self (l,↑l.length,((i+1:Nat):Int))) e).trans rfl)
  (fun self=>by simp only [eP,qc,dx,AJ]) l.length 0 big (by omega) (dP (by omega))
 rw [QL5] at this
 rw [show ((0:Nat):Int)=0 from rfl] at this
 rw [this]
 cases vT l <;> rfl
theorem QHA (l:List (List Int)):tZ l=some (zZ l):=by
 show og (Gb (eO big) big) l=_
 unfold og zZ
 by_cases h:l.length<=32
 ·rw [AF (by omega),AJ,AB h,Ai]
  have:=ah (g:=eO big) (mk:=fun i=>(l,(l.length:Int),(i:Int))) (p:=fun i=>(l[i]?).all fun s=>decide (s.length<=64)) (no:=some false) (kk:=some true) (n:=l.length)
   (fun self i hi=>by
    rw [pat hi]
    simp only [eO,qb,dz hi,AL,gI hi,AA,wS hi (by omega)]
    by_cases h:l[i].length<=64
    ·rw [AF (by omega),AB h];rfl
    ·rw [AB (by omega),AF h];rfl)
   (fun self=>by simp only [eO,qb,dx,AJ]) l.length 0 big (by omega) (dP (by omega))
  rw [QBf] at this
  rw [show ((0:Nat):Int)=0 from rfl] at this
  rw [this]
  cases l.all fun s=>decide (s.length<=64) <;> rfl
 ·rw [AB (by omega),AL,AF h];rfl
theorem QD4 (x n:Int):l5 (x,n)=some (K.iL x n):=by
 show wQ (x,n)=_
 unfold wQ K.iL
 dsimp only
 by_cases h:0<=x
 ·rw [AB (show x≥0 from h),AL];rfl
 ·rw [AF (show ¬ x≥0 from h),AJ];rfl
theorem QKx (fs:List K.tV) (hl:fs.length<=1000) (aI):Gb (eH big aI) big (fs,(fs.length:Int),(0:Int),([]:List (List Int×Bool)))=some (jy (fs.map (·.1))):=by
 have hm:(fs.map (·.1)).length=fs.length:=Aw _
 have:=ah (g:=eH big aI) (mk:=fun i=>(fs,(fs.length:Int),(i:Int),QAs ((fs.map (·.1)).take i))) (p:=pN (fs.map (·.1))) (no:=some false) (kk:=some true) (n:=fs.length)
  (fun self i hi=>by
   have hi':i < (fs.map (·.1)).length:=by omega
   unfold pN
   rw [pat hi']
   simp only [eH,qZ,dz hi,AL,gI hi,AA,wS hi (by omega),show lJ fs[i]=some fs[i].1 from rfl,K.QE3,List.getElem_map]
   cases h1:K.dA fs[i].1 with
   | false=>rfl
   | true=>
    cases h2:(@Pw .str .bool fs[i].1 false (QAs ((fs.map (·.1)).take i))).1 with
    | true=>rfl
    | false=>
     rw [Ah hi',QBG]
     simp only [List.getElem_map]
     rfl)
  (fun self=>by simp only [eH,qZ,dx,AJ]) fs.length 0 big (by omega) (dP (by omega))
 rw [← hm,QFR,hm] at this
 refine Eq.trans this ?_
 cases jy (fs.map (·.1)) <;> rfl
theorem QH9 (fs:List K.tV) (n:Int):tY (fs,n)=some (QAU n fs):=by
 show oZ (Gb (eG big) big) (fs,n)=_
 unfold oZ QAU
 dsimp only
 by_cases h:fs.length<=16
 ·rw [AF (by omega),AJ,AB h,Ai]
  have:=ah (g:=eG big) (mk:=fun i=>(fs,n,fs,(fs.length:Int),(i:Int))) (p:=fun i=>(fs[i]?).all fun f=>K.iL f.2.1 n) (no:=some false) (kk:=some (jy (fs.map (·.1)))) (n:=fs.length)
   (fun self i hi=>by
    rw [pat hi]
    simp only [eG,lS,dz hi,AL,gI hi,AA,wS hi (by omega),QD4]
    cases K.iL fs[i].2.1 n <;> rfl)
   (fun self=>by
    simp only [eG,lS,dx,AJ]
    exact QKx fs (by omega) self) fs.length 0 big (by omega) (dP (by omega))
  rw [QBf] at this
  refine Eq.trans this ?_
  cases (fs.all fun f=>K.iL f.2.1 n) <;> rfl
 ·rw [AB (by omega),AL,AF h];rfl
theorem QKh (l:List Ins):sG l=some (QBW l):=by
 show sV (Gb (gN big) big) l=_
 unfold sV QBW
 by_cases h1:1<=l.length
 ·by_cases h:l.length<=200
  ·rw [AF (by omega),AF (by omega),AJ,AJ,AB h,AB h1,Ai,Ai]
   have:=ah (g:=gN big) (mk:=fun i=>(l,(l.length:Int),(i:Int))) (p:=fun i=>(l[i]?).all rF) (no:=some false) (kk:=some true) (n:=l.length)
    (fun self i hi=>by
     rw [pat hi]
     simp only [gN,uH,dz hi,AL,gI hi,AA,wS hi (by omega),yS]
     cases rF l[i] <;> rfl)
    (fun self=>by simp only [gN,uH,dx,AJ]) l.length 0 big (by omega) (dP (by omega))
   rw [QBf] at this
   refine Eq.trans this ?_
   cases l.all rF <;> rfl
  ·rw [AF (by omega),AB (by omega),AB h1,AF h];rfl
 ·rw [AB (by omega),AF h1];rfl
theorem QKi (f:cO) (n:Int) (h1:f.2.2.2.2.2.1.length<=1000000) (h2:f.2.2.2.2.2.2.1.length<=1000000):sH (f,n)=some (okF n f):=by
 show yF (f,n)=_
 unfold yF okF
 simp only [QH9,QKh,QD4,AA,T.QCt _ _ (show f.2.2.2.2.2.1.length<=9223372036854775807 by omega),T.QCt _ _ (show f.2.2.2.2.2.2.1.length<=9223372036854775807 by omega)]
 cases QAU n f.2.2.2.1 with
 | false=>rfl
 | true=>
  simp only [Az,AJ,Ai]
  by_cases a1:0<=f.2.1
  ·rw [AF (show ¬ f.2.1 < 0 by omega),AJ,AB a1,Ai]
   by_cases a2:f.2.1<=f.2.2.2.1.length
   ·rw [AF (show ¬ f.2.1 > f.2.2.2.1.length by omega),AJ,AB a2,Ai]
    have key:∀ b:Bool,(bif QBW f.2.2.2.2.1 then (bif T.iP f.2.2.2.2.2.1 f.2.2.2.2.1.length==0 then some (T.iP f.2.2.2.2.2.2.1 f.2.2.2.2.1.length==0) else some false) else some false)=some (QBW f.2.2.2.2.1&&(decide (T.iP f.2.2.2.2.2.1 f.2.2.2.2.1.length=0)&&decide (T.iP f.2.2.2.2.2.2.1 f.2.2.2.2.1.length=0))):=by
     intro _
     cases QBW f.2.2.2.2.1 with
     | false=>rfl
     | true=>rw [K.y7,K.y7];by_cases c1:T.iP f.2.2.2.2.2.1 f.2.2.2.2.1.length=0 <;> simp [c1]
    by_cases a3:f.2.2.1 = -1
    ·rw [show (f.2.2.1 != -1)=false by simp [a3],AJ,AB a3,Bool.true_or,Ai]
     exact key true
    ·rw [show (f.2.2.1 != -1)=true by simp [a3],AL,AF a3,Bool.false_or]
     cases K.iL f.2.2.1 n with
     | false=>rfl
     | true=>exact key true
   ·rw [AB (show f.2.1 > f.2.2.2.1.length by omega),AF a2];rfl
  ·rw [AB (show f.2.1 < 0 by omega),AF a1];rfl
theorem QKg (l:List cO) (hl:l.length<=1000) (aI):Gb (eF big aI) big (l,(l.length:Int),(0:Int),([]:List (List Int×Bool)))=some (jy (l.map (·.1))):=by
 have hm:(l.map (·.1)).length=l.length:=Aw _
 have:=ah (g:=eF big aI) (mk:=fun i=>(l,(l.length:Int),(i:Int),QAs ((l.map (·.1)).take i))) (p:=pN (l.map (·.1))) (no:=some false) (kk:=some true) (n:=l.length)
  (fun self i hi=>by
   have hi':i < (l.map (·.1)).length:=by omega
   unfold pN
   rw [pat hi']
   simp only [eF,qY,dz hi,AL,gI hi,AA,wS hi (by omega),show lI l[i]=some l[i].1 from rfl,K.QE3,List.getElem_map]
   cases h1:K.dA l[i].1 with
   | false=>rfl
   | true=>
    cases h2:(@Pw .str .bool l[i].1 false (QAs ((l.map (·.1)).take i))).1 with
    | true=>rfl
    | false=>
     rw [Ah hi',QBG]
     simp only [List.getElem_map]
     rfl)
  (fun self=>by simp only [eF,qY,dx,AJ]) l.length 0 big (by omega) (dP (by omega))
 rw [← hm,QFR,hm] at this
 refine Eq.trans this ?_
 cases jy (l.map (·.1)) <;> rfl
theorem QH8 (l:List cO) (n:Int) (hf:∀ f∈l,f.2.2.2.2.2.1.length<=1000000/\f.2.2.2.2.2.2.1.length<=1000000):tX (l,n)=some (QAi l n):=by
 show oW (Gb (eD big) big) (l,n)=_
 unfold oW QAi
 dsimp only
 by_cases h1:1<=l.length
 ·by_cases h:l.length<=32
  ·rw [AF (by omega),AF (by omega),AJ,AJ,AB h,AB h1,Ai,Ai]
   have:=ah (g:=eD big) (mk:=fun i=>(l,n,l,(l.length:Int),(i:Int))) (p:=fun i=>(l[i]?).all (okF n)) (no:=some false) (kk:=some (jy (l.map (·.1)))) (n:=l.length)
    (fun self i hi=>by
     rw [pat hi]
     simp only [eD,lQ,dz hi,AL,gI hi,AA,wS hi (by omega),QKi l[i] n (hf _ (Ae hi)).1 (hf _ (Ae hi)).2]
     cases okF n l[i] <;> rfl)
    (fun self=>by
     simp only [eD,lQ,dx,AJ]
     exact QKg l (by omega) self) l.length 0 big (by omega) (dP (by omega))
   rw [QBf] at this
   refine Eq.trans this ?_
   cases l.all (okF n) <;> rfl
  ·rw [AF (by omega),AB (by omega),AB h1,AF h];rfl
 ·rw [AB (by omega),AF h1];rfl
theorem QIO (m:cK) (ht:m.1.length<=1000000) (hf:∀ f∈m.2.2.1,f.2.2.2.2.2.1.length<=1000000/\f.2.2.2.2.2.2.1.length<=1000000):qA m=some (QA1 m):=by
 show wR m=_
 unfold wR QA1
 rw [QHB _ ht,QHA,QH8 _ _ hf]
 cases vT m.1 <;> cases zZ m.2.1 <;> rfl
def said (s:List Int):List Int:=vary s.length++s
def rP (f:K.tV):List Int:=said f.1++vary f.2.1.toNat
def zF (fs:List K.tV):List Int:=vary fs.length++fs.flatMap rP
def QFY (t:K.dI):List Int:=if t.1=4∨t.1=7 then vary t.2.1.toNat else if t.1=6 then vary t.2.1.toNat++vary t.2.2.1.toNat else if t.1=5 then zF t.2.2.2.1 else []
def QAA (t:K.dI):List Int:=t.1::QFY t
def dQ (f:cO):List Int:=said f.1++(vary f.2.1.toNat++(vary (dbl f.2.2.1)++(zF f.2.2.2.1++(vary f.2.2.2.2.1.length++(f.2.2.2.2.1.flatMap enc++(T.dK f.2.2.2.2.2.1++T.dK f.2.2.2.2.2.2.1))))))
def xA (m:cK):List Int:=vary m.1.length++(m.1.flatMap QAA++(vary m.2.1.length++(m.2.1.flatMap said++(vary m.2.2.1.length++m.2.2.1.flatMap dQ))))
def P63 (n:Int):Prop:=0<=n/\n<=9223372036854775807
def QI4 (f:K.tV):Prop:=f.1.length<=200000/\P63 f.2.1
def QKY (t:K.dI):Prop:=P63 t.2.1/\P63 t.2.2.1/\t.2.2.2.1.length<=1000000/\∀ f∈t.2.2.2.1,QI4 f
structure QLQ (f:cO):Prop where
 name:f.1.length<=200000
 par:P63 f.2.1
 res:I64 f.2.2.1
 sl:f.2.2.2.1.length<=1000000/\∀ x∈f.2.2.2.1,QI4 x
 code:f.2.2.2.2.1.length<=1000000/\∀ x∈f.2.2.2.2.1,rF x=true/\WfI x
 s1:f.2.2.2.2.2.1.length<=1000000/\T.V64 f.2.2.2.2.2.1/\T.iP f.2.2.2.2.2.1 f.2.2.2.2.1.length=0
 s2:f.2.2.2.2.2.2.1.length<=1000000/\T.V64 f.2.2.2.2.2.2.1/\T.iP f.2.2.2.2.2.2.1 f.2.2.2.2.1.length=0
structure QQu (m:cK):Prop where
 ty:m.1.length<=1000000/\∀ t∈m.1,QKY t
 tx:m.2.1.length<=1000000/\∀ s∈m.2.1,s.length<=200000
 fn:m.2.2.1.length<=1000000/\∀ f∈m.2.2.1,QLQ f
abbrev L36:Nat:=68719476736
theorem bI {a b:List Int} (h:a.length+b.length<=L36):(Nat.ble 1 1&&Nat.ble (List.length a+List.length b) lim)=true:=by
 rw [b11,d9 h];rfl
theorem fF {V α β:Type} {g:(V->Option β)->V->Option β} {mk:Nat->List Int->V} {l:List α} {cod:α->List Int} {kk:List Int->Option β} {B:Nat}
  (hs:∀ self i x (h:i < l.length),x.length+(cod l[i]).length<=B->g self (mk i x)=self (mk (i+1) (x++cod l[i]))) (he:∀ self x,x.length<=B->g self (mk l.length x)=kk x) :
  ∀ (k i M:Nat) (x:List Int),i+k=l.length->k < M->x.length+((l.drop i).flatMap cod).length<=B->Gb g M (mk i x)=kk (x++(l.drop i).flatMap cod)
 | k,i,0,_,_,h,_=>by omega
 | 0,i,M+1,x,hi,_,hx=>by
  rw [WZ,show i=l.length by omega,he _ _ (by omega)]
  simp
 | k+1,i,M+1,x,hi,hM,hx=>by
  have hi':i < l.length:=by omega
  rw [A9 hi',List.flatMap_cons] at hx ⊢
  rw [AQ] at hx
  rw [WZ,hs _ i x hi' (by omega),fF hs he k (i+1) M _ (by omega) (by omega) (by rw [AQ];omega),Ab]
theorem jh (x:List Int) (n:Int) (h:P63 n) (hx:x.length+(vary n.toNat).length<=L36):aO x (n,())=some (x++vary n.toNat):=by
 show iw x (n,())=_
 unfold iw
 obtain ⟨h0,h1⟩:=h
 obtain ⟨k,rfl⟩:=BK h0
 have e:IntKind.u64.wrap (k:Int)=(k:Int):=Vl ⟨by rw [min_u64];omega,by rw [max_u64];omega⟩
 simp only [e,xW k (by omega),AA,Aj] at hx ⊢
 rw [bI hx,AL];rfl
theorem vV {α:Type} (x:List Int) (l:List α) (hl:l.length<=1000000) (hx:x.length+(vary l.length).length<=L36):aO x ((l.length:Int),())=some (x++vary l.length):=by
 have:=jh x (l.length:Int) ⟨by omega,by omega⟩ (by simpa using hx)
 simpa using this
theorem QB4 (x s:List Int) (h:s.length<=200000) (hx:x.length+(said s).length<=L36):gY x (s,())=some (x++said s):=by
 show lW x (s,())=_
 unfold lW
 unfold said at hx ⊢
 simp only [QOz,AX (show ¬ s.length > 200000 by omega),AA]
 rw [bI hx,AL];rfl
theorem QD0 (x:List Int) (f:K.tV) (h:QI4 f) (hx:x.length+(rP f).length<=L36):jm x (f,())=some (x++rP f):=by
 show j6 x (f,())=_
 unfold j6 rP at *
 rw [AQ] at hx
 dsimp only
 rw [QB4 x f.1 h.1 (by omega),AA,jh _ _ h.2 (by rw [AQ];omega),AA,Ab]
theorem QL4 (fs:List K.tV) (x:List Int) (hl:fs.length<=1000000) (hf:∀ f∈fs,QI4 f) (hx:x.length+(fs.flatMap rP).length<=L36) :
  Gb (bN big) big (fs,(fs.length:Int),(0:Int),x)=some (x++fs.flatMap rP):=by
 exact fF (g:=bN big) (mk:=fun i x=>(fs,(fs.length:Int),(i:Int),x)) (l:=fs) (cod:=rP) (kk:=some) (B:=L36)
  (fun self i x hi hx=>by
   simp only [bN,nk,dz hi,AL,gI hi,AA,wS hi (by omega),QD0 x fs[i] (hf _ (Ae hi)) hx])
  (fun self x hx=>by simp only [bN,nk,dx,AJ]) fs.length 0 big x (by omega) (dP (by omega)) (by simpa using hx)
theorem QI9 (x:List Int) (t:K.dI) (h:QKY t) (hx:x.length+(QAA t).length<=L36):p9 x (t,())=some (x++QAA t):=by
 show lX (Gb (bN big) big) x (t,())=_
 unfold lX QAA at *
 obtain ⟨h1,h2,h3,h4⟩:=h
 simp only [Af] at hx
 dsimp only
 rw [bI (by simp;omega),AL]
 have e:∀ y:List Int,x++t.1::y=(x++[t.1])++y:=fun y=>by simp
 rw [e]
 have hx1:(List.append x [t.1]).length=x.length+1:=by simp
 show _=some (List.append x [t.1]++_)
 generalize List.append x [t.1]=z at *
 unfold QFY at *
 simp only [K.y7]
 by_cases c4:t.1=4
 ·simp only [c4,decide_true,AL,true_or,if_true] at hx ⊢
  rw [jh z _ h1 (by omega)];rfl
 ·by_cases c7:t.1=7
  ·simp only [c7,decide_true,AL,or_true,if_true] at hx ⊢
   rw [show decide ((7:Int)=4)=false from rfl,AJ,jh z _ h1 (by omega)];rfl
  ·by_cases c6:t.1=6
   ·simp only [c6,decide_true,AL,if_true] at hx ⊢
    rw [AX (by omega),AQ] at hx
    rw [show decide ((6:Int)=4)=false from rfl,show decide ((6:Int)=7)=false from rfl,AJ,AJ,AX (by omega),jh z _ h1 (by omega),AA,jh _ _ h2 (by rw [AQ];omega),AA,Ab]
   ·by_cases c5:t.1=5
    ·simp only [c5,decide_true,AL,if_true] at hx ⊢
     rw [AX (by omega),AX (by omega)] at hx
     unfold zF at *
     rw [AQ] at hx
     rw [show decide ((5:Int)=4)=false from rfl,show decide ((5:Int)=7)=false from rfl,show decide ((5:Int)=6)=false from rfl,AJ,AJ,AJ,AX (by omega),AX (by omega),vV z _ h3 (by omega),AA,QL4 _ _ h3 h4 (by rw [AQ];omega),Ab]
    ·simp only [decide_false,AJ,c4,c5,c6,c7,or_self,if_false,List.append_nil]
theorem QH6 (x:List Int) (y:Ins) (h:rF y=true) (w:WfI y) (hx:x.length+(enc y).length<=L36):o8 x (y,())=some (x++enc y):=by
 show kD x (y,())=_
 unfold kD
 simp only [QKK y w,h,if_true,AA]
 rw [bI hx,AL];rfl
theorem QE5 (x:List Int) (l:List T.Tc) (n:Nat) (h:l.length<=1000000) (hv:T.V64 l) (hc:T.iP l n=0) (hx:x.length+(T.dK l).length<=L36):lH x (l,((n:Int),()))=some (x++T.dK l):=by
 show lV x (l,((n:Int),()))=_
 unfold lV
 dsimp only
 rw [T.QIV l n (by omega) hv,T.encR,AX (by omega),AA]
 rw [bI hx,AL];rfl
theorem QI8 (x:List Int) (f:cO) (h:QLQ f) (hx:x.length+(dQ f).length<=L36):p8 x (f,())=some (x++dQ f):=by
 show lU (Gb (dD big) big) x (f,())=_
 unfold lU dQ zF at *
 obtain ⟨h1,h2,h3,h4,h5,h6,h7⟩:=h
 simp only [AQ] at hx
 dsimp only
 rw [QB4 x _ h1 (by omega),AA,jh _ _ h2 (by rw [AQ];omega),AA,QFW _ h3.1 h3.2,AA,bI (by simp only [AQ];omega),AL]
 change (aO (_++_) _).bind _=_
 rw [vV _ _ h4.1 (by simp only [AQ];omega),AA]
 have inner:∀ (aI) (x:List Int),x.length+((f.2.2.2.2.1.flatMap enc).length+((T.dK f.2.2.2.2.2.1).length+(T.dK f.2.2.2.2.2.2.1).length))<=L36->Gb (dF big aI) big (f.2.2.2.2.1,(f.2.2.2.2.1.length:Int),(0:Int),x,f)=some (x++(f.2.2.2.2.1.flatMap enc++(T.dK f.2.2.2.2.2.1++T.dK f.2.2.2.2.2.2.1))):=by
  intro aI x hx
  have:=fF (g:=dF big aI) (mk:=fun i x=>(f.2.2.2.2.1,(f.2.2.2.2.1.length:Int),(i:Int),x,f)) (l:=f.2.2.2.2.1) (cod:=enc) (kk:=fun x=>some (x++(T.dK f.2.2.2.2.2.1++T.dK f.2.2.2.2.2.2.1))) (B:=L36 - ((T.dK f.2.2.2.2.2.1).length+(T.dK f.2.2.2.2.2.2.1).length))
   (fun self i x hi hx=>by
    have hc:=h5.2 _ (Ae hi)
    simp only [dF,ni,dz hi,AL,gI hi,AA,wS hi (by omega),QH6 x f.2.2.2.2.1[i] hc.1 hc.2 (by omega)])
   (fun self x hx=>by
    simp only [dF,ni,dx,AJ]
    rw [QE5 x _ _ h6.1 h6.2.1 h6.2.2 (by omega),AA,QE5 _ _ _ h7.1 h7.2.1 h7.2.2 (by rw [AQ];omega),AA,Ab]) f.2.2.2.2.1.length 0 big x (by omega) (dP (by omega)) (by simp only [List.drop_zero];omega)
  refine Eq.trans this ?_
  simp only [List.drop_zero,Ab]
 have:=fF (g:=dD big) (mk:=fun i x=>(f.2.2.2.1,(f.2.2.2.1.length:Int),(i:Int),x,f)) (l:=f.2.2.2.1) (cod:=rP) (kk:=fun x=>some (x++(vary f.2.2.2.2.1.length++(f.2.2.2.2.1.flatMap enc++(T.dK f.2.2.2.2.2.1++T.dK f.2.2.2.2.2.2.1))))) (B:=L36 - ((vary f.2.2.2.2.1.length).length+((f.2.2.2.2.1.flatMap enc).length+((T.dK f.2.2.2.2.2.1).length+(T.dK f.2.2.2.2.2.2.1).length))))
  (fun self i x hi hx=>by
   simp only [dD,iY,dz hi,AL,gI hi,AA,wS hi (by omega),QD0 x f.2.2.2.1[i] (h4.2 _ (Ae hi)) (by omega)])
  (fun self x hx=>by
   simp only [dD,iY,dx,AJ]
   rw [vV x _ h5.1 (by omega),AA,inner _ _ (by rw [AQ];omega),Ab]) f.2.2.2.1.length 0 big (x++said f.1++vary f.2.1.toNat++vary (dbl f.2.2.1)++vary f.2.2.2.1.length) (by omega) (dP (by omega)) (by simp only [List.drop_zero,AQ];omega)
 refine Eq.trans this ?_
 simp only [List.drop_zero,Ab]
theorem QH5 (x:List Int) (m:cK) (h:QQu m) (hx:x.length+(xA m).length<=L36):o7 x (m,())=some (x++xA m):=by
 show kC (Gb (bn big) big) x (m,())=_
 unfold kC xA at *
 obtain ⟨⟨h1,h2⟩,⟨h3,h4⟩,h5,h6⟩:=h
 simp only [AQ] at hx
 dsimp only
 rw [vV x _ h1 (by omega),AA]
 have fns:∀ (aI aJ) (x:List Int),x.length+(m.2.2.1.flatMap dQ).length<=L36->Gb (cB big aI aJ) big (m.2.2.1,(m.2.2.1.length:Int),(0:Int),x)=some (x++m.2.2.1.flatMap dQ):=by
  intro aI aJ x hx
  exact fF (g:=cB big aI aJ) (mk:=fun i x=>(m.2.2.1,(m.2.2.1.length:Int),(i:Int),x)) (l:=m.2.2.1) (cod:=dQ) (kk:=some) (B:=L36)
   (fun self i x hi hx=>by
    simp only [cB,mK,dz hi,AL,gI hi,AA,wS hi (by omega),QI8 x m.2.2.1[i] (h6 _ (Ae hi)) hx])
   (fun self x hx=>by simp only [cB,mK,dx,AJ]) m.2.2.1.length 0 big x (by omega) (dP (by omega)) (by simpa using hx)
 have txs:∀ (aI) (x:List Int),x.length+((m.2.1.flatMap said).length+((vary m.2.2.1.length).length+(m.2.2.1.flatMap dQ).length))<=L36->Gb (bq big aI) big (m.2.1,(m.2.1.length:Int),(0:Int),x,m)=some (x++(m.2.1.flatMap said++(vary m.2.2.1.length++m.2.2.1.flatMap dQ))):=by
  intro aI x hx
  have:=fF (g:=bq big aI) (mk:=fun i x=>(m.2.1,(m.2.1.length:Int),(i:Int),x,m)) (l:=m.2.1) (cod:=said) (kk:=fun x=>some (x++(vary m.2.2.1.length++m.2.2.1.flatMap dQ))) (B:=L36 - ((vary m.2.2.1.length).length+(m.2.2.1.flatMap dQ).length))
   (fun self i x hi hx=>by
    simp only [bq,iG,dz hi,AL,gI hi,AA,wS hi (by omega),QB4 x m.2.1[i] (h4 _ (Ae hi)) (by omega)])
   (fun self x hx=>by
    simp only [bq,iG,dx,AJ]
    rw [vV x _ h5 (by omega),AA,fns _ _ _ (by rw [AQ];omega),Ab]) m.2.1.length 0 big x (by omega) (dP (by omega)) (by simp only [List.drop_zero];omega)
  refine Eq.trans this ?_
  simp only [List.drop_zero,Ab]
 have:=fF (g:=bn big) (mk:=fun i x=>(m.1,(m.1.length:Int),(i:Int),x,m)) (l:=m.1) (cod:=QAA) (kk:=fun x=>some (x++(vary m.2.1.length++(m.2.1.flatMap said++(vary m.2.2.1.length++m.2.2.1.flatMap dQ))))) (B:=L36 - ((vary m.2.1.length).length+((m.2.1.flatMap said).length+((vary m.2.2.1.length).length+(m.2.2.1.flatMap dQ).length))))
  (fun self i x hi hx=>by
   simp only [bn,iF,dz hi,AL,gI hi,AA,wS hi (by omega),QI9 x m.1[i] (h2 _ (Ae hi)) (by omega)])
  (fun self x hx=>by
   simp only [bn,iF,dx,AJ]
   rw [vV x _ h3 (by omega),AA,txs _ _ (by rw [AQ];omega),Ab]) m.1.length 0 big (x++vary m.1.length) (by omega) (dP (by omega)) (by simp only [List.drop_zero,AQ];omega)
 refine Eq.trans this ?_
 simp only [List.drop_zero,Ab]
theorem qH {α:Type} {f:α->List Int} {k:Nat}:∀ {l:List α},(∀ x∈l,(f x).length<=k)->(l.flatMap f).length<=k * l.length
 | [],_=>by simp
 | x::r,h=>by
  have h1:=h x (by simp)
  have h2:=qH (l:=r) fun y hy=>h y (by simp [hy])
  rw [List.flatMap_cons,AQ,Af,Nat.mul_succ]
  omega
theorem QEh (s:List Int):(said s).length<=10+s.length:=by
 unfold said;rw [AQ];have:=(aZ s.length).2;omega
theorem QFQ {s:List Int} (h:K.dA s=true):s.length<=16:=by
 unfold K.dA at h
 split at h
 ·cases h
 ·simp only [AP,AZ] at h;exact h.1
theorem QGS {x n:Int} (h:K.iL x n=true) (hn:n<=1000000):P63 x:=by
 have:=K.wI.1 h
 exact ⟨this.1,by omega⟩
theorem QIG {f:K.tV} (h:f.1.length<=16):(rP f).length<=36:=by
 unfold rP;rw [AQ];have:=QEh f.1;have:=(aZ f.2.1.toNat).2;omega
theorem QEB {fs:List K.tV} (h:∀ f∈fs,f.1.length<=16) (hl:fs.length<=16):(zF fs).length<=586:=by
 unfold zF;rw [AQ];have:=(aZ fs.length).2
 have:=qH (l:=fs) (f:=rP) (k:=36) fun f hf=>QIG (h f hf)
 omega
theorem QHh:∀ (l:List T.Tc) (w:Int),(T.QEi w l).length<=20 * l.length
 | [],_=>by simp [T.QEi]
 | r::l,w=>by
  have:=QHh l r.1
  have:=(aZ (r.1 - w).toNat).2
  have:=(aZ r.2.1.toNat).2
  simp only [T.QEi,AQ,Af]
  omega
theorem QEC {l:List T.Tc} {n:Nat} (h:T.iP l n=0):(T.dK l).length<=4010:=by
 have h1:=T.zB h
 unfold T.dK;rw [AQ]
 have:=(aZ l.length).2
 have:=QHh l 0
 omega
structure QU0 (f:cO):Prop where
 res:I64 f.2.2.1
 code:∀ x∈f.2.2.2.2.1,WfI x
 s1:T.V64 f.2.2.2.2.2.1
 s2:T.V64 f.2.2.2.2.2.2.1
def QQt (m:cK):Prop:=∀ f∈m.2.2.1,QU0 f
theorem QHa {ns:List (List Int)} (h:jy ns=true):(∀ s∈ns,s.length<=16)/\ns.Nodup:=by
 simp only [jy,AP,AZ,List.all_eq_true] at h
 exact ⟨fun s hs=>QFQ (h.1 s hs),h.2⟩
theorem QN2 {fs:List K.tV} {n:Int} (h:QAU n fs=true) (hn:n<=1000000):fs.length<=16/\(∀ f∈fs,QI4 f)/\∀ f∈fs,f.1.length<=16:=by
 simp only [QAU,AP,AZ,List.all_eq_true] at h
 have h3:=(QHa h.2.2).1
 have h4:∀ f∈fs,f.1.length<=16:=fun f hf=>h3 _ (List.mem_map_of_mem hf)
 exact ⟨h.1,fun f hf=>⟨by have:=h4 f hf;omega,QGS (h.2.1 f hf) hn⟩,h4⟩
theorem QSd {t:K.dI} {i n:Int} (h:K.dJ t i n=true) (hi:i<=1000000) (hn:n<=1000000):QKY t/\t.2.2.2.1.length<=8/\(∀ f∈t.2.2.2.1,f.1.length<=16)/\(QAA t).length<=600:=by
 have key:QKY t/\t.2.2.2.1.length<=8/\∀ f∈t.2.2.2.1,f.1.length<=16:=by
  unfold K.dJ at h
  have z:P63 0:=⟨by omega,by omega⟩
  have emp:t.2.2.2.1.length=0->t.2.2.2.1.length<=1000000/\(∀ f∈t.2.2.2.1,QI4 f)/\t.2.2.2.1.length<=8/\∀ f∈t.2.2.2.1,f.1.length<=16:=fun e=>by
   have:=Aq e
   rw [this];simp
  split at h
  ·simp only [AP,AZ] at h
   have:=emp h.2.2
   exact ⟨⟨by rw [h.1];exact z,by rw [h.2.1];exact z,this.1,this.2.1⟩,this.2.2⟩
  split at h
  ·simp only [AP,AZ] at h
   have:=emp h.2.2
   exact ⟨⟨QGS h.1 hn,by rw [h.2.1];exact z,this.1,this.2.1⟩,this.2.2⟩
  split at h
  ·simp only [AP,AZ] at h
   have:=emp h.2.2
   exact ⟨⟨QGS h.1 hi,⟨by omega,by omega⟩,this.1,this.2.1⟩,this.2.2⟩
  split at h
  ·simp only [AP,AZ,K.QE6,List.all_eq_true] at h
   obtain ⟨g1,g2,g3,g4,g5,g6⟩:=h
   have g7:∀ f∈t.2.2.2.1,f.1.length<=16:=fun f hf=>QFQ (g4 f hf)
   exact ⟨⟨by rw [g1];exact z,by rw [g2];exact z,by omega,fun f hf=>⟨by have:=g7 f hf;omega,QGS (g6 f hf) hi⟩⟩,g3.2,g7⟩
  ·cases h
 refine ⟨key.1,key.2.1,key.2.2,?_⟩
 have h1:=QEB key.2.2 (by omega)
 have h2:=(aZ t.2.1.toNat).2
 have h3:=(aZ t.2.2.1.toNat).2
 unfold QAA QFY
 split
 ·rw [Af];omega
 split
 ·rw [Af,AQ];omega
 split
 ·rw [Af];omega
 ·simp
theorem QST {f:cO} {n:Int} (h:okF n f=true) (hn:n<=1000000) (hm:f.1.length<=16) (w:QU0 f):QLQ f/\(dQ f).length<=20000:=by
 simp only [okF,QBW,AP,AZ,Bool.or_eq_true,List.all_eq_true] at h
 obtain ⟨h1,h2,h3,h4,⟨h5,h6,h7⟩,h8,h9⟩:=h
 obtain ⟨g1,g2,g3⟩:=QN2 h1 hn
 have l1:=T.zB h8
 have l2:=T.zB h9
 refine ⟨⟨by omega,⟨h2,by omega⟩,w.res,⟨by omega,g2⟩,⟨by omega,fun x hx=>⟨h7 x hx,w.code x hx⟩⟩,⟨by omega,w.s1,h8⟩,by omega,w.s2,h9⟩,?_⟩
 unfold dQ
 simp only [AQ]
 have a1:=QEh f.1
 have a2:=(aZ f.2.1.toNat).2
 have a3:=(aZ (dbl f.2.2.1)).2
 have a4:=QEB g3 g1
 have a5:=(aZ f.2.2.2.2.1.length).2
 have a6:=qH (l:=f.2.2.2.2.1) (f:=enc) (k:=31) fun x hx=>(QKe (h7 x hx) (w.code x hx)).2
 have a7:=QEC h8
 have a8:=QEC h9
 omega
theorem QMh {m:cK} (h:QA1 m=true) (w:QQt m):QQu m/\(xA m).length<=1000000:=by
 simp only [QA1,vT,zZ,QAi,AP,AZ,List.all_eq_true] at h
 obtain ⟨⟨⟨h1,h2,_⟩,_⟩,⟨h3,h4⟩,h5,h6,h7,h8⟩:=h
 have ty:∀ t∈m.1,QKY t/\(QAA t).length<=600:=fun t ht=>by
  obtain ⟨i,hi,rfl⟩:=List.mem_iff_getElem.1 ht
  have:=QSd (h2 i hi) (by omega) (by omega)
  exact ⟨this.1,this.2.2.2⟩
 have fn:∀ f∈m.2.2.1,QLQ f/\(dQ f).length<=20000:=fun f hf=>QST (h7 f hf) (by omega) ((QHa h8).1 _ (List.mem_map_of_mem hf)) (w f hf)
 refine ⟨⟨⟨by omega,fun t ht=>(ty t ht).1⟩,⟨by omega,fun s hs=>by have:=h4 s hs;omega⟩,by omega,fun f hf=>(fn f hf).1⟩,?_⟩
 unfold xA
 simp only [AQ]
 have a1:=(aZ m.1.length).2
 have a2:=qH (l:=m.1) (f:=QAA) (k:=600) fun t ht=>(ty t ht).2
 have a3:=(aZ m.2.1.length).2
 have a4:=qH (l:=m.2.1) (f:=said) (k:=74) fun s hs=>by have:=QEh s;have:=h4 s hs;omega
 have a5:=(aZ m.2.2.1.length).2
 have a6:=qH (l:=m.2.2.1) (f:=dQ) (k:=20000) fun f hf=>(fn f hf).2
 omega
def chk (m:cK):Int:=if QA1 m=true then (if (xA m).length > 20000 then 4 else 0) else 8
def encI (m:cK):List Int×Int:=if chk m=0 then (xA m,0) else ([],chk m)
structure QKW (m:cK):Prop where
 ty:m.1.length<=1000000
 fn:∀ f∈m.2.2.1,f.2.2.2.2.2.1.length<=1000000/\f.2.2.2.2.2.2.1.length<=1000000
 mem:QQt m
theorem QHc (m:cK) (h:QKW m):sF m=some (encI m):=by
 show yE m=_
 unfold yE encI chk
 rw [QIO m h.ty h.fn,AA]
 by_cases hv:QA1 m=true
 ·obtain ⟨g1,g2⟩:=QMh hv h.mem
  rw [hv,Az,AJ,QH5 [] m g1 (by simp;show (xA m).length<=68719476736;omega),AA,AY rfl,List.nil_append]
  by_cases hl:(xA m).length > 20000
  ·rw [AB (by omega),AL,AY hl,AX (by omega)]
  ·rw [AF (by omega),AJ,AX hl,AY rfl]
 ·rw [AX hv,AX (by omega)]
  simp only [Bool.not_eq_true] at hv
  rw [hv];rfl
theorem QMY (m:cK):(encI m).2=chk m:=by
 unfold encI
 split
 ·rename_i h;rw [h]
 ·rfl
theorem QEa (m:cK) (h:QKW m):pz m=some (chk m):=by
 show zS m=_
 unfold zS
 rw [QHc m h,AA,QMY]
instance:DecidableEq K.dI:=@instDecidableEqProd _ _ inferInstance (@instDecidableEqProd _ _ inferInstance (@instDecidableEqProd _ _ inferInstance (@instDecidableEqProd _ _ inferInstance inferInstance)))
instance:DecidableEq cO:=@instDecidableEqProd _ _ inferInstance (@instDecidableEqProd _ _ inferInstance (@instDecidableEqProd _ _ inferInstance (@instDecidableEqProd _ _ inferInstance (@instDecidableEqProd _ _ inferInstance (@instDecidableEqProd _ _ inferInstance (@instDecidableEqProd _ _ inferInstance inferInstance))))))
instance:DecidableEq cK:=@instDecidableEqProd _ _ inferInstance (@instDecidableEqProd _ _ inferInstance (@instDecidableEqProd _ _ inferInstance inferInstance))
theorem QHf {α:Type} [DecidableEq α] {a b:List α} (h:a.length=b.length):(List.range' 0 a.length).all (fun i=>decide (a[i]? = b[i]?))=decide (a=b):=by
 rw [Bool.eq_iff_iff]
 simp only [List.all_eq_true,List.mem_range'_1,AZ]
 constructor
 ·intro g
  apply List.ext_getElem?
  intro i
  by_cases hi:i < a.length
  ·exact g i ⟨by omega,by omega⟩
  ·rw [Av (by omega),Av (by omega)]
 ·rintro rfl i _;rfl
theorem QK2 {α:Type} [DecidableEq α] {a b:List α} {i:Nat} (h:i < a.length) (h':i < b.length):decide (a[i]? = b[i]?)=decide (a[i]=b[i]):=by simp [h,h']
theorem QOi {t:Ty} [DecidableEq t.den] (x y:t.den):JW t x y=decide (x=y):=by rw [Bool.eq_iff_iff,ED,AZ]
theorem QMt {α:Type} {a b:List α}:((a.length:Int) != (b.length:Int))=!decide (a.length=b.length):=by
 by_cases h:a.length=b.length
 ·simp [h]
 ·have:((a.length:Int) != (b.length:Int))=true:=by simp;omega
  rw [this,AF h];rfl
theorem gV (a b:Int):(a != b)=!decide (a=b):=by by_cases h:a=b <;> simp [h]
theorem nA {β:Type} (b:Bool) (x y:β):(bif !b then x else y)=bif b then y else x:=by cases b <;> rfl
theorem QFi (b:Bool):(bif b then some true else some false)=some b:=by cases b <;> rfl
structure QTz (f:cO):Prop where
 sl:f.2.2.2.1.length<=1000000
 code:f.2.2.2.2.1.length<=1000000
 s1:f.2.2.2.2.2.1.length<=1000000
 s2:f.2.2.2.2.2.2.1.length<=1000000
structure QYe (m:cK):Prop where
 ty:m.1.length<=1000000/\∀ t∈m.1,t.2.2.2.1.length<=1000
 tx:m.2.1.length<=1000000
 fn:m.2.2.1.length<=1000000/\∀ f∈m.2.2.1,QTz f
theorem pW {p:Nat->Bool} {n:Nat} (h:(List.range' 0 n).all p=true) {i:Nat} (hi:i < n):p i=true:=List.all_eq_true.1 h i (by simp [List.mem_range'_1];exact hi)
structure QYa (f:cO):Prop where
 name:f.1.length<=100
 sl:f.2.2.2.1.length<=20
 code:f.2.2.2.2.1.length<=210
 s1:f.2.2.2.2.2.1.length<=210
 s2:f.2.2.2.2.2.2.1.length<=210
structure QUk (m:cK):Prop where
 ty:m.1.length<=40/\∀ t∈m.1,t.2.2.2.1.length<=20
 tx:m.2.1.length<=40
 fn:m.2.2.1.length<=40/\∀ f∈m.2.2.1,QYa f
def nS (l:List cO):Nat->Int
 | 0=>0
 | i+1=>IntKind.i64.wrap (nS l i+(((l[i]?).map fun f=>f.2.2.2.2.1.length).getD 0:Nat))
def gB (f:cO) (n:Int):Bool:=decide (f.1.length<=100)&&(decide (f.2.2.2.1.length<=20)&&(decide (f.2.2.2.2.1.length<=210)&&(decide (f.2.2.2.2.2.1.length<=210)&&(decide (f.2.2.2.2.2.2.1.length<=210)&&(decide (n<=1000)&&f.2.2.2.1.all fun s=>decide (s.1.length<=100))))))
theorem QIL {α:Type} (l:List α) (k:Nat):decide ((l.length:Int) > (k:Int))=!decide (l.length<=k):=by
 by_cases h:l.length<=k
 ·rw [AB h,AF (by omega)];rfl
 ·rw [AF h,AB (by omega)];rfl
theorem QIZ (m:cK):∃ b,zL m=some b/\(b=false->QUk m):=by
 show ∃ b,vQ (Gb (jQ big) big) m=some b/\_
 unfold vQ
 obtain ⟨b,h1,h2⟩:=K.QKr m.1
 rw [h1,AA]
 cases b with
 | true=>exact ⟨true,rfl,fun h=>by cases h⟩
 | false=>
  rw [AJ]
  by_cases ht:m.2.1.length<=40
  ·rw [AF (by omega),AJ]
   by_cases hf:m.2.2.1.length<=40
   ·rw [AF (by omega),AJ]
    have slots:∀ (aI aJ) (n:Int) (i:Nat) (f:cO),f.2.2.2.1.length<=20->i < m.2.2.1.length->Gb (jS big aI aJ) big (n,(i:Int),0,m,f)=bif f.2.2.2.1.all (fun s=>decide (s.1.length<=100)) then aJ (n,((i+1:Nat):Int),m) else some true:=by
     intro aI aJ n i f hl hi
     have:=ah (g:=jS big aI aJ) (mk:=fun k=>(n,(i:Int),(k:Int),m,f)) (p:=fun k=>(f.2.2.2.1[k]?).all fun s=>decide (s.1.length<=100)) (no:=some true) (kk:=aJ (n,((i+1:Nat):Int),m)) (n:=f.2.2.2.1.length)
      (fun self k hk=>by
       rw [pat hk]
       simp only [jS,wF,dz hk,AL,gI hk,AA,wS hk (by omega),QIL _ 100,nA,show (100:Int)=((100:Nat):Int) from rfl])
      (fun self=>by simp only [jS,wF,dx,AJ,wS hi (by omega)]) f.2.2.2.1.length 0 big (by omega) (dP (by omega))
     rw [QBf] at this
     exact this
    have fns:∀ aI,Gb (jR big aI) big (0,0,m)=bif (List.range' 0 m.2.2.1.length).all (fun i=>(m.2.2.1[i]?).all fun f=>gB f (nS m.2.2.1 (i+1))) then some false else some true:=by
     intro aI
     exact ah (g:=jR big aI) (mk:=fun i=>(nS m.2.2.1 i,(i:Int),m)) (p:=fun i=>(m.2.2.1[i]?).all fun f=>gB f (nS m.2.2.1 (i+1))) (no:=some true) (kk:=some false) (n:=m.2.2.1.length)
      (fun self i hi=>by
       rw [pat hi]
       have e:IntKind.i64.wrap (nS m.2.2.1 i+((m.2.2.1[i]).2.2.2.2.1.length:Int))=nS m.2.2.1 (i+1):=by simp [nS,hi]
       simp only [jR,ql,dz hi,AL,gI hi,AA,e]
       unfold gB
       generalize nS m.2.2.1 (i+1)=n
       by_cases a1:(m.2.2.1[i]).1.length<=100
       ·rw [AB a1,AF (show ¬ (((m.2.2.1[i]).1.length:Int) > 100) by omega),AJ,Ai]
        by_cases a2:(m.2.2.1[i]).2.2.2.1.length<=20
        ·rw [AB a2,AF (show ¬ (((m.2.2.1[i]).2.2.2.1.length:Int) > 20) by omega),AJ,Ai]
         by_cases a3:(m.2.2.1[i]).2.2.2.2.1.length<=210
         ·rw [AB a3,AF (show ¬ (((m.2.2.1[i]).2.2.2.2.1.length:Int) > 210) by omega),AJ,Ai]
          by_cases a4:(m.2.2.1[i]).2.2.2.2.2.1.length<=210
          ·rw [AB a4,AF (show ¬ (((m.2.2.1[i]).2.2.2.2.2.1.length:Int) > 210) by omega),AJ,Ai]
           by_cases a5:(m.2.2.1[i]).2.2.2.2.2.2.1.length<=210
           ·rw [AB a5,AF (show ¬ (((m.2.2.1[i]).2.2.2.2.2.2.1.length:Int) > 210) by omega),AJ,Ai]
            by_cases a6:n<=1000
            ·rw [AB a6,AF (show ¬ n > 1000 by omega),AJ,Ai]
             exact slots _ _ _ _ _ a2 hi
            ·rw [AF a6,AB (show n > 1000 by omega)];rfl
           ·rw [AF a5,AB (show ((m.2.2.1[i]).2.2.2.2.2.2.1.length:Int) > 210 by omega)];rfl
          ·rw [AF a4,AB (show ((m.2.2.1[i]).2.2.2.2.2.1.length:Int) > 210 by omega)];rfl
         ·rw [AF a3,AB (show ((m.2.2.1[i]).2.2.2.2.1.length:Int) > 210 by omega)];rfl
        ·rw [AF a2,AB (show ((m.2.2.1[i]).2.2.2.1.length:Int) > 20 by omega)];rfl
       ·rw [AF a1,AB (show ((m.2.2.1[i]).1.length:Int) > 100 by omega)];rfl)
      (fun self=>by simp only [jR,ql,dx,AJ]) m.2.2.1.length 0 big (by omega) (dP (by omega))
    have:=ah (g:=jQ big) (mk:=fun i=>((i:Int),m)) (p:=fun i=>(m.2.1[i]?).all fun s=>decide (s.length<=100)) (no:=some true) (kk:=bif (List.range' 0 m.2.2.1.length).all (fun i=>(m.2.2.1[i]?).all fun f=>gB f (nS m.2.2.1 (i+1))) then some false else some true) (n:=m.2.1.length)
     (fun self i hi=>by
      rw [pat hi]
      simp only [jQ,qj,dz hi,AL,gI hi,AA,wS hi (by omega),QIL _ 100,nA,show (100:Int)=((100:Nat):Int) from rfl])
     (fun self=>by
      simp only [jQ,qj,dx,AJ]
      exact fns _) m.2.1.length 0 big (by omega) (dP (by omega))
    rw [QBf] at this
    refine ⟨!(m.2.1.all (fun s=>decide (s.length<=100))&&(List.range' 0 m.2.2.1.length).all (fun i=>(m.2.2.1[i]?).all fun f=>gB f (nS m.2.2.1 (i+1)))),this.trans ?_,?_⟩
    ·cases m.2.1.all (fun s=>decide (s.length<=100)) <;> cases (List.range' 0 m.2.2.1.length).all (fun i=>(m.2.2.1[i]?).all fun f=>gB f (nS m.2.2.1 (i+1))) <;> rfl
    ·intro h
     rw [Bool.not_eq_false',AP] at h
     refine ⟨h2 rfl,ht,hf,fun f hfm=>?_⟩
     obtain ⟨i,hi,rfl⟩:=List.mem_iff_getElem.1 hfm
     have:=pW h.2 hi
     rw [pat hi] at this
     simp only [gB,AP,AZ] at this
     exact ⟨this.1,this.2.1,this.2.2.1,this.2.2.2.1,this.2.2.2.2.1⟩
   ·exact ⟨true,by rw [AB (by omega)];rfl,fun h=>by cases h⟩
  ·exact ⟨true,by rw [AB (by omega)];rfl,fun h=>by cases h⟩
def pM (ns:List (List Int)) (i:Nat):Bool:=(ns[i]?).all fun s=>(List.range' 0 i).all fun k=>(ns[k]?).all fun t=>!(JW .str t s)
theorem QBY (ns:List (List Int)):(List.range' 0 ns.length).all (pM ns)=decide ns.Nodup:=by
 rw [Bool.eq_iff_iff]
 simp only [List.all_eq_true,List.mem_range'_1,AZ,wW]
 have key:∀ i (h:i < ns.length),pM ns i=true↔ns[i] ∉ ns.take i:=by
  intro i h
  unfold pM
  rw [pat h]
  simp only [List.all_eq_true,List.mem_range'_1]
  constructor
  ·intro g hm
   obtain ⟨j,hj,e⟩:=List.mem_take_iff_getElem.1 hm
   have:=g j ⟨by omega,by omega⟩
   rw [pat (show j < ns.length by omega),e,XZ] at this
   cases this
  ·intro g k hk
   have hk':k < ns.length:=by omega
   rw [pat hk',Bool.not_eq_true',Bool.eq_false_iff]
   intro e
   exact g (List.mem_take_iff_getElem.2 ⟨k,by omega,ED.1 e⟩)
 constructor
 ·intro h i hi;exact (key i hi).1 (h i ⟨by omega,by omega⟩)
 ·intro h i hi;exact (key i (by omega)).2 (h i (by omega))
theorem QJX {p q:Nat->Bool} {l:List Nat}:l.all (fun i=>p i&&q i)=(l.all p&&l.all q):=by
 rw [Bool.eq_iff_iff]
 simp only [List.all_eq_true,AP]
 exact ⟨fun h=>⟨fun x hx=>(h x hx).1,fun x hx=>(h x hx).2⟩,fun h x hx=>⟨h.1 x hx,h.2 x hx⟩⟩
theorem QJZ {β:Type} (b c:Bool) (x y:β):(bif b then (bif c then x else y) else y)=bif (b&&c) then x else y:=by cases b <;> rfl
theorem QKq (fs:List K.tV):oH (fs,16)=some (decide (fs.length<=16)&&jy (fs.map (·.1))):=by
 show kZ (Gb (bW big) big) (fs,16)=_
 unfold kZ
 dsimp only
 by_cases h:fs.length<=16
 ·rw [AF (by omega),AJ,AB h,Ai]
  have hm:(fs.map (·.1)).length=fs.length:=Aw _
  have inner:∀ (self:List K.tV×Int->Option Bool) (i:Nat) (hi:i < fs.length),Gb (bX big self) big (fs,(i:Int),0)=bif pM (fs.map (·.1)) i then self (fs,((i+1:Nat):Int)) else some false:=by
   intro self i hi
   unfold pM
   rw [pat (show i < (fs.map (·.1)).length by omega)]
   exact ah (g:=bX big self) (mk:=fun k=>(fs,(i:Int),(k:Int))) (p:=fun k=>((fs.map (·.1))[k]?).all fun t=>!(JW .str t (fs.map (·.1))[i])) (no:=some false) (kk:=self (fs,((i+1:Nat):Int))) (n:=i)
    (fun aJ k hk=>by
     rw [pat (show k < (fs.map (·.1)).length by omega)]
     simp only [bX,fB,dz hk,AL,gI (show k < fs.length by omega),gI hi,AA,wS hk (by omega),List.getElem_map,nA])
    (fun aJ=>by simp only [bX,fB,dx,AJ,wS hi (by omega)]) i 0 big (by omega) (dP (by omega))
  have:=ah (g:=bW big) (mk:=fun i=>(fs,(i:Int))) (p:=fun i=>((fs.map (·.1))[i]?).all K.dA&&pM (fs.map (·.1)) i) (no:=some false) (kk:=some true) (n:=fs.length)
   (fun self i hi=>by
    rw [pat (show i < (fs.map (·.1)).length by omega)]
    simp only [bW,bG,dz hi,AL,gI hi,AA,wS hi (by omega),K.QAj,nA,inner self i hi,List.getElem_map,QJZ])
   (fun self=>by simp only [bW,bG,dx,AJ]) fs.length 0 big (by omega) (dP (by omega))
  rw [QJX,← hm,QBf,QBY,QFi] at this
  exact this
 ·rw [AB (by omega),AL,AF h];rfl
theorem za (N:Nat) (aI) {rs ns:List Int} {i r n:Int} (h0:0<=i) (h3:i < 3) (hr:Nk rs i=some (ltr r)) (hn:nth ns i.toNat=some n) (hl:TV r) :
  dh N aI (rs,i,ns)=if fit r n then aI (rs,IntKind.i64.wrap (i+1),ns) else some 8:=by
 show mV aI _=_
 unfold mV
 dsimp only
 rw [AB h3,AB h0,AL,hr]
 simp only [AA,Bool.and_self,AL,hn,QHe r n hl]
 cases fit r n <;> rfl
theorem QBK (x:Ins) (h0:0<=x.1) (h1:x.1<=255):qG x=some (if rF x then 0 else 8):=by
 show nU (Gb (dh big) big) x=_
 unfold nU
 rw [QBP h0 h1,AA,show bV x=some (vals x) from rfl,AA]
 cases h:QAm x.1 with
 | false=>simp [rF,h]
 | true=>
  obtain ⟨a,b,c,e,ha,hb,hc⟩:=yu h
  simp only [if_true,e,List.map_cons,List.map_nil]
  show Gb (dh big) big ([ltr a,ltr b,ltr c],0,vals x)=_
  rw [QE7,WZ,za _ _ (by decide) (by decide) (QB9 _ _) rfl ha,w01]
  simp only [rF,h,e,QGQ,vals,Ai,Bool.and_true]
  cases fit a x.2.1 with
  | false=>rfl
  | true=>
   rw [AY rfl,WZ,za _ _ (by decide) (by decide) (QBA _ _ _) rfl hb,w12]
   cases fit b x.2.2.1 with
   | false=>rfl
   | true=>
    rw [AY rfl,WZ,za _ _ (by decide) (by decide) (QBB _ _ _ _) rfl hc,w23]
    cases fit c x.2.2.2.1 with
    | false=>rfl
    | true=>rfl
theorem QEI {l:List T.Tc} {n:Nat} (h1:1<=n) (h2:n<=200):T.oK l n=decide (T.iP l n=0):=by
 rw [Bool.eq_iff_iff,AZ,T.tF]
 exact ⟨fun h=>⟨⟨by omega,by omega⟩,h⟩,fun h=>h.2⟩
def Op8 (l:List Ins):Prop:=∀ x∈l,0<=x.1/\x.1<=255
theorem QHN (l:List K.dI) (f:cO) (hl:l.length<=1000000) (ho:Op8 f.2.2.2.2.1) (h1:f.2.2.2.2.2.1.length<=1000000) (h2:f.2.2.2.2.2.2.1.length<=1000000):uF (l,f)=some (K.dA f.1&&okF l.length f):=by
 show oz (Gb (eT big) big) (l,f)=_
 unfold oz okF QAU QBW
 dsimp only
 rw [K.QAj,AA,nA]
 cases K.dA f.1 with
 | false=>rfl
 | true=>
  rw [AL,Ai,QKq,AA,nA]
  by_cases hs:f.2.2.2.1.length<=16
  rotate_left
  ·rw [AF hs];rfl
  rw [AB hs,Ai,Ai]
  cases hn:jy (f.2.2.2.1.map (·.1)) with
  | false=>rw [AJ,Bool.and_false,Bool.false_and]
  | true=>
   rw [AL,Bool.and_true]
   by_cases a1:0<=f.2.1
   rotate_left
   ·rw [AB (show f.2.1 < 0 by omega),AF a1,Bool.false_and,Bool.and_false];rfl
   rw [AF (show ¬ f.2.1 < 0 by omega),AJ,AB a1,Ai]
   by_cases a2:f.2.1<=f.2.2.2.1.length
   rotate_left
   ·rw [AB (show f.2.1 > f.2.2.2.1.length by omega),AF a2,Bool.false_and,Bool.and_false];rfl
   rw [AF (show ¬ f.2.1 > f.2.2.2.1.length by omega),AJ,AB a2,Ai]
   have hr:(decide (f.2.2.1 = -1)||K.iL f.2.2.1 l.length)=decide (-1<=f.2.2.1/\f.2.2.1 < l.length):=by
    rw [Bool.eq_iff_iff,Bool.or_eq_true,AZ,AZ,K.wI];omega
   rw [hr]
   by_cases a3 : -1<=f.2.2.1
   rotate_left
   ·rw [AB (show f.2.2.1 < -1 by omega),AF (p:=-1<=f.2.2.1/\f.2.2.1 < l.length) (fun e=>a3 e.1),Bool.false_and,Bool.and_false];rfl
   rw [AF (show ¬ f.2.2.1 < -1 by omega),AJ]
   by_cases a4:f.2.2.1 < l.length
   rotate_left
   ·rw [AB (show f.2.2.1≥l.length by omega),AF (p:=-1<=f.2.2.1/\f.2.2.1 < l.length) (fun e=>a4 e.2),Bool.false_and,Bool.and_false];rfl
   rw [AF (show ¬ f.2.2.1≥l.length by omega),AJ,AB (p:=-1<=f.2.2.1/\f.2.2.1 < l.length) ⟨a3,a4⟩,Ai]
   by_cases a5:1<=f.2.2.2.2.1.length
   rotate_left
   ·rw [AB (show (f.2.2.2.2.1.length:Int) < 1 by omega),AF a5,Bool.false_and,Bool.false_and,Bool.and_false];rfl
   rw [AF (show ¬ (f.2.2.2.2.1.length:Int) < 1 by omega),AJ,AB a5,Ai]
   by_cases a6:f.2.2.2.2.1.length<=200
   rotate_left
   ·rw [AB (show (f.2.2.2.2.1.length:Int) > 200 by omega),AF a6,Bool.false_and,Bool.false_and,Bool.and_false];rfl
   rw [AF (show ¬ (f.2.2.2.2.1.length:Int) > 200 by omega),AJ,AB a6,Ai,← QEI a5 a6,← QEI a5 a6]
   have code:∀ aI,Gb (eU big aI) big (0,f)=bif f.2.2.2.2.1.all rF then some (T.oK f.2.2.2.2.2.1 f.2.2.2.2.1.length&&T.oK f.2.2.2.2.2.2.1 f.2.2.2.2.1.length) else some false:=by
    intro aI
    have:=ah (g:=eU big aI) (mk:=fun i=>((i:Int),f)) (p:=fun i=>(f.2.2.2.2.1[i]?).all rF) (no:=some false) (kk:=some (T.oK f.2.2.2.2.2.1 f.2.2.2.2.1.length&&T.oK f.2.2.2.2.2.2.1 f.2.2.2.2.1.length)) (n:=f.2.2.2.2.1.length)
     (fun self i hi=>by
      rw [pat hi]
      have hop:=ho _ (Ae hi)
      simp only [eU,qm,dz hi,AL,gI hi,AA,wS hi (by omega),QBK _ hop.1 hop.2]
      cases rF f.2.2.2.2.1[i] <;> rfl)
     (fun self=>by
      simp only [eU,qm,dx,AJ,T.QGy _ _ (show f.2.2.2.2.2.1.length<=9223372036854775807 by omega),T.QGy _ _ (show f.2.2.2.2.2.2.1.length<=9223372036854775807 by omega),AA]
      cases T.oK f.2.2.2.2.2.1 f.2.2.2.2.1.length <;> rfl) f.2.2.2.2.1.length 0 big (by omega) (dP (by omega))
    rw [QBf] at this
    exact this
   have:=ah (g:=eT big) (mk:=fun i=>(l,(i:Int),f)) (p:=fun i=>(f.2.2.2.1[i]?).all fun x=>K.iL x.2.1 l.length) (no:=some false) (kk:=bif f.2.2.2.2.1.all rF then some (T.oK f.2.2.2.2.2.1 f.2.2.2.2.1.length&&T.oK f.2.2.2.2.2.2.1 f.2.2.2.2.1.length) else some false) (n:=f.2.2.2.1.length)
    (fun self i hi=>by
     rw [pat hi]
     simp only [eT,lT,dz hi,AL,gI hi,AA,wS hi (by omega),K.iL]
     by_cases b1:0<=(f.2.2.2.1[i]).2.1
     ·rw [AF (show ¬ (f.2.2.2.1[i]).2.1 < 0 by omega),AJ,AB b1,Ai]
      by_cases b2:(f.2.2.2.1[i]).2.1 < l.length
      ·rw [AF (show ¬ (f.2.2.2.1[i]).2.1≥l.length by omega),AJ,AB b2];rfl
      ·rw [AB (show (f.2.2.2.1[i]).2.1≥l.length by omega),AF b2];rfl
     ·rw [AB (show (f.2.2.2.1[i]).2.1 < 0 by omega),AF b1];rfl)
    (fun self=>by
     simp only [eT,lT,dx,AJ]
     exact code _) f.2.2.2.1.length 0 big (by omega) (dP (by omega))
   rw [QBf] at this
   refine Eq.trans this ?_
   cases (f.2.2.2.1.all fun x=>K.iL x.2.1 l.length) <;> cases f.2.2.2.2.1.all rF <;> rfl
structure QYf (m:cK):Prop where
 ty:m.1.length<=1000000/\∀ t∈m.1,t.2.2.2.1.length<=1000
 fn:∀ f∈m.2.2.1,Op8 f.2.2.2.2.1/\f.2.2.2.2.2.1.length<=1000000/\f.2.2.2.2.2.2.1.length<=1000000
theorem QNl (m:cK) (h:QYf m):QAD m=some (QA1 m):=by
 show xR (Gb (kT big) big) m=_
 unfold xR QA1 vT zZ QAi
 rw [K.QKp m.1 h.ty.2,AA]
 by_cases hv:K.Valid m.1
 rotate_left
 ·rw [AX hv,AF hv];rfl
 rw [AY hv,AB hv,Ai,show ((0:Int) != 0)=false from rfl,AJ]
 by_cases ht:m.2.1.length<=32
 rotate_left
 ·rw [AB (by omega),AF ht,Bool.false_and,Bool.false_and,Bool.and_false];rfl
 rw [AF (by omega),AJ,AB ht,Ai]
 by_cases h1:1<=m.2.2.1.length
 rotate_left
 ·rw [AB (by omega),AF h1,Bool.false_and,Bool.and_false,Bool.and_false];rfl
 rw [AF (by omega),AJ,AB h1,Ai]
 by_cases h2:m.2.2.1.length<=32
 rotate_left
 ·rw [AB (by omega),AF h2,Bool.false_and,Bool.and_false,Bool.and_false];rfl
 rw [AF (by omega),AJ,AB h2,Ai,K.QFV hv,AA]
 have hm:(m.2.2.1.map (·.1)).length=m.2.2.1.length:=Aw _
 have inner:∀ (aI aJ) (self:Int×cK->Option Bool) (i:Nat) (hi:i < m.2.2.1.length),Gb (kW big aI aJ self) big ((i:Int),0,m)=bif pM (m.2.2.1.map (·.1)) i then self (((i+1:Nat):Int),m) else some false:=by
  intro aI aJ self i hi
  unfold pM
  rw [pat (show i < (m.2.2.1.map (·.1)).length by omega)]
  exact ah (g:=kW big aI aJ self) (mk:=fun k=>((i:Int),(k:Int),m)) (p:=fun k=>((m.2.2.1.map (·.1))[k]?).all fun t=>!(JW .str t (m.2.2.1.map (·.1))[i])) (no:=some false) (kk:=self (((i+1:Nat):Int),m)) (n:=i)
   (fun aJ k hk=>by
    rw [pat (show k < (m.2.2.1.map (·.1)).length by omega)]
    simp only [kW,xw,dz hk,AL,gI (show k < m.2.2.1.length by omega),gI hi,AA,wS hk (by omega),List.getElem_map,nA])
   (fun aJ=>by simp only [kW,xw,dx,AJ,wS hi (by omega)]) i 0 big (by omega) (dP (by omega))
 have fns:∀ aI aJ,Gb (kV big aI aJ) big (0,m)=some (m.2.2.1.all (okF m.1.length)&&jy (m.2.2.1.map (·.1))):=by
  intro aI aJ
  have:=ah (g:=kV big aI aJ) (mk:=fun i=>((i:Int),m)) (p:=fun i=>(m.2.2.1[i]?).all (fun f=>K.dA f.1&&okF m.1.length f)&&pM (m.2.2.1.map (·.1)) i) (no:=some false) (kk:=some true) (n:=m.2.2.1.length)
   (fun self i hi=>by
    have hf:=h.fn _ (Ae hi)
    rw [pat hi]
    simp only [kV,sU,dz hi,AL,gI hi,AA,wS hi (by omega),QHN m.1 m.2.2.1[i] h.ty.1 hf.1 hf.2.1 hf.2.2,nA,inner _ _ self i hi,QJZ])
   (fun self=>by simp only [kV,sU,dx,AJ]) m.2.2.1.length 0 big (by omega) (dP (by omega))
  rw [QJX,QBf,QFi,← hm,QBY] at this
  refine this.trans (congrArg some ?_)
  unfold jy
  rw [Bool.eq_iff_iff]
  simp only [List.all_eq_true,AP,AZ,List.mem_map]
  constructor
  ·rintro ⟨g1,g2⟩
   exact ⟨fun x hx=>(g1 x hx).2,fun s hs=>by obtain ⟨f,hf,rfl⟩:=hs;exact (g1 f hf).1,g2⟩
  ·rintro ⟨g1,g2,g3⟩
   exact ⟨fun x hx=>⟨g2 _ ⟨x,hx,rfl⟩,g1 x hx⟩,g3⟩
 have txs:∀ aI,Gb (kU big aI) big (0,m)=bif m.2.1.all (fun s=>decide (s.length<=64)) then some (m.2.2.1.all (okF m.1.length)&&jy (m.2.2.1.map (·.1))) else some false:=by
  intro aI
  have:=ah (g:=kU big aI) (mk:=fun i=>((i:Int),m)) (p:=fun i=>(m.2.1[i]?).all fun s=>decide (s.length<=64)) (no:=some false) (kk:=some (m.2.2.1.all (okF m.1.length)&&jy (m.2.2.1.map (·.1)))) (n:=m.2.1.length)
   (fun self i hi=>by
    rw [pat hi]
    simp only [kU,sS,dz hi,AL,gI hi,AA,wS hi (by omega),show (64:Int)=((64:Nat):Int) from rfl,QIL _ 64,nA])
   (fun self=>by
    simp only [kU,sS,dx,AJ]
    exact fns _ _) m.2.1.length 0 big (by omega) (dP (by omega))
  rw [QBf] at this
  exact this
 have hsz:(K.szs (K.exS m.1)).length=m.1.length:=by simp [K.szs,K.uo]
 have:=ah (g:=kT big) (mk:=fun i=>((i:Int),m,K.szs (K.exS m.1))) (p:=fun i=>decide (K.sz (K.exS m.1) (i:Nat)<=256)) (no:=some false) (kk:=bif m.2.1.all (fun s=>decide (s.length<=64)) then some (m.2.2.1.all (okF m.1.length)&&jy (m.2.2.1.map (·.1))) else some false) (n:=m.1.length)
  (fun self i hi=>by
   have e:=K.QK1 (S:=K.exS m.1) (e:=(i:Int)) (by omega) (by rw [K.uo];omega)
   simp only [kT,sQ,hsz,dz hi,AL,AA,wS hi (by have:=h.ty.1;omega),e,AB (show (0:Int)<=(i:Int) by omega),Ai]
   by_cases b:K.sz (K.exS m.1) (i:Nat)<=256
   ·rw [AF (show ¬ K.sz (K.exS m.1) (i:Nat) > 256 by omega),AB b];rfl
   ·rw [AB (show K.sz (K.exS m.1) (i:Nat) > 256 by omega),AF b];rfl)
  (fun self=>by
   simp only [kT,sQ,hsz,dx,AJ]
   exact txs _) m.1.length 0 big (by omega) (dP (by have:=h.ty.1;omega))
 refine Eq.trans this ?_
 cases ((List.range' 0 m.1.length).all fun i=>decide (K.sz (K.exS m.1) (i:Nat)<=256)) <;> cases m.2.1.all (fun s=>decide (s.length<=64)) <;> rfl
theorem QCu (N:Nat) (aI) {rs acc ns:List Int} {i r n:Int} (h0:0<=i) (h3:i < 3) (hr:Nk rs i=some (ltr r)) (hn:nth ns i.toNat=some n) (hl:TV r) (hf:fit r n=true) (h64:I64 n) (ha:acc.length<=100) :
  qQ N aI (rs,i,acc,ns)=aI (rs,IntKind.i64.wrap (i+1),acc++seg r n,ns):=by
 show wD aI _=_
 unfold wD
 dsimp only
 rw [AB h3,AB h0,AL,hr]
 simp only [AA,Bool.and_self,AL,hn,QIb r hl,QX5 r hl]
 by_cases hr0:r=0
 ·subst hr0
  simp [seg]
 ·rw [AF hr0,AJ,seg,AX hr0,raw]
  cases hs:sg r with
  | true=>
   have l:=aZ (dbl n)
   simp only [AL,if_true]
   rw [QFB n h64.1 h64.2,AA,mg _ (QFm h64.1 h64.2),AA,b11,d9 (by omega)]
   rfl
  | false=>
   obtain ⟨l0,l1⟩:=QDv hl hf hs
   obtain ⟨m,rfl⟩:=BK l0
   have l:=aZ m
   have e1:IntKind.u64.wrap (m:Int)=(m:Int):=by rw [wrap_u64];omega
   simp only [AJ]
   rw [e1,mg m (by omega),AA,b11,d9 (by omega)]
   rfl
theorem QHQ {x:Ins} (h0:0<=x.1) (h1:x.1<=255) (h:rF x=true) (w:WfI x):zI x=some (enc x):=by
 show vM (Gb (qQ big) big) x=_
 unfold vM
 obtain ⟨a,b,c,ho,e,ha,hb,hc,fa,fb,fc⟩:=kg h
 rw [QBP h0 h1,AA,show bV x=some (vals x) from rfl,AA,ho,AY rfl]
 simp only [e,List.map_cons,List.map_nil]
 have l1:=QCK a x.2.1
 have l2:=QCK b x.2.2.1
 rw [QE7,WZ,QCu _ _ (by decide) (by decide) (QB9 _ _) rfl ha fa w.1 (by simp),w01]
 rw [WZ,QCu _ _ (by decide) (by decide) (QBA _ _ _) rfl hb fb w.2.1 (by simp only [AQ,Af,Au];omega),w12]
 rw [WZ,QCu _ _ (by decide) (by decide) (QBB _ _ _ _) rfl hc fc w.2.2 (by simp only [AQ,Af,Au];omega),w23]
 show some _=_
 simp [enc,e,vals,body]
theorem pI (n:Int) (h:P63 n):aS n=some (vary n.toNat):=by
 show yJ n=_
 unfold yJ
 obtain ⟨k,rfl⟩:=BK h.1
 have:=h.2
 have e:IntKind.u64.wrap (k:Int)=(k:Int):=by rw [wrap_u64];omega
 rw [e,mg k (by omega)];rfl
theorem QCG {α:Type} (l:List α) (hl:l.length<=1000000):aS (l.length:Int)=some (vary l.length):=by
 have:=pI (l.length:Int) ⟨by omega,by omega⟩
 simpa using this
theorem QEd (fs:List K.tV) (hl:fs.length<=1000000) (hf:∀ f∈fs,QI4 f) (hx:(zF fs).length<=1000000):kR fs=some (zF fs):=by
 show sZ (Gb (gP big) big) fs=_
 unfold sZ zF at *
 rw [QCG fs hl,AA]
 rw [AQ] at hx
 exact fF (g:=gP big) (mk:=fun i x=>(fs,(i:Int),x)) (l:=fs) (cod:=rP) (kk:=some) (B:=1000000)
  (fun self i x hi hx=>by
   have h1:=hf _ (Ae hi)
   unfold rP said at *
   simp only [AQ] at hx
   simp only [gP,uJ,dz hi,AL,gI hi,AA,wS hi (by omega),QGl fs[i].1 h1.1,pI _ h1.2]
   rw [bI (by simp only [AQ];show _<=68719476736;omega),AL,bI (by show (x++_).length+_<=68719476736;simp only [AQ];omega),AL]
   rw [← Ab];rfl)
  (fun self x hx=>by simp only [gP,uJ,dx,AJ]) fs.length 0 big (vary fs.length) (by omega) (dP (by omega)) (by simpa using hx)
theorem kindTail (t:K.dI) (z:List Int) {β:Type} (kk:List Int->Option β) (h:QKY t) (hx:z.length+(QFY t).length<=1000000) :
  (bif decide (t.1=4) then (bif decide (t.1=4) then ((aS t.2.1).bind fun x4=>(bif (Nat.ble 1 1&&Nat.ble (List.length z+List.length x4) lim) then kk (List.append z x4) else none)) else none) else (bif decide (t.1=7) then ((aS t.2.1).bind fun rE=>(bif (Nat.ble 1 1&&Nat.ble (List.length z+List.length rE) lim) then kk (List.append z rE) else none)) else (bif decide (t.1=6) then ((aS t.2.1).bind fun jf=>(bif (Nat.ble 1 1&&Nat.ble (List.length z+List.length jf) lim) then ((aS t.2.2.1).bind fun vU=>(bif (Nat.ble 1 1&&Nat.ble (List.length (List.append z jf)+List.length vU) lim) then kk (List.append (List.append z jf) vU) else none)) else none)) else (bif decide (t.1=5) then ((kR t.2.2.2.1).bind fun zh=>(bif (Nat.ble 1 1&&Nat.ble (List.length z+List.length zh) lim) then kk (List.append z zh) else none)) else kk z))))=kk (z++QFY t):=by
 obtain ⟨h1,h2,h3,h4⟩:=h
 unfold QFY at *
 by_cases c4:t.1=4
 ·simp only [c4,decide_true,AL,true_or,if_true] at hx ⊢
  rw [pI _ h1,AA,bI (by show _<=68719476736;omega),AL];rfl
 ·by_cases c7:t.1=7
  ·simp only [c7,decide_true,AL,or_true,if_true] at hx ⊢
   rw [show decide ((7:Int)=4)=false from rfl,AJ,pI _ h1,AA,bI (by show _<=68719476736;omega),AL];rfl
  ·by_cases c6:t.1=6
   ·simp only [c6,decide_true,AL,if_true] at hx ⊢
    rw [AX (by omega),AQ] at hx
    rw [show decide ((6:Int)=4)=false from rfl,show decide ((6:Int)=7)=false from rfl,AJ,AJ,AX (by omega),pI _ h1,AA,bI (by show _<=68719476736;omega),AL,pI _ h2,AA,bI (by show (z++_).length+_<=68719476736;rw [AQ];omega),AL,← Ab];rfl
   ·by_cases c5:t.1=5
    ·simp only [c5,decide_true,AL,if_true] at hx ⊢
     rw [AX (by omega),AX (by omega)] at hx
     rw [show decide ((5:Int)=4)=false from rfl,show decide ((5:Int)=7)=false from rfl,show decide ((5:Int)=6)=false from rfl,AJ,AJ,AJ,AX (by omega),AX (by omega),QEd _ h3 h4 (by omega),AA,bI (by show _<=68719476736;omega),AL];rfl
    ·simp only [decide_false,AJ,c4,c5,c6,c7,or_self,if_false,List.append_nil]
theorem QLM (m:cK) (w:QQu m) (ho:∀ f∈m.2.2.1,Op8 f.2.2.2.2.1) (hc:(xA m).length<=1000000):zK m=some (xA m):=by
 show vP (Gb (jM big) big) m=_
 unfold vP xA at *
 obtain ⟨⟨h1,h2⟩,⟨h3,h4⟩,h5,h6⟩:=w
 simp only [AQ] at hc
 rw [QCG m.1 h1,AA]
 have code:∀ (aI aJ) (self:Int×cK×List Int->Option (List Int)) (i:Nat) (f:cO) (x:List Int),i < m.2.2.1.length->QLQ f->Op8 f.2.2.2.2.1->x.length+((f.2.2.2.2.1.flatMap enc).length+((T.dK f.2.2.2.2.2.1).length+(T.dK f.2.2.2.2.2.2.1).length))<=1000000->
   Gb (jP big aI aJ self) big ((i:Int),0,m,x,f)=self (((i+1:Nat):Int),m,x++(f.2.2.2.2.1.flatMap enc++(T.dK f.2.2.2.2.2.1++T.dK f.2.2.2.2.2.2.1))):=by
  intro aI aJ self i f x hi hf hop hx
  have h8:=T.tF.1 hf.s1.2.2
  have h9:=T.tF.1 hf.s2.2.2
  have:=fF (g:=jP big aI aJ self) (mk:=fun k x=>((i:Int),(k:Int),m,x,f)) (l:=f.2.2.2.2.1) (cod:=enc) (kk:=fun x=>self (((i+1:Nat):Int),m,x++(T.dK f.2.2.2.2.2.1++T.dK f.2.2.2.2.2.2.1))) (B:=1000000 - ((T.dK f.2.2.2.2.2.1).length+(T.dK f.2.2.2.2.2.2.1).length))
   (fun self k x hk hx=>by
    have hcc:=hf.code.2 _ (Ae hk)
    have hoo:=hop _ (Ae hk)
    simp only [jP,wE,dz hk,AL,gI hk,AA,wS hk (by have:=hf.code.1;omega),QHQ hoo.1 hoo.2 hcc.1 hcc.2]
    rw [bI (by show _<=68719476736;omega),AL];rfl)
   (fun self x hx=>by
    simp only [jP,wE,dx,AJ,wS hi (by omega),T.QF1 h8.2 h8.1.2 hf.s1.2.1,T.QF1 h9.2 h9.1.2 hf.s2.2.1,AA]
    rw [bI (by show _<=68719476736;omega),AL,bI (by show (x++_).length+_<=68719476736;rw [AQ];omega),AL,← Ab];rfl) f.2.2.2.2.1.length 0 big x (by omega) (dP (by have:=hf.code.1;omega)) (by simp only [List.drop_zero];omega)
  refine Eq.trans this ?_
  simp only [List.drop_zero,Ab]
 have fns:∀ (aI aJ) (x:List Int),x.length+(m.2.2.1.flatMap dQ).length<=1000000->Gb (jO big aI aJ) big (0,m,x)=some (x++m.2.2.1.flatMap dQ):=by
  intro aI aJ x hx
  exact fF (g:=jO big aI aJ) (mk:=fun i x=>((i:Int),m,x)) (l:=m.2.2.1) (cod:=dQ) (kk:=some) (B:=1000000)
   (fun self i x hi hx=>by
    have hf:=h6 _ (Ae hi)
    have hop:=ho _ (Ae hi)
    unfold dQ said at *
    simp only [AQ] at hx
    simp only [jO,qh,dz hi,AL,gI hi,AA,QGl _ hf.name,pI _ hf.par,QFB _ hf.res.1 hf.res.2,mg _ (QFm hf.res.1 hf.res.2),QEd _ hf.sl.1 hf.sl.2 (by omega),QCG _ hf.code.1]
    rw [bI (by rw [AQ];show _<=68719476736;omega),AL]
    change (bif _&&Nat.ble ((x++_).length+_) _ then _ else _)=_
    rw [bI (by simp only [AQ];show _<=68719476736;omega),AL]
    change (bif _&&Nat.ble (((x++_)++_).length+_) _ then _ else _)=_
    rw [bI (by simp only [AQ];show _<=68719476736;omega),AL]
    change (bif _&&Nat.ble ((((x++_)++_)++_).length+_) _ then _ else _)=_
    rw [bI (by simp only [AQ];show _<=68719476736;omega),AL]
    change (bif _&&Nat.ble (((((x++_)++_)++_)++_).length+_) _ then _ else _)=_
    rw [bI (by simp only [AQ];show _<=68719476736;omega),AL]
    refine (code _ _ self i _ (((((x++_)++_)++_)++_)++_) hi hf hop (by simp only [AQ];omega)).trans ?_
    simp only [Ab])
   (fun self x hx=>by simp only [jO,qh,dx,AJ]) m.2.2.1.length 0 big x (by omega) (dP (by omega)) (by simpa using hx)
 have txs:∀ (aI) (x:List Int),x.length+((m.2.1.flatMap said).length+((vary m.2.2.1.length).length+(m.2.2.1.flatMap dQ).length))<=1000000->Gb (jN big aI) big (0,m,x)=some (x++(m.2.1.flatMap said++(vary m.2.2.1.length++m.2.2.1.flatMap dQ))):=by
  intro aI x hx
  have:=fF (g:=jN big aI) (mk:=fun i x=>((i:Int),m,x)) (l:=m.2.1) (cod:=said) (kk:=fun x=>some (x++(vary m.2.2.1.length++m.2.2.1.flatMap dQ))) (B:=1000000 - ((vary m.2.2.1.length).length+(m.2.2.1.flatMap dQ).length))
   (fun self i x hi hx=>by
    unfold said at *
    simp only [jN,qg,dz hi,AL,gI hi,AA,wS hi (by omega),QGl _ (h4 _ (Ae hi))]
    rw [bI (by show _<=68719476736;omega),AL];rfl)
   (fun self x hx=>by
    simp only [jN,qg,dx,AJ,QCG _ h5,AA]
    rw [bI (by show _<=68719476736;omega),AL]
    refine (fns _ _ (x++_) (by rw [AQ];omega)).trans ?_
    rw [Ab]) m.2.1.length 0 big x (by omega) (dP (by omega)) (by simp only [List.drop_zero];omega)
  refine Eq.trans this ?_
  simp only [List.drop_zero,Ab]
 have:=fF (g:=jM big) (mk:=fun i x=>((i:Int),m,x)) (l:=m.1) (cod:=QAA) (kk:=fun x=>some (x++(vary m.2.1.length++(m.2.1.flatMap said++(vary m.2.2.1.length++m.2.2.1.flatMap dQ))))) (B:=1000000 - ((vary m.2.1.length).length+((m.2.1.flatMap said).length+((vary m.2.2.1.length).length+(m.2.2.1.flatMap dQ).length))))
  (fun self i x hi hx=>by
   have ht:=h2 _ (Ae hi)
   unfold QAA at *
   simp only [Af] at hx
   have e:∀ y:List Int,x++(m.1[i]).1::y=(x++[(m.1[i]).1])++y:=fun y=>by simp
   rw [e]
   have k:=kindTail m.1[i] (x++[(m.1[i]).1]) (fun y=>self (((i+1:Nat):Int),m,y)) ht (by rw [AQ];simp only [Af,Au];omega)
   simp only [jM,qd,dz hi,AL,gI hi,AA,wS hi (by omega)]
   rw [bI (by simp only [Af,Au];show _<=68719476736;omega),AL]
   refine Eq.trans ?_ k
   simp only [K.y7]
   change (bif decide _ then (bif decide _ then _ else _) else _)=_
   by_cases c4:(m.1[i]).1=4
   ·rw [AB c4];rfl
   ·rw [AF c4];rfl)
  (fun self x hx=>by
   simp only [jM,qd,dx,AJ,QCG _ h3,AA]
   rw [bI (by show _<=68719476736;omega),AL]
   refine (txs _ (x++_) (by rw [AQ];omega)).trans ?_
   rw [Ab]) m.1.length 0 big (vary m.1.length) (by omega) (dP (by omega)) (by simp only [List.drop_zero];omega)
 refine Eq.trans this ?_
 simp only [List.drop_zero,Ab]
structure QCV (m:cK):Prop where
 ty:m.1.length<=1000000/\∀ t∈m.1,t.2.2.2.1.length<=1000
 fn:∀ f∈m.2.2.1,Op8 f.2.2.2.2.1/\f.2.2.2.2.2.1.length<=1000000/\f.2.2.2.2.2.2.1.length<=1000000
 mem:QQt m
theorem QCV.l {m:cK} (h:QCV m):QKW m:=⟨h.ty.1,fun f hf=>(h.fn f hf).2,h.mem⟩
theorem QOw (m:cK) (h:QCV m):uj m=some (chk m):=by
 show zX m=_
 unfold zX chk
 rw [QNl m ⟨h.ty,h.fn⟩,AA]
 by_cases hv:QA1 m=true
 ·obtain ⟨g1,g2⟩:=QMh hv h.mem
  rw [hv,Az,AJ,QLM m g1 (fun f hf=>(h.fn f hf).1) g2,AA,AY rfl]
  by_cases hl:(xA m).length > 20000
  ·rw [AB (by omega),AY hl];rfl
  ·rw [AF (by omega),AX hl];rfl
 ·rw [AX hv]
  simp only [Bool.not_eq_true] at hv
  rw [hv];rfl
theorem QIF {m:cK} (h:chk m=0):QA1 m=true/\(xA m).length<=20000:=by
 unfold chk at h
 split at h
 ·rename_i hv
  split at h
  ·omega
  ·exact ⟨hv,by omega⟩
 ·omega
theorem w64 {z:Int} (h:0<=z) (h':z<=9223372036854775807):IntKind.i64.wrap z=z:=T.t64 (by omega) h'
abbrev QP7:Ty:=.pair .str (.pair (.int .i64) .unit)
abbrev QVr:Ty:=.pair (.int .u8) (.pair (.int .i64) (.pair (.int .i64) (.pair (.slice QP7) .unit)))
abbrev QUl:Ty:=.pair (.int .u8) (.pair (.int .i64) (.pair (.int .i64) (.pair (.int .i64) .unit)))
abbrev QR7:Ty:=.pair (.int .i64) (.pair (.int .u64) .unit)
abbrev QLP:Ty:=.pair .str (.pair (.int .i64) (.pair (.int .i64) (.pair (.slice QP7) (.pair (.slice QUl) (.pair (.slice QR7) (.pair (.slice QR7) .unit))))))
abbrev QLh:Ty:=.pair (.slice QVr) (.pair (.slice .str) (.pair (.slice QLP) .unit))
theorem wf_i64 {n:Int} (w:Wf (.int .i64) n):I64 n:=by
 have : -9223372036854775808<=n/\n<=9223372036854775807:=by simpa only [Wf,min_i64,show IntKind.i64.max=9223372036854775807 by decide] using w
 exact this
theorem wf_u64 {n:Int} (w:Wf (.int .u64) n):0<=n/\n<=18446744073709551615:=by simpa only [Wf,min_u64,max_u64] using w
theorem wf_u8 {n:Int} (w:Wf (.int .u8) n):0<=n/\n<=255:=by
 simpa only [Wf,show IntKind.u8.min=0 by decide,show IntKind.u8.max=255 by decide] using w
theorem QHs {l:List T.Tc} (w:Wf (.slice QR7) l):T.V64 l:=fun r hr=>by
 have:=wf_u64 (w.2 r hr).2.1
 exact ⟨this.1,by omega⟩
theorem QSi {m:cK} (w:Wf QLh m) (g:QUk m):QCV m/\QYe m:=by
 have wf:∀ f∈m.2.2.1,Wf QLP f:=fun f hf=>w.2.2.1.2 f hf
 refine ⟨⟨⟨by have:=g.ty.1;omega,fun t ht=>by have:=g.ty.2 t ht;omega⟩,fun f hf=>?_,fun f hf=>?_⟩,⟨⟨by have:=g.ty.1;omega,fun t ht=>by have:=g.ty.2 t ht;omega⟩,by have:=g.tx;omega,by have:=g.fn.1;omega,fun f hf=>?_⟩⟩
 ·have h:=wf f hf
  have h1:=g.fn.2 f hf
  exact ⟨fun x hx=>wf_u8 (h.2.2.2.2.1.2 x hx).1,by have:=h1.s1;omega,by have:=h1.s2;omega⟩
 ·have h:=wf f hf
  exact ⟨wf_i64 h.2.2.1,fun x hx=>⟨wf_i64 (h.2.2.2.2.1.2 x hx).2.1,wf_i64 (h.2.2.2.2.1.2 x hx).2.2.1,wf_i64 (h.2.2.2.2.1.2 x hx).2.2.2.1⟩,QHs h.2.2.2.2.2.1,QHs h.2.2.2.2.2.2.1⟩
 ·have h1:=g.fn.2 f hf
  exact ⟨by have:=h1.sl;omega,by have:=h1.code;omega,by have:=h1.s1;omega,by have:=h1.s2;omega⟩
end Go.Proofs.YtbgmjjplddddnaaGreatDoor
