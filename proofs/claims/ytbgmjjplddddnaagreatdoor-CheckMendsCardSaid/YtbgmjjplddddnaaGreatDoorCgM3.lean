import Derived.Test.YtbgmjjplddddnaaGreatDoorCgK2
set_option linter.unusedVariables false
set_option linter.unusedSimpArgs false
set_option linter.unusedSectionVars false
set_option maxRecDepth 100000
namespace Go.Proofs.YtbgmjjplddddnaaGreatDoor
open Go.Lift
abbrev dM:=List Int×Int×Int×List K.sS×List Ins×List T.TT×List T.TT×Unit
abbrev cB:=List K.cK×List (List Int)×List dM×Unit
theorem dh {i n:Nat} (h:i < n):decide ((i:Int) < (n:Int))=true:=AB (by omega)
theorem dZ {n:Nat}:decide ((n:Int) < (n:Int))=false:=by simp
theorem gI {α:Type} {l:List α} {i:Nat} (h:i < l.length):Nk l (i:Int)=some l[i]:=by
 unfold Nk
 simp [h,T.QRQ]
theorem wS {i n:Nat} (h:i < n) (hn:n<=1000000000):IntKind.i64.wrap ((i:Int)+1)=((i+1:Nat):Int):=by
 rw [T.t64 (by omega) (by omega)];rfl
theorem dS {n:Nat} (h:n<=1000000000):n < big:=QHO (by rw [QC7];omega)
theorem aU {V β:Type} {g:(V->Option β)->V->Option β} {mk:Nat->V} {p:Nat->Bool} {no kk:Option β} {n:Nat} (hs:∀ self i,i < n->g self (mk i)=bif p i then self (mk (i+1)) else no) (he:∀ self,g self (mk n)=kk) :
  ∀ (k i M:Nat),i+k=n->k < M->Gb g M (mk i)=bif (List.range' i k).all p then kk else no
 | k,i,0,_,h=>by omega
 | 0,i,M+1,hi,_=>by
  rw [WZ,show i=n by omega,he]
  rfl
 | k+1,i,M+1,hi,hM=>by
  rw [WZ,hs _ i (by omega),List.range'_succ,List.all_cons]
  cases p i with
  | false=>rfl
  | true=>
   rw [AL,Ai]
   exact aU hs he k (i+1) M (by omega) (by omega)
theorem QB8 {α:Type} (l:List α) (q:α->Bool):(List.range' 0 l.length).all (fun i=>(l[i]?).all q)=l.all q:=by
 rw [Bool.eq_iff_iff]
 simp only [List.all_eq_true,List.mem_range'_1]
 constructor
 ·intro h x hx
  obtain ⟨i,hi,rfl⟩:=List.mem_iff_getElem.1 hx
  have:=h i ⟨by omega,by omega⟩
  simpa [hi] using this
 ·intro h i hi
  have:i < l.length:=by omega
  simp [this,h _ (Ae this)]
theorem pat {α:Type} {l:List α} {q:α->Bool} {i:Nat} (h:i < l.length):(l[i]?).all q=q l[i]:=by simp [h]
def QAU (ns:List (List Int)):List (List Int×Bool):=ns.foldl (fun m s=>@MO .str .bool s true m) []
theorem QAn (ns:List (List Int)) (s:List Int):QAU (ns++[s])=@MO .str .bool s true (QAU ns):=by simp [QAU]
theorem QDp (ns:List (List Int)):∀ i,i<=ns.length->K.Marks .str (QAU (ns.take i)) (fun s=>s∈ns.take i)
 | 0,_=>by
  intro x
  simp [QAU,K.Marks.nil x]
 | i+1,hi=>by
  have ih:=QDp ns i (by omega)
  rw [Ah (by omega),QAn]
  intro x
  rw [ih.put ns[i] x]
  show (x=ns[i]∨x∈ns.take i)↔x∈ns.take i++[ns[i]]
  rw [List.mem_append,List.mem_singleton,or_comm]
def je (ns:List (List Int)):Bool:=ns.all K.dA&&decide ns.Nodup
theorem vZ (ns:List (List Int)):ns.Nodup↔∀ i (h:i < ns.length),ns[i] ∉ ns.take i:=by
 unfold List.Nodup
 rw [List.pairwise_iff_getElem]
 constructor
 ·intro h i hi hm
  obtain ⟨j,hj,e⟩:=List.mem_take_iff_getElem.1 hm
  exact h j i (by omega) hi (by omega) e
 ·intro h i j hi hj hij e
  exact h j hj (List.mem_take_iff_getElem.2 ⟨i,by omega,e⟩)
def pN (ns:List (List Int)) (i:Nat):Bool:=(ns[i]?).all fun s=>K.dA s&&!(@Pw .str .bool s false (QAU (ns.take i))).1
theorem QEn (ns:List (List Int)):(List.range' 0 ns.length).all (pN ns)=je ns:=by
 rw [Bool.eq_iff_iff]
 simp only [List.all_eq_true,List.mem_range'_1,je,AP,AZ,vZ]
 have key:∀ i (h:i < ns.length),pN ns i=true↔K.dA ns[i]=true/\ns[i] ∉ ns.take i:=by
  intro i h
  unfold pN
  rw [pat h,AP,Bool.not_eq_true',← Bool.not_eq_true,QDp ns i (by omega) ns[i]]
 constructor
 ·intro h
  refine ⟨fun s hs=>?_,fun i hi=>((key i hi).1 (h i ⟨by omega,by omega⟩)).2⟩
  obtain ⟨i,hi,rfl⟩:=List.mem_iff_getElem.1 hs
  exact ((key i hi).1 (h i ⟨by omega,by omega⟩)).1
 ·intro h i hi
  have hi':i < ns.length:=by omega
  exact (key i hi').2 ⟨h.1 _ (Ae hi'),h.2 i hi'⟩
def uw (l:List K.cK):Bool:=decide (K.Valid l)&&(List.range' 0 l.length).all fun i=>decide (K.sz (K.exS l) (i:Nat)<=256)
def zC (l:List (List Int)):Bool:=decide (l.length<=32)&&l.all fun s=>decide (s.length<=64)
def QA3 (n:Int) (fs:List K.sS):Bool:=decide (fs.length<=16)&&((fs.all fun f=>K.iP f.2.1 n)&&je (fs.map (·.1)))
def QAz (l:List Ins):Bool:=decide (1<=l.length)&&(decide (l.length<=200)&&l.all uz)
def okF (n:Int) (f:dM):Bool:=QA3 n f.2.2.2.1&&(decide (0<=f.2.1)&&(decide (f.2.1<=f.2.2.2.1.length)&&((decide (f.2.2.1 = -1)||K.iP f.2.2.1 n)&&(QAz f.2.2.2.2.1&&(decide (T.iG f.2.2.2.2.2.1 f.2.2.2.2.1.length=0)&&decide (T.iG f.2.2.2.2.2.2.1 f.2.2.2.2.1.length=0))))))
def QAJ (l:List dM) (n:Int):Bool:=decide (1<=l.length)&&(decide (l.length<=32)&&(l.all (okF n)&&je (l.map (·.1))))
def zR (m:cB):Bool:=uw m.1&&(zC m.2.1&&QAJ m.2.2.1 m.1.length)
theorem QK0:K.Valid []:=by
 refine ⟨by simp,fun i h=>by simp at h,?_⟩
 simp [K.wN,K.xk]
theorem QJz (l:List K.cK):(List.range' 0 l.length).all (fun i=>decide (K.yD l (i:Nat)=0))=uw l:=by
 rw [Bool.eq_iff_iff]
 simp only [uw,List.all_eq_true,List.mem_range'_1,AP,AZ]
 constructor
 ·intro h
  refine ⟨?_,fun i hi=>(K.QF6 (h i hi)).2.2.2⟩
  cases l with
  | nil=>exact QK0
  | cons t r=>exact (K.QF6 (h 0 ⟨by omega,by simp⟩)).1
 ·intro h i hi
  exact K.QBs h.1 (by omega) (by omega) (h.2 i hi)
theorem QGR (l:List K.cK) (hl:l.length<=1000000):sj l=some (uw l):=by
 show oO (Gb (eX big) big) l=_
 unfold oO
 have:=aU (g:=eX big) (mk:=fun i=>(l,(l.length:Int),(i:Int))) (p:=fun i=>decide (K.yD l (i:Nat)=0)) (no:=some false) (kk:=some true) (n:=l.length)
  (fun self i hi=>by
   simp only [eX,qM,dh hi,AL,K.QIX,AA,wS hi (by omega)]
   by_cases h:K.yD l (i:Nat)=0
   ·simp [h]
   ·have e:(K.yD l (i:Nat) != (0:Int))=true:=by simp [h]
    rw [AX h,AF h]
    exact (congrArg (fun b=>bif b then some false else self (l,↑l.length,((i+1:Nat):Int))) e).trans rfl)
  (fun self=>by simp only [eX,qM,dZ,AJ]) l.length 0 big (by omega) (dS (by omega))
 rw [QJz] at this
 rw [show ((0:Nat):Int)=0 from rfl] at this
 rw [this]
 cases uw l <;> rfl
theorem QGQ (l:List (List Int)):sZ l=some (zC l):=by
 show oN (Gb (eU big) big) l=_
 unfold oN zC
 by_cases h:l.length<=32
 ·rw [AF (by omega),AJ,AB h,Ai]
  have:=aU (g:=eU big) (mk:=fun i=>(l,(l.length:Int),(i:Int))) (p:=fun i=>(l[i]?).all fun s=>decide (s.length<=64)) (no:=some false) (kk:=some true) (n:=l.length)
   (fun self i hi=>by
    rw [pat hi]
    simp only [eU,qL,dh hi,AL,gI hi,AA,wS hi (by omega)]
    by_cases h:l[i].length<=64
    ·rw [AF (by omega),AB h];rfl
    ·rw [AB (by omega),AF h];rfl)
   (fun self=>by simp only [eU,qL,dZ,AJ]) l.length 0 big (by omega) (dS (by omega))
  rw [QB8] at this
  rw [show ((0:Nat):Int)=0 from rfl] at this
  rw [this]
  cases l.all fun s=>decide (s.length<=64) <;> rfl
 ·rw [AB (by omega),AL,AF h];rfl
theorem QCK (x n:Int):lV (x,n)=some (K.iP x n):=by
 show vU (x,n)=_
 unfold vU K.iP
 dsimp only
 by_cases h:0<=x
 ·rw [AB (show x≥0 from h),AL];rfl
 ·rw [AF (show ¬ x≥0 from h),AJ];rfl
theorem QJr (fs:List K.sS) (hl:fs.length<=1000) (aG):Gb (eT big aG) big (fs,(fs.length:Int),(0:Int),([]:List (List Int×Bool)))=some (je (fs.map (·.1))):=by
 have hm:(fs.map (·.1)).length=fs.length:=Aw _
 have:=aU (g:=eT big aG) (mk:=fun i=>(fs,(fs.length:Int),(i:Int),QAU ((fs.map (·.1)).take i))) (p:=pN (fs.map (·.1))) (no:=some false) (kk:=some true) (n:=fs.length)
  (fun self i hi=>by
   have hi':i < (fs.map (·.1)).length:=by omega
   unfold pN
   rw [pat hi']
   simp only [eT,qK,dh hi,AL,gI hi,AA,wS hi (by omega),show kX fs[i]=some fs[i].1 from rfl,K.QDJ,List.getElem_map]
   cases h1:K.dA fs[i].1 with
   | false=>rfl
   | true=>
    cases h2:(@Pw .str .bool fs[i].1 false (QAU ((fs.map (·.1)).take i))).1 with
    | true=>rfl
    | false=>
     rw [Ah hi',QAn]
     simp only [List.getElem_map]
     rfl)
  (fun self=>by simp only [eT,qK,dZ,AJ]) fs.length 0 big (by omega) (dS (by omega))
 rw [← hm,QEn,hm] at this
 refine Eq.trans this ?_
 cases je (fs.map (·.1)) <;> rfl
theorem QGP (fs:List K.sS) (n:Int):sW (fs,n)=some (QA3 n fs):=by
 show oM (Gb (eP big) big) (fs,n)=_
 unfold oM QA3
 dsimp only
 by_cases h:fs.length<=16
 ·rw [AF (by omega),AJ,AB h,Ai]
  have:=aU (g:=eP big) (mk:=fun i=>(fs,n,fs,(fs.length:Int),(i:Int))) (p:=fun i=>(fs[i]?).all fun f=>K.iP f.2.1 n) (no:=some false) (kk:=some (je (fs.map (·.1)))) (n:=fs.length)
   (fun self i hi=>by
    rw [pat hi]
    simp only [eP,lC,dh hi,AL,gI hi,AA,wS hi (by omega),QCK]
    cases K.iP fs[i].2.1 n <;> rfl)
   (fun self=>by
    simp only [eP,lC,dZ,AJ]
    exact QJr fs (by omega) self) fs.length 0 big (by omega) (dS (by omega))
  rw [QB8] at this
  refine Eq.trans this ?_
  cases (fs.all fun f=>K.iP f.2.1 n) <;> rfl
 ·rw [AB (by omega),AL,AF h];rfl
theorem QJb (l:List Ins):rP l=some (QAz l):=by
 show sG (Gb (gP big) big) l=_
 unfold sG QAz
 by_cases h1:1<=l.length
 ·by_cases h:l.length<=200
  ·rw [AF (by omega),AF (by omega),AJ,AJ,AB h,AB h1,Ai,Ai]
   have:=aU (g:=gP big) (mk:=fun i=>(l,(l.length:Int),(i:Int))) (p:=fun i=>(l[i]?).all uz) (no:=some false) (kk:=some true) (n:=l.length)
    (fun self i hi=>by
     rw [pat hi]
     simp only [gP,tJ,dh hi,AL,gI hi,AA,wS hi (by omega),xw]
     cases uz l[i] <;> rfl)
    (fun self=>by simp only [gP,tJ,dZ,AJ]) l.length 0 big (by omega) (dS (by omega))
   rw [QB8] at this
   refine Eq.trans this ?_
   cases l.all uz <;> rfl
  ·rw [AF (by omega),AB (by omega),AB h1,AF h];rfl
 ·rw [AB (by omega),AF h1];rfl
theorem QJc (f:dM) (n:Int) (h1:f.2.2.2.2.2.1.length<=1000000) (h2:f.2.2.2.2.2.2.1.length<=1000000):rQ (f,n)=some (okF n f):=by
 show xS (f,n)=_
 unfold xS okF
 simp only [QGP,QJb,QCK,AA,T.QCA _ _ (show f.2.2.2.2.2.1.length<=9223372036854775807 by omega),T.QCA _ _ (show f.2.2.2.2.2.2.1.length<=9223372036854775807 by omega)]
 cases QA3 n f.2.2.2.1 with
 | false=>rfl
 | true=>
  simp only [Az,AJ,Ai]
  by_cases a1:0<=f.2.1
  ·rw [AF (show ¬ f.2.1 < 0 by omega),AJ,AB a1,Ai]
   by_cases a2:f.2.1<=f.2.2.2.1.length
   ·rw [AF (show ¬ f.2.1 > f.2.2.2.1.length by omega),AJ,AB a2,Ai]
    have key:∀ b:Bool,(bif QAz f.2.2.2.2.1 then (bif T.iG f.2.2.2.2.2.1 f.2.2.2.2.1.length==0 then some (T.iG f.2.2.2.2.2.2.1 f.2.2.2.2.1.length==0) else some false) else some false)=some (QAz f.2.2.2.2.1&&(decide (T.iG f.2.2.2.2.2.1 f.2.2.2.2.1.length=0)&&decide (T.iG f.2.2.2.2.2.2.1 f.2.2.2.2.1.length=0))):=by
     intro _
     cases QAz f.2.2.2.2.1 with
     | false=>rfl
     | true=>rw [K.mR,K.mR];by_cases c1:T.iG f.2.2.2.2.2.1 f.2.2.2.2.1.length=0 <;> simp [c1]
    by_cases a3:f.2.2.1 = -1
    ·rw [show (f.2.2.1 != -1)=false by simp [a3],AJ,AB a3,Bool.true_or,Ai]
     exact key true
    ·rw [show (f.2.2.1 != -1)=true by simp [a3],AL,AF a3,Bool.false_or]
     cases K.iP f.2.2.1 n with
     | false=>rfl
     | true=>exact key true
   ·rw [AB (show f.2.1 > f.2.2.2.1.length by omega),AF a2];rfl
  ·rw [AB (show f.2.1 < 0 by omega),AF a1];rfl
theorem QJa (l:List dM) (hl:l.length<=1000) (aG):Gb (eO big aG) big (l,(l.length:Int),(0:Int),([]:List (List Int×Bool)))=some (je (l.map (·.1))):=by
 have hm:(l.map (·.1)).length=l.length:=Aw _
 have:=aU (g:=eO big aG) (mk:=fun i=>(l,(l.length:Int),(i:Int),QAU ((l.map (·.1)).take i))) (p:=pN (l.map (·.1))) (no:=some false) (kk:=some true) (n:=l.length)
  (fun self i hi=>by
   have hi':i < (l.map (·.1)).length:=by omega
   unfold pN
   rw [pat hi']
   simp only [eO,qJ,dh hi,AL,gI hi,AA,wS hi (by omega),show kW l[i]=some l[i].1 from rfl,K.QDJ,List.getElem_map]
   cases h1:K.dA l[i].1 with
   | false=>rfl
   | true=>
    cases h2:(@Pw .str .bool l[i].1 false (QAU ((l.map (·.1)).take i))).1 with
    | true=>rfl
    | false=>
     rw [Ah hi',QAn]
     simp only [List.getElem_map]
     rfl)
  (fun self=>by simp only [eO,qJ,dZ,AJ]) l.length 0 big (by omega) (dS (by omega))
 rw [← hm,QEn,hm] at this
 refine Eq.trans this ?_
 cases je (l.map (·.1)) <;> rfl
theorem QGO (l:List dM) (n:Int) (hf:∀ f∈l,f.2.2.2.2.2.1.length<=1000000/\f.2.2.2.2.2.2.1.length<=1000000):sV (l,n)=some (QAJ l n):=by
 show oL (Gb (eH big) big) (l,n)=_
 unfold oL QAJ
 dsimp only
 by_cases h1:1<=l.length
 ·by_cases h:l.length<=32
  ·rw [AF (by omega),AF (by omega),AJ,AJ,AB h,AB h1,Ai,Ai]
   have:=aU (g:=eH big) (mk:=fun i=>(l,n,l,(l.length:Int),(i:Int))) (p:=fun i=>(l[i]?).all (okF n)) (no:=some false) (kk:=some (je (l.map (·.1)))) (n:=l.length)
    (fun self i hi=>by
     rw [pat hi]
     simp only [eH,ku,dh hi,AL,gI hi,AA,wS hi (by omega),QJc l[i] n (hf _ (Ae hi)).1 (hf _ (Ae hi)).2]
     cases okF n l[i] <;> rfl)
    (fun self=>by
     simp only [eH,ku,dZ,AJ]
     exact QJa l (by omega) self) l.length 0 big (by omega) (dS (by omega))
   rw [QB8] at this
   refine Eq.trans this ?_
   cases l.all (okF n) <;> rfl
  ·rw [AF (by omega),AB (by omega),AB h1,AF h];rfl
 ·rw [AB (by omega),AF h1];rfl
theorem QHe (m:cB) (ht:m.1.length<=1000000) (hf:∀ f∈m.2.2.1,f.2.2.2.2.2.1.length<=1000000/\f.2.2.2.2.2.2.1.length<=1000000):pR m=some (zR m):=by
 show vV m=_
 unfold vV zR
 rw [QGR _ ht,QGQ,QGO _ _ hf]
 cases uw m.1 <;> cases zC m.2.1 <;> rfl
def said (s:List Int):List Int:=vary s.length++s
def qw (f:K.sS):List Int:=said f.1++vary f.2.1.toNat
def yV (fs:List K.sS):List Int:=vary fs.length++fs.flatMap qw
def QEt (t:K.cK):List Int:=if t.1=4∨t.1=7 then vary t.2.1.toNat else if t.1=6 then vary t.2.1.toNat++vary t.2.2.1.toNat else if t.1=5 then yV t.2.2.2.1 else []
def zZ (t:K.cK):List Int:=t.1::QEt t
def dW (f:dM):List Int:=said f.1++(vary f.2.1.toNat++(vary (dbl f.2.2.1)++(yV f.2.2.2.1++(vary f.2.2.2.2.1.length++(f.2.2.2.2.1.flatMap enc++(T.dP f.2.2.2.2.2.1++T.dP f.2.2.2.2.2.2.1))))))
def wD (m:cB):List Int:=vary m.1.length++(m.1.flatMap zZ++(vary m.2.1.length++(m.2.1.flatMap said++(vary m.2.2.1.length++m.2.2.1.flatMap dW))))
def P63 (n:Int):Prop:=0<=n/\n<=9223372036854775807
def QHH (f:K.sS):Prop:=f.1.length<=200000/\P63 f.2.1
def QJS (t:K.cK):Prop:=P63 t.2.1/\P63 t.2.2.1/\t.2.2.2.1.length<=1000000/\∀ f∈t.2.2.2.1,QHH f
structure QKM (f:dM):Prop where
 name:f.1.length<=200000
 par:P63 f.2.1
 res:I64 f.2.2.1
 sl:f.2.2.2.1.length<=1000000/\∀ x∈f.2.2.2.1,QHH x
 code:f.2.2.2.2.1.length<=1000000/\∀ x∈f.2.2.2.2.1,uz x=true/\WfI x
 s1:f.2.2.2.2.2.1.length<=1000000/\T.V64 f.2.2.2.2.2.1/\T.iG f.2.2.2.2.2.1 f.2.2.2.2.1.length=0
 s2:f.2.2.2.2.2.2.1.length<=1000000/\T.V64 f.2.2.2.2.2.2.1/\T.iG f.2.2.2.2.2.2.1 f.2.2.2.2.1.length=0
structure QPi (m:cB):Prop where
 ty:m.1.length<=1000000/\∀ t∈m.1,QJS t
 tx:m.2.1.length<=1000000/\∀ s∈m.2.1,s.length<=200000
 fn:m.2.2.1.length<=1000000/\∀ f∈m.2.2.1,QKM f
abbrev L36:Nat:=68719476736
theorem dN {a b:List Int} (h:a.length+b.length<=L36):(Nat.ble 1 1&&Nat.ble (List.length a+List.length b) lim)=true:=by
 rw [b11,eF h];rfl
theorem iE {V α β:Type} {g:(V->Option β)->V->Option β} {mk:Nat->List Int->V} {l:List α} {cod:α->List Int} {kk:List Int->Option β} {B:Nat}
  (hs:∀ self i x (h:i < l.length),x.length+(cod l[i]).length<=B->g self (mk i x)=self (mk (i+1) (x++cod l[i]))) (he:∀ self x,x.length<=B->g self (mk l.length x)=kk x) :
  ∀ (k i M:Nat) (x:List Int),i+k=l.length->k < M->x.length+((l.drop i).flatMap cod).length<=B->Gb g M (mk i x)=kk (x++(l.drop i).flatMap cod)
 | k,i,0,_,_,h,_=>by omega
 | 0,i,M+1,x,hi,_,hx=>by
  rw [WZ,show i=l.length by omega,he _ _ (by omega)]
  simp
 | k+1,i,M+1,x,hi,hM,hx=>by
  have hi':i < l.length:=by omega
  rw [A9 hi',List.flatMap_cons] at hx ⊢
  rw [AQ] at hx
  rw [WZ,hs _ i x hi' (by omega),iE hs he k (i+1) M _ (by omega) (by omega) (by rw [AQ];omega),Ab]
theorem jV (x:List Int) (n:Int) (h:P63 n) (hx:x.length+(vary n.toNat).length<=L36):aM x (n,())=some (x++vary n.toNat):=by
 show iY x (n,())=_
 unfold iY
 obtain ⟨h0,h1⟩:=h
 obtain ⟨k,rfl⟩:=BK h0
 have e:IntKind.u64.wrap (k:Int)=(k:Int):=Vl ⟨by rw [min_u64];omega,by rw [max_u64];omega⟩
 simp only [e,xB k (by omega),AA,Aj] at hx ⊢
 rw [dN hx,AL];rfl
theorem uy {α:Type} (x:List Int) (l:List α) (hl:l.length<=1000000) (hx:x.length+(vary l.length).length<=L36):aM x ((l.length:Int),())=some (x++vary l.length):=by
 have:=jV x (l.length:Int) ⟨by omega,by omega⟩ (by simpa using hx)
 simpa using this
theorem QAg (x s:List Int) (h:s.length<=200000) (hx:x.length+(said s).length<=L36):gW x (s,())=some (x++said s):=by
 show lI x (s,())=_
 unfold lI
 unfold said at hx ⊢
 simp only [QNu,AX (show ¬ s.length > 200000 by omega),AA]
 rw [dN hx,AL];rfl
theorem QCH (x:List Int) (f:K.sS) (h:QHH f) (hx:x.length+(qw f).length<=L36):jc x (f,())=some (x++qw f):=by
 show ji x (f,())=_
 unfold ji qw at *
 rw [AQ] at hx
 dsimp only
 rw [QAg x f.1 h.1 (by omega),AA,jV _ _ h.2 (by rw [AQ];omega),AA,Ab]
theorem QJy (fs:List K.sS) (x:List Int) (hl:fs.length<=1000000) (hf:∀ f∈fs,QHH f) (hx:x.length+(fs.flatMap qw).length<=L36) :
  Gb (bL big) big (fs,(fs.length:Int),(0:Int),x)=some (x++fs.flatMap qw):=by
 exact iE (g:=bL big) (mk:=fun i x=>(fs,(fs.length:Int),(i:Int),x)) (l:=fs) (cod:=qw) (kk:=some) (B:=L36)
  (fun self i x hi hx=>by
   simp only [bL,nQ,dh hi,AL,gI hi,AA,wS hi (by omega),QCH x fs[i] (hf _ (Ae hi)) hx])
  (fun self x hx=>by simp only [bL,nQ,dZ,AJ]) fs.length 0 big x (by omega) (dS (by omega)) (by simpa using hx)
theorem QHM (x:List Int) (t:K.cK) (h:QJS t) (hx:x.length+(zZ t).length<=L36):pQ x (t,())=some (x++zZ t):=by
 show lJ (Gb (bL big) big) x (t,())=_
 unfold lJ zZ at *
 obtain ⟨h1,h2,h3,h4⟩:=h
 simp only [Af] at hx
 dsimp only
 rw [dN (by simp;omega),AL]
 have e:∀ y:List Int,x++t.1::y=(x++[t.1])++y:=fun y=>by simp
 rw [e]
 have hx1:(List.append x [t.1]).length=x.length+1:=by simp
 show _=some (List.append x [t.1]++_)
 generalize List.append x [t.1]=z at *
 unfold QEt at *
 simp only [K.mR]
 by_cases c4:t.1=4
 ·simp only [c4,decide_true,AL,true_or,if_true] at hx ⊢
  rw [jV z _ h1 (by omega)];rfl
 ·by_cases c7:t.1=7
  ·simp only [c7,decide_true,AL,or_true,if_true] at hx ⊢
   rw [show decide ((7:Int)=4)=false from rfl,AJ,jV z _ h1 (by omega)];rfl
  ·by_cases c6:t.1=6
   ·simp only [c6,decide_true,AL,if_true] at hx ⊢
    rw [AX (by omega),AQ] at hx
    rw [show decide ((6:Int)=4)=false from rfl,show decide ((6:Int)=7)=false from rfl,AJ,AJ,AX (by omega),jV z _ h1 (by omega),AA,jV _ _ h2 (by rw [AQ];omega),AA,Ab]
   ·by_cases c5:t.1=5
    ·simp only [c5,decide_true,AL,if_true] at hx ⊢
     rw [AX (by omega),AX (by omega)] at hx
     unfold yV at *
     rw [AQ] at hx
     rw [show decide ((5:Int)=4)=false from rfl,show decide ((5:Int)=7)=false from rfl,show decide ((5:Int)=6)=false from rfl,AJ,AJ,AJ,AX (by omega),AX (by omega),uy z _ h3 (by omega),AA,QJy _ _ h3 h4 (by rw [AQ];omega),Ab]
    ·simp only [decide_false,AJ,c4,c5,c6,c7,or_self,if_false,List.append_nil]
theorem QGM (x:List Int) (y:Ins) (h:uz y=true) (w:WfI y) (hx:x.length+(enc y).length<=L36):og x (y,())=some (x++enc y):=by
 show jl x (y,())=_
 unfold jl
 simp only [QJD y w,h,if_true,AA]
 rw [dN hx,AL];rfl
theorem QDL (x:List Int) (l:List T.TT) (n:Nat) (h:l.length<=1000000) (hv:T.V64 l) (hc:T.iG l n=0) (hx:x.length+(T.dP l).length<=L36):kV x (l,((n:Int),()))=some (x++T.dP l):=by
 show lH x (l,((n:Int),()))=_
 unfold lH
 dsimp only
 rw [T.QHm l n (by omega) hv,T.encR,AX (by omega),AA]
 rw [dN hx,AL];rfl
theorem QHL (x:List Int) (f:dM) (h:QKM f) (hx:x.length+(dW f).length<=L36):pO x (f,())=some (x++dW f):=by
 show lG (Gb (dF big) big) x (f,())=_
 unfold lG dW yV at *
 obtain ⟨h1,h2,h3,h4,h5,h6,h7⟩:=h
 simp only [AQ] at hx
 dsimp only
 rw [QAg x _ h1 (by omega),AA,jV _ _ h2 (by rw [AQ];omega),AA,QEq _ h3.1 h3.2,AA,dN (by simp only [AQ];omega),AL]
 change (aM (_++_) _).bind _=_
 rw [uy _ _ h4.1 (by simp only [AQ];omega),AA]
 have inner:∀ (aG) (x:List Int),x.length+((f.2.2.2.2.1.flatMap enc).length+((T.dP f.2.2.2.2.2.1).length+(T.dP f.2.2.2.2.2.2.1).length))<=L36->Gb (dG big aG) big (f.2.2.2.2.1,(f.2.2.2.2.1.length:Int),(0:Int),x,f)=some (x++(f.2.2.2.2.1.flatMap enc++(T.dP f.2.2.2.2.2.1++T.dP f.2.2.2.2.2.2.1))):=by
  intro aG x hx
  have:=iE (g:=dG big aG) (mk:=fun i x=>(f.2.2.2.2.1,(f.2.2.2.2.1.length:Int),(i:Int),x,f)) (l:=f.2.2.2.2.1) (cod:=enc) (kk:=fun x=>some (x++(T.dP f.2.2.2.2.2.1++T.dP f.2.2.2.2.2.2.1))) (B:=L36 - ((T.dP f.2.2.2.2.2.1).length+(T.dP f.2.2.2.2.2.2.1).length))
   (fun self i x hi hx=>by
    have hc:=h5.2 _ (Ae hi)
    simp only [dG,nP,dh hi,AL,gI hi,AA,wS hi (by omega),QGM x f.2.2.2.2.1[i] hc.1 hc.2 (by omega)])
   (fun self x hx=>by
    simp only [dG,nP,dZ,AJ]
    rw [QDL x _ _ h6.1 h6.2.1 h6.2.2 (by omega),AA,QDL _ _ _ h7.1 h7.2.1 h7.2.2 (by rw [AQ];omega),AA,Ab]) f.2.2.2.2.1.length 0 big x (by omega) (dS (by omega)) (by simp only [List.drop_zero];omega)
  refine Eq.trans this ?_
  simp only [List.drop_zero,Ab]
 have:=iE (g:=dF big) (mk:=fun i x=>(f.2.2.2.1,(f.2.2.2.1.length:Int),(i:Int),x,f)) (l:=f.2.2.2.1) (cod:=qw) (kk:=fun x=>some (x++(vary f.2.2.2.2.1.length++(f.2.2.2.2.1.flatMap enc++(T.dP f.2.2.2.2.2.1++T.dP f.2.2.2.2.2.2.1))))) (B:=L36 - ((vary f.2.2.2.2.1.length).length+((f.2.2.2.2.1.flatMap enc).length+((T.dP f.2.2.2.2.2.1).length+(T.dP f.2.2.2.2.2.2.1).length))))
  (fun self i x hi hx=>by
   simp only [dF,iT,dh hi,AL,gI hi,AA,wS hi (by omega),QCH x f.2.2.2.1[i] (h4.2 _ (Ae hi)) (by omega)])
  (fun self x hx=>by
   simp only [dF,iT,dZ,AJ]
   rw [uy x _ h5.1 (by omega),AA,inner _ _ (by rw [AQ];omega),Ab]) f.2.2.2.1.length 0 big (x++said f.1++vary f.2.1.toNat++vary (dbl f.2.2.1)++vary f.2.2.2.1.length) (by omega) (dS (by omega)) (by simp only [List.drop_zero,AQ];omega)
 refine Eq.trans this ?_
 simp only [List.drop_zero,Ab]
theorem QGL (x:List Int) (m:cB) (h:QPi m) (hx:x.length+(wD m).length<=L36):oZ x (m,())=some (x++wD m):=by
 show jk (Gb (bZ big) big) x (m,())=_
 unfold jk wD at *
 obtain ⟨⟨h1,h2⟩,⟨h3,h4⟩,h5,h6⟩:=h
 simp only [AQ] at hx
 dsimp only
 rw [uy x _ h1 (by omega),AA]
 have fns:∀ (aG aH) (x:List Int),x.length+(m.2.2.1.flatMap dW).length<=L36->Gb (bg big aG aH) big (m.2.2.1,(m.2.2.1.length:Int),(0:Int),x)=some (x++m.2.2.1.flatMap dW):=by
  intro aG aH x hx
  exact iE (g:=bg big aG aH) (mk:=fun i x=>(m.2.2.1,(m.2.2.1.length:Int),(i:Int),x)) (l:=m.2.2.1) (cod:=dW) (kk:=some) (B:=L36)
   (fun self i x hi hx=>by
    simp only [bg,l9,dh hi,AL,gI hi,AA,wS hi (by omega),QHL x m.2.2.1[i] (h6 _ (Ae hi)) hx])
   (fun self x hx=>by simp only [bg,l9,dZ,AJ]) m.2.2.1.length 0 big x (by omega) (dS (by omega)) (by simpa using hx)
 have txs:∀ (aG) (x:List Int),x.length+((m.2.1.flatMap said).length+((vary m.2.2.1.length).length+(m.2.2.1.flatMap dW).length))<=L36->Gb (bf big aG) big (m.2.1,(m.2.1.length:Int),(0:Int),x,m)=some (x++(m.2.1.flatMap said++(vary m.2.2.1.length++m.2.2.1.flatMap dW))):=by
  intro aG x hx
  have:=iE (g:=bf big aG) (mk:=fun i x=>(m.2.1,(m.2.1.length:Int),(i:Int),x,m)) (l:=m.2.1) (cod:=said) (kk:=fun x=>some (x++(vary m.2.2.1.length++m.2.2.1.flatMap dW))) (B:=L36 - ((vary m.2.2.1.length).length+(m.2.2.1.flatMap dW).length))
   (fun self i x hi hx=>by
    simp only [bf,gq,dh hi,AL,gI hi,AA,wS hi (by omega),QAg x m.2.1[i] (h4 _ (Ae hi)) (by omega)])
   (fun self x hx=>by
    simp only [bf,gq,dZ,AJ]
    rw [uy x _ h5 (by omega),AA,fns _ _ _ (by rw [AQ];omega),Ab]) m.2.1.length 0 big x (by omega) (dS (by omega)) (by simp only [List.drop_zero];omega)
  refine Eq.trans this ?_
  simp only [List.drop_zero,Ab]
 have:=iE (g:=bZ big) (mk:=fun i x=>(m.1,(m.1.length:Int),(i:Int),x,m)) (l:=m.1) (cod:=zZ) (kk:=fun x=>some (x++(vary m.2.1.length++(m.2.1.flatMap said++(vary m.2.2.1.length++m.2.2.1.flatMap dW))))) (B:=L36 - ((vary m.2.1.length).length+((m.2.1.flatMap said).length+((vary m.2.2.1.length).length+(m.2.2.1.flatMap dW).length))))
  (fun self i x hi hx=>by
   simp only [bZ,gZ,dh hi,AL,gI hi,AA,wS hi (by omega),QHM x m.1[i] (h2 _ (Ae hi)) (by omega)])
  (fun self x hx=>by
   simp only [bZ,gZ,dZ,AJ]
   rw [uy x _ h3 (by omega),AA,txs _ _ (by rw [AQ];omega),Ab]) m.1.length 0 big (x++vary m.1.length) (by omega) (dS (by omega)) (by simp only [List.drop_zero,AQ];omega)
 refine Eq.trans this ?_
 simp only [List.drop_zero,Ab]
theorem vD {α:Type} {f:α->List Int} {k:Nat}:∀ {l:List α},(∀ x∈l,(f x).length<=k)->(l.flatMap f).length<=k * l.length
 | [],_=>by simp
 | x::r,h=>by
  have h1:=h x (by simp)
  have h2:=vD (l:=r) fun y hy=>h y (by simp [hy])
  rw [List.flatMap_cons,AQ,Af,Nat.mul_succ]
  omega
theorem QE1 (s:List Int):(said s).length<=10+s.length:=by
 unfold said;rw [AQ];have:=(aY s.length).2;omega
theorem QEm {s:List Int} (h:K.dA s=true):s.length<=16:=by
 unfold K.dA at h
 split at h
 ·cases h
 ·simp only [AP,AZ] at h;exact h.1
theorem QFj {x n:Int} (h:K.iP x n=true) (hn:n<=1000000):P63 x:=by
 have:=K.vM.1 h
 exact ⟨this.1,by omega⟩
theorem QHS {f:K.sS} (h:f.1.length<=16):(qw f).length<=36:=by
 unfold qw;rw [AQ];have:=QE1 f.1;have:=(aY f.2.1.toNat).2;omega
theorem QDR {fs:List K.sS} (h:∀ f∈fs,f.1.length<=16) (hl:fs.length<=16):(yV fs).length<=586:=by
 unfold yV;rw [AQ];have:=(aY fs.length).2
 have:=vD (l:=fs) (f:=qw) (k:=36) fun f hf=>QHS (h f hf)
 omega
theorem QGy:∀ (l:List T.TT) (w:Int),(T.QE3 w l).length<=20 * l.length
 | [],_=>by simp [T.QE3]
 | r::l,w=>by
  have:=QGy l r.1
  have:=(aY (r.1 - w).toNat).2
  have:=(aY r.2.1.toNat).2
  simp only [T.QE3,AQ,Af]
  omega
theorem QDS {l:List T.TT} {n:Nat} (h:T.iG l n=0):(T.dP l).length<=4010:=by
 have h1:=T.yS h
 unfold T.dP;rw [AQ]
 have:=(aY l.length).2
 have:=QGy l 0
 omega
structure QSb (f:dM):Prop where
 res:I64 f.2.2.1
 code:∀ x∈f.2.2.2.2.1,WfI x
 s1:T.V64 f.2.2.2.2.2.1
 s2:T.V64 f.2.2.2.2.2.2.1
def QPh (m:cB):Prop:=∀ f∈m.2.2.1,QSb f
theorem QGr {ns:List (List Int)} (h:je ns=true):(∀ s∈ns,s.length<=16)/\ns.Nodup:=by
 simp only [je,AP,AZ,List.all_eq_true] at h
 exact ⟨fun s hs=>QEm (h.1 s hs),h.2⟩
theorem QLz {fs:List K.sS} {n:Int} (h:QA3 n fs=true) (hn:n<=1000000):fs.length<=16/\(∀ f∈fs,QHH f)/\∀ f∈fs,f.1.length<=16:=by
 simp only [QA3,AP,AZ,List.all_eq_true] at h
 have h3:=(QGr h.2.2).1
 have h4:∀ f∈fs,f.1.length<=16:=fun f hf=>h3 _ (List.mem_map_of_mem hf)
 exact ⟨h.1,fun f hf=>⟨by have:=h4 f hf;omega,QFj (h.2.1 f hf) hn⟩,h4⟩
theorem QRR {t:K.cK} {i n:Int} (h:K.dO t i n=true) (hi:i<=1000000) (hn:n<=1000000):QJS t/\t.2.2.2.1.length<=8/\(∀ f∈t.2.2.2.1,f.1.length<=16)/\(zZ t).length<=600:=by
 have key:QJS t/\t.2.2.2.1.length<=8/\∀ f∈t.2.2.2.1,f.1.length<=16:=by
  unfold K.dO at h
  have z:P63 0:=⟨by omega,by omega⟩
  have emp:t.2.2.2.1.length=0->t.2.2.2.1.length<=1000000/\(∀ f∈t.2.2.2.1,QHH f)/\t.2.2.2.1.length<=8/\∀ f∈t.2.2.2.1,f.1.length<=16:=fun e=>by
   have:=Aq e
   rw [this];simp
  split at h
  ·simp only [AP,AZ] at h
   have:=emp h.2.2
   exact ⟨⟨by rw [h.1];exact z,by rw [h.2.1];exact z,this.1,this.2.1⟩,this.2.2⟩
  split at h
  ·simp only [AP,AZ] at h
   have:=emp h.2.2
   exact ⟨⟨QFj h.1 hn,by rw [h.2.1];exact z,this.1,this.2.1⟩,this.2.2⟩
  split at h
  ·simp only [AP,AZ] at h
   have:=emp h.2.2
   exact ⟨⟨QFj h.1 hi,⟨by omega,by omega⟩,this.1,this.2.1⟩,this.2.2⟩
  split at h
  ·simp only [AP,AZ,K.QDM,List.all_eq_true] at h
   obtain ⟨g1,g2,g3,g4,g5,g6⟩:=h
   have g7:∀ f∈t.2.2.2.1,f.1.length<=16:=fun f hf=>QEm (g4 f hf)
   exact ⟨⟨by rw [g1];exact z,by rw [g2];exact z,by omega,fun f hf=>⟨by have:=g7 f hf;omega,QFj (g6 f hf) hi⟩⟩,g3.2,g7⟩
  ·cases h
 refine ⟨key.1,key.2.1,key.2.2,?_⟩
 have h1:=QDR key.2.2 (by omega)
 have h2:=(aY t.2.1.toNat).2
 have h3:=(aY t.2.2.1.toNat).2
 unfold zZ QEt
 split
 ·rw [Af];omega
 split
 ·rw [Af,AQ];omega
 split
 ·rw [Af];omega
 ·simp
theorem QRE {f:dM} {n:Int} (h:okF n f=true) (hn:n<=1000000) (hm:f.1.length<=16) (w:QSb f):QKM f/\(dW f).length<=20000:=by
 simp only [okF,QAz,AP,AZ,Bool.or_eq_true,List.all_eq_true] at h
 obtain ⟨h1,h2,h3,h4,⟨h5,h6,h7⟩,h8,h9⟩:=h
 obtain ⟨g1,g2,g3⟩:=QLz h1 hn
 have l1:=T.yS h8
 have l2:=T.yS h9
 refine ⟨⟨by omega,⟨h2,by omega⟩,w.res,⟨by omega,g2⟩,⟨by omega,fun x hx=>⟨h7 x hx,w.code x hx⟩⟩,⟨by omega,w.s1,h8⟩,by omega,w.s2,h9⟩,?_⟩
 unfold dW
 simp only [AQ]
 have a1:=QE1 f.1
 have a2:=(aY f.2.1.toNat).2
 have a3:=(aY (dbl f.2.2.1)).2
 have a4:=QDR g3 g1
 have a5:=(aY f.2.2.2.2.1.length).2
 have a6:=vD (l:=f.2.2.2.2.1) (f:=enc) (k:=31) fun x hx=>(QJY (h7 x hx) (w.code x hx)).2
 have a7:=QDS h8
 have a8:=QDS h9
 omega
theorem QLa {m:cB} (h:zR m=true) (w:QPh m):QPi m/\(wD m).length<=1000000:=by
 simp only [zR,uw,zC,QAJ,AP,AZ,List.all_eq_true] at h
 obtain ⟨⟨⟨h1,h2,_⟩,_⟩,⟨h3,h4⟩,h5,h6,h7,h8⟩:=h
 have ty:∀ t∈m.1,QJS t/\(zZ t).length<=600:=fun t ht=>by
  obtain ⟨i,hi,rfl⟩:=List.mem_iff_getElem.1 ht
  have:=QRR (h2 i hi) (by omega) (by omega)
  exact ⟨this.1,this.2.2.2⟩
 have fn:∀ f∈m.2.2.1,QKM f/\(dW f).length<=20000:=fun f hf=>QRE (h7 f hf) (by omega) ((QGr h8).1 _ (List.mem_map_of_mem hf)) (w f hf)
 refine ⟨⟨⟨by omega,fun t ht=>(ty t ht).1⟩,⟨by omega,fun s hs=>by have:=h4 s hs;omega⟩,by omega,fun f hf=>(fn f hf).1⟩,?_⟩
 unfold wD
 simp only [AQ]
 have a1:=(aY m.1.length).2
 have a2:=vD (l:=m.1) (f:=zZ) (k:=600) fun t ht=>(ty t ht).2
 have a3:=(aY m.2.1.length).2
 have a4:=vD (l:=m.2.1) (f:=said) (k:=74) fun s hs=>by have:=QE1 s;have:=h4 s hs;omega
 have a5:=(aY m.2.2.1.length).2
 have a6:=vD (l:=m.2.2.1) (f:=dW) (k:=20000) fun f hf=>(fn f hf).2
 omega
def chk (m:cB):Int:=if zR m=true then (if (wD m).length > 20000 then 4 else 0) else 8
def encI (m:cB):List Int×Int:=if chk m=0 then (wD m,0) else ([],chk m)
structure QJP (m:cB):Prop where
 ty:m.1.length<=1000000
 fn:∀ f∈m.2.2.1,f.2.2.2.2.2.1.length<=1000000/\f.2.2.2.2.2.2.1.length<=1000000
 mem:QPh m
theorem QGt (m:cB) (h:QJP m):rO m=some (encI m):=by
 show xR m=_
 unfold xR encI chk
 rw [QHe m h.ty h.fn,AA]
 by_cases hv:zR m=true
 ·obtain ⟨g1,g2⟩:=QLa hv h.mem
  rw [hv,Az,AJ,QGL [] m g1 (by simp;show (wD m).length<=68719476736;omega),AA,AY rfl,List.nil_append]
  by_cases hl:(wD m).length > 20000
  ·rw [AB (by omega),AL,AY hl,AX (by omega)]
  ·rw [AF (by omega),AJ,AX hl,AY rfl]
 ·rw [AX hv,AX (by omega)]
  simp only [Bool.not_eq_true] at hv
  rw [hv];rfl
theorem QLQ (m:cB):(encI m).2=chk m:=by
 unfold encI
 split
 ·rename_i h;rw [h]
 ·rfl
theorem QDw (m:cB) (h:QJP m):pK m=some (chk m):=by
 show y7 m=_
 unfold y7
 rw [QGt m h,AA,QLQ]
instance:DecidableEq K.cK:=@instDecidableEqProd _ _ inferInstance (@instDecidableEqProd _ _ inferInstance (@instDecidableEqProd _ _ inferInstance (@instDecidableEqProd _ _ inferInstance inferInstance)))
instance:DecidableEq dM:=@instDecidableEqProd _ _ inferInstance (@instDecidableEqProd _ _ inferInstance (@instDecidableEqProd _ _ inferInstance (@instDecidableEqProd _ _ inferInstance (@instDecidableEqProd _ _ inferInstance (@instDecidableEqProd _ _ inferInstance (@instDecidableEqProd _ _ inferInstance inferInstance))))))
instance:DecidableEq cB:=@instDecidableEqProd _ _ inferInstance (@instDecidableEqProd _ _ inferInstance (@instDecidableEqProd _ _ inferInstance inferInstance))
theorem sO {α:Type} [DecidableEq α] {a b:List α} (h:a.length=b.length):(List.range' 0 a.length).all (fun i=>decide (a[i]? = b[i]?))=decide (a=b):=by
 rw [Bool.eq_iff_iff]
 simp only [List.all_eq_true,List.mem_range'_1,AZ]
 constructor
 ·intro g
  apply List.ext_getElem?
  intro i
  by_cases hi:i < a.length
  ·exact g i ⟨by omega,by omega⟩
  ·rw [Av (by omega),Av (by omega)]
 ·rintro rfl i _;rfl
theorem wu {α:Type} [DecidableEq α] {a b:List α} {i:Nat} (h:i < a.length) (h':i < b.length):decide (a[i]? = b[i]?)=decide (a[i]=b[i]):=by simp [h,h']
theorem QA9 {t:Ty} [DecidableEq t.den] (x y:t.den):JW t x y=decide (x=y):=by rw [Bool.eq_iff_iff,ED,AZ]
theorem zy {α:Type} {a b:List α}:((a.length:Int) != (b.length:Int))=!decide (a.length=b.length):=by
 by_cases h:a.length=b.length
 ·simp [h]
 ·have:((a.length:Int) != (b.length:Int))=true:=by simp;omega
  rw [this,AF h];rfl
theorem cO (a b:Int):(a != b)=!decide (a=b):=by by_cases h:a=b <;> simp [h]
theorem bM {β:Type} (b:Bool) (x y:β):(bif !b then x else y)=bif b then y else x:=by cases b <;> rfl
theorem yO (b:Bool):(bif b then some true else some false)=some b:=by cases b <;> rfl
theorem QE2 (a b:List K.sS) (h:a.length<=1000000):kY (a,b)=some (decide (a=b)):=by
 show lM (Gb (dJ big) big) (a,b)=_
 unfold lM
 dsimp only
 rw [zy,bM]
 by_cases hl:a.length=b.length
 ·rw [AB hl,AL]
  have:=aU (g:=dJ big) (mk:=fun i=>(a,b,(i:Int))) (p:=fun i=>decide (a[i]? = b[i]?)) (no:=some false) (kk:=some true) (n:=a.length)
   (fun self i hi=>by
    simp only [dJ,nT,dh hi,AL,gI hi,gI (show i < b.length by omega),AA,wS hi (by omega),wu hi (show i < b.length by omega),bM,QA9])
   (fun self=>by simp only [dJ,nT,dZ,AJ]) a.length 0 big (by omega) (dS (by omega))
  rw [sO hl,yO] at this
  exact this
 ·rw [AF hl,AJ,AF (fun e=>hl (by rw [e]))]
theorem QNt (a b:List Ins) (h:a.length<=1000000):zh (a,b)=some (decide (a=b)):=by
 show wX (Gb (kD big) big) (a,b)=_
 unfold wX
 dsimp only
 rw [zy,bM]
 by_cases hl:a.length=b.length
 ·rw [AB hl,AL]
  have:=aU (g:=kD big) (mk:=fun i=>(a,b,(i:Int))) (p:=fun i=>decide (a[i]? = b[i]?)) (no:=some false) (kk:=some true) (n:=a.length)
   (fun self i hi=>by
    simp only [kD,xI,dh hi,AL,gI hi,gI (show i < b.length by omega),AA,wS hi (by omega),wu hi (show i < b.length by omega),bM,QA9])
   (fun self=>by simp only [kD,xI,dZ,AJ]) a.length 0 big (by omega) (dS (by omega))
  rw [sO hl,yO] at this
  exact this
 ·rw [AF hl,AJ,AF (fun e=>hl (by rw [e]))]
theorem QGw (a b:List T.TT) (h:a.length<=1000000):wF (a,b)=some (decide (a=b)):=by
 show wZ (Gb (kE big) big) (a,b)=_
 unfold wZ
 dsimp only
 rw [zy,bM]
 by_cases hl:a.length=b.length
 ·rw [AB hl,AL]
  have:=aU (g:=kE big) (mk:=fun i=>(a,b,(i:Int))) (p:=fun i=>decide (a[i]? = b[i]?)) (no:=some false) (kk:=some true) (n:=a.length)
   (fun self i hi=>by
    simp only [kE,xJ,dh hi,AL,gI hi,gI (show i < b.length by omega),AA,wS hi (by omega),wu hi (show i < b.length by omega),bM,QA9])
   (fun self=>by simp only [kE,xJ,dZ,AJ]) a.length 0 big (by omega) (dS (by omega))
  rw [sO hl,yO] at this
  exact this
 ·rw [AF hl,AJ,AF (fun e=>hl (by rw [e]))]
theorem QJp (a b:List K.cK) (h:a.length<=1000000) (hf:∀ t∈a,t.2.2.2.1.length<=1000000):q8 (a,b)=some (decide (a=b)):=by
 show nJ (Gb (dY big) big) (a,b)=_
 unfold nJ
 dsimp only
 rw [zy,bM]
 by_cases hl:a.length=b.length
 ·rw [AB hl,AL]
  have:=aU (g:=dY big) (mk:=fun i=>(a,b,(i:Int))) (p:=fun i=>decide (a[i]? = b[i]?)) (no:=some false) (kk:=some true) (n:=a.length)
   (fun self i hi=>by
    have hi':i < b.length:=by omega
    simp only [dY,om,dh hi,AL,gI hi,gI hi',AA,wS hi (by omega),wu hi hi',cO,bM,QE2 _ b[i].2.2.2.1 (hf _ (Ae hi))]
    generalize a[i]=t
    generalize b[i]=u
    by_cases e:t=u
    ·subst e;simp
    ·rw [AF e,AJ]
     by_cases e1:t.1=u.1
     ·by_cases e2:t.2.1=u.2.1
      ·by_cases e3:t.2.2.1=u.2.2.1
       ·have e4:¬ t.2.2.2.1=u.2.2.2.1:=fun e4=>e (Prod.ext e1 (Prod.ext e2 (Prod.ext e3 (Prod.ext e4 rfl))))
        rw [AB e1,AB e2,AB e3,AF e4];rfl
       ·rw [AB e1,AB e2,AF e3];rfl
      ·rw [AB e1,AF e2];rfl
     ·rw [AF e1];rfl)
   (fun self=>by simp only [dY,om,dZ,AJ]) a.length 0 big (by omega) (dS (by omega))
  rw [sO hl,yO] at this
  exact this
 ·rw [AF hl,AJ,AF (fun e=>hl (by rw [e]))]
structure QPO (f:dM):Prop where
 sl:f.2.2.2.1.length<=1000000
 code:f.2.2.2.2.1.length<=1000000
 s1:f.2.2.2.2.2.1.length<=1000000
 s2:f.2.2.2.2.2.2.1.length<=1000000
theorem QGv (f g:dM) (h:QPO f):jr (f,g)=some (decide (f=g)):=by
 show tT (f,g)=_
 unfold tT
 simp only [K.mR,QE2 _ g.2.2.2.1 h.sl,QNt _ g.2.2.2.2.1 h.code,QGw _ g.2.2.2.2.2.1 h.s1,QGw _ g.2.2.2.2.2.2.1 h.s2,AA,QA9]
 by_cases e:f=g
 ·subst e;simp
 ·rw [AF e]
  by_cases e1:f.1=g.1
  ·by_cases e2:f.2.1=g.2.1
   ·by_cases e3:f.2.2.1=g.2.2.1
    ·by_cases e4:f.2.2.2.1=g.2.2.2.1
     ·by_cases e5:f.2.2.2.2.1=g.2.2.2.2.1
      ·by_cases e6:f.2.2.2.2.2.1=g.2.2.2.2.2.1
       ·have e7:¬ f.2.2.2.2.2.2.1=g.2.2.2.2.2.2.1:=fun e7=>e (Prod.ext e1 (Prod.ext e2 (Prod.ext e3 (Prod.ext e4 (Prod.ext e5 (Prod.ext e6 (Prod.ext e7 rfl)))))))
        rw [AB e1,AB e2,AB e3,AB e4,AB e5,AB e6,AF e7];rfl
       ·rw [AB e1,AB e2,AB e3,AB e4,AB e5,AF e6];rfl
      ·rw [AB e1,AB e2,AB e3,AB e4,AF e5];rfl
     ·rw [AB e1,AB e2,AB e3,AF e4];rfl
    ·rw [AB e1,AB e2,AF e3];rfl
   ·rw [AB e1,AF e2];rfl
  ·rw [AF e1];rfl
structure QPg (m:cB):Prop where
 ty:m.1.length<=1000000/\∀ t∈m.1,t.2.2.2.1.length<=1000
 tx:m.2.1.length<=1000000
 fn:m.2.2.1.length<=1000000/\∀ f∈m.2.2.1,QPO f
theorem QNs (m n:cB) (h:QPg m):jT (m,n)=some (decide (m=n)):=by
 show wo (Gb (kJ big) big) (m,n)=_
 unfold wo
 dsimp only
 rw [QJp m.1 n.1 h.ty.1 (fun t ht=>by have:=h.ty.2 t ht;omega),AA,bM,zy,bM,zy,bM]
 by_cases e1:m.1=n.1
 ·rw [AB e1,AL]
  by_cases hl:m.2.1.length=n.2.1.length
  ·rw [AB hl,AL]
   by_cases hk:m.2.2.1.length=n.2.2.1.length
   ·rw [AB hk,AL]
    have fns:∀ aG,Gb (kK big aG) big (0,m,n)=some (decide (m.2.2.1=n.2.2.1)):=by
     intro aG
     have:=aU (g:=kK big aG) (mk:=fun i=>((i:Int),m,n)) (p:=fun i=>decide (m.2.2.1[i]? = n.2.2.1[i]?)) (no:=some false) (kk:=some true) (n:=m.2.2.1.length)
      (fun self i hi=>by
       have hi':i < n.2.2.1.length:=by omega
       simp only [kK,xL,dh hi,AL,gI hi,gI hi',AA,wS hi (by have:=h.fn.1;omega),wu hi hi',bM,QGv _ n.2.2.1[i] (h.fn.2 _ (Ae hi))])
      (fun self=>by simp only [kK,xL,dZ,AJ]) m.2.2.1.length 0 big (by omega) (dS (by have:=h.fn.1;omega))
     rw [sO hk,yO] at this
     exact this
    have:=aU (g:=kJ big) (mk:=fun i=>((i:Int),m,n)) (p:=fun i=>decide (m.2.1[i]? = n.2.1[i]?)) (no:=some false) (kk:=some (decide (m.2.2.1=n.2.2.1))) (n:=m.2.1.length)
     (fun self i hi=>by
      have hi':i < n.2.1.length:=by omega
      simp only [kJ,sF,dh hi,AL,gI hi,gI hi',AA,wS hi (by have:=h.tx;omega),wu hi hi',bM,QA9])
     (fun self=>by
      simp only [kJ,sF,dZ,AJ]
      exact fns _) m.2.1.length 0 big (by omega) (dS (by have:=h.tx;omega))
    rw [sO hl] at this
    refine Eq.trans this ?_
    by_cases e2:m.2.1=n.2.1
    ·rw [AB e2,AL]
     by_cases e3:m.2.2.1=n.2.2.1
     ·rw [AB e3,AB (Prod.ext e1 (Prod.ext e2 (Prod.ext e3 rfl)))]
     ·rw [AF e3,AF (fun e=>e3 (by rw [e]))]
    ·rw [AF e2,AJ,AF (fun e=>e2 (by rw [e]))]
   ·rw [AF hk,AJ,AF (fun e=>hk (by rw [e]))]
  ·rw [AF hl,AJ,AF (fun e=>hl (by rw [e]))]
 ·rw [AF e1,AJ,AF (fun e=>e1 (by rw [e]))]
theorem sU {p:Nat->Bool} {n:Nat} (h:(List.range' 0 n).all p=true) {i:Nat} (hi:i < n):p i=true:=List.all_eq_true.1 h i (by simp [List.mem_range'_1];exact hi)
structure QX6 (f:dM):Prop where
 name:f.1.length<=100
 sl:f.2.2.2.1.length<=20
 code:f.2.2.2.2.1.length<=210
 s1:f.2.2.2.2.2.1.length<=210
 s2:f.2.2.2.2.2.2.1.length<=210
structure QTO (m:cB):Prop where
 ty:m.1.length<=40/\∀ t∈m.1,t.2.2.2.1.length<=20
 tx:m.2.1.length<=40
 fn:m.2.2.1.length<=40/\∀ f∈m.2.2.1,QX6 f
def nS (l:List dM):Nat->Int
 | 0=>0
 | i+1=>IntKind.i64.wrap (nS l i+(((l[i]?).map fun f=>f.2.2.2.2.1.length).getD 0:Nat))
def gB (f:dM) (n:Int):Bool:=decide (f.1.length<=100)&&(decide (f.2.2.2.1.length<=20)&&(decide (f.2.2.2.2.1.length<=210)&&(decide (f.2.2.2.2.2.1.length<=210)&&(decide (f.2.2.2.2.2.2.1.length<=210)&&(decide (n<=1000)&&f.2.2.2.1.all fun s=>decide (s.1.length<=100))))))
theorem QHa {α:Type} (l:List α) (k:Nat):decide ((l.length:Int) > (k:Int))=!decide (l.length<=k):=by
 by_cases h:l.length<=k
 ·rw [AB h,AF (by omega)];rfl
 ·rw [AF h,AB (by omega)];rfl
theorem QHr (m:cB):∃ b,yj m=some b/\(b=false->QTO m):=by
 show ∃ b,um (Gb (jI big) big) m=some b/\_
 unfold um
 obtain ⟨b,h1,h2⟩:=K.QJj m.1
 rw [h1,AA]
 cases b with
 | true=>exact ⟨true,rfl,fun h=>by cases h⟩
 | false=>
  rw [AJ]
  by_cases ht:m.2.1.length<=40
  ·rw [AF (by omega),AJ]
   by_cases hf:m.2.2.1.length<=40
   ·rw [AF (by omega),AJ]
    have slots:∀ (aG aH) (n:Int) (i:Nat) (f:dM),f.2.2.2.1.length<=20->i < m.2.2.1.length->Gb (jK big aG aH) big (n,(i:Int),0,m,f)=bif f.2.2.2.1.all (fun s=>decide (s.1.length<=100)) then aH (n,((i+1:Nat):Int),m) else some true:=by
     intro aG aH n i f hl hi
     have:=aU (g:=jK big aG aH) (mk:=fun k=>(n,(i:Int),(k:Int),m,f)) (p:=fun k=>(f.2.2.2.1[k]?).all fun s=>decide (s.1.length<=100)) (no:=some true) (kk:=aH (n,((i+1:Nat):Int),m)) (n:=f.2.2.2.1.length)
      (fun self k hk=>by
       rw [pat hk]
       simp only [jK,vK,dh hk,AL,gI hk,AA,wS hk (by omega),QHa _ 100,bM,show (100:Int)=((100:Nat):Int) from rfl])
      (fun self=>by simp only [jK,vK,dZ,AJ,wS hi (by omega)]) f.2.2.2.1.length 0 big (by omega) (dS (by omega))
     rw [QB8] at this
     exact this
    have fns:∀ aG,Gb (jJ big aG) big (0,0,m)=bif (List.range' 0 m.2.2.1.length).all (fun i=>(m.2.2.1[i]?).all fun f=>gB f (nS m.2.2.1 (i+1))) then some false else some true:=by
     intro aG
     exact aU (g:=jJ big aG) (mk:=fun i=>(nS m.2.2.1 i,(i:Int),m)) (p:=fun i=>(m.2.2.1[i]?).all fun f=>gB f (nS m.2.2.1 (i+1))) (no:=some true) (kk:=some false) (n:=m.2.2.1.length)
      (fun self i hi=>by
       rw [pat hi]
       have e:IntKind.i64.wrap (nS m.2.2.1 i+((m.2.2.1[i]).2.2.2.2.1.length:Int))=nS m.2.2.1 (i+1):=by simp [nS,hi]
       simp only [jJ,qR,dh hi,AL,gI hi,AA,e]
       unfold gB
       generalize nS m.2.2.1 (i+1)=n
       by_cases a1:(m.2.2.1[i]).1.length<=100
       ·rw [AB a1,AF (show ¬ (((m.2.2.1[i]).1.length:Int) > 100) by omega),AJ,Ai]
        by_cases a2:(m.2.2.1[i]).2.2.2.1.length<=20
        ·rw [AB a2,AF (show ¬ (((m.2.2.1[i]).2.2.2.1.length:Int) > 20) by omega),AJ,Ai]
         by_cases a3:(m.2.2.1[i]).2.2.2.2.1.length<=210
         ·rw [AB a3,AF (show ¬ (((m.2.2.1[i]).2.2.2.2.1.length:Int) > 210) by omega),AJ,Ai]
          by_cases a4:(m.2.2.1[i]).2.2.2.2.2.1.length<=210
          ·rw [AB a4,AF (show ¬ (((m.2.2.1[i]).2.2.2.2.2.1.length:Int) > 210) by omega),AJ,Ai]
           by_cases a5:(m.2.2.1[i]).2.2.2.2.2.2.1.length<=210
           ·rw [AB a5,AF (show ¬ (((m.2.2.1[i]).2.2.2.2.2.2.1.length:Int) > 210) by omega),AJ,Ai]
            by_cases a6:n<=1000
            ·rw [AB a6,AF (show ¬ n > 1000 by omega),AJ,Ai]
             exact slots _ _ _ _ _ a2 hi
            ·rw [AF a6,AB (show n > 1000 by omega)];rfl
           ·rw [AF a5,AB (show ((m.2.2.1[i]).2.2.2.2.2.2.1.length:Int) > 210 by omega)];rfl
          ·rw [AF a4,AB (show ((m.2.2.1[i]).2.2.2.2.2.1.length:Int) > 210 by omega)];rfl
         ·rw [AF a3,AB (show ((m.2.2.1[i]).2.2.2.2.1.length:Int) > 210 by omega)];rfl
        ·rw [AF a2,AB (show ((m.2.2.1[i]).2.2.2.1.length:Int) > 20 by omega)];rfl
       ·rw [AF a1,AB (show ((m.2.2.1[i]).1.length:Int) > 100 by omega)];rfl)
      (fun self=>by simp only [jJ,qR,dZ,AJ]) m.2.2.1.length 0 big (by omega) (dS (by omega))
    have:=aU (g:=jI big) (mk:=fun i=>((i:Int),m)) (p:=fun i=>(m.2.1[i]?).all fun s=>decide (s.length<=100)) (no:=some true) (kk:=bif (List.range' 0 m.2.2.1.length).all (fun i=>(m.2.2.1[i]?).all fun f=>gB f (nS m.2.2.1 (i+1))) then some false else some true) (n:=m.2.1.length)
     (fun self i hi=>by
      rw [pat hi]
      simp only [jI,qQ,dh hi,AL,gI hi,AA,wS hi (by omega),QHa _ 100,bM,show (100:Int)=((100:Nat):Int) from rfl])
     (fun self=>by
      simp only [jI,qQ,dZ,AJ]
      exact fns _) m.2.1.length 0 big (by omega) (dS (by omega))
    rw [QB8] at this
    refine ⟨!(m.2.1.all (fun s=>decide (s.length<=100))&&(List.range' 0 m.2.2.1.length).all (fun i=>(m.2.2.1[i]?).all fun f=>gB f (nS m.2.2.1 (i+1)))),this.trans ?_,?_⟩
    ·cases m.2.1.all (fun s=>decide (s.length<=100)) <;> cases (List.range' 0 m.2.2.1.length).all (fun i=>(m.2.2.1[i]?).all fun f=>gB f (nS m.2.2.1 (i+1))) <;> rfl
    ·intro h
     rw [Bool.not_eq_false',AP] at h
     refine ⟨h2 rfl,ht,hf,fun f hfm=>?_⟩
     obtain ⟨i,hi,rfl⟩:=List.mem_iff_getElem.1 hfm
     have:=sU h.2 hi
     rw [pat hi] at this
     simp only [gB,AP,AZ] at this
     exact ⟨this.1,this.2.1,this.2.2.1,this.2.2.2.1,this.2.2.2.2.1⟩
   ·exact ⟨true,by rw [AB (by omega)];rfl,fun h=>by cases h⟩
  ·exact ⟨true,by rw [AB (by omega)];rfl,fun h=>by cases h⟩
def pM (ns:List (List Int)) (i:Nat):Bool:=(ns[i]?).all fun s=>(List.range' 0 i).all fun k=>(ns[k]?).all fun t=>!(JW .str t s)
theorem QB2 (ns:List (List Int)):(List.range' 0 ns.length).all (pM ns)=decide ns.Nodup:=by
 rw [Bool.eq_iff_iff]
 simp only [List.all_eq_true,List.mem_range'_1,AZ,vZ]
 have key:∀ i (h:i < ns.length),pM ns i=true↔ns[i] ∉ ns.take i:=by
  intro i h
  unfold pM
  rw [pat h]
  simp only [List.all_eq_true,List.mem_range'_1]
  constructor
  ·intro g hm
   obtain ⟨j,hj,e⟩:=List.mem_take_iff_getElem.1 hm
   have:=g j ⟨by omega,by omega⟩
   rw [pat (show j < ns.length by omega),e,XZ] at this
   cases this
  ·intro g k hk
   have hk':k < ns.length:=by omega
   rw [pat hk',Bool.not_eq_true',Bool.eq_false_iff]
   intro e
   exact g (List.mem_take_iff_getElem.2 ⟨k,by omega,ED.1 e⟩)
 constructor
 ·intro h i hi;exact (key i hi).1 (h i ⟨by omega,by omega⟩)
 ·intro h i hi;exact (key i (by omega)).2 (h i (by omega))
theorem QIf {p q:Nat->Bool} {l:List Nat}:l.all (fun i=>p i&&q i)=(l.all p&&l.all q):=by
 rw [Bool.eq_iff_iff]
 simp only [List.all_eq_true,AP]
 exact ⟨fun h=>⟨fun x hx=>(h x hx).1,fun x hx=>(h x hx).2⟩,fun h x hx=>⟨h.1 x hx,h.2 x hx⟩⟩
theorem QIg {β:Type} (b c:Bool) (x y:β):(bif b then (bif c then x else y) else y)=bif (b&&c) then x else y:=by cases b <;> rfl
theorem QJi (fs:List K.sS):ng (fs,16)=some (decide (fs.length<=16)&&je (fs.map (·.1))):=by
 show kN (Gb (bU big) big) (fs,16)=_
 unfold kN
 dsimp only
 by_cases h:fs.length<=16
 ·rw [AF (by omega),AJ,AB h,Ai]
  have hm:(fs.map (·.1)).length=fs.length:=Aw _
  have inner:∀ (self:List K.sS×Int->Option Bool) (i:Nat) (hi:i < fs.length),Gb (bV big self) big (fs,(i:Int),0)=bif pM (fs.map (·.1)) i then self (fs,((i+1:Nat):Int)) else some false:=by
   intro self i hi
   unfold pM
   rw [pat (show i < (fs.map (·.1)).length by omega)]
   exact aU (g:=bV big self) (mk:=fun k=>(fs,(i:Int),(k:Int))) (p:=fun k=>((fs.map (·.1))[k]?).all fun t=>!(JW .str t (fs.map (·.1))[i])) (no:=some false) (kk:=self (fs,((i+1:Nat):Int))) (n:=i)
    (fun aH k hk=>by
     rw [pat (show k < (fs.map (·.1)).length by omega)]
     simp only [bV,fF,dh hk,AL,gI (show k < fs.length by omega),gI hi,AA,wS hk (by omega),List.getElem_map,bM])
    (fun aH=>by simp only [bV,fF,dZ,AJ,wS hi (by omega)]) i 0 big (by omega) (dS (by omega))
  have:=aU (g:=bU big) (mk:=fun i=>(fs,(i:Int))) (p:=fun i=>((fs.map (·.1))[i]?).all K.dA&&pM (fs.map (·.1)) i) (no:=some false) (kk:=some true) (n:=fs.length)
   (fun self i hi=>by
    rw [pat (show i < (fs.map (·.1)).length by omega)]
    simp only [bU,bH,dh hi,AL,gI hi,AA,wS hi (by omega),K.QAK,bM,inner self i hi,List.getElem_map,QIg])
   (fun self=>by simp only [bU,bH,dZ,AJ]) fs.length 0 big (by omega) (dS (by omega))
  rw [QIf,← hm,QB8,QB2,yO] at this
  exact this
 ·rw [AB (by omega),AL,AF h];rfl
theorem QFz (N:Nat) (aG) {rs ns:List Int} {i r n:Int} (h0:0<=i) (h3:i < 3) (hr:Nk rs i=some (ltr r)) (hn:nth ns i.toNat=some n) (hl:Sz r) :
  lq N aG (rs,i,ns)=if fit r n then aG (rs,IntKind.i64.wrap (i+1),ns) else some 8:=by
 show vH aG _=_
 unfold vH
 dsimp only
 rw [AB h3,AB h0,AL,hr]
 simp only [AA,Bool.and_self,AL,hn,QLp r n hl]
 cases fit r n <;> rfl
theorem QHp (x:Ins) (h0:0<=x.1) (h1:x.1<=255):yc x=some (if uz x then 0 else 8):=by
 show uf (Gb (lq big) big) x=_
 unfold uf
 rw [QGC h0 h1,AA,show gN x=some (vals x) from rfl,AA]
 cases h:QAi x.1 with
 | false=>simp [uz,h]
 | true=>
  obtain ⟨a,b,c,e,ha,hb,hc⟩:=QAL h
  simp only [if_true,e,List.map_cons,List.map_nil]
  show Gb (lq big) big ([ltr a,ltr b,ltr c],0,vals x)=_
  rw [QGU,WZ,QFz _ _ (by decide) (by decide) (QDc _ _) rfl ha,w01]
  simp only [uz,h,e,QGe,vals,Ai,Bool.and_true]
  cases fit a x.2.1 with
  | false=>rfl
  | true=>
   rw [AY rfl,WZ,QFz _ _ (by decide) (by decide) (QDd _ _ _) rfl hb,w12]
   cases fit b x.2.2.1 with
   | false=>rfl
   | true=>
    rw [AY rfl,WZ,QFz _ _ (by decide) (by decide) (QDe _ _ _ _) rfl hc,w23]
    cases fit c x.2.2.2.1 with
    | false=>rfl
    | true=>rfl
theorem QDa {l:List T.TT} {n:Nat} (h1:1<=n) (h2:n<=200):T.nk l n=decide (T.iG l n=0):=by
 rw [Bool.eq_iff_iff,AZ,T.sK]
 exact ⟨fun h=>⟨⟨by omega,by omega⟩,h⟩,fun h=>h.2⟩
def Op8 (l:List Ins):Prop:=∀ x∈l,0<=x.1/\x.1<=255
theorem QGf (l:List K.cK) (f:dM) (hl:l.length<=1000000) (ho:Op8 f.2.2.2.2.1) (h1:f.2.2.2.2.2.1.length<=1000000) (h2:f.2.2.2.2.2.2.1.length<=1000000):tF (l,f)=some (K.dA f.1&&okF l.length f):=by
 show oV (Gb (eY big) big) (l,f)=_
 unfold oV okF QA3 QAz
 dsimp only
 rw [K.QAK,AA,bM]
 cases K.dA f.1 with
 | false=>rfl
 | true=>
  rw [AL,Ai,QJi,AA,bM]
  by_cases hs:f.2.2.2.1.length<=16
  rotate_left
  ·rw [AF hs];rfl
  rw [AB hs,Ai,Ai]
  cases hn:je (f.2.2.2.1.map (·.1)) with
  | false=>rw [AJ,Bool.and_false,Bool.false_and]
  | true=>
   rw [AL,Bool.and_true]
   by_cases a1:0<=f.2.1
   rotate_left
   ·rw [AB (show f.2.1 < 0 by omega),AF a1,Bool.false_and,Bool.and_false];rfl
   rw [AF (show ¬ f.2.1 < 0 by omega),AJ,AB a1,Ai]
   by_cases a2:f.2.1<=f.2.2.2.1.length
   rotate_left
   ·rw [AB (show f.2.1 > f.2.2.2.1.length by omega),AF a2,Bool.false_and,Bool.and_false];rfl
   rw [AF (show ¬ f.2.1 > f.2.2.2.1.length by omega),AJ,AB a2,Ai]
   have hr:(decide (f.2.2.1 = -1)||K.iP f.2.2.1 l.length)=decide (-1<=f.2.2.1/\f.2.2.1 < l.length):=by
    rw [Bool.eq_iff_iff,Bool.or_eq_true,AZ,AZ,K.vM];omega
   rw [hr]
   by_cases a3 : -1<=f.2.2.1
   rotate_left
   ·rw [AB (show f.2.2.1 < -1 by omega),AF (p:=-1<=f.2.2.1/\f.2.2.1 < l.length) (fun e=>a3 e.1),Bool.false_and,Bool.and_false];rfl
   rw [AF (show ¬ f.2.2.1 < -1 by omega),AJ]
   by_cases a4:f.2.2.1 < l.length
   rotate_left
   ·rw [AB (show f.2.2.1≥l.length by omega),AF (p:=-1<=f.2.2.1/\f.2.2.1 < l.length) (fun e=>a4 e.2),Bool.false_and,Bool.and_false];rfl
   rw [AF (show ¬ f.2.2.1≥l.length by omega),AJ,AB (p:=-1<=f.2.2.1/\f.2.2.1 < l.length) ⟨a3,a4⟩,Ai]
   by_cases a5:1<=f.2.2.2.2.1.length
   rotate_left
   ·rw [AB (show (f.2.2.2.2.1.length:Int) < 1 by omega),AF a5,Bool.false_and,Bool.false_and,Bool.and_false];rfl
   rw [AF (show ¬ (f.2.2.2.2.1.length:Int) < 1 by omega),AJ,AB a5,Ai]
   by_cases a6:f.2.2.2.2.1.length<=200
   rotate_left
   ·rw [AB (show (f.2.2.2.2.1.length:Int) > 200 by omega),AF a6,Bool.false_and,Bool.false_and,Bool.and_false];rfl
   rw [AF (show ¬ (f.2.2.2.2.1.length:Int) > 200 by omega),AJ,AB a6,Ai,← QDa a5 a6,← QDa a5 a6]
   have code:∀ aG,Gb (eZ big aG) big (0,f)=bif f.2.2.2.2.1.all uz then some (T.nk f.2.2.2.2.2.1 f.2.2.2.2.1.length&&T.nk f.2.2.2.2.2.2.1 f.2.2.2.2.1.length) else some false:=by
    intro aG
    have:=aU (g:=eZ big aG) (mk:=fun i=>((i:Int),f)) (p:=fun i=>(f.2.2.2.2.1[i]?).all uz) (no:=some false) (kk:=some (T.nk f.2.2.2.2.2.1 f.2.2.2.2.1.length&&T.nk f.2.2.2.2.2.2.1 f.2.2.2.2.1.length)) (n:=f.2.2.2.2.1.length)
     (fun self i hi=>by
      rw [pat hi]
      have hop:=ho _ (Ae hi)
      simp only [eZ,qU,dh hi,AL,gI hi,AA,wS hi (by omega),QHp _ hop.1 hop.2]
      cases uz f.2.2.2.2.1[i] <;> rfl)
     (fun self=>by
      simp only [eZ,qU,dZ,AJ,T.QGB _ _ (show f.2.2.2.2.2.1.length<=9223372036854775807 by omega),T.QGB _ _ (show f.2.2.2.2.2.2.1.length<=9223372036854775807 by omega),AA]
      cases T.nk f.2.2.2.2.2.1 f.2.2.2.2.1.length <;> rfl) f.2.2.2.2.1.length 0 big (by omega) (dS (by omega))
    rw [QB8] at this
    exact this
   have:=aU (g:=eY big) (mk:=fun i=>(l,(i:Int),f)) (p:=fun i=>(f.2.2.2.1[i]?).all fun x=>K.iP x.2.1 l.length) (no:=some false) (kk:=bif f.2.2.2.2.1.all uz then some (T.nk f.2.2.2.2.2.1 f.2.2.2.2.1.length&&T.nk f.2.2.2.2.2.2.1 f.2.2.2.2.1.length) else some false) (n:=f.2.2.2.1.length)
    (fun self i hi=>by
     rw [pat hi]
     simp only [eY,lD,dh hi,AL,gI hi,AA,wS hi (by omega),K.iP]
     by_cases b1:0<=(f.2.2.2.1[i]).2.1
     ·rw [AF (show ¬ (f.2.2.2.1[i]).2.1 < 0 by omega),AJ,AB b1,Ai]
      by_cases b2:(f.2.2.2.1[i]).2.1 < l.length
      ·rw [AF (show ¬ (f.2.2.2.1[i]).2.1≥l.length by omega),AJ,AB b2];rfl
      ·rw [AB (show (f.2.2.2.1[i]).2.1≥l.length by omega),AF b2];rfl
     ·rw [AB (show (f.2.2.2.1[i]).2.1 < 0 by omega),AF b1];rfl)
    (fun self=>by
     simp only [eY,lD,dZ,AJ]
     exact code _) f.2.2.2.1.length 0 big (by omega) (dS (by omega))
   rw [QB8] at this
   refine Eq.trans this ?_
   cases (f.2.2.2.1.all fun x=>K.iP x.2.1 l.length) <;> cases f.2.2.2.2.1.all uz <;> rfl
structure QX9 (m:cB):Prop where
 ty:m.1.length<=1000000/\∀ t∈m.1,t.2.2.2.1.length<=1000
 fn:∀ f∈m.2.2.1,Op8 f.2.2.2.2.1/\f.2.2.2.2.2.1.length<=1000000/\f.2.2.2.2.2.2.1.length<=1000000
theorem QMk (m:cB) (h:QX9 m):zi m=some (zR m):=by
 show wh (Gb (kF big) big) m=_
 unfold wh zR uw zC QAJ
 rw [K.QJh m.1 h.ty.2,AA]
 by_cases hv:K.Valid m.1
 rotate_left
 ·rw [AX hv,AF hv];rfl
 rw [AY hv,AB hv,Ai,show ((0:Int) != 0)=false from rfl,AJ]
 by_cases ht:m.2.1.length<=32
 rotate_left
 ·rw [AB (by omega),AF ht,Bool.false_and,Bool.false_and,Bool.and_false];rfl
 rw [AF (by omega),AJ,AB ht,Ai]
 by_cases h1:1<=m.2.2.1.length
 rotate_left
 ·rw [AB (by omega),AF h1,Bool.false_and,Bool.and_false,Bool.and_false];rfl
 rw [AF (by omega),AJ,AB h1,Ai]
 by_cases h2:m.2.2.1.length<=32
 rotate_left
 ·rw [AB (by omega),AF h2,Bool.false_and,Bool.and_false,Bool.and_false];rfl
 rw [AF (by omega),AJ,AB h2,Ai,K.QJm hv,AA]
 have hm:(m.2.2.1.map (·.1)).length=m.2.2.1.length:=Aw _
 have inner:∀ (aG aH) (self:Int×cB->Option Bool) (i:Nat) (hi:i < m.2.2.1.length),Gb (kI big aG aH self) big ((i:Int),0,m)=bif pM (m.2.2.1.map (·.1)) i then self (((i+1:Nat):Int),m) else some false:=by
  intro aG aH self i hi
  unfold pM
  rw [pat (show i < (m.2.2.1.map (·.1)).length by omega)]
  exact aU (g:=kI big aG aH self) (mk:=fun k=>((i:Int),(k:Int),m)) (p:=fun k=>((m.2.2.1.map (·.1))[k]?).all fun t=>!(JW .str t (m.2.2.1.map (·.1))[i])) (no:=some false) (kk:=self (((i+1:Nat):Int),m)) (n:=i)
   (fun aH k hk=>by
    rw [pat (show k < (m.2.2.1.map (·.1)).length by omega)]
    simp only [kI,xK,dh hk,AL,gI (show k < m.2.2.1.length by omega),gI hi,AA,wS hk (by omega),List.getElem_map,bM])
   (fun aH=>by simp only [kI,xK,dZ,AJ,wS hi (by omega)]) i 0 big (by omega) (dS (by omega))
 have fns:∀ aG aH,Gb (kH big aG aH) big (0,m)=some (m.2.2.1.all (okF m.1.length)&&je (m.2.2.1.map (·.1))):=by
  intro aG aH
  have:=aU (g:=kH big aG aH) (mk:=fun i=>((i:Int),m)) (p:=fun i=>(m.2.2.1[i]?).all (fun f=>K.dA f.1&&okF m.1.length f)&&pM (m.2.2.1.map (·.1)) i) (no:=some false) (kk:=some true) (n:=m.2.2.1.length)
   (fun self i hi=>by
    have hf:=h.fn _ (Ae hi)
    rw [pat hi]
    simp only [kH,sD,dh hi,AL,gI hi,AA,wS hi (by omega),QGf m.1 m.2.2.1[i] h.ty.1 hf.1 hf.2.1 hf.2.2,bM,inner _ _ self i hi,QIg])
   (fun self=>by simp only [kH,sD,dZ,AJ]) m.2.2.1.length 0 big (by omega) (dS (by omega))
  rw [QIf,QB8,yO,← hm,QB2] at this
  refine this.trans (congrArg some ?_)
  unfold je
  rw [Bool.eq_iff_iff]
  simp only [List.all_eq_true,AP,AZ,List.mem_map]
  constructor
  ·rintro ⟨g1,g2⟩
   exact ⟨fun x hx=>(g1 x hx).2,fun s hs=>by obtain ⟨f,hf,rfl⟩:=hs;exact (g1 f hf).1,g2⟩
  ·rintro ⟨g1,g2,g3⟩
   exact ⟨fun x hx=>⟨g2 _ ⟨x,hx,rfl⟩,g1 x hx⟩,g3⟩
 have txs:∀ aG,Gb (kG big aG) big (0,m)=bif m.2.1.all (fun s=>decide (s.length<=64)) then some (m.2.2.1.all (okF m.1.length)&&je (m.2.2.1.map (·.1))) else some false:=by
  intro aG
  have:=aU (g:=kG big aG) (mk:=fun i=>((i:Int),m)) (p:=fun i=>(m.2.1[i]?).all fun s=>decide (s.length<=64)) (no:=some false) (kk:=some (m.2.2.1.all (okF m.1.length)&&je (m.2.2.1.map (·.1)))) (n:=m.2.1.length)
   (fun self i hi=>by
    rw [pat hi]
    simp only [kG,r9,dh hi,AL,gI hi,AA,wS hi (by omega),show (64:Int)=((64:Nat):Int) from rfl,QHa _ 64,bM])
   (fun self=>by
    simp only [kG,r9,dZ,AJ]
    exact fns _ _) m.2.1.length 0 big (by omega) (dS (by omega))
  rw [QB8] at this
  exact this
 have hsz:(K.szs (K.exS m.1)).length=m.1.length:=by simp [K.szs,K.yt]
 have:=aU (g:=kF big) (mk:=fun i=>((i:Int),m,K.szs (K.exS m.1))) (p:=fun i=>decide (K.sz (K.exS m.1) (i:Nat)<=256)) (no:=some false) (kk:=bif m.2.1.all (fun s=>decide (s.length<=64)) then some (m.2.2.1.all (okF m.1.length)&&je (m.2.2.1.map (·.1))) else some false) (n:=m.1.length)
  (fun self i hi=>by
   have e:=K.QJ1 (S:=K.exS m.1) (e:=(i:Int)) (by omega) (by rw [K.yt];omega)
   simp only [kF,ru,hsz,dh hi,AL,AA,wS hi (by have:=h.ty.1;omega),e,AB (show (0:Int)<=(i:Int) by omega),Ai]
   by_cases b:K.sz (K.exS m.1) (i:Nat)<=256
   ·rw [AF (show ¬ K.sz (K.exS m.1) (i:Nat) > 256 by omega),AB b];rfl
   ·rw [AB (show K.sz (K.exS m.1) (i:Nat) > 256 by omega),AF b];rfl)
  (fun self=>by
   simp only [kF,ru,hsz,dZ,AJ]
   exact txs _) m.1.length 0 big (by omega) (dS (by have:=h.ty.1;omega))
 refine Eq.trans this ?_
 cases ((List.range' 0 m.1.length).all fun i=>decide (K.sz (K.exS m.1) (i:Nat)<=256)) <;> cases m.2.1.all (fun s=>decide (s.length<=64)) <;> rfl
theorem QCB (N:Nat) (aG) {rs acc ns:List Int} {i r n:Int} (h0:0<=i) (h3:i < 3) (hr:Nk rs i=some (ltr r)) (hn:nth ns i.toNat=some n) (hl:Sz r) (hf:fit r n=true) (h64:I64 n) (ha:acc.length<=100) :
  qE N aG (rs,i,acc,ns)=aG (rs,IntKind.i64.wrap (i+1),acc++seg r n,ns):=by
 show vI aG _=_
 unfold vI
 dsimp only
 rw [AB h3,AB h0,AL,hr]
 simp only [AA,Bool.and_self,AL,hn,QHs r hl,QVZ r hl]
 by_cases hr0:r=0
 ·subst hr0
  simp [seg]
 ·rw [AF hr0,AJ,seg,AX hr0,raw]
  cases hs:sg r with
  | true=>
   have l:=aY (dbl n)
   simp only [AL,if_true]
   rw [QEX n h64.1 h64.2,AA,mM _ (QF5 h64.1 h64.2),AA,b11,eF (by omega)]
   rfl
  | false=>
   obtain ⟨l0,l1⟩:=QDD hl hf hs
   obtain ⟨m,rfl⟩:=BK l0
   have l:=aY m
   have e1:IntKind.u64.wrap (m:Int)=(m:Int):=by rw [wrap_u64];omega
   simp only [AJ]
   rw [e1,mM m (by omega),AA,b11,eF (by omega)]
   rfl
theorem QGi {x:Ins} (h0:0<=x.1) (h1:x.1<=255) (h:uz x=true) (w:WfI x):yg x=some (enc x):=by
 show ug (Gb (qE big) big) x=_
 unfold ug
 obtain ⟨a,b,c,ho,e,ha,hb,hc,fa,fb,fc⟩:=nK h
 rw [QGC h0 h1,AA,show gN x=some (vals x) from rfl,AA,ho,AY rfl]
 simp only [e,List.map_cons,List.map_nil]
 have l1:=QBi a x.2.1
 have l2:=QBi b x.2.2.1
 rw [QGU,WZ,QCB _ _ (by decide) (by decide) (QDc _ _) rfl ha fa w.1 (by simp),w01]
 rw [WZ,QCB _ _ (by decide) (by decide) (QDd _ _ _) rfl hb fb w.2.1 (by simp only [AQ,Af,Au];omega),w12]
 rw [WZ,QCB _ _ (by decide) (by decide) (QDe _ _ _ _) rfl hc fc w.2.2 (by simp only [AQ,Af,Au];omega),w23]
 show some _=_
 simp [enc,e,vals,body]
theorem oq (n:Int) (h:P63 n):aP n=some (vary n.toNat):=by
 show xW n=_
 unfold xW
 obtain ⟨k,rfl⟩:=BK h.1
 have:=h.2
 have e:IntKind.u64.wrap (k:Int)=(k:Int):=by rw [wrap_u64];omega
 rw [e,mM k (by omega)];rfl
theorem QBe {α:Type} (l:List α) (hl:l.length<=1000000):aP (l.length:Int)=some (vary l.length):=by
 have:=oq (l.length:Int) ⟨by omega,by omega⟩
 simpa using this
theorem QDy (fs:List K.sS) (hl:fs.length<=1000000) (hf:∀ f∈fs,QHH f) (hx:(yV fs).length<=1000000):j6 fs=some (yV fs):=by
 show sI (Gb (gQ big) big) fs=_
 unfold sI yV at *
 rw [QBe fs hl,AA]
 rw [AQ] at hx
 exact iE (g:=gQ big) (mk:=fun i x=>(fs,(i:Int),x)) (l:=fs) (cod:=qw) (kk:=some) (B:=1000000)
  (fun self i x hi hx=>by
   have h1:=hf _ (Ae hi)
   unfold qw said at *
   simp only [AQ] at hx
   simp only [gQ,tL,dh hi,AL,gI hi,AA,wS hi (by omega),QG2 fs[i].1 h1.1,oq _ h1.2]
   rw [dN (by simp only [AQ];show _<=68719476736;omega),AL,dN (by show (x++_).length+_<=68719476736;simp only [AQ];omega),AL]
   rw [← Ab];rfl)
  (fun self x hx=>by simp only [gQ,tL,dZ,AJ]) fs.length 0 big (vary fs.length) (by omega) (dS (by omega)) (by simpa using hx)
theorem kindTail (t:K.cK) (z:List Int) {β:Type} (kk:List Int->Option β) (h:QJS t) (hx:z.length+(QEt t).length<=1000000) :
  (bif decide (t.1=4) then (bif decide (t.1=4) then ((aP t.2.1).bind fun x4=>(bif (Nat.ble 1 1&&Nat.ble (List.length z+List.length x4) lim) then kk (List.append z x4) else none)) else none) else (bif decide (t.1=7) then ((aP t.2.1).bind fun sQ=>(bif (Nat.ble 1 1&&Nat.ble (List.length z+List.length sQ) lim) then kk (List.append z sQ) else none)) else (bif decide (t.1=6) then ((aP t.2.1).bind fun lS=>(bif (Nat.ble 1 1&&Nat.ble (List.length z+List.length lS) lim) then ((aP t.2.2.1).bind fun xq=>(bif (Nat.ble 1 1&&Nat.ble (List.length (List.append z lS)+List.length xq) lim) then kk (List.append (List.append z lS) xq) else none)) else none)) else (bif decide (t.1=5) then ((j6 t.2.2.2.1).bind fun zU=>(bif (Nat.ble 1 1&&Nat.ble (List.length z+List.length zU) lim) then kk (List.append z zU) else none)) else kk z))))=kk (z++QEt t):=by
 obtain ⟨h1,h2,h3,h4⟩:=h
 unfold QEt at *
 by_cases c4:t.1=4
 ·simp only [c4,decide_true,AL,true_or,if_true] at hx ⊢
  rw [oq _ h1,AA,dN (by show _<=68719476736;omega),AL];rfl
 ·by_cases c7:t.1=7
  ·simp only [c7,decide_true,AL,or_true,if_true] at hx ⊢
   rw [show decide ((7:Int)=4)=false from rfl,AJ,oq _ h1,AA,dN (by show _<=68719476736;omega),AL];rfl
  ·by_cases c6:t.1=6
   ·simp only [c6,decide_true,AL,if_true] at hx ⊢
    rw [AX (by omega),AQ] at hx
    rw [show decide ((6:Int)=4)=false from rfl,show decide ((6:Int)=7)=false from rfl,AJ,AJ,AX (by omega),oq _ h1,AA,dN (by show _<=68719476736;omega),AL,oq _ h2,AA,dN (by show (z++_).length+_<=68719476736;rw [AQ];omega),AL,← Ab];rfl
   ·by_cases c5:t.1=5
    ·simp only [c5,decide_true,AL,if_true] at hx ⊢
     rw [AX (by omega),AX (by omega)] at hx
     rw [show decide ((5:Int)=4)=false from rfl,show decide ((5:Int)=7)=false from rfl,show decide ((5:Int)=6)=false from rfl,AJ,AJ,AJ,AX (by omega),AX (by omega),QDy _ h3 h4 (by omega),AA,dN (by show _<=68719476736;omega),AL];rfl
    ·simp only [decide_false,AJ,c4,c5,c6,c7,or_self,if_false,List.append_nil]
theorem QKI (m:cB) (w:QPi m) (ho:∀ f∈m.2.2.1,Op8 f.2.2.2.2.1) (hc:(wD m).length<=1000000):yh m=some (wD m):=by
 show uj (Gb (jE big) big) m=_
 unfold uj wD at *
 obtain ⟨⟨h1,h2⟩,⟨h3,h4⟩,h5,h6⟩:=w
 simp only [AQ] at hc
 rw [QBe m.1 h1,AA]
 have code:∀ (aG aH) (self:Int×cB×List Int->Option (List Int)) (i:Nat) (f:dM) (x:List Int),i < m.2.2.1.length->QKM f->Op8 f.2.2.2.2.1->x.length+((f.2.2.2.2.1.flatMap enc).length+((T.dP f.2.2.2.2.2.1).length+(T.dP f.2.2.2.2.2.2.1).length))<=1000000->
   Gb (jH big aG aH self) big ((i:Int),0,m,x,f)=self (((i+1:Nat):Int),m,x++(f.2.2.2.2.1.flatMap enc++(T.dP f.2.2.2.2.2.1++T.dP f.2.2.2.2.2.2.1))):=by
  intro aG aH self i f x hi hf hop hx
  have h8:=T.sK.1 hf.s1.2.2
  have h9:=T.sK.1 hf.s2.2.2
  have:=iE (g:=jH big aG aH self) (mk:=fun k x=>((i:Int),(k:Int),m,x,f)) (l:=f.2.2.2.2.1) (cod:=enc) (kk:=fun x=>self (((i+1:Nat):Int),m,x++(T.dP f.2.2.2.2.2.1++T.dP f.2.2.2.2.2.2.1))) (B:=1000000 - ((T.dP f.2.2.2.2.2.1).length+(T.dP f.2.2.2.2.2.2.1).length))
   (fun self k x hk hx=>by
    have hcc:=hf.code.2 _ (Ae hk)
    have hoo:=hop _ (Ae hk)
    simp only [jH,vJ,dh hk,AL,gI hk,AA,wS hk (by have:=hf.code.1;omega),QGi hoo.1 hoo.2 hcc.1 hcc.2]
    rw [dN (by show _<=68719476736;omega),AL];rfl)
   (fun self x hx=>by
    simp only [jH,vJ,dZ,AJ,wS hi (by omega),T.QEJ h8.2 h8.1.2 hf.s1.2.1,T.QEJ h9.2 h9.1.2 hf.s2.2.1,AA]
    rw [dN (by show _<=68719476736;omega),AL,dN (by show (x++_).length+_<=68719476736;rw [AQ];omega),AL,← Ab];rfl) f.2.2.2.2.1.length 0 big x (by omega) (dS (by have:=hf.code.1;omega)) (by simp only [List.drop_zero];omega)
  refine Eq.trans this ?_
  simp only [List.drop_zero,Ab]
 have fns:∀ (aG aH) (x:List Int),x.length+(m.2.2.1.flatMap dW).length<=1000000->Gb (jG big aG aH) big (0,m,x)=some (x++m.2.2.1.flatMap dW):=by
  intro aG aH x hx
  exact iE (g:=jG big aG aH) (mk:=fun i x=>((i:Int),m,x)) (l:=m.2.2.1) (cod:=dW) (kk:=some) (B:=1000000)
   (fun self i x hi hx=>by
    have hf:=h6 _ (Ae hi)
    have hop:=ho _ (Ae hi)
    unfold dW said at *
    simp only [AQ] at hx
    simp only [jG,qP,dh hi,AL,gI hi,AA,QG2 _ hf.name,oq _ hf.par,QEX _ hf.res.1 hf.res.2,mM _ (QF5 hf.res.1 hf.res.2),QDy _ hf.sl.1 hf.sl.2 (by omega),QBe _ hf.code.1]
    rw [dN (by rw [AQ];show _<=68719476736;omega),AL]
    change (bif _&&Nat.ble ((x++_).length+_) _ then _ else _)=_
    rw [dN (by simp only [AQ];show _<=68719476736;omega),AL]
    change (bif _&&Nat.ble (((x++_)++_).length+_) _ then _ else _)=_
    rw [dN (by simp only [AQ];show _<=68719476736;omega),AL]
    change (bif _&&Nat.ble ((((x++_)++_)++_).length+_) _ then _ else _)=_
    rw [dN (by simp only [AQ];show _<=68719476736;omega),AL]
    change (bif _&&Nat.ble (((((x++_)++_)++_)++_).length+_) _ then _ else _)=_
    rw [dN (by simp only [AQ];show _<=68719476736;omega),AL]
    refine (code _ _ self i _ (((((x++_)++_)++_)++_)++_) hi hf hop (by simp only [AQ];omega)).trans ?_
    simp only [Ab])
   (fun self x hx=>by simp only [jG,qP,dZ,AJ]) m.2.2.1.length 0 big x (by omega) (dS (by omega)) (by simpa using hx)
 have txs:∀ (aG) (x:List Int),x.length+((m.2.1.flatMap said).length+((vary m.2.2.1.length).length+(m.2.2.1.flatMap dW).length))<=1000000->Gb (jF big aG) big (0,m,x)=some (x++(m.2.1.flatMap said++(vary m.2.2.1.length++m.2.2.1.flatMap dW))):=by
  intro aG x hx
  have:=iE (g:=jF big aG) (mk:=fun i x=>((i:Int),m,x)) (l:=m.2.1) (cod:=said) (kk:=fun x=>some (x++(vary m.2.2.1.length++m.2.2.1.flatMap dW))) (B:=1000000 - ((vary m.2.2.1.length).length+(m.2.2.1.flatMap dW).length))
   (fun self i x hi hx=>by
    unfold said at *
    simp only [jF,qO,dh hi,AL,gI hi,AA,wS hi (by omega),QG2 _ (h4 _ (Ae hi))]
    rw [dN (by show _<=68719476736;omega),AL];rfl)
   (fun self x hx=>by
    simp only [jF,qO,dZ,AJ,QBe _ h5,AA]
    rw [dN (by show _<=68719476736;omega),AL]
    refine (fns _ _ (x++_) (by rw [AQ];omega)).trans ?_
    rw [Ab]) m.2.1.length 0 big x (by omega) (dS (by omega)) (by simp only [List.drop_zero];omega)
  refine Eq.trans this ?_
  simp only [List.drop_zero,Ab]
 have:=iE (g:=jE big) (mk:=fun i x=>((i:Int),m,x)) (l:=m.1) (cod:=zZ) (kk:=fun x=>some (x++(vary m.2.1.length++(m.2.1.flatMap said++(vary m.2.2.1.length++m.2.2.1.flatMap dW))))) (B:=1000000 - ((vary m.2.1.length).length+((m.2.1.flatMap said).length+((vary m.2.2.1.length).length+(m.2.2.1.flatMap dW).length))))
  (fun self i x hi hx=>by
   have ht:=h2 _ (Ae hi)
   unfold zZ at *
   simp only [Af] at hx
   have e:∀ y:List Int,x++(m.1[i]).1::y=(x++[(m.1[i]).1])++y:=fun y=>by simp
   rw [e]
   have k:=kindTail m.1[i] (x++[(m.1[i]).1]) (fun y=>self (((i+1:Nat):Int),m,y)) ht (by rw [AQ];simp only [Af,Au];omega)
   simp only [jE,qN,dh hi,AL,gI hi,AA,wS hi (by omega)]
   rw [dN (by simp only [Af,Au];show _<=68719476736;omega),AL]
   refine Eq.trans ?_ k
   simp only [K.mR]
   change (bif decide _ then (bif decide _ then _ else _) else _)=_
   by_cases c4:(m.1[i]).1=4
   ·rw [AB c4];rfl
   ·rw [AF c4];rfl)
  (fun self x hx=>by
   simp only [jE,qN,dZ,AJ,QBe _ h3,AA]
   rw [dN (by show _<=68719476736;omega),AL]
   refine (txs _ (x++_) (by rw [AQ];omega)).trans ?_
   rw [Ab]) m.1.length 0 big (vary m.1.length) (by omega) (dS (by omega)) (by simp only [List.drop_zero];omega)
 refine Eq.trans this ?_
 simp only [List.drop_zero,Ab]
structure QAf (m:cB):Prop where
 ty:m.1.length<=1000000/\∀ t∈m.1,t.2.2.2.1.length<=1000
 fn:∀ f∈m.2.2.1,Op8 f.2.2.2.2.1/\f.2.2.2.2.2.1.length<=1000000/\f.2.2.2.2.2.2.1.length<=1000000
 mem:QPh m
theorem QAf.l {m:cB} (h:QAf m):QJP m:=⟨h.ty.1,fun f hf=>(h.fn f hf).2,h.mem⟩
theorem QJ2 (m:cB) (h:QAf m):pY m=some (chk m):=by
 show zB m=_
 unfold zB chk
 rw [QMk m ⟨h.ty,h.fn⟩,AA]
 by_cases hv:zR m=true
 ·obtain ⟨g1,g2⟩:=QLa hv h.mem
  rw [hv,Az,AJ,QKI m g1 (fun f hf=>(h.fn f hf).1) g2,AA,AY rfl]
  by_cases hl:(wD m).length > 20000
  ·rw [AB (by omega),AY hl];rfl
  ·rw [AF (by omega),AX hl];rfl
 ·rw [AX hv]
  simp only [Bool.not_eq_true] at hv
  rw [hv];rfl
theorem QF4 {m:cB} (h:chk m=0):zR m=true/\(wD m).length<=20000:=by
 unfold chk at h
 split at h
 ·rename_i hv
  split at h
  ·omega
  ·exact ⟨hv,by omega⟩
 ·omega
theorem w64 {z:Int} (h:0<=z) (h':z<=9223372036854775807):IntKind.i64.wrap z=z:=T.t64 (by omega) h'
abbrev QO3:Ty:=.pair .str (.pair (.int .i64) .unit)
abbrev QUQ:Ty:=.pair (.int .u8) (.pair (.int .i64) (.pair (.int .i64) (.pair (.slice QO3) .unit)))
abbrev QTP:Ty:=.pair (.int .u8) (.pair (.int .i64) (.pair (.int .i64) (.pair (.int .i64) .unit)))
abbrev QPt:Ty:=.pair (.int .i64) (.pair (.int .u64) .unit)
abbrev QKL:Ty:=.pair .str (.pair (.int .i64) (.pair (.int .i64) (.pair (.slice QO3) (.pair (.slice QTP) (.pair (.slice QPt) (.pair (.slice QPt) .unit))))))
abbrev QKe:Ty:=.pair (.slice QUQ) (.pair (.slice .str) (.pair (.slice QKL) .unit))
theorem wf_i64 {n:Int} (w:Wf (.int .i64) n):I64 n:=by
 have : -9223372036854775808<=n/\n<=9223372036854775807:=by simpa only [Wf,min_i64,show IntKind.i64.max=9223372036854775807 by decide] using w
 exact this
theorem wf_u64 {n:Int} (w:Wf (.int .u64) n):0<=n/\n<=18446744073709551615:=by simpa only [Wf,min_u64,max_u64] using w
theorem wf_u8 {n:Int} (w:Wf (.int .u8) n):0<=n/\n<=255:=by
 simpa only [Wf,show IntKind.u8.min=0 by decide,show IntKind.u8.max=255 by decide] using w
theorem QHA {l:List T.TT} (w:Wf (.slice QPt) l):T.V64 l:=fun r hr=>by
 have:=wf_u64 (w.2 r hr).2.1
 exact ⟨this.1,by omega⟩
theorem QRT {m:cB} (w:Wf QKe m) (g:QTO m):QAf m/\QPg m:=by
 have wf:∀ f∈m.2.2.1,Wf QKL f:=fun f hf=>w.2.2.1.2 f hf
 refine ⟨⟨⟨by have:=g.ty.1;omega,fun t ht=>by have:=g.ty.2 t ht;omega⟩,fun f hf=>?_,fun f hf=>?_⟩,⟨⟨by have:=g.ty.1;omega,fun t ht=>by have:=g.ty.2 t ht;omega⟩,by have:=g.tx;omega,by have:=g.fn.1;omega,fun f hf=>?_⟩⟩
 ·have h:=wf f hf
  have h1:=g.fn.2 f hf
  exact ⟨fun x hx=>wf_u8 (h.2.2.2.2.1.2 x hx).1,by have:=h1.s1;omega,by have:=h1.s2;omega⟩
 ·have h:=wf f hf
  exact ⟨wf_i64 h.2.2.1,fun x hx=>⟨wf_i64 (h.2.2.2.2.1.2 x hx).2.1,wf_i64 (h.2.2.2.2.1.2 x hx).2.2.1,wf_i64 (h.2.2.2.2.1.2 x hx).2.2.2.1⟩,QHA h.2.2.2.2.2.1,QHA h.2.2.2.2.2.2.1⟩
 ·have h1:=g.fn.2 f hf
  exact ⟨by have:=h1.sl;omega,by have:=h1.code;omega,by have:=h1.s1;omega,by have:=h1.s2;omega⟩
theorem QAr {α:Type} (e:Nat) (he:Nat.ble 1 e=true) (l:List α) (h:l.length<=1000000):(Nat.ble 1 e&&Nat.ble (List.length ([]:List α)+List.length l) lim)=true:=by
 rw [he,eF (by simp;omega)];rfl
theorem QRK {α:Type} (e:Nat) (he:Nat.ble 1 e=true) (l:List α) (x:α) (h:l.length<=1000000):(Nat.ble 1 e&&Nat.ble (List.length l+List.length [x]) lim)=true:=by
 rw [he,eF (by simp;omega)];rfl
end Go.Proofs.YtbgmjjplddddnaaGreatDoor
