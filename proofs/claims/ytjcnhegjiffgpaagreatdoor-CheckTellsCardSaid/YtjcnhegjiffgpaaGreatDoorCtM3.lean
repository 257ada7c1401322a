import Derived.Test.YtjcnhegjiffgpaaGreatDoorCtK2
set_option linter.unusedVariables false
set_option linter.unusedSimpArgs false
set_option linter.unusedSectionVars false
set_option maxRecDepth 100000
namespace Go.Proofs.YtjcnhegjiffgpaaGreatDoor
open Go.Lift
abbrev DX:=List Int×Int×Int×List K.Qo×List Ins×List T.Rn×List T.Rn×Unit
abbrev DF:=List K.ES×List (List Int)×List DX×Unit
theorem Dq {i n:Nat} (h:i < n):decide ((i:Int) < (n:Int))=true:=AB (by omega)
theorem Dk {n:Nat}:decide ((n:Int) < (n:Int))=false:=by simp
theorem gI {α:Type} {l:List α} {i:Nat} (h:i < l.length):BX l (i:Int)=some l[i]:=by
 unfold BX
 simp [h,T.QU8]
theorem wS {i n:Nat} (h:i < n) (hn:n<=1000000000):IntKind.i64.wrap ((i:Int)+1)=((i+1:Nat):Int):=by
 rw [T.t64 (by omega) (by omega)];rfl
theorem Df {n:Nat} (h:n<=1000000000):n < big:=QDM (by rw [kT];omega)
theorem CQ {V β:Type} {g:(V->Option β)->V->Option β} {mk:Nat->V} {p:Nat->Bool} {no kk:Option β} {n:Nat} (hs:∀ self i,i < n->g self (mk i)=bif p i then self (mk (i+1)) else no) (he:∀ self,g self (mk n)=kk) :
  ∀ (k i M:Nat),i+k=n->k < M->BP g M (mk i)=bif (List.range' i k).all p then kk else no
 | k,i,0,_,h=>by omega
 | 0,i,M+1,hi,_=>by
  rw [Ba,show i=n by omega,he]
  rfl
 | k+1,i,M+1,hi,hM=>by
  rw [Ba,hs _ i (by omega),List.range'_succ,List.all_cons]
  cases p i with
  | false=>rfl
  | true=>
   rw [AL,Ai]
   exact CQ hs he k (i+1) M (by omega) (by omega)
theorem cB {α:Type} (l:List α) (q:α->Bool):(List.range' 0 l.length).all (λi=>(l[i]?).all q)=l.all q:=by
 rw [Bool.eq_iff_iff]
 simp only [List.all_eq_true,List.mem_range'_1]
 constructor
 ·intro h x hx
  obtain ⟨i,hi,rfl⟩:=List.mem_iff_getElem.1 hx
  have:=h i ⟨by omega,by omega⟩
  simpa [hi] using this
 ·intro h i hi
  have:i < l.length:=by omega
  simp [this,h _ (Ae this)]
theorem pat {α:Type} {l:List α} {q:α->Bool} {i:Nat} (h:i < l.length):(l[i]?).all q=q l[i]:=by simp [h]
def dK (ns:List (List Int)):List (List Int×Bool):=ns.foldl (λm s=>@XP .str .bool s true m) []
theorem eX (ns:List (List Int)) (s:List Int):dK (ns++[s])=@XP .str .bool s true (dK ns):=by simp [dK]
theorem tC (ns:List (List Int)):∀ i,i<=ns.length->K.Marks .str (dK (ns.take i)) (λs=>s∈ns.take i)
 | 0,_=>by
  intro x
  simp [dK,K.Marks.nil x]
 | i+1,hi=>by
  have ih:=tC ns i (by omega)
  rw [Ah (by omega),eX]
  intro x
  rw [ih.put ns[i] x]
  show (x=ns[i]\/x∈ns.take i)↔x∈ns.take i++[ns[i]]
  rw [List.mem_append,List.mem_singleton,or_comm]
def Jw (ns:List (List Int)):Bool:=ns.all K.Ej&&decide ns.Nodup
theorem VA (ns:List (List Int)):ns.Nodup↔∀ i (h:i < ns.length),ns[i] ∉ ns.take i:=by
 unfold List.Nodup
 rw [List.pairwise_iff_getElem]
 constructor
 ·intro h i hi hm
  obtain ⟨j,hj,e⟩:=List.mem_take_iff_getElem.1 hm
  exact h j i (by omega) hi (by omega) e
 ·intro h i j hi hj hij e
  exact h j hj (List.mem_take_iff_getElem.2 ⟨i,by omega,e⟩)
def pN (ns:List (List Int)) (i:Nat):Bool:=(ns[i]?).all λs=>K.Ej s&&!(@bf .str .bool s false (dK (ns.take i))).1
theorem xG (ns:List (List Int)):(List.range' 0 ns.length).all (pN ns)=Jw ns:=by
 rw [Bool.eq_iff_iff]
 simp only [List.all_eq_true,List.mem_range'_1,Jw,AP,AZ,VA]
 have key:∀ i (h:i < ns.length),pN ns i=true↔K.Ej ns[i]=true/\ns[i] ∉ ns.take i:=by
  intro i h
  unfold pN
  rw [pat h,AP,Bool.not_eq_true',<- Bool.not_eq_true,tC ns i (by omega) ns[i]]
 constructor
 ·intro h
  refine ⟨λs hs=>?_,λi hi=>((key i hi).1 (h i ⟨by omega,by omega⟩)).2⟩
  obtain ⟨i,hi,rfl⟩:=List.mem_iff_getElem.1 hs
  exact ((key i hi).1 (h i ⟨by omega,by omega⟩)).1
 ·intro h i hi
  have hi':i < ns.length:=by omega
  exact (key i hi').2 ⟨h.1 _ (Ae hi'),h.2 i hi'⟩
def T9 (l:List K.ES):Bool:=decide (K.Valid l)&&(List.range' 0 l.length).all λi=>decide (K.sz (K.exS l) (i:Nat)<=256)
def YQ (l:List (List Int)):Bool:=decide (l.length<=32)&&l.all λs=>decide (s.length<=64)
def Zz (n:Int) (fs:List K.Qo):Bool:=decide (fs.length<=16)&&((fs.all λf=>K.Fq f.2.1 n)&&Jw (fs.map (·.1)))
def gV (l:List Ins):Bool:=decide (1<=l.length)&&(decide (l.length<=200)&&l.all Qf)
def okF (n:Int) (f:DX):Bool:=Zz n f.2.2.2.1&&(decide (0<=f.2.1)&&(decide (f.2.1<=f.2.2.2.1.length)&&((decide (f.2.2.1 = -1)||K.Fq f.2.2.1 n)&&(gV f.2.2.2.2.1&&(decide (T.IC f.2.2.2.2.2.1 f.2.2.2.2.1.length=0)&&decide (T.IC f.2.2.2.2.2.2.1 f.2.2.2.2.1.length=0))))))
def bQ (l:List DX) (n:Int):Bool:=decide (1<=l.length)&&(decide (l.length<=32)&&(l.all (okF n)&&Jw (l.map (·.1))))
def Yq (m:DF):Bool:=T9 m.1&&(YQ m.2.1&&bQ m.2.2.1 m.1.length)
theorem QHp:K.Valid []:=by
 refine ⟨by simp,λi h=>by simp at h,?_⟩
 simp [K.wN,K.Ws]
theorem QHn (l:List K.ES):(List.range' 0 l.length).all (λi=>decide (K.W9 l (i:Nat)=0))=T9 l:=by
 rw [Bool.eq_iff_iff]
 simp only [T9,List.all_eq_true,List.mem_range'_1,AP,AZ]
 constructor
 ·intro h
  refine ⟨?_,λi hi=>(K.y7 (h i hi)).2.2.2⟩
  cases l with
  | nil=>exact QHp
  | cons t r=>exact (K.y7 (h 0 ⟨by omega,by simp⟩)).1
 ·intro h i hi
  exact K.jh h.1 (by omega) (by omega) (h.2 i hi)
theorem QBK (l:List K.ES) (hl:l.length<=1000000):Sq l=some (T9 l):=by
 show KR (BP (Ed big) big) l=_
 unfold KR
 have:=CQ (g:=Ed big) (mk:=λi=>(l,(l.length:Int),(i:Int))) (p:=λi=>decide (K.W9 l (i:Nat)=0)) (no:=some false) (kk:=some true) (n:=l.length)
  (λself i hi=>by
   simp only [Ed,Pq,Dq hi,AL,K.QF1,AA,wS hi (by omega)]
   by_cases h:K.W9 l (i:Nat)=0
   ·simp [h]
   ·have e:(K.W9 l (i:Nat) != (0:Int))=true:=by simp [h]
    rw [AX h,AF h]
    exact (congrArg (λb=>bif b then some false else self (l,↑l.length,((i+1:Nat):Int))) e).trans rfl)
  (λself=>by simp only [Ed,Pq,Dk,AJ]) l.length 0 big (by omega) (Df (by omega))
 rw [QHn] at this
 rw [show ((0:Nat):Int)=0 from rfl] at this
 rw [this]
 cases T9 l <;> rfl
theorem QBJ (l:List (List Int)):Sn l=some (YQ l):=by
 show KQ (BP (Ec big) big) l=_
 unfold KQ YQ
 by_cases h:l.length<=32
 ·rw [AF (by omega),AJ,AB h,Ai]
  have:=CQ (g:=Ec big) (mk:=λi=>(l,(l.length:Int),(i:Int))) (p:=λi=>(l[i]?).all λs=>decide (s.length<=64)) (no:=some false) (kk:=some true) (n:=l.length)
   (λself i hi=>by
    rw [pat hi]
    simp only [Ec,Pp,Dq hi,AL,gI hi,AA,wS hi (by omega)]
    by_cases h:l[i].length<=64
    ·rw [AF (by omega),AB h];rfl
    ·rw [AB (by omega),AF h];rfl)
   (λself=>by simp only [Ec,Pp,Dk,AJ]) l.length 0 big (by omega) (Df (by omega))
  rw [cB] at this
  rw [show ((0:Nat):Int)=0 from rfl] at this
  rw [this]
  cases l.all λs=>decide (s.length<=64) <;> rfl
 ·rw [AB (by omega),AL,AF h];rfl
theorem mK (x n:Int):La (x,n)=some (K.Fq x n):=by
 show U5 (x,n)=_
 unfold U5 K.Fq
 dsimp only
 by_cases h:0<=x
 ·rw [AB (show x>=0 from h),AL];rfl
 ·rw [AF (show ¬ x>=0 from h),AJ];rfl
theorem QHb (fs:List K.Qo) (hl:fs.length<=1000) (BM):BP (FU big BM) big (fs,(fs.length:Int),(0:Int),([]:List (List Int×Bool)))=some (Jw (fs.map (·.1))):=by
 have hm:(fs.map (·.1)).length=fs.length:=Ay _
 have:=CQ (g:=FU big BM) (mk:=λi=>(fs,(fs.length:Int),(i:Int),dK ((fs.map (·.1)).take i))) (p:=pN (fs.map (·.1))) (no:=some false) (kk:=some true) (n:=fs.length)
  (λself i hi=>by
   have hi':i < (fs.map (·.1)).length:=by omega
   unfold pN
   rw [pat hi']
   simp only [FU,Po,Dq hi,AL,gI hi,AA,wS hi (by omega),show K4 fs[i]=some fs[i].1 from rfl,K.qO,List.getElem_map]
   cases h1:K.Ej fs[i].1 with
   | false=>rfl
   | true=>
    cases h2:(@bf .str .bool fs[i].1 false (dK ((fs.map (·.1)).take i))).1 with
    | true=>rfl
    | false=>
     rw [Ah hi',eX]
     simp only [List.getElem_map]
     rfl)
  (λself=>by simp only [FU,Po,Dk,AJ]) fs.length 0 big (by omega) (Df (by omega))
 rw [<- hm,xG,hm] at this
 refine Eq.trans this ?_
 cases Jw (fs.map (·.1)) <;> rfl
theorem QBI (fs:List K.Qo) (n:Int):Sl (fs,n)=some (Zz n fs):=by
 show KP (BP (Eb big) big) (fs,n)=_
 unfold KP Zz
 dsimp only
 by_cases h:fs.length<=16
 ·rw [AF (by omega),AJ,AB h,Ai]
  have:=CQ (g:=Eb big) (mk:=λi=>(fs,n,fs,(fs.length:Int),(i:Int))) (p:=λi=>(fs[i]?).all λf=>K.Fq f.2.1 n) (no:=some false) (kk:=some (Jw (fs.map (·.1)))) (n:=fs.length)
   (λself i hi=>by
    rw [pat hi]
    simp only [Eb,K8,Dq hi,AL,gI hi,AA,wS hi (by omega),mK]
    cases K.Fq fs[i].2.1 n <;> rfl)
   (λself=>by
    simp only [Eb,K8,Dk,AJ]
    exact QHb fs (by omega) self) fs.length 0 big (by omega) (Df (by omega))
  rw [cB] at this
  refine Eq.trans this ?_
  cases (fs.all λf=>K.Fq f.2.1 n) <;> rfl
 ·rw [AB (by omega),AL,AF h];rfl
theorem QH3 (l:List Ins):RU l=some (gV l):=by
 show Ny (BP (Fe big) big) l=_
 unfold Ny gV
 by_cases h1:1<=l.length
 ·by_cases h:l.length<=200
  ·rw [AF (by omega),AF (by omega),AJ,AJ,AB h,AB h1,Ai,Ai]
   have:=CQ (g:=Fe big) (mk:=λi=>(l,(l.length:Int),(i:Int))) (p:=λi=>(l[i]?).all Qf) (no:=some false) (kk:=some true) (n:=l.length)
    (λself i hi=>by
     rw [pat hi]
     simp only [Fe,S9,Dq hi,AL,gI hi,AA,wS hi (by omega),Wv]
     cases Qf l[i] <;> rfl)
    (λself=>by simp only [Fe,S9,Dk,AJ]) l.length 0 big (by omega) (Df (by omega))
   rw [cB] at this
   refine Eq.trans this ?_
   cases l.all Qf <;> rfl
  ·rw [AF (by omega),AB (by omega),AB h1,AF h];rfl
 ·rw [AB (by omega),AF h1];rfl
theorem QH4 (f:DX) (n:Int) (h1:f.2.2.2.2.2.1.length<=1000000) (h2:f.2.2.2.2.2.2.1.length<=1000000):RX (f,n)=some (okF n f):=by
 show WY (f,n)=_
 unfold WY okF
 simp only [QBI,QH3,mK,AA,T.ko _ _ (show f.2.2.2.2.2.1.length<=9223372036854775807 by omega),T.ko _ _ (show f.2.2.2.2.2.2.1.length<=9223372036854775807 by omega)]
 cases Zz n f.2.2.2.1 with
 | false=>rfl
 | true=>
  simp only [A8,AJ,Ai]
  by_cases a1:0<=f.2.1
  ·rw [AF (show ¬ f.2.1 < 0 by omega),AJ,AB a1,Ai]
   by_cases a2:f.2.1<=f.2.2.2.1.length
   ·rw [AF (show ¬ f.2.1 > f.2.2.2.1.length by omega),AJ,AB a2,Ai]
    have key:∀ b:Bool,(bif gV f.2.2.2.2.1 then (bif T.IC f.2.2.2.2.2.1 f.2.2.2.2.1.length==0 then some (T.IC f.2.2.2.2.2.2.1 f.2.2.2.2.1.length==0) else some false) else some false)=some (gV f.2.2.2.2.1&&(decide (T.IC f.2.2.2.2.2.1 f.2.2.2.2.1.length=0)&&decide (T.IC f.2.2.2.2.2.2.1 f.2.2.2.2.1.length=0))):=by
     intro _
     cases gV f.2.2.2.2.1 with
     | false=>rfl
     | true=>rw [K.VY,K.VY];by_cases c1:T.IC f.2.2.2.2.2.1 f.2.2.2.2.1.length=0 <;> simp [c1]
    by_cases a3:f.2.2.1 = -1
    ·rw [show (f.2.2.1 != -1)=false by simp [a3],AJ,AB a3,Bool.true_or,Ai]
     exact key true
    ·rw [show (f.2.2.1 != -1)=true by simp [a3],AL,AF a3,Bool.false_or]
     cases K.Fq f.2.2.1 n with
     | false=>rfl
     | true=>exact key true
   ·rw [AB (show f.2.1 > f.2.2.2.1.length by omega),AF a2];rfl
  ·rw [AB (show f.2.1 < 0 by omega),AF a1];rfl
theorem QGp (l:List DX) (hl:l.length<=1000) (BM):BP (FT big BM) big (l,(l.length:Int),(0:Int),([]:List (List Int×Bool)))=some (Jw (l.map (·.1))):=by
 have hm:(l.map (·.1)).length=l.length:=Ay _
 have:=CQ (g:=FT big BM) (mk:=λi=>(l,(l.length:Int),(i:Int),dK ((l.map (·.1)).take i))) (p:=pN (l.map (·.1))) (no:=some false) (kk:=some true) (n:=l.length)
  (λself i hi=>by
   have hi':i < (l.map (·.1)).length:=by omega
   unfold pN
   rw [pat hi']
   simp only [FT,Pn,Dq hi,AL,gI hi,AA,wS hi (by omega),show K3 l[i]=some l[i].1 from rfl,K.qO,List.getElem_map]
   cases h1:K.Ej l[i].1 with
   | false=>rfl
   | true=>
    cases h2:(@bf .str .bool l[i].1 false (dK ((l.map (·.1)).take i))).1 with
    | true=>rfl
    | false=>
     rw [Ah hi',eX]
     simp only [List.getElem_map]
     rfl)
  (λself=>by simp only [FT,Pn,Dk,AJ]) l.length 0 big (by omega) (Df (by omega))
 rw [<- hm,xG,hm] at this
 refine Eq.trans this ?_
 cases Jw (l.map (·.1)) <;> rfl
theorem QBH (l:List DX) (n:Int) (hf:∀ f∈l,f.2.2.2.2.2.1.length<=1000000/\f.2.2.2.2.2.2.1.length<=1000000):Sk (l,n)=some (bQ l n):=by
 show KO (BP (Ea big) big) (l,n)=_
 unfold KO bQ
 dsimp only
 by_cases h1:1<=l.length
 ·by_cases h:l.length<=32
  ·rw [AF (by omega),AF (by omega),AJ,AJ,AB h,AB h1,Ai,Ai]
   have:=CQ (g:=Ea big) (mk:=λi=>(l,n,l,(l.length:Int),(i:Int))) (p:=λi=>(l[i]?).all (okF n)) (no:=some false) (kk:=some (Jw (l.map (·.1)))) (n:=l.length)
    (λself i hi=>by
     rw [pat hi]
     simp only [Ea,K7,Dq hi,AL,gI hi,AA,wS hi (by omega),QH4 l[i] n (hf _ (Ae hi)).1 (hf _ (Ae hi)).2]
     cases okF n l[i] <;> rfl)
    (λself=>by
     simp only [Ea,K7,Dk,AJ]
     exact QGp l (by omega) self) l.length 0 big (by omega) (Df (by omega))
   rw [cB] at this
   refine Eq.trans this ?_
   cases l.all (okF n) <;> rfl
  ·rw [AF (by omega),AB (by omega),AB h1,AF h];rfl
 ·rw [AB (by omega),AF h1];rfl
theorem QDo (m:DF) (ht:m.1.length<=1000000) (hf:∀ f∈m.2.2.1,f.2.2.2.2.2.1.length<=1000000/\f.2.2.2.2.2.2.1.length<=1000000):O5 m=some (Yq m):=by
 show U6 m=_
 unfold U6 Yq
 rw [QBK _ ht,QBJ,QBH _ _ hf]
 cases T9 m.1 <;> cases YQ m.2.1 <;> rfl
def said (s:List Int):List Int:=vary s.length++s
def Qw (f:K.Qo):List Int:=said f.1++vary f.2.1.toNat
def Xu (fs:List K.Qo):List Int:=vary fs.length++fs.flatMap Qw
def yE (t:K.ES):List Int:=if t.1=4\/t.1=7 then vary t.2.1.toNat else if t.1=6 then vary t.2.1.toNat++vary t.2.2.1.toNat else if t.1=5 then Xu t.2.2.2.1 else []
def ZN (t:K.ES):List Int:=t.1::yE t
def FC (f:DX):List Int:=said f.1++(vary f.2.1.toNat++(vary (dbl f.2.2.1)++(Xu f.2.2.2.1++(vary f.2.2.2.2.1.length++(f.2.2.2.2.1.flatMap enc++(T.Es f.2.2.2.2.2.1++T.Es f.2.2.2.2.2.2.1))))))
def Vb (m:DF):List Int:=vary m.1.length++(m.1.flatMap ZN++(vary m.2.1.length++(m.2.1.flatMap said++(vary m.2.2.1.length++m.2.2.1.flatMap FC))))
def P63 (n:Int):Prop:=0<=n/\n<=9223372036854775807
def QD7 (f:K.Qo):Prop:=f.1.length<=200000/\P63 f.2.1
def QGV (t:K.ES):Prop:=P63 t.2.1/\P63 t.2.2.1/\t.2.2.2.1.length<=1000000/\∀ f∈t.2.2.2.1,QD7 f
structure QIr (f:DX):Prop where
 name:f.1.length<=200000
 par:P63 f.2.1
 res:I64 f.2.2.1
 sl:f.2.2.2.1.length<=1000000/\∀ x∈f.2.2.2.1,QD7 x
 code:f.2.2.2.2.1.length<=1000000/\∀ x∈f.2.2.2.2.1,Qf x=true/\WfI x
 s1:f.2.2.2.2.2.1.length<=1000000/\T.V64 f.2.2.2.2.2.1/\T.IC f.2.2.2.2.2.1 f.2.2.2.2.1.length=0
 s2:f.2.2.2.2.2.2.1.length<=1000000/\T.V64 f.2.2.2.2.2.2.1/\T.IC f.2.2.2.2.2.2.1 f.2.2.2.2.1.length=0
structure QS4 (m:DF):Prop where
 ty:m.1.length<=1000000/\∀ t∈m.1,QGV t
 tx:m.2.1.length<=1000000/\∀ s∈m.2.1,s.length<=200000
 fn:m.2.2.1.length<=1000000/\∀ f∈m.2.2.1,QIr f
abbrev Xa:Nat:=68719476736
theorem DW {a b:List Int} (h:a.length+b.length<=Xa):(Nat.ble 1 1&&Nat.ble (List.length a+List.length b) lim)=true:=by
 rw [b11,EP h];rfl
theorem E8 {V α β:Type} {g:(V->Option β)->V->Option β} {mk:Nat->List Int->V} {l:List α} {u7:α->List Int} {kk:List Int->Option β} {B:Nat}
  (hs:∀ self i x (h:i < l.length),x.length+(u7 l[i]).length<=B->g self (mk i x)=self (mk (i+1) (x++u7 l[i]))) (he:∀ self x,x.length<=B->g self (mk l.length x)=kk x) :
  ∀ (k i M:Nat) (x:List Int),i+k=l.length->k < M->x.length+((l.drop i).flatMap u7).length<=B->BP g M (mk i x)=kk (x++(l.drop i).flatMap u7)
 | k,i,0,_,_,h,_=>by omega
 | 0,i,M+1,x,hi,_,hx=>by
  rw [Ba,show i=l.length by omega,he _ _ (by omega)]
  simp
 | k+1,i,M+1,x,hi,hM,hx=>by
  have hi':i < l.length:=by omega
  rw [BA hi',List.flatMap_cons] at hx ⊢
  rw [AQ] at hx
  rw [Ba,hs _ i x hi' (by omega),E8 hs he k (i+1) M _ (by omega) (by omega) (by rw [AQ];omega),Ab]
theorem Jl (x:List Int) (n:Int) (h:P63 n) (hx:x.length+(vary n.toNat).length<=Xa):Bj x (n,())=some (x++vary n.toNat):=by
 show Iq x (n,())=_
 unfold Iq
 obtain ⟨h0,h1⟩:=h
 obtain ⟨k,rfl⟩:=BL h0
 have e:IntKind.u64.wrap (k:Int)=(k:Int):=QGG ⟨by rw [min_u64];omega,by rw [max_u64];omega⟩
 simp only [e,WB k (by omega),AA,Aj] at hx ⊢
 rw [DW hx,AL];rfl
theorem UE {α:Type} (x:List Int) (l:List α) (hl:l.length<=1000000) (hx:x.length+(vary l.length).length<=Xa):Bj x ((l.length:Int),())=some (x++vary l.length):=by
 have:=Jl x (l.length:Int) ⟨by omega,by omega⟩ (by simpa using hx)
 simpa using this
theorem dX (x s:List Int) (h:s.length<=200000) (hx:x.length+(said s).length<=Xa):HV x (s,())=some (x++said s):=by
 show LG x (s,())=_
 unfold LG
 unfold said at hx ⊢
 simp only [QP5,AX (show ¬ s.length > 200000 by omega),AA]
 rw [DW hx,AL];rfl
theorem lq (x:List Int) (f:K.Qo) (h:QD7 f) (hx:x.length+(Qw f).length<=Xa):Jq x (f,())=some (x++Qw f):=by
 show J2 x (f,())=_
 unfold J2 Qw at *
 rw [AQ] at hx
 dsimp only
 rw [dX x f.1 h.1 (by omega),AA,Jl _ _ h.2 (by rw [AQ];omega),AA,Ab]
theorem QHl (fs:List K.Qo) (x:List Int) (hl:fs.length<=1000000) (hf:∀ f∈fs,QD7 f) (hx:x.length+(fs.flatMap Qw).length<=Xa) :
  BP (Dm big) big (fs,(fs.length:Int),(0:Int),x)=some (x++fs.flatMap Qw):=by
 exact E8 (g:=Dm big) (mk:=λi x=>(fs,(fs.length:Int),(i:Int),x)) (l:=fs) (u7:=Qw) (kk:=some) (B:=Xa)
  (λself i x hi hx=>by
   simp only [Dm,NJ,Dq hi,AL,gI hi,AA,wS hi (by omega),lq x fs[i] (hf _ (Ae hi)) hx])
  (λself x hx=>by simp only [Dm,NJ,Dk,AJ]) fs.length 0 big x (by omega) (Df (by omega)) (by simpa using hx)
theorem QDK (x:List Int) (t:K.ES) (h:QGV t) (hx:x.length+(ZN t).length<=Xa):O4 x (t,())=some (x++ZN t):=by
 show LH (BP (Dm big) big) x (t,())=_
 unfold LH ZN at *
 obtain ⟨h1,h2,h3,h4⟩:=h
 simp only [Af] at hx
 dsimp only
 rw [DW (by simp;omega),AL]
 have e:∀ y:List Int,x++t.1::y=(x++[t.1])++y:=λy=>by simp
 rw [e]
 have hx1:(List.append x [t.1]).length=x.length+1:=by simp
 show _=some (List.append x [t.1]++_)
 generalize List.append x [t.1]=z at *
 unfold yE at *
 simp only [K.VY]
 by_cases c4:t.1=4
 ·simp only [c4,decide_true,AL,true_or,if_true] at hx ⊢
  rw [Jl z _ h1 (by omega)];rfl
 ·by_cases c7:t.1=7
  ·simp only [c7,decide_true,AL,or_true,if_true] at hx ⊢
   rw [show decide ((7:Int)=4)=false from rfl,AJ,Jl z _ h1 (by omega)];rfl
  ·by_cases c6:t.1=6
   ·simp only [c6,decide_true,AL,if_true] at hx ⊢
    rw [AX (by omega),AQ] at hx
    rw [show decide ((6:Int)=4)=false from rfl,show decide ((6:Int)=7)=false from rfl,AJ,AJ,AX (by omega),Jl z _ h1 (by omega),AA,Jl _ _ h2 (by rw [AQ];omega),AA,Ab]
   ·by_cases c5:t.1=5
    ·simp only [c5,decide_true,AL,if_true] at hx ⊢
     rw [AX (by omega),AX (by omega)] at hx
     unfold Xu at *
     rw [AQ] at hx
     rw [show decide ((5:Int)=4)=false from rfl,show decide ((5:Int)=7)=false from rfl,show decide ((5:Int)=6)=false from rfl,AJ,AJ,AJ,AX (by omega),AX (by omega),UE z _ h3 (by omega),AA,QHl _ _ h3 h4 (by rw [AQ];omega),Ab]
    ·simp only [decide_false,AJ,c4,c5,c6,c7,or_self,if_false,List.append_nil]
theorem QBF (x:List Int) (y:Ins) (h:Qf y=true) (w:WfI y) (hx:x.length+(enc y).length<=Xa):OQ x (y,())=some (x++enc y):=by
 show J4 x (y,())=_
 unfold J4
 simp only [QGK y w,h,if_true,AA]
 rw [DW hx,AL];rfl
theorem qX (x:List Int) (l:List T.Rn) (n:Nat) (h:l.length<=1000000) (hv:T.V64 l) (hc:T.IC l n=0) (hx:x.length+(T.Es l).length<=Xa):Kz x (l,((n:Int),()))=some (x++T.Es l):=by
 show LD x (l,((n:Int),()))=_
 unfold LD
 dsimp only
 rw [T.QE6 l n (by omega) hv,T.encR,AX (by omega),AA]
 rw [DW hx,AL];rfl
theorem QDJ (x:List Int) (f:DX) (h:QIr f) (hx:x.length+(FC f).length<=Xa):O1 x (f,())=some (x++FC f):=by
 show LC (BP (Em big) big) x (f,())=_
 unfold LC FC Xu at *
 obtain ⟨h1,h2,h3,h4,h5,h6,h7⟩:=h
 simp only [AQ] at hx
 dsimp only
 rw [dX x _ h1 (by omega),AA,Jl _ _ h2 (by rw [AQ];omega),AA,yA _ h3.1 h3.2,AA,DW (by simp only [AQ];omega),AL]
 change (Bj (_++_) _).bind _=_
 rw [UE _ _ h4.1 (by simp only [AQ];omega),AA]
 have inner:∀ (BM) (x:List Int),x.length+((f.2.2.2.2.1.flatMap enc).length+((T.Es f.2.2.2.2.2.1).length+(T.Es f.2.2.2.2.2.2.1).length))<=Xa->BP (En big BM) big (f.2.2.2.2.1,(f.2.2.2.2.1.length:Int),(0:Int),x,f)=some (x++(f.2.2.2.2.1.flatMap enc++(T.Es f.2.2.2.2.2.1++T.Es f.2.2.2.2.2.2.1))):=by
  intro BM x hx
  have:=E8 (g:=En big BM) (mk:=λi x=>(f.2.2.2.2.1,(f.2.2.2.2.1.length:Int),(i:Int),x,f)) (l:=f.2.2.2.2.1) (u7:=enc) (kk:=λx=>some (x++(T.Es f.2.2.2.2.2.1++T.Es f.2.2.2.2.2.2.1))) (B:=Xa - ((T.Es f.2.2.2.2.2.1).length+(T.Es f.2.2.2.2.2.2.1).length))
   (λself i x hi hx=>by
    have hc:=h5.2 _ (Ae hi)
    simp only [En,NI,Dq hi,AL,gI hi,AA,wS hi (by omega),QBF x f.2.2.2.2.1[i] hc.1 hc.2 (by omega)])
   (λself x hx=>by
    simp only [En,NI,Dk,AJ]
    rw [qX x _ _ h6.1 h6.2.1 h6.2.2 (by omega),AA,qX _ _ _ h7.1 h7.2.1 h7.2.2 (by rw [AQ];omega),AA,Ab]) f.2.2.2.2.1.length 0 big x (by omega) (Df (by omega)) (by simp only [List.drop_zero];omega)
  refine Eq.trans this ?_
  simp only [List.drop_zero,Ab]
 have:=E8 (g:=Em big) (mk:=λi x=>(f.2.2.2.1,(f.2.2.2.1.length:Int),(i:Int),x,f)) (l:=f.2.2.2.1) (u7:=Qw) (kk:=λx=>some (x++(vary f.2.2.2.2.1.length++(f.2.2.2.2.1.flatMap enc++(T.Es f.2.2.2.2.2.1++T.Es f.2.2.2.2.2.2.1))))) (B:=Xa - ((vary f.2.2.2.2.1.length).length+((f.2.2.2.2.1.flatMap enc).length+((T.Es f.2.2.2.2.2.1).length+(T.Es f.2.2.2.2.2.2.1).length))))
  (λself i x hi hx=>by
   simp only [Em,Im,Dq hi,AL,gI hi,AA,wS hi (by omega),lq x f.2.2.2.1[i] (h4.2 _ (Ae hi)) (by omega)])
  (λself x hx=>by
   simp only [Em,Im,Dk,AJ]
   rw [UE x _ h5.1 (by omega),AA,inner _ _ (by rw [AQ];omega),Ab]) f.2.2.2.1.length 0 big (x++said f.1++vary f.2.1.toNat++vary (dbl f.2.2.1)++vary f.2.2.2.1.length) (by omega) (Df (by omega)) (by simp only [List.drop_zero,AQ];omega)
 refine Eq.trans this ?_
 simp only [List.drop_zero,Ab]
theorem QBE (x:List Int) (m:DF) (h:QS4 m) (hx:x.length+(Vb m).length<=Xa):OP x (m,())=some (x++Vb m):=by
 show J3 (BP (EI big) big) x (m,())=_
 unfold J3 Vb at *
 obtain ⟨⟨h1,h2⟩,⟨h3,h4⟩,h5,h6⟩:=h
 simp only [AQ] at hx
 dsimp only
 rw [UE x _ h1 (by omega),AA]
 have fns:∀ (BM BQ) (x:List Int),x.length+(m.2.2.1.flatMap FC).length<=Xa->BP (EK big BM BQ) big (m.2.2.1,(m.2.2.1.length:Int),(0:Int),x)=some (x++m.2.2.1.flatMap FC):=by
  intro BM BQ x hx
  exact E8 (g:=EK big BM BQ) (mk:=λi x=>(m.2.2.1,(m.2.2.1.length:Int),(i:Int),x)) (l:=m.2.2.1) (u7:=FC) (kk:=some) (B:=Xa)
   (λself i x hi hx=>by
    simp only [EK,L8,Dq hi,AL,gI hi,AA,wS hi (by omega),QDJ x m.2.2.1[i] (h6 _ (Ae hi)) hx])
   (λself x hx=>by simp only [EK,L8,Dk,AJ]) m.2.2.1.length 0 big x (by omega) (Df (by omega)) (by simpa using hx)
 have txs:∀ (BM) (x:List Int),x.length+((m.2.1.flatMap said).length+((vary m.2.2.1.length).length+(m.2.2.1.flatMap FC).length))<=Xa->BP (EJ big BM) big (m.2.1,(m.2.1.length:Int),(0:Int),x,m)=some (x++(m.2.1.flatMap said++(vary m.2.2.1.length++m.2.2.1.flatMap FC))):=by
  intro BM x hx
  have:=E8 (g:=EJ big BM) (mk:=λi x=>(m.2.1,(m.2.1.length:Int),(i:Int),x,m)) (l:=m.2.1) (u7:=said) (kk:=λx=>some (x++(vary m.2.2.1.length++m.2.2.1.flatMap FC))) (B:=Xa - ((vary m.2.2.1.length).length+(m.2.2.1.flatMap FC).length))
   (λself i x hi hx=>by
    simp only [EJ,Hr,Dq hi,AL,gI hi,AA,wS hi (by omega),dX x m.2.1[i] (h4 _ (Ae hi)) (by omega)])
   (λself x hx=>by
    simp only [EJ,Hr,Dk,AJ]
    rw [UE x _ h5 (by omega),AA,fns _ _ _ (by rw [AQ];omega),Ab]) m.2.1.length 0 big x (by omega) (Df (by omega)) (by simp only [List.drop_zero];omega)
  refine Eq.trans this ?_
  simp only [List.drop_zero,Ab]
 have:=E8 (g:=EI big) (mk:=λi x=>(m.1,(m.1.length:Int),(i:Int),x,m)) (l:=m.1) (u7:=ZN) (kk:=λx=>some (x++(vary m.2.1.length++(m.2.1.flatMap said++(vary m.2.2.1.length++m.2.2.1.flatMap FC))))) (B:=Xa - ((vary m.2.1.length).length+((m.2.1.flatMap said).length+((vary m.2.2.1.length).length+(m.2.2.1.flatMap FC).length))))
  (λself i x hi hx=>by
   simp only [EI,Hq,Dq hi,AL,gI hi,AA,wS hi (by omega),QDK x m.1[i] (h2 _ (Ae hi)) (by omega)])
  (λself x hx=>by
   simp only [EI,Hq,Dk,AJ]
   rw [UE x _ h3 (by omega),AA,txs _ _ (by rw [AQ];omega),Ab]) m.1.length 0 big (x++vary m.1.length) (by omega) (Df (by omega)) (by simp only [List.drop_zero,AQ];omega)
 refine Eq.trans this ?_
 simp only [List.drop_zero,Ab]
theorem Lc {α:Type} {f:α->List Int} {k:Nat}:∀ {l:List α},(∀ x∈l,(f x).length<=k)->(l.flatMap f).length<=k * l.length
 | [],_=>by simp
 | x::r,h=>by
  have h1:=h x (by simp)
  have h2:=Lc (l:=r) λy hy=>h y (by simp [hy])
  rw [List.flatMap_cons,AQ,Af,Nat.mul_succ]
  omega
theorem uN (s:List Int):(said s).length<=10+s.length:=by
 unfold said;rw [AQ];have:=(Ct s.length).2;omega
theorem xF {s:List Int} (h:K.Ej s=true):s.length<=16:=by
 unfold K.Ej at h
 split at h
 ·cases h
 ·simp only [AP,AZ] at h;exact h.1
theorem zu {x n:Int} (h:K.Fq x n=true) (hn:n<=1000000):P63 x:=by
 have:=K.Uq.1 h
 exact ⟨this.1,by omega⟩
theorem QDW {f:K.Qo} (h:f.1.length<=16):(Qw f).length<=36:=by
 unfold Qw;rw [AQ];have:=uN f.1;have:=(Ct f.2.1.toNat).2;omega
theorem qp {fs:List K.Qo} (h:∀ f∈fs,f.1.length<=16) (hl:fs.length<=16):(Xu fs).length<=586:=by
 unfold Xu;rw [AQ];have:=(Ct fs.length).2
 have:=Lc (l:=fs) (f:=Qw) (k:=36) λf hf=>QDW (h f hf)
 omega
theorem QCd:∀ (l:List T.Rn) (w:Int),(T.uR w l).length<=20 * l.length
 | [],_=>by simp [T.uR]
 | r::l,w=>by
  have:=QCd l r.1
  have:=(Ct (r.1 - w).toNat).2
  have:=(Ct r.2.1.toNat).2
  simp only [T.uR,AQ,Af]
  omega
theorem qw {l:List T.Rn} {n:Nat} (h:T.IC l n=0):(T.Es l).length<=4010:=by
 have h1:=T.Xr h
 unfold T.Es;rw [AQ]
 have:=(Ct l.length).2
 have:=QCd l 0
 omega
structure QVr (f:DX):Prop where
 res:I64 f.2.2.1
 code:∀ x∈f.2.2.2.2.1,WfI x
 s1:T.V64 f.2.2.2.2.2.1
 s2:T.V64 f.2.2.2.2.2.2.1
def QS3 (m:DF):Prop:=∀ f∈m.2.2.1,QVr f
theorem QCB {ns:List (List Int)} (h:Jw ns=true):(∀ s∈ns,s.length<=16)/\ns.Nodup:=by
 simp only [Jw,AP,AZ,List.all_eq_true] at h
 exact ⟨λs hs=>xF (h.1 s hs),h.2⟩
theorem QLy {fs:List K.Qo} {n:Int} (h:Zz n fs=true) (hn:n<=1000000):fs.length<=16/\(∀ f∈fs,QD7 f)/\∀ f∈fs,f.1.length<=16:=by
 simp only [Zz,AP,AZ,List.all_eq_true] at h
 have h3:=(QCB h.2.2).1
 have h4:∀ f∈fs,f.1.length<=16:=λf hf=>h3 _ (List.mem_map_of_mem hf)
 exact ⟨h.1,λf hf=>⟨by have:=h4 f hf;omega,zu (h.2.1 f hf) hn⟩,h4⟩
theorem QU9 {t:K.ES} {i n:Int} (h:K.EB t i n=true) (hi:i<=1000000) (hn:n<=1000000):QGV t/\t.2.2.2.1.length<=8/\(∀ f∈t.2.2.2.1,f.1.length<=16)/\(ZN t).length<=600:=by
 have key:QGV t/\t.2.2.2.1.length<=8/\∀ f∈t.2.2.2.1,f.1.length<=16:=by
  unfold K.EB at h
  have z:P63 0:=⟨by omega,by omega⟩
  have emp:t.2.2.2.1.length=0->t.2.2.2.1.length<=1000000/\(∀ f∈t.2.2.2.1,QD7 f)/\t.2.2.2.1.length<=8/\∀ f∈t.2.2.2.1,f.1.length<=16:=λe=>by
   have:=Ar e
   rw [this];simp
  split at h
  ·simp only [AP,AZ] at h
   have:=emp h.2.2
   exact ⟨⟨by rw [h.1];exact z,by rw [h.2.1];exact z,this.1,this.2.1⟩,this.2.2⟩
  split at h
  ·simp only [AP,AZ] at h
   have:=emp h.2.2
   exact ⟨⟨zu h.1 hn,by rw [h.2.1];exact z,this.1,this.2.1⟩,this.2.2⟩
  split at h
  ·simp only [AP,AZ] at h
   have:=emp h.2.2
   exact ⟨⟨zu h.1 hi,⟨by omega,by omega⟩,this.1,this.2.1⟩,this.2.2⟩
  split at h
  ·simp only [AP,AZ,K.qY,List.all_eq_true] at h
   obtain ⟨g1,g2,g3,g4,g5,g6⟩:=h
   have g7:∀ f∈t.2.2.2.1,f.1.length<=16:=λf hf=>xF (g4 f hf)
   exact ⟨⟨by rw [g1];exact z,by rw [g2];exact z,by omega,λf hf=>⟨by have:=g7 f hf;omega,zu (g6 f hf) hi⟩⟩,g3.2,g7⟩
  ·cases h
 refine ⟨key.1,key.2.1,key.2.2,?_⟩
 have h1:=qp key.2.2 (by omega)
 have h2:=(Ct t.2.1.toNat).2
 have h3:=(Ct t.2.2.1.toNat).2
 unfold ZN yE
 split
 ·rw [Af];omega
 split
 ·rw [Af,AQ];omega
 split
 ·rw [Af];omega
 ·simp
theorem QTc {f:DX} {n:Int} (h:okF n f=true) (hn:n<=1000000) (hm:f.1.length<=16) (w:QVr f):QIr f/\(FC f).length<=20000:=by
 simp only [okF,gV,AP,AZ,Bool.or_eq_true,List.all_eq_true] at h
 obtain ⟨h1,h2,h3,h4,⟨h5,h6,h7⟩,h8,h9⟩:=h
 obtain ⟨g1,g2,g3⟩:=QLy h1 hn
 have l1:=T.Xr h8
 have l2:=T.Xr h9
 refine ⟨⟨by omega,⟨h2,by omega⟩,w.res,⟨by omega,g2⟩,⟨by omega,λx hx=>⟨h7 x hx,w.code x hx⟩⟩,⟨by omega,w.s1,h8⟩,by omega,w.s2,h9⟩,?_⟩
 unfold FC
 simp only [AQ]
 have a1:=uN f.1
 have a2:=(Ct f.2.1.toNat).2
 have a3:=(Ct (dbl f.2.2.1)).2
 have a4:=qp g3 g1
 have a5:=(Ct f.2.2.2.2.1.length).2
 have a6:=Lc (l:=f.2.2.2.2.1) (f:=enc) (k:=31) λx hx=>(QGj (h7 x hx) (w.code x hx)).2
 have a7:=qw h8
 have a8:=qw h9
 omega
theorem QL4 {m:DF} (h:Yq m=true) (w:QS3 m):QS4 m/\(Vb m).length<=1000000:=by
 simp only [Yq,T9,YQ,bQ,AP,AZ,List.all_eq_true] at h
 obtain ⟨⟨⟨h1,h2,_⟩,_⟩,⟨h3,h4⟩,h5,h6,h7,h8⟩:=h
 have ty:∀ t∈m.1,QGV t/\(ZN t).length<=600:=λt ht=>by
  obtain ⟨i,hi,rfl⟩:=List.mem_iff_getElem.1 ht
  have:=QU9 (h2 i hi) (by omega) (by omega)
  exact ⟨this.1,this.2.2.2⟩
 have fn:∀ f∈m.2.2.1,QIr f/\(FC f).length<=20000:=λf hf=>QTc (h7 f hf) (by omega) ((QCB h8).1 _ (List.mem_map_of_mem hf)) (w f hf)
 refine ⟨⟨⟨by omega,λt ht=>(ty t ht).1⟩,⟨by omega,λs hs=>by have:=h4 s hs;omega⟩,by omega,λf hf=>(fn f hf).1⟩,?_⟩
 unfold Vb
 simp only [AQ]
 have a1:=(Ct m.1.length).2
 have a2:=Lc (l:=m.1) (f:=ZN) (k:=600) λt ht=>(ty t ht).2
 have a3:=(Ct m.2.1.length).2
 have a4:=Lc (l:=m.2.1) (f:=said) (k:=74) λs hs=>by have:=uN s;have:=h4 s hs;omega
 have a5:=(Ct m.2.2.1.length).2
 have a6:=Lc (l:=m.2.2.1) (f:=FC) (k:=20000) λf hf=>(fn f hf).2
 omega
def Yi (m:DF):Int:=if Yq m=true then (if (Vb m).length > 20000 then 4 else 0) else 8
def encI (m:DF):List Int×Int:=if Yi m=0 then (Vb m,0) else ([],Yi m)
structure uy (m:DF):Prop where
 ty:m.1.length<=1000000
 fn:∀ f∈m.2.2.1,f.2.2.2.2.2.1.length<=1000000/\f.2.2.2.2.2.2.1.length<=1000000
 mem:QS3 m
theorem QCI (m:DF) (h:uy m):RS m=some (encI m):=by
 show WX m=_
 unfold WX encI Yi
 rw [QDo m h.ty h.fn,AA]
 by_cases hv:Yq m=true
 ·obtain ⟨g1,g2⟩:=QL4 hv h.mem
  rw [hv,A8,AJ,QBE [] m g1 (by simp;show (Vb m).length<=68719476736;omega),AA,AY rfl,List.nil_append]
  by_cases hl:(Vb m).length > 20000
  ·rw [AB (by omega),AL,AY hl,AX (by omega)]
  ·rw [AF (by omega),AJ,AX hl,AY rfl]
 ·rw [AX hv,AX (by omega)]
  simp only [Bool.not_eq_true] at hv
  rw [hv];rfl
theorem QKk (m:DF):(encI m).2=Yi m:=by
 unfold encI
 split
 ·rename_i h;rw [h]
 ·rfl
theorem Ig (m:DF) (h:uy m):Me m=some (Yi m):=by
 show YH m=_
 unfold YH
 rw [QCI m h,AA,QKk]
instance:DecidableEq K.ES:=@instDecidableEqProd _ _ inferInstance (@instDecidableEqProd _ _ inferInstance (@instDecidableEqProd _ _ inferInstance (@instDecidableEqProd _ _ inferInstance inferInstance)))
instance:DecidableEq DX:=@instDecidableEqProd _ _ inferInstance (@instDecidableEqProd _ _ inferInstance (@instDecidableEqProd _ _ inferInstance (@instDecidableEqProd _ _ inferInstance (@instDecidableEqProd _ _ inferInstance (@instDecidableEqProd _ _ inferInstance (@instDecidableEqProd _ _ inferInstance inferInstance))))))
instance:DecidableEq DF:=@instDecidableEqProd _ _ inferInstance (@instDecidableEqProd _ _ inferInstance (@instDecidableEqProd _ _ inferInstance inferInstance))
theorem SY {α:Type} [DecidableEq α] {a b:List α} (h:a.length=b.length):(List.range' 0 a.length).all (λi=>decide (a[i]? = b[i]?))=decide (a=b):=by
 rw [Bool.eq_iff_iff]
 simp only [List.all_eq_true,List.mem_range'_1,AZ]
 constructor
 ·intro g
  apply List.ext_getElem?
  intro i
  by_cases hi:i < a.length
  ·exact g i ⟨by omega,by omega⟩
  ·rw [Aw (by omega),Aw (by omega)]
 ·rintro rfl i _;rfl
theorem V5 {α:Type} [DecidableEq α] {a b:List α} {i:Nat} (h:i < a.length) (h':i < b.length):decide (a[i]? = b[i]?)=decide (a[i]=b[i]):=by simp [h,h']
theorem aN {t:Ty} [DecidableEq t.den] (x y:t.den):R3 t x y=decide (x=y):=by rw [Bool.eq_iff_iff,OJ,AZ]
theorem Zg {α:Type} {a b:List α}:((a.length:Int) != (b.length:Int))=!decide (a.length=b.length):=by
 by_cases h:a.length=b.length
 ·simp [h]
 ·have:((a.length:Int) != (b.length:Int))=true:=by simp;omega
  rw [this,AF h];rfl
theorem CX (a b:Int):(a != b)=!decide (a=b):=by by_cases h:a=b <;> simp [h]
theorem Dr {β:Type} (b:Bool) (x y:β):(bif !b then x else y)=bif b then y else x:=by cases b <;> rfl
theorem Xi (b:Bool):(bif b then some true else some false)=some b:=by cases b <;> rfl
theorem uO (a b:List K.Qo) (h:a.length<=1000000):K5 (a,b)=some (decide (a=b)):=by
 show H6 (BP (Dp big) big) (a,b)=_
 unfold H6
 dsimp only
 rw [Zg,Dr]
 by_cases hl:a.length=b.length
 ·rw [AB hl,AL]
  have:=CQ (g:=Dp big) (mk:=λi=>(a,b,(i:Int))) (p:=λi=>decide (a[i]? = b[i]?)) (no:=some false) (kk:=some true) (n:=a.length)
   (λself i hi=>by
    simp only [Dp,NM,Dq hi,AL,gI hi,gI (show i < b.length by omega),AA,wS hi (by omega),V5 hi (show i < b.length by omega),Dr,aN])
   (λself=>by simp only [Dp,NM,Dk,AJ]) a.length 0 big (by omega) (Df (by omega))
  rw [SY hl,Xi] at this
  exact this
 ·rw [AF hl,AJ,AF (λe=>hl (by rw [e]))]
theorem QOx (a b:List Ins) (h:a.length<=1000000):ZQ (a,b)=some (decide (a=b)):=by
 show SF (BP (IK big) big) (a,b)=_
 unfold SF
 dsimp only
 rw [Zg,Dr]
 by_cases hl:a.length=b.length
 ·rw [AB hl,AL]
  have:=CQ (g:=IK big) (mk:=λi=>(a,b,(i:Int))) (p:=λi=>decide (a[i]? = b[i]?)) (no:=some false) (kk:=some true) (n:=a.length)
   (λself i hi=>by
    simp only [IK,WK,Dq hi,AL,gI hi,gI (show i < b.length by omega),AA,wS hi (by omega),V5 hi (show i < b.length by omega),Dr,aN])
   (λself=>by simp only [IK,WK,Dk,AJ]) a.length 0 big (by omega) (Df (by omega))
  rw [SY hl,Xi] at this
  exact this
 ·rw [AF hl,AJ,AF (λe=>hl (by rw [e]))]
theorem QCb (a b:List T.Rn) (h:a.length<=1000000):Vi (a,b)=some (decide (a=b)):=by
 show SK (BP (IL big) big) (a,b)=_
 unfold SK
 dsimp only
 rw [Zg,Dr]
 by_cases hl:a.length=b.length
 ·rw [AB hl,AL]
  have:=CQ (g:=IL big) (mk:=λi=>(a,b,(i:Int))) (p:=λi=>decide (a[i]? = b[i]?)) (no:=some false) (kk:=some true) (n:=a.length)
   (λself i hi=>by
    simp only [IL,WL,Dq hi,AL,gI hi,gI (show i < b.length by omega),AA,wS hi (by omega),V5 hi (show i < b.length by omega),Dr,aN])
   (λself=>by simp only [IL,WL,Dk,AJ]) a.length 0 big (by omega) (Df (by omega))
  rw [SY hl,Xi] at this
  exact this
 ·rw [AF hl,AJ,AF (λe=>hl (by rw [e]))]
theorem QHY (a b:List K.ES) (h:a.length<=1000000) (hf:∀ t∈a,t.2.2.2.1.length<=1000000):Qy (a,b)=some (decide (a=b)):=by
 show Ja (BP (ED big) big) (a,b)=_
 unfold Ja
 dsimp only
 rw [Zg,Dr]
 by_cases hl:a.length=b.length
 ·rw [AB hl,AL]
  have:=CQ (g:=ED big) (mk:=λi=>(a,b,(i:Int))) (p:=λi=>decide (a[i]? = b[i]?)) (no:=some false) (kk:=some true) (n:=a.length)
   (λself i hi=>by
    have hi':i < b.length:=by omega
    simp only [ED,OV,Dq hi,AL,gI hi,gI hi',AA,wS hi (by omega),V5 hi hi',CX,Dr,uO _ b[i].2.2.2.1 (hf _ (Ae hi))]
    generalize a[i]=t
    generalize b[i]=u
    by_cases e:t=u
    ·subst e;simp
    ·rw [AF e,AJ]
     by_cases e1:t.1=u.1
     ·by_cases e2:t.2.1=u.2.1
      ·by_cases e3:t.2.2.1=u.2.2.1
       ·have e4:¬ t.2.2.2.1=u.2.2.2.1:=λe4=>e (Prod.ext e1 (Prod.ext e2 (Prod.ext e3 (Prod.ext e4 rfl))))
        rw [AB e1,AB e2,AB e3,AF e4];rfl
       ·rw [AB e1,AB e2,AF e3];rfl
      ·rw [AB e1,AF e2];rfl
     ·rw [AF e1];rfl)
   (λself=>by simp only [ED,OV,Dk,AJ]) a.length 0 big (by omega) (Df (by omega))
  rw [SY hl,Xi] at this
  exact this
 ·rw [AF hl,AJ,AF (λe=>hl (by rw [e]))]
structure QIp (f:DX):Prop where
 sl:f.2.2.2.1.length<=1000000
 code:f.2.2.2.2.1.length<=1000000
 s1:f.2.2.2.2.2.1.length<=1000000
 s2:f.2.2.2.2.2.2.1.length<=1000000
theorem uP (f g:DX) (h:QIp f):G5 (f,g)=some (decide (f=g)):=by
 show TL (f,g)=_
 unfold TL
 simp only [K.VY,uO _ g.2.2.2.1 h.sl,QOx _ g.2.2.2.2.1 h.code,QCb _ g.2.2.2.2.2.1 h.s1,QCb _ g.2.2.2.2.2.2.1 h.s2,AA,aN]
 by_cases e:f=g
 ·subst e;simp
 ·rw [AF e]
  by_cases e1:f.1=g.1
  ·by_cases e2:f.2.1=g.2.1
   ·by_cases e3:f.2.2.1=g.2.2.1
    ·by_cases e4:f.2.2.2.1=g.2.2.2.1
     ·by_cases e5:f.2.2.2.2.1=g.2.2.2.2.1
      ·by_cases e6:f.2.2.2.2.2.1=g.2.2.2.2.2.1
       ·have e7:¬ f.2.2.2.2.2.2.1=g.2.2.2.2.2.2.1:=λe7=>e (Prod.ext e1 (Prod.ext e2 (Prod.ext e3 (Prod.ext e4 (Prod.ext e5 (Prod.ext e6 (Prod.ext e7 rfl)))))))
        rw [AB e1,AB e2,AB e3,AB e4,AB e5,AB e6,AF e7];rfl
       ·rw [AB e1,AB e2,AB e3,AB e4,AB e5,AF e6];rfl
      ·rw [AB e1,AB e2,AB e3,AB e4,AF e5];rfl
     ·rw [AB e1,AB e2,AB e3,AF e4];rfl
    ·rw [AB e1,AB e2,AF e3];rfl
   ·rw [AB e1,AF e2];rfl
  ·rw [AF e1];rfl
structure QD9 (m:DF):Prop where
 ty:m.1.length<=1000000/\∀ t∈m.1,t.2.2.2.1.length<=1000
 tx:m.2.1.length<=1000000
 fn:m.2.2.1.length<=1000000/\∀ f∈m.2.2.1,QIp f
theorem QOw (m n:DF) (h:QD9 m):Vj (m,n)=some (decide (m=n)):=by
 show SN (BP (IU big) big) (m,n)=_
 unfold SN
 dsimp only
 rw [QHY m.1 n.1 h.ty.1 (λt ht=>by have:=h.ty.2 t ht;omega),AA,Dr,Zg,Dr,Zg,Dr]
 by_cases e1:m.1=n.1
 ·rw [AB e1,AL]
  by_cases hl:m.2.1.length=n.2.1.length
  ·rw [AB hl,AL]
   by_cases hk:m.2.2.1.length=n.2.2.1.length
   ·rw [AB hk,AL]
    have fns:∀ BM,BP (Ki big BM) big (0,m,n)=some (decide (m.2.2.1=n.2.2.1)):=by
     intro BM
     have:=CQ (g:=Ki big BM) (mk:=λi=>((i:Int),m,n)) (p:=λi=>decide (m.2.2.1[i]? = n.2.2.1[i]?)) (no:=some false) (kk:=some true) (n:=m.2.2.1.length)
      (λself i hi=>by
       have hi':i < n.2.2.1.length:=by omega
       simp only [Ki,WO,Dq hi,AL,gI hi,gI hi',AA,wS hi (by have:=h.fn.1;omega),V5 hi hi',Dr,uP _ n.2.2.1[i] (h.fn.2 _ (Ae hi))])
      (λself=>by simp only [Ki,WO,Dk,AJ]) m.2.2.1.length 0 big (by omega) (Df (by have:=h.fn.1;omega))
     rw [SY hk,Xi] at this
     exact this
    have:=CQ (g:=IU big) (mk:=λi=>((i:Int),m,n)) (p:=λi=>decide (m.2.1[i]? = n.2.1[i]?)) (no:=some false) (kk:=some (decide (m.2.2.1=n.2.2.1))) (n:=m.2.1.length)
     (λself i hi=>by
      have hi':i < n.2.1.length:=by omega
      simp only [IU,Ru,Dq hi,AL,gI hi,gI hi',AA,wS hi (by have:=h.tx;omega),V5 hi hi',Dr,aN])
     (λself=>by
      simp only [IU,Ru,Dk,AJ]
      exact fns _) m.2.1.length 0 big (by omega) (Df (by have:=h.tx;omega))
    rw [SY hl] at this
    refine Eq.trans this ?_
    by_cases e2:m.2.1=n.2.1
    ·rw [AB e2,AL]
     by_cases e3:m.2.2.1=n.2.2.1
     ·rw [AB e3,AB (Prod.ext e1 (Prod.ext e2 (Prod.ext e3 rfl)))]
     ·rw [AF e3,AF (λe=>e3 (by rw [e]))]
    ·rw [AF e2,AJ,AF (λe=>e2 (by rw [e]))]
   ·rw [AF hk,AJ,AF (λe=>hk (by rw [e]))]
  ·rw [AF hl,AJ,AF (λe=>hl (by rw [e]))]
 ·rw [AF e1,AJ,AF (λe=>e1 (by rw [e]))]
theorem Ow {p:Nat->Bool} {n:Nat} (h:(List.range' 0 n).all p=true) {i:Nat} (hi:i < n):p i=true:=List.all_eq_true.1 h i (by simp [List.mem_range'_1];exact hi)
structure Qb5 (f:DX):Prop where
 name:f.1.length<=100
 sl:f.2.2.2.1.length<=20
 code:f.2.2.2.2.1.length<=210
 s1:f.2.2.2.2.2.1.length<=210
 s2:f.2.2.2.2.2.2.1.length<=210
structure QWU (m:DF):Prop where
 ty:m.1.length<=40/\∀ t∈m.1,t.2.2.2.1.length<=20
 tx:m.2.1.length<=40
 fn:m.2.2.1.length<=40/\∀ f∈m.2.2.1,Qb5 f
def nS (l:List DX):Nat->Int
 | 0=>0
 | i+1=>IntKind.i64.wrap (nS l i+(((l[i]?).map λf=>f.2.2.2.2.1.length).getD 0:Nat))
def gB (f:DX) (n:Int):Bool:=decide (f.1.length<=100)&&(decide (f.2.2.2.1.length<=20)&&(decide (f.2.2.2.2.1.length<=210)&&(decide (f.2.2.2.2.2.1.length<=210)&&(decide (f.2.2.2.2.2.2.1.length<=210)&&(decide (n<=1000)&&f.2.2.2.1.all λs=>decide (s.1.length<=100))))))
theorem QDg {α:Type} (l:List α) (k:Nat):decide ((l.length:Int) > (k:Int))=!decide (l.length<=k):=by
 by_cases h:l.length<=k
 ·rw [AB h,AF (by omega)];rfl
 ·rw [AF h,AB (by omega)];rfl
theorem QEE (m:DF):∃ b,X0 m=some b/\(b=false->QWU m):=by
 show ∃ b,QZ (BP (GZ big) big) m=some b/\_
 unfold QZ
 obtain ⟨b,h1,h2⟩:=K.QHT m.1
 rw [h1,AA]
 cases b with
 | true=>exact ⟨true,rfl,λh=>by cases h⟩
 | false=>
  rw [AJ]
  by_cases ht:m.2.1.length<=40
  ·rw [AF (by omega),AJ]
   by_cases hf:m.2.2.1.length<=40
   ·rw [AF (by omega),AJ]
    have slots:∀ (BM BQ) (n:Int) (i:Nat) (f:DX),f.2.2.2.1.length<=20->i < m.2.2.1.length->BP (JF big BM BQ) big (n,(i:Int),0,m,f)=bif f.2.2.2.1.all (λs=>decide (s.1.length<=100)) then BQ (n,((i+1:Nat):Int),m) else some true:=by
     intro BM BQ n i f hl hi
     have:=CQ (g:=JF big BM BQ) (mk:=λk=>(n,(i:Int),(k:Int),m,f)) (p:=λk=>(f.2.2.2.1[k]?).all λs=>decide (s.1.length<=100)) (no:=some true) (kk:=BQ (n,((i+1:Nat):Int),m)) (n:=f.2.2.2.1.length)
      (λself k hk=>by
       rw [pat hk]
       simp only [JF,Uk,Dq hk,AL,gI hk,AA,wS hk (by omega),QDg _ 100,Dr,show (100:Int)=((100:Nat):Int) from rfl])
      (λself=>by simp only [JF,Uk,Dk,AJ,wS hi (by omega)]) f.2.2.2.1.length 0 big (by omega) (Df (by omega))
     rw [cB] at this
     exact this
    have fns:∀ BM,BP (JE big BM) big (0,0,m)=bif (List.range' 0 m.2.2.1.length).all (λi=>(m.2.2.1[i]?).all λf=>gB f (nS m.2.2.1 (i+1))) then some false else some true:=by
     intro BM
     exact CQ (g:=JE big BM) (mk:=λi=>(nS m.2.2.1 i,(i:Int),m)) (p:=λi=>(m.2.2.1[i]?).all λf=>gB f (nS m.2.2.1 (i+1))) (no:=some true) (kk:=some false) (n:=m.2.2.1.length)
      (λself i hi=>by
       rw [pat hi]
       have e:IntKind.i64.wrap (nS m.2.2.1 i+((m.2.2.1[i]).2.2.2.2.1.length:Int))=nS m.2.2.1 (i+1):=by simp [nS,hi]
       simp only [JE,P5,Dq hi,AL,gI hi,AA,e]
       unfold gB
       generalize nS m.2.2.1 (i+1)=n
       by_cases a1:(m.2.2.1[i]).1.length<=100
       ·rw [AB a1,AF (show ¬ (((m.2.2.1[i]).1.length:Int) > 100) by omega),AJ,Ai]
        by_cases a2:(m.2.2.1[i]).2.2.2.1.length<=20
        ·rw [AB a2,AF (show ¬ (((m.2.2.1[i]).2.2.2.1.length:Int) > 20) by omega),AJ,Ai]
         by_cases a3:(m.2.2.1[i]).2.2.2.2.1.length<=210
         ·rw [AB a3,AF (show ¬ (((m.2.2.1[i]).2.2.2.2.1.length:Int) > 210) by omega),AJ,Ai]
          by_cases a4:(m.2.2.1[i]).2.2.2.2.2.1.length<=210
          ·rw [AB a4,AF (show ¬ (((m.2.2.1[i]).2.2.2.2.2.1.length:Int) > 210) by omega),AJ,Ai]
           by_cases a5:(m.2.2.1[i]).2.2.2.2.2.2.1.length<=210
           ·rw [AB a5,AF (show ¬ (((m.2.2.1[i]).2.2.2.2.2.2.1.length:Int) > 210) by omega),AJ,Ai]
            by_cases a6:n<=1000
            ·rw [AB a6,AF (show ¬ n > 1000 by omega),AJ,Ai]
             exact slots _ _ _ _ _ a2 hi
            ·rw [AF a6,AB (show n > 1000 by omega)];rfl
           ·rw [AF a5,AB (show ((m.2.2.1[i]).2.2.2.2.2.2.1.length:Int) > 210 by omega)];rfl
          ·rw [AF a4,AB (show ((m.2.2.1[i]).2.2.2.2.2.1.length:Int) > 210 by omega)];rfl
         ·rw [AF a3,AB (show ((m.2.2.1[i]).2.2.2.2.1.length:Int) > 210 by omega)];rfl
        ·rw [AF a2,AB (show ((m.2.2.1[i]).2.2.2.1.length:Int) > 20 by omega)];rfl
       ·rw [AF a1,AB (show ((m.2.2.1[i]).1.length:Int) > 100 by omega)];rfl)
      (λself=>by simp only [JE,P5,Dk,AJ]) m.2.2.1.length 0 big (by omega) (Df (by omega))
    have:=CQ (g:=GZ big) (mk:=λi=>((i:Int),m)) (p:=λi=>(m.2.1[i]?).all λs=>decide (s.length<=100)) (no:=some true) (kk:=bif (List.range' 0 m.2.2.1.length).all (λi=>(m.2.2.1[i]?).all λf=>gB f (nS m.2.2.1 (i+1))) then some false else some true) (n:=m.2.1.length)
     (λself i hi=>by
      rw [pat hi]
      simp only [GZ,Pz,Dq hi,AL,gI hi,AA,wS hi (by omega),QDg _ 100,Dr,show (100:Int)=((100:Nat):Int) from rfl])
     (λself=>by
      simp only [GZ,Pz,Dk,AJ]
      exact fns _) m.2.1.length 0 big (by omega) (Df (by omega))
    rw [cB] at this
    refine ⟨!(m.2.1.all (λs=>decide (s.length<=100))&&(List.range' 0 m.2.2.1.length).all (λi=>(m.2.2.1[i]?).all λf=>gB f (nS m.2.2.1 (i+1)))),this.trans ?_,?_⟩
    ·cases m.2.1.all (λs=>decide (s.length<=100)) <;> cases (List.range' 0 m.2.2.1.length).all (λi=>(m.2.2.1[i]?).all λf=>gB f (nS m.2.2.1 (i+1))) <;> rfl
    ·intro h
     rw [Bool.not_eq_false',AP] at h
     refine ⟨h2 rfl,ht,hf,λf hfm=>?_⟩
     obtain ⟨i,hi,rfl⟩:=List.mem_iff_getElem.1 hfm
     have:=Ow h.2 hi
     rw [pat hi] at this
     simp only [gB,AP,AZ] at this
     exact ⟨this.1,this.2.1,this.2.2.1,this.2.2.2.1,this.2.2.2.2.1⟩
   ·exact ⟨true,by rw [AB (by omega)];rfl,λh=>by cases h⟩
  ·exact ⟨true,by rw [AB (by omega)];rfl,λh=>by cases h⟩
def pM (ns:List (List Int)) (i:Nat):Bool:=(ns[i]?).all λs=>(List.range' 0 i).all λk=>(ns[k]?).all λt=>!(R3 .str t s)
theorem gZ (ns:List (List Int)):(List.range' 0 ns.length).all (pM ns)=decide ns.Nodup:=by
 rw [Bool.eq_iff_iff]
 simp only [List.all_eq_true,List.mem_range'_1,AZ,VA]
 have key:∀ i (h:i < ns.length),pM ns i=true↔ns[i] ∉ ns.take i:=by
  intro i h
  unfold pM
  rw [pat h]
  simp only [List.all_eq_true,List.mem_range'_1]
  constructor
  ·intro g hm
   obtain ⟨j,hj,e⟩:=List.mem_take_iff_getElem.1 hm
   have:=g j ⟨by omega,by omega⟩
   rw [pat (show j < ns.length by omega),e,Ud] at this
   cases this
  ·intro g k hk
   have hk':k < ns.length:=by omega
   rw [pat hk',Bool.not_eq_true',Bool.eq_false_iff]
   intro e
   exact g (List.mem_take_iff_getElem.2 ⟨k,by omega,OJ.1 e⟩)
 constructor
 ·intro h i hi;exact (key i hi).1 (h i ⟨by omega,by omega⟩)
 ·intro h i hi;exact (key i (by omega)).2 (h i (by omega))
theorem QF9 {p q:Nat->Bool} {l:List Nat}:l.all (λi=>p i&&q i)=(l.all p&&l.all q):=by
 rw [Bool.eq_iff_iff]
 simp only [List.all_eq_true,AP]
 exact ⟨λh=>⟨λx hx=>(h x hx).1,λx hx=>(h x hx).2⟩,λh x hx=>⟨h.1 x hx,h.2 x hx⟩⟩
theorem QFC {β:Type} (b c:Bool) (x y:β):(bif b then (bif c then x else y) else y)=bif (b&&c) then x else y:=by cases b <;> rfl
theorem QHS (fs:List K.Qo):Na (fs,16)=some (decide (fs.length<=16)&&Jw (fs.map (·.1))):=by
 show Ic (BP (Db big) big) (fs,16)=_
 unfold Ic
 dsimp only
 by_cases h:fs.length<=16
 ·rw [AF (by omega),AJ,AB h,Ai]
  have hm:(fs.map (·.1)).length=fs.length:=Ay _
  have inner:∀ (self:List K.Qo×Int->Option Bool) (i:Nat) (hi:i < fs.length),BP (D8 big self) big (fs,(i:Int),0)=bif pM (fs.map (·.1)) i then self (fs,((i+1:Nat):Int)) else some false:=by
   intro self i hi
   unfold pM
   rw [pat (show i < (fs.map (·.1)).length by omega)]
   exact CQ (g:=D8 big self) (mk:=λk=>(fs,(i:Int),(k:Int))) (p:=λk=>((fs.map (·.1))[k]?).all λt=>!(R3 .str t (fs.map (·.1))[i])) (no:=some false) (kk:=self (fs,((i+1:Nat):Int))) (n:=i)
    (λBQ k hk=>by
     rw [pat (show k < (fs.map (·.1)).length by omega)]
     simp only [D8,Fp,Dq hk,AL,gI (show k < fs.length by omega),gI hi,AA,wS hk (by omega),List.getElem_map,Dr])
    (λBQ=>by simp only [D8,Fp,Dk,AJ,wS hi (by omega)]) i 0 big (by omega) (Df (by omega))
  have:=CQ (g:=Db big) (mk:=λi=>(fs,(i:Int))) (p:=λi=>((fs.map (·.1))[i]?).all K.Ej&&pM (fs.map (·.1)) i) (no:=some false) (kk:=some true) (n:=fs.length)
   (λself i hi=>by
    rw [pat (show i < (fs.map (·.1)).length by omega)]
    simp only [Db,Dc,Dq hi,AL,gI hi,AA,wS hi (by omega),K.bS,Dr,inner self i hi,List.getElem_map,QFC])
   (λself=>by simp only [Db,Dc,Dk,AJ]) fs.length 0 big (by omega) (Df (by omega))
  rw [QF9,<- hm,cB,gZ,Xi] at this
  exact this
 ·rw [AB (by omega),AL,AF h];rfl
theorem YU (N:Nat) (BM) {rs ns:List Int} {i r n:Int} (h0:0<=i) (h3:i < 3) (hr:BX rs i=some (wu r)) (hn:nth ns i.toNat=some n) (hl:Rl r) :
  Ee N BM (rs,i,ns)=if fit r n then BM (rs,IntKind.i64.wrap (i+1),ns) else some 8:=by
 show MH BM _=_
 unfold MH
 dsimp only
 rw [AB h3,AB h0,AL,hr]
 simp only [AA,Bool.and_self,AL,hn,QCM r n hl]
 cases fit r n <;> rfl
theorem fF (x:Ins) (h0:0<=x.1) (h1:x.1<=255):PG x=some (if Qf x then 0 else 8):=by
 show J5 (BP (Ee big) big) x=_
 unfold J5
 rw [gG h0 h1,AA,show D7 x=some (vals x) from rfl,AA]
 cases h:ZY x.1 with
 | false=>simp [Qf,h]
 | true=>
  obtain ⟨a,b,c,e,ha,hb,hc⟩:=XR h
  simp only [if_true,e,List.map_cons,List.map_nil]
  show BP (Ee big) big ([wu a,wu b,wu c],0,vals x)=_
  rw [qg,Ba,YU _ _ (by decide) (by decide) (d9 _ _) rfl ha,w01]
  simp only [Qf,h,e,zk,vals,Ai,Bool.and_true]
  cases fit a x.2.1 with
  | false=>rfl
  | true=>
   rw [AY rfl,Ba,YU _ _ (by decide) (by decide) (eB _ _ _) rfl hb,w12]
   cases fit b x.2.2.1 with
   | false=>rfl
   | true=>
    rw [AY rfl,Ba,YU _ _ (by decide) (by decide) (eD _ _ _ _) rfl hc,w23]
    cases fit c x.2.2.2.1 with
    | false=>rfl
    | true=>rfl
theorem rP {l:List T.Rn} {n:Nat} (h1:1<=n) (h2:n<=200):T.Nh l n=decide (T.IC l n=0):=by
 rw [Bool.eq_iff_iff,AZ,T.Rx]
 exact ⟨λh=>⟨⟨by omega,by omega⟩,h⟩,λh=>h.2⟩
def Op8 (l:List Ins):Prop:=∀ x∈l,0<=x.1/\x.1<=255
theorem QBi (l:List K.ES) (f:DX) (hl:l.length<=1000000) (ho:Op8 f.2.2.2.2.1) (h1:f.2.2.2.2.2.1.length<=1000000) (h2:f.2.2.2.2.2.2.1.length<=1000000):Sw (l,f)=some (K.Ej f.1&&okF l.length f):=by
 show KW (BP (Ef big) big) (l,f)=_
 unfold KW okF Zz gV
 dsimp only
 rw [K.bS,AA,Dr]
 cases K.Ej f.1 with
 | false=>rfl
 | true=>
  rw [AL,Ai,QHS,AA,Dr]
  by_cases hs:f.2.2.2.1.length<=16
  rotate_left
  ·rw [AF hs];rfl
  rw [AB hs,Ai,Ai]
  cases hn:Jw (f.2.2.2.1.map (·.1)) with
  | false=>rw [AJ,Bool.and_false,Bool.false_and]
  | true=>
   rw [AL,Bool.and_true]
   by_cases a1:0<=f.2.1
   rotate_left
   ·rw [AB (show f.2.1 < 0 by omega),AF a1,Bool.false_and,Bool.and_false];rfl
   rw [AF (show ¬ f.2.1 < 0 by omega),AJ,AB a1,Ai]
   by_cases a2:f.2.1<=f.2.2.2.1.length
   rotate_left
   ·rw [AB (show f.2.1 > f.2.2.2.1.length by omega),AF a2,Bool.false_and,Bool.and_false];rfl
   rw [AF (show ¬ f.2.1 > f.2.2.2.1.length by omega),AJ,AB a2,Ai]
   have hr:(decide (f.2.2.1 = -1)||K.Fq f.2.2.1 l.length)=decide (-1<=f.2.2.1/\f.2.2.1 < l.length):=by
    rw [Bool.eq_iff_iff,Bool.or_eq_true,AZ,AZ,K.Uq];omega
   rw [hr]
   by_cases a3 : -1<=f.2.2.1
   rotate_left
   ·rw [AB (show f.2.2.1 < -1 by omega),AF (p:=-1<=f.2.2.1/\f.2.2.1 < l.length) (λe=>a3 e.1),Bool.false_and,Bool.and_false];rfl
   rw [AF (show ¬ f.2.2.1 < -1 by omega),AJ]
   by_cases a4:f.2.2.1 < l.length
   rotate_left
   ·rw [AB (show f.2.2.1>=l.length by omega),AF (p:=-1<=f.2.2.1/\f.2.2.1 < l.length) (λe=>a4 e.2),Bool.false_and,Bool.and_false];rfl
   rw [AF (show ¬ f.2.2.1>=l.length by omega),AJ,AB (p:=-1<=f.2.2.1/\f.2.2.1 < l.length) ⟨a3,a4⟩,Ai]
   by_cases a5:1<=f.2.2.2.2.1.length
   rotate_left
   ·rw [AB (show (f.2.2.2.2.1.length:Int) < 1 by omega),AF a5,Bool.false_and,Bool.false_and,Bool.and_false];rfl
   rw [AF (show ¬ (f.2.2.2.2.1.length:Int) < 1 by omega),AJ,AB a5,Ai]
   by_cases a6:f.2.2.2.2.1.length<=200
   rotate_left
   ·rw [AB (show (f.2.2.2.2.1.length:Int) > 200 by omega),AF a6,Bool.false_and,Bool.false_and,Bool.and_false];rfl
   rw [AF (show ¬ (f.2.2.2.2.1.length:Int) > 200 by omega),AJ,AB a6,Ai,<- rP a5 a6,<- rP a5 a6]
   have code:∀ BM,BP (FX big BM) big (0,f)=bif f.2.2.2.2.1.all Qf then some (T.Nh f.2.2.2.2.2.1 f.2.2.2.2.1.length&&T.Nh f.2.2.2.2.2.2.1 f.2.2.2.2.1.length) else some false:=by
    intro BM
    have:=CQ (g:=FX big BM) (mk:=λi=>((i:Int),f)) (p:=λi=>(f.2.2.2.2.1[i]?).all Qf) (no:=some false) (kk:=some (T.Nh f.2.2.2.2.2.1 f.2.2.2.2.1.length&&T.Nh f.2.2.2.2.2.2.1 f.2.2.2.2.1.length)) (n:=f.2.2.2.2.1.length)
     (λself i hi=>by
      rw [pat hi]
      have hop:=ho _ (Ae hi)
      simp only [FX,P6,Dq hi,AL,gI hi,AA,wS hi (by omega),fF _ hop.1 hop.2]
      cases Qf f.2.2.2.2.1[i] <;> rfl)
     (λself=>by
      simp only [FX,P6,Dk,AJ,T.QAv _ _ (show f.2.2.2.2.2.1.length<=9223372036854775807 by omega),T.QAv _ _ (show f.2.2.2.2.2.2.1.length<=9223372036854775807 by omega),AA]
      cases T.Nh f.2.2.2.2.2.1 f.2.2.2.2.1.length <;> rfl) f.2.2.2.2.1.length 0 big (by omega) (Df (by omega))
    rw [cB] at this
    exact this
   have:=CQ (g:=Ef big) (mk:=λi=>(l,(i:Int),f)) (p:=λi=>(f.2.2.2.1[i]?).all λx=>K.Fq x.2.1 l.length) (no:=some false) (kk:=bif f.2.2.2.2.1.all Qf then some (T.Nh f.2.2.2.2.2.1 f.2.2.2.2.1.length&&T.Nh f.2.2.2.2.2.2.1 f.2.2.2.2.1.length) else some false) (n:=f.2.2.2.1.length)
    (λself i hi=>by
     rw [pat hi]
     simp only [Ef,K9,Dq hi,AL,gI hi,AA,wS hi (by omega),K.Fq]
     by_cases b1:0<=(f.2.2.2.1[i]).2.1
     ·rw [AF (show ¬ (f.2.2.2.1[i]).2.1 < 0 by omega),AJ,AB b1,Ai]
      by_cases b2:(f.2.2.2.1[i]).2.1 < l.length
      ·rw [AF (show ¬ (f.2.2.2.1[i]).2.1>=l.length by omega),AJ,AB b2];rfl
      ·rw [AB (show (f.2.2.2.1[i]).2.1>=l.length by omega),AF b2];rfl
     ·rw [AB (show (f.2.2.2.1[i]).2.1 < 0 by omega),AF b1];rfl)
    (λself=>by
     simp only [Ef,K9,Dk,AJ]
     exact code _) f.2.2.2.1.length 0 big (by omega) (Df (by omega))
   rw [cB] at this
   refine Eq.trans this ?_
   cases (f.2.2.2.1.all λx=>K.Fq x.2.1 l.length) <;> cases f.2.2.2.2.1.all Qf <;> rfl
structure Qb8 (m:DF):Prop where
 ty:m.1.length<=1000000/\∀ t∈m.1,t.2.2.2.1.length<=1000
 fn:∀ f∈m.2.2.1,Op8 f.2.2.2.2.1/\f.2.2.2.2.2.1.length<=1000000/\f.2.2.2.2.2.2.1.length<=1000000
theorem QMb (m:DF) (h:Qb8 m):ZR m=some (Yq m):=by
 show SL (BP (IQ big) big) m=_
 unfold SL Yq T9 YQ bQ
 rw [K.QHR m.1 h.ty.2,AA]
 by_cases hv:K.Valid m.1
 rotate_left
 ·rw [AX hv,AF hv];rfl
 rw [AY hv,AB hv,Ai,show ((0:Int) != 0)=false from rfl,AJ]
 by_cases ht:m.2.1.length<=32
 rotate_left
 ·rw [AB (by omega),AF ht,Bool.false_and,Bool.false_and,Bool.and_false];rfl
 rw [AF (by omega),AJ,AB ht,Ai]
 by_cases h1:1<=m.2.2.1.length
 rotate_left
 ·rw [AB (by omega),AF h1,Bool.false_and,Bool.and_false,Bool.and_false];rfl
 rw [AF (by omega),AJ,AB h1,Ai]
 by_cases h2:m.2.2.1.length<=32
 rotate_left
 ·rw [AB (by omega),AF h2,Bool.false_and,Bool.and_false,Bool.and_false];rfl
 rw [AF (by omega),AJ,AB h2,Ai,K.xW hv,AA]
 have hm:(m.2.2.1.map (·.1)).length=m.2.2.1.length:=Ay _
 have inner:∀ (BM BQ) (self:Int×DF->Option Bool) (i:Nat) (hi:i < m.2.2.1.length),BP (Kh big BM BQ self) big ((i:Int),0,m)=bif pM (m.2.2.1.map (·.1)) i then self (((i+1:Nat):Int),m) else some false:=by
  intro BM BQ self i hi
  unfold pM
  rw [pat (show i < (m.2.2.1.map (·.1)).length by omega)]
  exact CQ (g:=Kh big BM BQ self) (mk:=λk=>((i:Int),(k:Int),m)) (p:=λk=>((m.2.2.1.map (·.1))[k]?).all λt=>!(R3 .str t (m.2.2.1.map (·.1))[i])) (no:=some false) (kk:=self (((i+1:Nat):Int),m)) (n:=i)
   (λBQ k hk=>by
    rw [pat (show k < (m.2.2.1.map (·.1)).length by omega)]
    simp only [Kh,WM,Dq hk,AL,gI (show k < m.2.2.1.length by omega),gI hi,AA,wS hk (by omega),List.getElem_map,Dr])
   (λBQ=>by simp only [Kh,WM,Dk,AJ,wS hi (by omega)]) i 0 big (by omega) (Df (by omega))
 have fns:∀ BM BQ,BP (Kg big BM BQ) big (0,m)=some (m.2.2.1.all (okF m.1.length)&&Jw (m.2.2.1.map (·.1))):=by
  intro BM BQ
  have:=CQ (g:=Kg big BM BQ) (mk:=λi=>((i:Int),m)) (p:=λi=>(m.2.2.1[i]?).all (λf=>K.Ej f.1&&okF m.1.length f)&&pM (m.2.2.1.map (·.1)) i) (no:=some false) (kk:=some true) (n:=m.2.2.1.length)
   (λself i hi=>by
    have hf:=h.fn _ (Ae hi)
    rw [pat hi]
    simp only [Kg,Rt,Dq hi,AL,gI hi,AA,wS hi (by omega),QBi m.1 m.2.2.1[i] h.ty.1 hf.1 hf.2.1 hf.2.2,Dr,inner _ _ self i hi,QFC])
   (λself=>by simp only [Kg,Rt,Dk,AJ]) m.2.2.1.length 0 big (by omega) (Df (by omega))
  rw [QF9,cB,Xi,<- hm,gZ] at this
  refine this.trans (congrArg some ?_)
  unfold Jw
  rw [Bool.eq_iff_iff]
  simp only [List.all_eq_true,AP,AZ,List.mem_map]
  constructor
  ·rintro ⟨g1,g2⟩
   exact ⟨λx hx=>(g1 x hx).2,λs hs=>by obtain ⟨f,hf,rfl⟩:=hs;exact (g1 f hf).1,g2⟩
  ·rintro ⟨g1,g2,g3⟩
   exact ⟨λx hx=>⟨g2 _ ⟨x,hx,rfl⟩,g1 x hx⟩,g3⟩
 have txs:∀ BM,BP (Ke big BM) big (0,m)=bif m.2.1.all (λs=>decide (s.length<=64)) then some (m.2.2.1.all (okF m.1.length)&&Jw (m.2.2.1.map (·.1))) else some false:=by
  intro BM
  have:=CQ (g:=Ke big BM) (mk:=λi=>((i:Int),m)) (p:=λi=>(m.2.1[i]?).all λs=>decide (s.length<=64)) (no:=some false) (kk:=some (m.2.2.1.all (okF m.1.length)&&Jw (m.2.2.1.map (·.1)))) (n:=m.2.1.length)
   (λself i hi=>by
    rw [pat hi]
    simp only [Ke,Rs,Dq hi,AL,gI hi,AA,wS hi (by omega),show (64:Int)=((64:Nat):Int) from rfl,QDg _ 64,Dr])
   (λself=>by
    simp only [Ke,Rs,Dk,AJ]
    exact fns _ _) m.2.1.length 0 big (by omega) (Df (by omega))
  rw [cB] at this
  exact this
 have hsz:(K.szs (K.exS m.1)).length=m.1.length:=by simp [K.szs,K.Tm]
 have:=CQ (g:=IQ big) (mk:=λi=>((i:Int),m,K.szs (K.exS m.1))) (p:=λi=>decide (K.sz (K.exS m.1) (i:Nat)<=256)) (no:=some false) (kk:=bif m.2.1.all (λs=>decide (s.length<=64)) then some (m.2.2.1.all (okF m.1.length)&&Jw (m.2.2.1.map (·.1))) else some false) (n:=m.1.length)
  (λself i hi=>by
   have e:=K.QFn (S:=K.exS m.1) (e:=(i:Int)) (by omega) (by rw [K.Tm];omega)
   simp only [IQ,Rq,hsz,Dq hi,AL,AA,wS hi (by have:=h.ty.1;omega),e,AB (show (0:Int)<=(i:Int) by omega),Ai]
   by_cases b:K.sz (K.exS m.1) (i:Nat)<=256
   ·rw [AF (show ¬ K.sz (K.exS m.1) (i:Nat) > 256 by omega),AB b];rfl
   ·rw [AB (show K.sz (K.exS m.1) (i:Nat) > 256 by omega),AF b];rfl)
  (λself=>by
   simp only [IQ,Rq,hsz,Dk,AJ]
   exact txs _) m.1.length 0 big (by omega) (Df (by have:=h.ty.1;omega))
 refine Eq.trans this ?_
 cases ((List.range' 0 m.1.length).all λi=>decide (K.sz (K.exS m.1) (i:Nat)<=256)) <;> cases m.2.1.all (λs=>decide (s.length<=64)) <;> rfl
theorem lD (N:Nat) (BM) {rs acc ns:List Int} {i r n:Int} (h0:0<=i) (h3:i < 3) (hr:BX rs i=some (wu r)) (hn:nth ns i.toNat=some n) (hl:Rl r) (hf:fit r n=true) (h64:I64 n) (ha:acc.length<=100) :
  Ll N BM (rs,i,acc,ns)=BM (rs,IntKind.i64.wrap (i+1),acc++seg r n,ns):=by
 show Ui BM _=_
 unfold Ui
 dsimp only
 rw [AB h3,AB h0,AL,hr]
 simp only [AA,Bool.and_self,AL,hn,QEG r hl,QZW r hl]
 by_cases hr0:r=0
 ·subst hr0
  simp [seg]
 ·rw [AF hr0,AJ,seg,AX hr0,raw]
  cases hs:sg r with
  | true=>
   have l:=Ct (dbl n)
   simp only [AL,if_true]
   rw [wK n h64.1 h64.2,AA,MO _ (yw h64.1 h64.2),AA,b11,EP (by omega)]
   rfl
  | false=>
   obtain ⟨l0,l1⟩:=qA hl hf hs
   obtain ⟨m,rfl⟩:=BL l0
   have l:=Ct m
   have e1:IntKind.u64.wrap (m:Int)=(m:Int):=by rw [wrap_u64];omega
   simp only [AJ]
   rw [e1,MO m (by omega),AA,b11,EP (by omega)]
   rfl
theorem QBo {x:Ins} (h0:0<=x.1) (h1:x.1<=255) (h:Qf x=true) (w:WfI x):Xx x=some (enc x):=by
 show QV (BP (Ll big) big) x=_
 unfold QV
 obtain ⟨a,b,c,ho,e,ha,hb,hc,fa,fb,fc⟩:=Jc h
 rw [gG h0 h1,AA,show D7 x=some (vals x) from rfl,AA,ho,AY rfl]
 simp only [e,List.map_cons,List.map_nil]
 have l1:=jG a x.2.1
 have l2:=jG b x.2.2.1
 rw [qg,Ba,lD _ _ (by decide) (by decide) (d9 _ _) rfl ha fa w.1 (by simp),w01]
 rw [Ba,lD _ _ (by decide) (by decide) (eB _ _ _) rfl hb fb w.2.1 (by simp only [AQ,Af,Av];omega),w12]
 rw [Ba,lD _ _ (by decide) (by decide) (eD _ _ _ _) rfl hc fc w.2.2 (by simp only [AQ,Af,Av];omega),w23]
 show some _=_
 simp [enc,e,vals,body]
theorem Oc (n:Int) (h:P63 n):Bz n=some (vary n.toNat):=by
 show Wi n=_
 unfold Wi
 obtain ⟨k,rfl⟩:=BL h.1
 have:=h.2
 have e:IntKind.u64.wrap (k:Int)=(k:Int):=by rw [wrap_u64];omega
 rw [e,MO k (by omega)];rfl
theorem jA {α:Type} (l:List α) (hl:l.length<=1000000):Bz (l.length:Int)=some (vary l.length):=by
 have:=Oc (l.length:Int) ⟨by omega,by omega⟩
 simpa using this
theorem tu (fs:List K.Qo) (hl:fs.length<=1000000) (hf:∀ f∈fs,QD7 f) (hx:(Xu fs).length<=1000000):Kc fs=some (Xu fs):=by
 show N7 (BP (Fg big) big) fs=_
 unfold N7 Xu at *
 rw [jA fs hl,AA]
 rw [AQ] at hx
 exact E8 (g:=Fg big) (mk:=λi x=>(fs,(i:Int),x)) (l:=fs) (u7:=Qw) (kk:=some) (B:=1000000)
  (λself i x hi hx=>by
   have h1:=hf _ (Ae hi)
   unfold Qw said at *
   simp only [AQ] at hx
   simp only [Fg,TB,Dq hi,AL,gI hi,AA,wS hi (by omega),QAT fs[i].1 h1.1,Oc _ h1.2]
   rw [DW (by simp only [AQ];show _<=68719476736;omega),AL,DW (by show (x++_).length+_<=68719476736;simp only [AQ];omega),AL]
   rw [<- Ab];rfl)
  (λself x hx=>by simp only [Fg,TB,Dk,AJ]) fs.length 0 big (vary fs.length) (by omega) (Df (by omega)) (by simpa using hx)
theorem kindTail (t:K.ES) (z:List Int) {β:Type} (kk:List Int->Option β) (h:QGV t) (hx:z.length+(yE t).length<=1000000) :
  (bif decide (t.1=4) then (bif decide (t.1=4) then ((Bz t.2.1).bind λx4=>(bif (Nat.ble 1 1&&Nat.ble (List.length z+List.length x4) lim) then kk (List.append z x4) else none)) else none) else (bif decide (t.1=7) then ((Bz t.2.1).bind λNC=>(bif (Nat.ble 1 1&&Nat.ble (List.length z+List.length NC) lim) then kk (List.append z NC) else none)) else (bif decide (t.1=6) then ((Bz t.2.1).bind λH7=>(bif (Nat.ble 1 1&&Nat.ble (List.length z+List.length H7) lim) then ((Bz t.2.2.1).bind λQn=>(bif (Nat.ble 1 1&&Nat.ble (List.length (List.append z H7)+List.length Qn) lim) then kk (List.append (List.append z H7) Qn) else none)) else none)) else (bif decide (t.1=5) then ((Kc t.2.2.2.1).bind λVL=>(bif (Nat.ble 1 1&&Nat.ble (List.length z+List.length VL) lim) then kk (List.append z VL) else none)) else kk z))))=kk (z++yE t):=by
 obtain ⟨h1,h2,h3,h4⟩:=h
 unfold yE at *
 by_cases c4:t.1=4
 ·simp only [c4,decide_true,AL,true_or,if_true] at hx ⊢
  rw [Oc _ h1,AA,DW (by show _<=68719476736;omega),AL];rfl
 ·by_cases c7:t.1=7
  ·simp only [c7,decide_true,AL,or_true,if_true] at hx ⊢
   rw [show decide ((7:Int)=4)=false from rfl,AJ,Oc _ h1,AA,DW (by show _<=68719476736;omega),AL];rfl
  ·by_cases c6:t.1=6
   ·simp only [c6,decide_true,AL,if_true] at hx ⊢
    rw [AX (by omega),AQ] at hx
    rw [show decide ((6:Int)=4)=false from rfl,show decide ((6:Int)=7)=false from rfl,AJ,AJ,AX (by omega),Oc _ h1,AA,DW (by show _<=68719476736;omega),AL,Oc _ h2,AA,DW (by show (z++_).length+_<=68719476736;rw [AQ];omega),AL,<- Ab];rfl
   ·by_cases c5:t.1=5
    ·simp only [c5,decide_true,AL,if_true] at hx ⊢
     rw [AX (by omega),AX (by omega)] at hx
     rw [show decide ((5:Int)=4)=false from rfl,show decide ((5:Int)=7)=false from rfl,show decide ((5:Int)=6)=false from rfl,AJ,AJ,AJ,AX (by omega),AX (by omega),tu _ h3 h4 (by omega),AA,DW (by show _<=68719476736;omega),AL];rfl
    ·simp only [decide_false,AJ,c4,c5,c6,c7,or_self,if_false,List.append_nil]
theorem QID (m:DF) (w:QS4 m) (ho:∀ f∈m.2.2.1,Op8 f.2.2.2.2.1) (hc:(Vb m).length<=1000000):Xz m=some (Vb m):=by
 show QY (BP (GY big) big) m=_
 unfold QY Vb at *
 obtain ⟨⟨h1,h2⟩,⟨h3,h4⟩,h5,h6⟩:=w
 simp only [AQ] at hc
 rw [jA m.1 h1,AA]
 have code:∀ (BM BQ) (self:Int×DF×List Int->Option (List Int)) (i:Nat) (f:DX) (x:List Int),i < m.2.2.1.length->QIr f->Op8 f.2.2.2.2.1->x.length+((f.2.2.2.2.1.flatMap enc).length+((T.Es f.2.2.2.2.2.1).length+(T.Es f.2.2.2.2.2.2.1).length))<=1000000->
   BP (JD big BM BQ self) big ((i:Int),0,m,x,f)=self (((i+1:Nat):Int),m,x++(f.2.2.2.2.1.flatMap enc++(T.Es f.2.2.2.2.2.1++T.Es f.2.2.2.2.2.2.1))):=by
  intro BM BQ self i f x hi hf hop hx
  have h8:=T.Rx.1 hf.s1.2.2
  have h9:=T.Rx.1 hf.s2.2.2
  have:=E8 (g:=JD big BM BQ self) (mk:=λk x=>((i:Int),(k:Int),m,x,f)) (l:=f.2.2.2.2.1) (u7:=enc) (kk:=λx=>self (((i+1:Nat):Int),m,x++(T.Es f.2.2.2.2.2.1++T.Es f.2.2.2.2.2.2.1))) (B:=1000000 - ((T.Es f.2.2.2.2.2.1).length+(T.Es f.2.2.2.2.2.2.1).length))
   (λself k x hk hx=>by
    have hcc:=hf.code.2 _ (Ae hk)
    have hoo:=hop _ (Ae hk)
    simp only [JD,Uj,Dq hk,AL,gI hk,AA,wS hk (by have:=hf.code.1;omega),QBo hoo.1 hoo.2 hcc.1 hcc.2]
    rw [DW (by show _<=68719476736;omega),AL];rfl)
   (λself x hx=>by
    simp only [JD,Uj,Dk,AJ,wS hi (by omega),T.vQ h8.2 h8.1.2 hf.s1.2.1,T.vQ h9.2 h9.1.2 hf.s2.2.1,AA]
    rw [DW (by show _<=68719476736;omega),AL,DW (by show (x++_).length+_<=68719476736;rw [AQ];omega),AL,<- Ab];rfl) f.2.2.2.2.1.length 0 big x (by omega) (Df (by have:=hf.code.1;omega)) (by simp only [List.drop_zero];omega)
  refine Eq.trans this ?_
  simp only [List.drop_zero,Ab]
 have fns:∀ (BM BQ) (x:List Int),x.length+(m.2.2.1.flatMap FC).length<=1000000->BP (JC big BM BQ) big (0,m,x)=some (x++m.2.2.1.flatMap FC):=by
  intro BM BQ x hx
  exact E8 (g:=JC big BM BQ) (mk:=λi x=>((i:Int),m,x)) (l:=m.2.2.1) (u7:=FC) (kk:=some) (B:=1000000)
   (λself i x hi hx=>by
    have hf:=h6 _ (Ae hi)
    have hop:=ho _ (Ae hi)
    unfold FC said at *
    simp only [AQ] at hx
    simp only [JC,Py,Dq hi,AL,gI hi,AA,QAT _ hf.name,Oc _ hf.par,wK _ hf.res.1 hf.res.2,MO _ (yw hf.res.1 hf.res.2),tu _ hf.sl.1 hf.sl.2 (by omega),jA _ hf.code.1]
    rw [DW (by rw [AQ];show _<=68719476736;omega),AL]
    change (bif _&&Nat.ble ((x++_).length+_) _ then _ else _)=_
    rw [DW (by simp only [AQ];show _<=68719476736;omega),AL]
    change (bif _&&Nat.ble (((x++_)++_).length+_) _ then _ else _)=_
    rw [DW (by simp only [AQ];show _<=68719476736;omega),AL]
    change (bif _&&Nat.ble ((((x++_)++_)++_).length+_) _ then _ else _)=_
    rw [DW (by simp only [AQ];show _<=68719476736;omega),AL]
    change (bif _&&Nat.ble (((((x++_)++_)++_)++_).length+_) _ then _ else _)=_
    rw [DW (by simp only [AQ];show _<=68719476736;omega),AL]
    refine (code _ _ self i _ (((((x++_)++_)++_)++_)++_) hi hf hop (by simp only [AQ];omega)).trans ?_
    simp only [Ab])
   (λself x hx=>by simp only [JC,Py,Dk,AJ]) m.2.2.1.length 0 big x (by omega) (Df (by omega)) (by simpa using hx)
 have txs:∀ (BM) (x:List Int),x.length+((m.2.1.flatMap said).length+((vary m.2.2.1.length).length+(m.2.2.1.flatMap FC).length))<=1000000->BP (JB big BM) big (0,m,x)=some (x++(m.2.1.flatMap said++(vary m.2.2.1.length++m.2.2.1.flatMap FC))):=by
  intro BM x hx
  have:=E8 (g:=JB big BM) (mk:=λi x=>((i:Int),m,x)) (l:=m.2.1) (u7:=said) (kk:=λx=>some (x++(vary m.2.2.1.length++m.2.2.1.flatMap FC))) (B:=1000000 - ((vary m.2.2.1.length).length+(m.2.2.1.flatMap FC).length))
   (λself i x hi hx=>by
    unfold said at *
    simp only [JB,Px,Dq hi,AL,gI hi,AA,wS hi (by omega),QAT _ (h4 _ (Ae hi))]
    rw [DW (by show _<=68719476736;omega),AL];rfl)
   (λself x hx=>by
    simp only [JB,Px,Dk,AJ,jA _ h5,AA]
    rw [DW (by show _<=68719476736;omega),AL]
    refine (fns _ _ (x++_) (by rw [AQ];omega)).trans ?_
    rw [Ab]) m.2.1.length 0 big x (by omega) (Df (by omega)) (by simp only [List.drop_zero];omega)
  refine Eq.trans this ?_
  simp only [List.drop_zero,Ab]
 have:=E8 (g:=GY big) (mk:=λi x=>((i:Int),m,x)) (l:=m.1) (u7:=ZN) (kk:=λx=>some (x++(vary m.2.1.length++(m.2.1.flatMap said++(vary m.2.2.1.length++m.2.2.1.flatMap FC))))) (B:=1000000 - ((vary m.2.1.length).length+((m.2.1.flatMap said).length+((vary m.2.2.1.length).length+(m.2.2.1.flatMap FC).length))))
  (λself i x hi hx=>by
   have ht:=h2 _ (Ae hi)
   unfold ZN at *
   simp only [Af] at hx
   have e:∀ y:List Int,x++(m.1[i]).1::y=(x++[(m.1[i]).1])++y:=λy=>by simp
   rw [e]
   have k:=kindTail m.1[i] (x++[(m.1[i]).1]) (λy=>self (((i+1:Nat):Int),m,y)) ht (by rw [AQ];simp only [Af,Av];omega)
   simp only [GY,Pw,Dq hi,AL,gI hi,AA,wS hi (by omega)]
   rw [DW (by simp only [Af,Av];show _<=68719476736;omega),AL]
   refine Eq.trans ?_ k
   simp only [K.VY]
   change (bif decide _ then (bif decide _ then _ else _) else _)=_
   by_cases c4:(m.1[i]).1=4
   ·rw [AB c4];rfl
   ·rw [AF c4];rfl)
  (λself x hx=>by
   simp only [GY,Pw,Dk,AJ,jA _ h3,AA]
   rw [DW (by show _<=68719476736;omega),AL]
   refine (txs _ (x++_) (by rw [AQ];omega)).trans ?_
   rw [Ab]) m.1.length 0 big (vary m.1.length) (by omega) (Df (by omega)) (by simp only [List.drop_zero];omega)
 refine Eq.trans this ?_
 simp only [List.drop_zero,Ab]
structure Qp (m:DF):Prop where
 ty:m.1.length<=1000000/\∀ t∈m.1,t.2.2.2.1.length<=1000
 fn:∀ f∈m.2.2.1,Op8 f.2.2.2.2.1/\f.2.2.2.2.2.1.length<=1000000/\f.2.2.2.2.2.2.1.length<=1000000
 mem:QS3 m
theorem Qp.l {m:DF} (h:Qp m):uy m:=⟨h.ty.1,λf hf=>(h.fn f hf).2,h.mem⟩
theorem QAH (m:DF) (h:Qp m):Mi m=some (Yi m):=by
 show YL m=_
 unfold YL Yi
 rw [QMb m ⟨h.ty,h.fn⟩,AA]
 by_cases hv:Yq m=true
 ·obtain ⟨g1,g2⟩:=QL4 hv h.mem
  rw [hv,A8,AJ,QID m g1 (λf hf=>(h.fn f hf).1) g2,AA,AY rfl]
  by_cases hl:(Vb m).length > 20000
  ·rw [AB (by omega),AY hl];rfl
  ·rw [AF (by omega),AX hl];rfl
 ·rw [AX hv]
  simp only [Bool.not_eq_true] at hv
  rw [hv];rfl
theorem ZM {m:DF} (h:Yi m=0):Yq m=true/\(Vb m).length<=20000:=by
 unfold Yi at h
 split at h
 ·rename_i hv
  split at h
  ·omega
  ·exact ⟨hv,by omega⟩
 ·omega
theorem fQ {z:Int} (h:0<=z) (h':z<=9223372036854775807):IntKind.i64.wrap z=z:=T.t64 (by omega) h'
abbrev QPH:Ty:=.pair .str (.pair (.int .i64) .unit)
abbrev QXo:Ty:=.pair (.int .u8) (.pair (.int .i64) (.pair (.int .i64) (.pair (.slice QPH) .unit)))
abbrev QWV:Ty:=.pair (.int .u8) (.pair (.int .i64) (.pair (.int .i64) (.pair (.int .i64) .unit)))
abbrev QSI:Ty:=.pair (.int .i64) (.pair (.int .u64) .unit)
abbrev QIq:Ty:=.pair .str (.pair (.int .i64) (.pair (.int .i64) (.pair (.slice QPH) (.pair (.slice QWV) (.pair (.slice QSI) (.pair (.slice QSI) .unit))))))
abbrev QJO:Ty:=.pair (.slice QXo) (.pair (.slice .str) (.pair (.slice QIq) .unit))
theorem wf_i64 {n:Int} (w:Wf (.int .i64) n):I64 n:=by
 have : -9223372036854775808<=n/\n<=9223372036854775807:=by simpa only [Wf,min_i64,show IntKind.i64.max=9223372036854775807 by decide] using w
 exact this
theorem wf_u64 {n:Int} (w:Wf (.int .u64) n):0<=n/\n<=18446744073709551615:=by simpa only [Wf,min_u64,max_u64] using w
theorem wf_u8 {n:Int} (w:Wf (.int .u8) n):0<=n/\n<=255:=by
 simpa only [Wf,show IntKind.u8.min=0 by decide,show IntKind.u8.max=255 by decide] using w
theorem QCw {l:List T.Rn} (w:Wf (.slice QSI) l):T.V64 l:=λr hr=>by
 have:=wf_u64 (w.2 r hr).2.1
 exact ⟨this.1,by omega⟩
theorem QUF {m:DF} (w:Wf QJO m) (g:QWU m):Qp m/\QD9 m:=by
 have wf:∀ f∈m.2.2.1,Wf QIq f:=λf hf=>w.2.2.1.2 f hf
 refine ⟨⟨⟨by have:=g.ty.1;omega,λt ht=>by have:=g.ty.2 t ht;omega⟩,λf hf=>?_,λf hf=>?_⟩,⟨⟨by have:=g.ty.1;omega,λt ht=>by have:=g.ty.2 t ht;omega⟩,by have:=g.tx;omega,by have:=g.fn.1;omega,λf hf=>?_⟩⟩
 ·have h:=wf f hf
  have h1:=g.fn.2 f hf
  exact ⟨λx hx=>wf_u8 (h.2.2.2.2.1.2 x hx).1,by have:=h1.s1;omega,by have:=h1.s2;omega⟩
 ·have h:=wf f hf
  exact ⟨wf_i64 h.2.2.1,λx hx=>⟨wf_i64 (h.2.2.2.2.1.2 x hx).2.1,wf_i64 (h.2.2.2.2.1.2 x hx).2.2.1,wf_i64 (h.2.2.2.2.1.2 x hx).2.2.2.1⟩,QCw h.2.2.2.2.2.1,QCw h.2.2.2.2.2.2.1⟩
 ·have h1:=g.fn.2 f hf
  exact ⟨by have:=h1.sl;omega,by have:=h1.code;omega,by have:=h1.s1;omega,by have:=h1.s2;omega⟩
theorem TI {α:Type} (e:Nat) (he:Nat.ble 1 e=true) (l:List α) (h:l.length<=1000000):(Nat.ble 1 e&&Nat.ble (List.length ([]:List α)+List.length l) lim)=true:=by
 rw [he,EP (by simp;omega)];rfl
theorem QEN {α:Type} (e:Nat) (he:Nat.ble 1 e=true) (l:List α) (x:α) (h:l.length<=1000000):(Nat.ble 1 e&&Nat.ble (List.length l+List.length [x]) lim)=true:=by
 rw [he,EP (by simp;omega)];rfl
end Go.Proofs.YtjcnhegjiffgpaaGreatDoor
