import Derived.Test.YtbgmjjplddddnaaGreatDoorCgT1
set_option linter.unusedVariables false
set_option linter.unusedSimpArgs false
set_option linter.unusedSectionVars false
set_option maxRecDepth 100000
namespace Go.Proofs.YtbgmjjplddddnaaGreatDoor.K
open Go.Lift
abbrev sS:=List Int×(Int×Unit)
abbrev cK:=Int×(Int×(Int×(List sS×Unit)))
theorem QGS {kt vt:Ty} (x y:kt.den) (z v:vt.den):∀ m:List (kt.den×vt.den),Pw x z (MO y v m)=bif JW kt x y then (v,true) else Pw x z m
 | []=>rfl
 | p::r=>by
  simp only [MO]
  by_cases h:y=p.1
  ·subst h
   rw [XZ,AL]
   simp only [Pw]
   cases JW kt x p.1 <;> rfl
  ·rw [Ww h,AJ]
   simp only [Pw]
   rw [QGS x y z v r]
   by_cases h2:x=p.1
   ·subst h2
    rw [XZ,AL,Ww (fun e=>h e.symm),AJ,AL]
   ·rw [Ww h2,AJ,AJ]
def Marks (kt:Ty) (m:List (kt.den×Bool)) (S:kt.den->Prop):Prop:=∀ x,(@Pw kt .bool x false m).1=true↔S x
theorem Marks.nil {kt:Ty}:Marks kt [] (fun _=>False):=fun x=>by simp [Pw]
theorem Marks.put {kt:Ty} {m:List (kt.den×Bool)} {S:kt.den->Prop} (h:Marks kt m S) (y:kt.den):Marks kt (@MO kt .bool y true m) (fun x=>x=y∨S x):=by
 intro x
 rw [QGS]
 by_cases e:x=y
 ·subst e;rw [XZ];simp
 ·rw [Ww e,AJ,h x];simp [e]
def iP (x n:Int):Bool:=decide (0<=x)&&decide (x < n)
theorem vM {x n:Int}:iP x n=true↔0<=x/\x < n:=by simp [iP]
def QB9 (c:Int):Bool:=(decide (97<=c)&&decide (c<=122))||(decide (65<=c)&&decide (c<=90))
def QHU (c:Int):Bool:=decide (48<=c)&&decide (c<=57)
def dA (s:List Int):Bool:=match s with
 | []=>false
 | c::_=>decide (s.length<=16)&&(QB9 c&&s.all fun c=>QB9 c||QHU c)
theorem yx (x n:Int):aS (x,n)=some (iP x n):=by
 show vY (x,n)=_
 unfold vY iP
 dsimp only
 by_cases h:0<=x
 ·rw [AB (show x≥0 from h)];rfl
 ·rw [AF (show ¬ x≥0 from h)];rfl
theorem QCL (c:Int):jq c=some (QB9 c):=by
 show tO c=_
 unfold tO QB9
 simp only [ge_iff_le]
 cases decide (97<=c) <;> cases decide (c<=122) <;> cases decide (65<=c) <;> cases decide (c<=90) <;> rfl
theorem QHc (c:Int):pW c=some (QHU c):=by
 show vX c=_
 unfold vX QHU
 simp only [ge_iff_le]
 cases decide (48<=c) <;> cases decide (c<=57) <;> rfl
theorem QC5 {β:Type} (p:β->Bool):∀ l:List β,TP (fun x (s:Unit) k=>bif p x then k s else some false) (fun _=>some true) l ()=some (l.all p)
 | []=>rfl
 | x::r=>by
  simp only [TP,List.all_cons]
  cases p x with
  | true=>exact QC5 p r
  | false=>rfl
theorem QDJ (s:List Int):pU s=some (dA s):=by
 show uU (Gb (qA big) big) s=_
 unfold uU
 cases s with
 | nil=>rfl
 | cons c r=>
  rw [Ww (by simp),AJ]
  by_cases h:(c::r).length<=16
  ·rw [AF (by omega),AJ]
   have h0:Nk (c::r) (0:Int)=some c:=rfl
   rw [h0,AA,QCL,AA]
   simp only [dA]
   rw [AB h,Ai]
   cases hc:QB9 c with
   | false=>rfl
   | true=>
    rw [Az,AJ,Ai]
    have:=SY (g:=qA big) (xs:=c::r) (fun (_:Unit) (i:Nat)=>(c::r,((c::r).length:Int),(i:Int))) (fun x s k=>bif (QB9 x||QHU x) then k s else some false) (fun _=>some true)
     (fun self s=>by
      show mD self _=_
      unfold mD
      dsimp only
      rw [AF (by omega),AJ])
     (fun self s i hi=>by
      show mD self _=_
      unfold mD
      dsimp only
      rw [AB (by omega),AL,YI hi,AA,QCL,AA,AA,QHc,AA]
      rw [XB hi (by have:=Wy;omega)]
      cases QB9 (c::r)[i] <;> cases QHU (c::r)[i] <;> rfl)
     (c::r).length 0 big (by simp) (by unfold big;omega) ()
    rw [List.drop_zero,QC5] at this
    exact this
  ·rw [AB (by omega),AL]
   simp only [dA]
   rw [AF h];rfl
def QDM (fs:List sS) (n:Int):Bool:=decide (1<=fs.length/\fs.length<=8)&&(fs.all (fun f=>dA f.1)&&(decide ((fs.map (·.1)).Nodup)&&fs.all fun f=>iP f.2.1 n))
theorem QAT (n:Int):∀ (fs:List sS) (m:List (List Int×Bool)) (S:List Int->Prop),Marks .str m S->∃ b,TP (fun (f:sS) m k=>bif dA f.1 then (bif (@Pw .str .bool f.1 false m).1 then some false else (bif iP f.2.1 n then k (@MO .str .bool f.1 true m) else some false)) else some false) (fun _=>some true) fs m=some b/\
  (b=true↔(∀ f∈fs,dA f.1=true/\iP f.2.1 n=true/\¬ S f.1)/\(fs.map (·.1)).Nodup)
 | [],m,S,_=>⟨true,rfl,by simp⟩
 | f::r,m,S,h=>by
  simp only [TP]
  cases h1:dA f.1 with
  | false=>exact ⟨false,rfl,by simp [h1]⟩
  | true=>
   rw [AL]
   cases h2:(@Pw .str .bool f.1 false m).1 with
   | true=>exact ⟨false,rfl,by simp [(h f.1).1 h2]⟩
   | false=>
    rw [AJ]
    have h2':¬ S f.1:=fun hs=>by rw [(h f.1).2 hs] at h2;cases h2
    cases h3:iP f.2.1 n with
    | false=>exact ⟨false,rfl,by simp [h3]⟩
    | true=>
     rw [AL]
     obtain ⟨b,e,hb⟩:=QAT n r _ _ (h.put f.1)
     refine ⟨b,e,hb.trans ?_⟩
     simp only [List.mem_cons,forall_eq_or_imp,List.map_cons,List.nodup_cons,List.mem_map,not_exists,not_and,not_or]
     constructor
     ·rintro ⟨g1,g2⟩
      exact ⟨⟨⟨h1,h3,h2'⟩,fun x hx=>⟨(g1 x hx).1,(g1 x hx).2.1,(g1 x hx).2.2.2⟩⟩,fun x hx e=>(g1 x hx).2.2.1 e,g2⟩
     ·rintro ⟨⟨_,g1⟩,g2,g3⟩
      exact ⟨fun x hx=>⟨(g1 x hx).1,(g1 x hx).2.1,fun e=>g2 x hx e,(g1 x hx).2.2⟩,g3⟩
theorem QGN (fs:List sS) (n:Int):dL (fs,n)=some (QDM fs n):=by
 show oP (Gb (gY big) big) (fs,n)=_
 unfold oP QDM
 dsimp only
 by_cases h1:fs.length < 1
 ·rw [AB (by omega),AL,AF (by omega)];rfl
 rw [AF (by omega),AJ]
 by_cases h2:fs.length > 8
 ·rw [AB (by omega),AL,AF (by omega)];rfl
 rw [AF (by omega),AJ]
 have:=SY (g:=gY big) (xs:=fs) (fun (m:List (List Int×Bool)) (i:Nat)=>(n,fs,(fs.length:Int),(i:Int),m)) (fun f m k=>bif dA f.1 then (bif (@Pw .str .bool f.1 false m).1 then some false else (bif iP f.2.1 n then k (@MO .str .bool f.1 true m) else some false)) else some false) (fun _=>some true)
  (fun self s=>by
   show gu self _=_
   unfold gu
   dsimp only
   rw [AF (by omega),AJ])
  (fun self s i hi=>by
   show gu self _=_
   unfold gu
   dsimp only
   rw [AB (by omega),AL,YI hi,AA,QDJ,AA,yx,AA]
   rw [XB hi (by have:=Wy;omega)]
   cases dA fs[i].1 <;> cases (@Pw .str .bool fs[i].1 false s).1 <;> cases iP fs[i].2.1 n <;> rfl)
  fs.length 0 big (by simp) (by unfold big;omega) []
 obtain ⟨b,e,hb⟩:=QAT n fs [] _ Marks.nil
 rw [List.drop_zero,e] at this
 have this:Gb (gY big) big (n,fs,(fs.length:Int),0,[])=some b:=this
 rw [this,AB (by omega),Ai]
 congr 1
 rw [Bool.eq_iff_iff,hb]
 simp only [AP,AZ,List.all_eq_true,not_false_eq_true,and_true]
 exact ⟨fun h=>⟨fun f hf=>(h.1 f hf).1,h.2,fun f hf=>(h.1 f hf).2⟩,fun h=>⟨fun f hf=>⟨h.1 f hf,h.2.2 f hf⟩,h.2.1⟩⟩
def dO (t:cK) (i n:Int):Bool:=
 if t.1=1∨t.1=2∨t.1=3 then decide (t.2.1=0)&&(decide (t.2.2.1=0)&&decide (t.2.2.2.1.length=0))
 else if t.1=4∨t.1=7 then iP t.2.1 n&&(decide (t.2.2.1=0)&&decide (t.2.2.2.1.length=0))
 else if t.1=6 then iP t.2.1 i&&(decide (1<=t.2.2.1/\t.2.2.1<=16)&&decide (t.2.2.2.1.length=0))
 else if t.1=5 then decide (t.2.1=0)&&(decide (t.2.2.1=0)&&QDM t.2.2.2.1 i)
 else false
theorem QVY {α:Type} (l:List α):((l.length:Int)==0)=decide (l.length=0):=by
 by_cases h:l.length=0
 ·rw [h];rfl
 ·rw [AF h];simp;intro e;exact h (by rw [e];rfl)
theorem mR (a b:Int):(a==b)=decide (a=b):=rfl
theorem QDh (t:cK) (i n:Int):pV (t,i,n)=some (dO t i n):=by
 show vW (t,i,n)=_
 unfold vW dO
 simp only [yx,QGN,QVY,AA]
 obtain ⟨k,e,l,fs,u⟩:=t
 dsimp only
 simp only [mR,ge_iff_le]
 generalize QDM fs i=A
 generalize iP e n=B
 generalize iP e i=C
 generalize decide (fs.length=0)=D
 generalize decide (e=0)=E
 generalize decide (l=0)=F
 have hG:decide (1<=l/\l<=16)=(decide (1<=l)&&decide (l<=16)):=by by_cases h:1<=l <;> by_cases h':l<=16 <;> simp [h,h']
 rw [hG]
 generalize decide (1<=l)=G
 generalize decide (l<=16)=H
 by_cases h1:k=1
 ·subst h1;simp;cases A <;> cases B <;> cases C <;> cases D <;> cases E <;> cases F <;> cases G <;> cases H <;> rfl
 by_cases h2:k=2
 ·subst h2;simp;cases A <;> cases B <;> cases C <;> cases D <;> cases E <;> cases F <;> cases G <;> cases H <;> rfl
 by_cases h3:k=3
 ·subst h3;simp;cases A <;> cases B <;> cases C <;> cases D <;> cases E <;> cases F <;> cases G <;> cases H <;> rfl
 by_cases h4:k=4
 ·subst h4;simp;cases A <;> cases B <;> cases C <;> cases D <;> cases E <;> cases F <;> cases G <;> cases H <;> rfl
 by_cases h5:k=5
 ·subst h5;simp;cases A <;> cases B <;> cases C <;> cases D <;> cases E <;> cases F <;> cases G <;> cases H <;> rfl
 by_cases h6:k=6
 ·subst h6;simp;cases A <;> cases B <;> cases C <;> cases D <;> cases E <;> cases F <;> cases G <;> cases H <;> rfl
 by_cases h7:k=7
 ·subst h7;simp;cases A <;> cases B <;> cases C <;> cases D <;> cases E <;> cases F <;> cases G <;> cases H <;> rfl
 simp [h1,h2,h3,h4,h5,h6,h7]
theorem QA7 {t:cK} {i n:Int} (h:dO t i n=true) (hk:t.1=4∨t.1=7):0<=t.2.1/\t.2.1 < n:=by
 unfold dO at h
 rw [AX (by omega),AY hk] at h
 simp only [AP] at h
 exact vM.1 h.1
theorem qp {t:cK} {i n:Int} (h:dO t i n=true) (hk:t.1=6):0<=t.2.1/\t.2.1 < i/\1<=t.2.2.1/\t.2.2.1<=16:=by
 unfold dO at h
 rw [AX (by omega),AX (by omega),AY hk] at h
 simp only [AP,AZ] at h
 have:=vM.1 h.1
 exact ⟨this.1,this.2,h.2.1⟩
theorem oz {t:cK} {i n:Int} (h:dO t i n=true) (hk:t.1=5):(1<=t.2.2.2.1.length/\t.2.2.2.1.length<=8)/\∀ f∈t.2.2.2.1,0<=f.2.1/\f.2.1 < i:=by
 unfold dO at h
 rw [AX (by omega),AX (by omega),AX (by omega),AY hk] at h
 simp only [AP,AZ,QDM,List.all_eq_true] at h
 exact ⟨h.2.2.1,fun f hf=>vM.1 (h.2.2.2.2.2 f hf)⟩
theorem QAh {t:cK} {i n:Int} (h:dO t i n=true) (hk:t.1≠5):t.2.2.2.1=[]:=by
 unfold dO at h
 have e:∀ {l:List sS},decide (l.length=0)=true->l=[]:=fun h=>Aq (of_decide_eq_true h)
 split at h
 ·simp only [AP] at h;exact e h.2.2
 split at h
 ·simp only [AP] at h;exact e h.2.2
 split at h
 ·simp only [AP] at h;exact e h.2.2
 ·simp [hk] at h
theorem QHQ {t:cK} {i n:Int} (h:dO t i n=true):1<=t.1/\t.1<=7:=by
 unfold dO at h
 split at h
 ·omega
 split at h
 ·omega
 split at h
 ·omega
 split at h
 ·omega
 ·cases h
def bI (t:cK):List Int:=if t.1=6 then [t.2.1] else if t.1=5 then t.2.2.2.1.map (·.2.1) else []
def QPJ (t:cK):List Int:=if t.1=4∨t.1=7 then [t.2.1] else bI t
def cap (w:Int):Int:=if 5001 < w then 5001 else w
def zT (acc:List Int) (fs:List sS):Int:=(fs.map fun f=>acc.getD f.2.1.toNat 0).sum
def pF (less acc:List Int) (t:cK):Int:=
 if t.1=4 then 1+less.getD t.2.1.toNat 0
 else if t.1=7 then 1+16 * less.getD t.2.1.toNat 0
 else if t.1=6 then 1+t.2.2.1 * acc.getD t.2.1.toNat 0
 else if t.1=5 then 1+zT acc t.2.2.2.1
 else 1
def xk (less:List Int):List cK->List Int->List Int
 | [],acc=>acc
 | t::r,acc=>xk less r (acc++[cap (pF less acc t)])
def QEz (l:List Int):Prop:=∀ x∈l,0<=x/\x<=5001
theorem QEz.getD {l:List Int} (h:QEz l) (i:Nat):0<=l.getD i 0/\l.getD i 0<=5001:=by
 by_cases hi:i < l.length
 ·rw [Ad,AU hi]
  exact h _ (Ae hi)
 ·rw [Ad,Av (by omega)]
  simp
theorem QGV {w:Int} (h:0<=w):0<=cap w/\cap w<=5001:=by unfold cap;split <;> omega
theorem zD {acc:List Int} (h:QEz acc):∀ fs:List sS,0<=zT acc fs/\zT acc fs<=5001 * fs.length
 | []=>by simp [zT]
 | f::r=>by
  have h1:=zD h r
  have h2:=h.getD f.2.1.toNat
  simp only [zT,List.map_cons,List.sum_cons,Af] at h1 ⊢
  omega
theorem QJu (acc:List Int) (fs:List sS) (f:sS):zT acc (fs++[f])=zT acc fs+acc.getD f.2.1.toNat 0:=by simp [zT]
theorem QIz {a b:Int} (h0:1<=a) (h1:a<=16) (h2:0<=b) (h3:b<=5001):0<=a * b/\a * b<=80016:=by
 constructor
 ·exact Int.mul_nonneg (by omega) h2
 ·have:=Int.mul_le_mul h1 h3 h2 (by omega:(0:Int)<=16)
  omega
theorem QE8 {less acc:List Int} {t:cK} {i n:Int} (hl:QEz less) (ha:QEz acc) (h:dO t i n=true):0<=pF less acc t/\pF less acc t<=100000:=by
 unfold pF
 have h1:=hl.getD t.2.1.toNat
 have h2:=ha.getD t.2.1.toNat
 split
 ·omega
 split
 ·omega
 split
 ·rename_i h6
  have h3:=qp h h6
  have:=QIz h3.2.2.1 h3.2.2.2 h2.1 h2.2
  omega
 split
 ·rename_i h5
  have h3:=oz h h5
  have:=zD ha t.2.2.2.1
  omega
 ·omega
theorem QA5 (less:List Int):∀ (l:List cK) (t:cK) (acc:List Int),xk less (l++[t]) acc=xk less l acc++[cap (pF less (xk less l acc) t)]
 | [],t,acc=>rfl
 | u::r,t,acc=>QA5 less r t _
theorem QBk (less:List Int):∀ (l:List cK) (acc:List Int),(xk less l acc).length=acc.length+l.length
 | [],acc=>rfl
 | u::r,acc=>by rw [xk,QBk];simp;omega
def Built (l:List cK):Prop:=∀ i (h:i < l.length),dO l[i] (i:Int) (l.length:Int)=true
theorem QBl {l:List cK} (hb:Built l) {less:List Int} (hl:QEz less):∀ i,i<=l.length->QEz (xk less (l.take i) [])
 | 0,_=>by intro x hx;simp [xk] at hx
 | i+1,hi=>by
  have ih:=QBl hb hl i (by omega)
  rw [Ah (by omega),QA5]
  intro x hx
  rcases List.mem_append.1 hx with hx | hx
  ·exact ih x hx
  ·simp at hx
   subst hx
   exact QGV (QE8 hl ih (hb i (by omega))).1
theorem QDb {a b:List Int} {e:Int} (h0:0<=e) (h:e < (a.length:Int)):(a++b).getD e.toNat 0=a.getD e.toNat 0:=by
 rw [Ad,Ad,Am (by omega)]
theorem QEg {a:List Int} {e:Int} (h0:0<=e) (h:e < (a.length:Int)):Nk a e=some (a.getD e.toNat 0):=by
 obtain ⟨k,rfl⟩:=BK h0
 have hk:k < a.length:=by omega
 rw [YI hk]
 simp [hk]
theorem QA0 {a:List Int} {e:Int} (h0:0<=e) (h:e < (a.length:Int)):nth a (Int.toNat e)=some (a.getD e.toNat 0):=by
 obtain ⟨k,rfl⟩:=BK h0
 have hk:k < a.length:=by omega
 show a[k]? = _
 simp [hk]
theorem QGK {a b:Int} (h0 : -9223372036854775808<=a+b) (h1:a+b<=9223372036854775807):IntKind.i64.wrap (a+b)=a+b:=wrap_i64 h0 h1
theorem QF3 (w:Int):(if (5001:Int) < w then (5001:Int) else w)=cap w:=rfl
theorem QI2 {l:List cK} (hlen:l.length<=40) (hb:Built l) {less:List Int} (hl:QEz less) (hll:less.length=l.length):u7 (l,less)=some (xk less l []):=by
 show qc _ (Gb (nC _ big) big) (l,less)=_
 unfold qc
 dsimp only
 rw [AB (by omega),AB (by omega),AB (by omega)]
 simp only [Bool.and_true,AL]
 refine Qi (g:=nC (fun _=>List.replicate) big) (n:=l.length) (fun (r:List Int) (i:Nat)=>(less,l,(l.length:Int),(i:Int),r)) (fun i r=>r=xk less (l.take i) []++List.replicate (l.length - i) 0) (fun r=>r=some (xk less l [])) ?_ ?_
  l.length 0 big (by simp) (by unfold big;omega) _ (by simp [xk])
 ·rintro self s rfl
  show fU _ _ self _=_
  unfold fU
  dsimp only
  rw [AF (by omega),AJ]
  simp
 ·rintro self s i hi rfl
  left
  refine ⟨_,rfl,?_⟩
  have hw:=QBl hb hl i (by omega)
  have hwl:(xk less (l.take i) []).length=i:=by rw [QBk];simp;omega
  have hsl:(xk less (l.take i) []++List.replicate (l.length - i) 0).length=l.length:=by simp [hwl];omega
  have hbd:=QE8 hl hw (hb i hi)
  have hset:∀ v:Int,(xk less (l.take i) []++List.replicate (l.length - i) 0).set i v=xk less (l.take i) []++[v]++List.replicate (l.length - (i+1)) 0:=by
   intro v
   rw [show l.length - i=(l.length - (i+1))+1 by omega,List.replicate_succ,List.set_append_right _ _ (by omega),hwl,Nat.sub_self,List.set_cons_zero,Ab]
   rfl
  have hgo:xk less (l.take (i+1)) []=xk less (l.take i) []++[cap (pF less (xk less (l.take i) []) l[i])]:=by
   rw [Ah hi,QA5]
  have hbi:=hb i hi
  rw [hgo]
  show fU _ _ self _=_
  unfold fU
  dsimp only
  rw [AB (by omega),AL,YI hi,AA]
  have hin:(decide (0<=(i:Int))&&decide ((i:Int) < ((xk less (l.take i) []++List.replicate (l.length - i) 0).length:Int)))=true:=by
   rw [AB (by omega),AB (by omega)];rfl
  have hsucc:=XB hi (by have:=Wy;omega:l.length<=maxLen)
  simp only [hin,AL,Aj,hset,hsucc]
  generalize hacc:xk less (l.take i) []=acc at *
  generalize ZY:l[i]=t at *
  have hlw:=hl.getD t.2.1.toNat
  have haw:=hw.getD t.2.1.toNat
  by_cases h4:t.1=4
  ·have hp:=QA7 hbi (.inl h4)
   rw [h4,show ((4:Int)==4)=true from rfl,AL,QEg hp.1 (by omega),AA]
   rw [QGK (by omega) (by omega),QF3]
   unfold pF
   rw [AY h4]
  have e4:(t.1==4)=false:=AF h4
  rw [e4,AJ]
  by_cases h7:t.1=7
  ·have hp:=QA7 hbi (.inr h7)
   rw [h7,show ((7:Int)==7)=true from rfl,AL,QEg hp.1 (by omega),AA]
   rw [wrap_i64 (n:=16 * _) (by omega) (by omega),QGK (by omega) (by omega),QF3]
   unfold pF
   rw [AX h4,AY h7]
  have e7:(t.1==7)=false:=AF h7
  rw [e7,AJ]
  by_cases h6:t.1=6
  ·have hp:=qp hbi h6
   rw [h6,show ((6:Int)==6)=true from rfl,AL]
   rw [AB (by omega),AB (by omega),Ai,AL,QA0 hp.1 (by omega),AA,QDb hp.1 (by omega)]
   have hm:=QIz hp.2.2.1 hp.2.2.2 haw.1 haw.2
   rw [wrap_i64 (n:=t.2.2.1 * _) (by omega) (by omega),QGK (by omega) (by omega),QF3]
   unfold pF
   rw [AX h4,AX h7,AY h6]
  have e6:(t.1==6)=false:=AF h6
  rw [e6,AJ]
  by_cases h5:t.1=5
  ·have hp:=oz hbi h5
   rw [h5,show ((5:Int)==5)=true from rfl,AL]
   refine Qi (g:=q9 (fun _=>List.replicate) big self) (n:=t.2.2.2.1.length) (fun (w:Int) (j:Nat)=>(less,(i:Int),w,l,(l.length:Int),(i:Int),t.2.2.2.1,(t.2.2.2.1.length:Int),(j:Int),acc++List.replicate (l.length - i) 0)) (fun j w=>w=1+zT acc (t.2.2.2.1.take j)) (fun r=>r=self (less,l,(l.length:Int),((i+1:Nat):Int),acc++[cap (pF less acc t)]++List.replicate (l.length - (i+1)) 0)) ?_ ?_
    t.2.2.2.1.length 0 big (by simp) (by unfold big;omega) _ (by simp [zT])
   ·rintro aH s rfl
    show jO _ self aH _=_
    unfold jO
    dsimp only
    rw [AF (by omega),AJ]
    simp only [hin,AL,Aj,hset,hsucc,QF3]
    rw [List.take_length]
    unfold pF
    rw [AX h4,AX h7,AX h6,AY h5]
   ·rintro aH s j hj rfl
    left
    refine ⟨_,rfl,?_⟩
    have hf:=hp.2 t.2.2.2.1[j] (Ae hj)
    have hs:=zD hw (t.2.2.2.1.take j)
    have hfw:=hw.getD t.2.2.2.1[j].2.1.toNat
    have htl:(t.2.2.2.1.take j).length<=8:=by simp;omega
    show jO _ self aH _=_
    unfold jO
    dsimp only
    rw [AB (by omega),AL,YI hj,AA]
    rw [AB (by omega),AB (by omega),Ai,AL,QA0 hf.1 (by omega),AA,QDb hf.1 (by omega),XB hj (by have:=Wy;omega),QGK (by omega) (by omega)]
    rw [Ah hj,QJu,Int.add_assoc]
  ·have e5:(t.1==5)=false:=AF h5
   rw [e5,AJ]
   show self (less,l,(l.length:Int),((i+1:Nat):Int),acc++[_]++_)=_
   unfold pF
   rw [AX h4,AX h7,AX h6,AX h5]
   rfl
def wN (l:List cK):Nat->List Int
 | 0=>List.replicate l.length 0
 | n+1=>xk (wN l n) l []
theorem QBm {l:List cK} (hb:Built l):∀ n,QEz (wN l n)/\(wN l n).length=l.length
 | 0=>⟨fun x hx=>by simp [wN] at hx;omega,by simp [wN]⟩
 | n+1=>by
  have ih:=QBm hb n
  have:=QBl hb ih.1 l.length (Nat.le_refl _)
  rw [List.take_length] at this
  exact ⟨this,by rw [wN,QBk];simp⟩
theorem QK1 {l:List cK} (hlen:l.length<=40) (hb:Built l):xD l=some (wN l 4):=by
 show sH _ (Gb (oI _ big) big) l=_
 unfold sH
 rw [AB (by omega),AB (by omega),AB (by omega)]
 simp only [Bool.and_true,AL]
 refine Qi (g:=oI (fun _=>List.replicate) big) (n:=4) (fun (r:List Int) (i:Nat)=>(l,(i:Int),r)) (fun i r=>r=wN l i) (fun r=>r=some (wN l 4)) ?_ ?_
  4 0 big (by simp) (by unfold big;omega) _ (by simp [wN])
 ·rintro self s rfl
  rfl
 ·rintro self s i hi rfl
  left
  refine ⟨_,rfl,?_⟩
  show tK _ self _=_
  unfold tK
  dsimp only
  rw [AB (by omega),AL,QI2 hlen hb (QBm hb i).1 (QBm hb i).2,AA,XB hi (by have:=Wy;omega)]
  rfl
theorem QKf (l:List Int) (y:Int) (hl:l.length<=1000):∃ j,kP (l,y)=some j/\(0<=j↔y∈l):=by
 show ∃ j,gJ (Gb (eu big) big) (l,y)=some j/\_
 unfold gJ
 refine Qi (g:=eu big) (n:=l.length) (fun (_:Unit) (i:Nat)=>(l,y,(l.length:Int),(i:Int))) (fun i _=>y ∉ l.take i) (fun r=>∃ j,r=some j/\(0<=j↔y∈l)) ?_ ?_
  l.length 0 big (by simp) (by unfold big;omega) () (by simp)
 ·intro self s h
  refine ⟨-1,?_,?_⟩
  ·show aX self _=_
   unfold aX
   dsimp only
   rw [AF (by omega),AJ]
  ·rw [List.take_length] at h
   simp [h]
 ·intro self s i hi h
  by_cases e:y=l[i]
  ·right
   refine ⟨i,?_,by simp only [Int.natCast_nonneg,true_iff];rw [e];exact Ae hi⟩
   show aX self _=_
   unfold aX
   dsimp only
   rw [AB (by omega),AL,YI hi,AA,show (y==l[i])=true from AB e,AL]
  ·left
   refine ⟨(),?_,?_⟩
   ·rw [Ah hi]
    intro hm
    rcases List.mem_append.1 hm with hm | hm
    ·exact h hm
    ·exact e (List.mem_singleton.1 hm)
   ·show aX self _=_
    unfold aX
    dsimp only
    rw [AB (by omega),AL,YI hi,AA,show (y==l[i])=false from AF e,AJ,XB hi (by have:=Wy;omega)]
theorem QCF (l:List Int) (y:Int) (hl:l.length<=1000):bS (l,y)=some (decide (y∈l)):=by
 show iN (l,y)=_
 unfold iN
 obtain ⟨j,h1,h2⟩:=QKf l y hl
 rw [h1,AA]
 congr 1
 rw [Bool.eq_iff_iff,AZ,AZ]
 exact h2
def Valid (l:List cK):Prop:=l.length<=32/\Built l/\(5001:Int) ∉ wN l 4
instance (l:List cK):Decidable (Built l):=by unfold Built;infer_instance
instance (l:List cK):Decidable (Valid l):=by unfold Valid;infer_instance
theorem xw (l:List cK):yT l=some (if Valid l then 0 else 8):=by
 show uT (Gb (p9 big) big) l=_
 unfold uT
 by_cases h:l.length<=32
 ·rw [AF (by omega),AJ]
  refine Qi (g:=p9 big) (n:=l.length) (fun (_:Unit) (i:Nat)=>(l,l,(l.length:Int),(i:Int))) (fun i _=>∀ j (h:j < l.length),j < i->dO l[j] j l.length=true) (fun r=>r=some (if Valid l then 0 else 8)) ?_ ?_
   l.length 0 big (by simp) (by unfold big;omega) () (by intro j _ h;omega)
  ·intro self s hb
   have hb':Built l:=fun i hi=>hb i hi hi
   show gD self _=_
   unfold gD
   dsimp only
   rw [AF (by omega),AJ,QK1 (by omega) hb',AA,QCF _ _ (by rw [(QBm hb' 4).2];omega),AA]
   by_cases hm:(5001:Int)∈wN l 4
   ·rw [AB hm,AL,AX fun hv=>hv.2.2 hm]
   ·rw [AF hm,AJ,AY ⟨h,hb',hm⟩]
  ·intro self s i hi hb
   cases hbi:dO l[i] (i:Int) (l.length:Int) with
   | false=>
    right
    show gD self _=_
    unfold gD
    dsimp only
    rw [AB (by omega),AL,YI hi,AA,QDh,AA,hbi,A8,AL,AX fun hv=>by rw [hv.2.1 i hi] at hbi;cases hbi]
   | true=>
    left
    refine ⟨(),fun j hj hji=>?_,?_⟩
    ·by_cases e:j=i
     ·subst e;exact hbi
     ·exact hb j hj (by omega)
    ·show gD self _=_
     unfold gD
     dsimp only
     rw [AB (by omega),AL,YI hi,AA,QDh,AA,hbi,Az,AJ,XB hi (by have:=Wy;omega)]
 ·rw [AB (by omega),AL,AX fun hv=>h hv.1]
def Ixs (n:Int) (l:List Int):Prop:=∀ x∈l,0<=x/\x < n
theorem QDx {l:List cK} (hb:Built l) {i:Nat} (hi:i < l.length):Ixs i (bI l[i]):=by
 intro x hx
 have h:=hb i hi
 unfold bI at hx
 split at hx
 ·rename_i h6
  have:=qp h h6
  simp at hx
  subst hx
  exact ⟨this.1,this.2.1⟩
 split at hx
 ·rename_i h5
  obtain ⟨f,hf,rfl⟩:=List.mem_map.1 hx
  exact (oz h h5).2 f hf
 ·simp at hx
theorem QDP {t:cK} {i n:Int} (h:dO t i n=true):t.2.2.2.1.length<=8:=by
 by_cases h5:t.1=5
 ·exact (oz h h5).1.2
 ·rw [QAh h h5];simp
theorem QJg {t:cK} {i n:Int} (h:dO t i n=true):(bI t).length<=8:=by
 have:=QDP h
 unfold bI
 split
 ·simp
 split
 ·simpa using this
 ·simp
def Deep (n:Int) (l:List Int):Prop:=∀ x∈l,0<=x/\x<=n
theorem Deep.getD {n:Int} {l:List Int} (hn:0<=n) (h:Deep n l) (i:Nat):0<=l.getD i 0/\l.getD i 0<=n:=by
 by_cases hi:i < l.length
 ·rw [Ad,AU hi]
  exact h _ (Ae hi)
 ·rw [Ad,Av (by omega)]
  simpa using hn
theorem QLl (a b:Int):(if b > a then b else a)=max a b:=by omega
def un (kt:Ty) (ks:List kt.den) (m:List (kt.den×Bool)):Nat:=(ks.filter fun k=>!(@Pw kt .bool k false m).1).length
inductive Rch (l:List cK) (ways:cK->List Int) (i:Int):Int->Prop
 | self:Rch l ways i i
 | step {x y:Int} (t:cK):Rch l ways i x->Nk l x=some t->y∈ways t->Rch l ways i y
theorem Rch.trans {l:List cK} {ways:cK->List Int} {i j k:Int} (h:Rch l ways i j) (h':Rch l ways j k):Rch l ways i k:=by
 induction h' with
 | self=>exact h
 | step t _ h1 h2 ih=>exact .step t ih h1 h2
theorem Gx {α:Type} {l:List α} {x:Int} {t:α} (h:Nk l x=some t):0<=x/\x < l.length/\∃ (hx:x.toNat < l.length),t=l[x.toNat]:=by
 unfold Nk at h
 by_cases h0:0<=x
 ·rw [AB h0] at h
  simp only [AL] at h
  have h':l[x.toNat]? = some t:=h
  obtain ⟨h1,h2⟩:=Ap.1 h'
  exact ⟨h0,by omega,h1,h2.symm⟩
 ·rw [AF h0] at h
  cases h
theorem mg {l:List cK} {x:Int} (h0:0<=x) (h1:x < l.length):∃ t,Nk l x=some t:=by
 obtain ⟨k,rfl⟩:=BK h0
 exact ⟨_,YI (by omega)⟩
theorem QLi:1000000<=lim:=by decide
inductive Pch (l:List cK) (a b:Int):Int->Int->Prop
 | self:Pch l a b a b
 | step {x y x' y':Int} (t u:cK) (j:Nat):Pch l a b x y->Nk l x=some t->Nk l y=some u->(QPJ t)[j]? = some x'->(QPJ u)[j]? = some y'->Pch l a b x' y'
theorem Pch.trans {l:List cK} {a b c d e f:Int} (h:Pch l a b c d) (h':Pch l c d e f):Pch l a b e f:=by
 induction h' with
 | self=>exact h
 | step t u j _ h1 h2 h3 h4 ih=>exact .step t u j ih h1 h2 h3 h4
theorem QDz (c:Int):ni c=some (QB9 c):=by
 show xV c=_
 unfold xV QB9
 simp only [ge_iff_le]
 cases decide (97<=c) <;> cases decide (c<=122) <;> cases decide (65<=c) <;> cases decide (c<=90) <;> rfl
theorem QAK (s:List Int):uF s=some (dA s):=by
 show uX (Gb (qC big) big) s=_
 unfold uX
 cases s with
 | nil=>rfl
 | cons c r=>
  rw [AF (by simp;omega),AJ]
  by_cases h:(c::r).length<=16
  ·rw [AF (by omega),AJ]
   have h0:Nk (c::r) (0:Int)=some c:=rfl
   rw [h0,AA,QDz,AA]
   simp only [dA]
   rw [AB h,Ai]
   cases hc:QB9 c with
   | false=>rfl
   | true=>
    rw [Az,AJ,Ai]
    have:=SY (g:=qC big) (xs:=c::r) (fun (_:Unit) (i:Nat)=>(c::r,(i:Int))) (fun x s k=>bif (QB9 x||QHU x) then k s else some false) (fun _=>some true)
     (fun self s=>by
      show mG self _=_
      unfold mG
      dsimp only
      rw [AF (by omega),AJ])
     (fun self s i hi=>by
      show mG self _=_
      unfold mG
      dsimp only
      rw [AB (by omega),AL,YI hi,AA,QDz,AA,AA,AA]
      rw [XB hi (by have:=Wy;omega)]
      unfold QHU
      by_cases h1:(c::r)[i] < 48
      ·rw [AB h1,AF (by omega:¬ 48<=(c::r)[i])]
       cases QB9 (c::r)[i] <;> rfl
      ·rw [AF h1,AB (by omega:48<=(c::r)[i])]
       by_cases h2:(c::r)[i] > 57
       ·rw [AB h2,AF (by omega:¬ (c::r)[i]<=57)]
        cases QB9 (c::r)[i] <;> rfl
       ·rw [AF h2,AB (by omega:(c::r)[i]<=57)]
        cases QB9 (c::r)[i] <;> rfl)
     (c::r).length 0 big (by simp) (by unfold big;omega) ()
    rw [List.drop_zero,QC5] at this
    exact this
  ·rw [AB (by omega),AL]
   simp only [dA]
   rw [AF h];rfl
theorem vZ {l:List (List Int)} {i:Nat} (hi:i < l.length):(l.take (i+1)).Nodup↔(l.take i).Nodup/\∀ k (hk:k < i),l[k]≠l[i]:=by
 rw [Ah hi,List.nodup_append]
 simp only [List.nodup_cons,List.not_mem_nil,not_false_eq_true,List.nodup_nil,and_self,List.mem_singleton,forall_eq,true_and]
 constructor
 ·rintro ⟨h1,h2⟩
  refine ⟨h1,fun k hk e=>h2 l[k] ?_ e⟩
  exact List.mem_take_iff_getElem.2 ⟨k,by omega,rfl⟩
 ·rintro ⟨h1,h2⟩
  refine ⟨h1,fun a ha e=>?_⟩
  obtain ⟨k,hk,rfl⟩:=List.mem_take_iff_getElem.1 ha
  exact h2 k (by omega) e
theorem QHq (fs:List sS):ng (fs,8)=some (decide (fs.length<=8)&&(fs.all (fun f=>dA f.1)&&decide ((fs.map (·.1)).Nodup))):=by
 show kN (Gb (bU big) big) (fs,8)=_
 unfold kN
 dsimp only
 by_cases h:fs.length<=8
 ·rw [AF (by omega),AJ,AB h,Ai]
  refine Qi (g:=bU big) (n:=fs.length) (fun (_:Unit) (i:Nat)=>(fs,(i:Int))) (fun i _=>(∀ f∈fs.take i,dA f.1=true)/\((fs.map (·.1)).take i).Nodup) (fun r=>r=some (fs.all (fun f=>dA f.1)&&decide ((fs.map (·.1)).Nodup))) ?_ ?_
   fs.length 0 big (by simp) (by unfold big;omega) () (by simp)
  ·rintro self s ⟨h1,h2⟩
   rw [List.take_length] at h1
   rw [BA (by simp)] at h2
   show bH _ self _=_
   unfold bH
   dsimp only
   rw [AF (by omega),AJ,AB h2,Bool.and_true,List.all_eq_true.2 h1]
  ·rintro self s i hi ⟨h1,h2⟩
   cases hn:dA fs[i].1 with
   | false=>
    right
    show bH _ self _=_
    unfold bH
    dsimp only
    rw [AB (by omega),AL,YI hi,AA,QAK,AA,hn,A8,AL]
    have:fs.all (fun f=>dA f.1)=false:=by
     rw [Bool.eq_false_iff]
     intro hall
     have:=List.all_eq_true.1 hall _ (Ae hi)
     rw [hn] at this
     cases this
    rw [this];rfl
   | true=>
    have inner:∃ b:Bool,Gb (bV big self) big (fs,(i:Int),0)=(bif b then self (fs,((i+1:Nat):Int)) else some false)/\(b=true↔∀ k (hk:k < i),(fs.map (·.1))[k]'(by simp;omega)≠(fs.map (·.1))[i]'(by simpa using hi)):=by
     refine Qi (g:=bV big self) (n:=i) (fun (_:Unit) (k:Nat)=>(fs,(i:Int),(k:Int))) (fun j _=>∀ k (hk:k < j) (hki:k < fs.length),(fs[k]).1≠(fs[i]).1) (fun r=>∃ b:Bool,r=(bif b then self (fs,((i+1:Nat):Int)) else some false)/\(b=true↔∀ k (hk:k < i),(fs.map (·.1))[k]'(by simp;omega)≠(fs.map (·.1))[i]'(by simpa using hi))) ?_ ?_
      i 0 big (by simp) (by unfold big;omega) () (by intro k hk;omega)
     ·intro aH s hs
      refine ⟨true,?_,by simp only [true_iff,List.getElem_map];exact fun k hk=>hs k hk (by omega)⟩
      show fF self aH _=_
      unfold fF
      dsimp only
      rw [AF (by omega),AJ,XB hi (by have:=Wy;omega)]
      rfl
     ·intro aH s j hj hs
      have hj':j < fs.length:=by omega
      have hst:bV big self aH (fs,(i:Int),(j:Int))=bif JW .str (fs[j]).1 (fs[i]).1 then some false else aH (fs,(i:Int),((j+1:Nat):Int)):=by
       show fF self aH _=_
       unfold fF
       dsimp only
       rw [AB (by omega),AL,YI hj',AA,YI hi,AA,XB hj (by have:=Wy;omega)]
      by_cases e:(fs[j]).1=(fs[i]).1
      ·right
       refine ⟨false,by rw [hst,e,XZ];rfl,?_⟩
       simp only [Bool.false_eq_true,false_iff,List.getElem_map]
       exact fun hh=>hh j hj e
      ·left
       refine ⟨(),fun k hk hki=>?_,by rw [hst,Ww e];rfl⟩
       by_cases hkj:k=j
       ·subst hkj;exact e
       ·exact hs k (by omega) hki
    obtain ⟨b,hb1,hb2⟩:=inner
    have hst:bU big self (fs,(i:Int))=(bif b then self (fs,((i+1:Nat):Int)) else some false):=by
     show bH _ self _=_
     unfold bH
     dsimp only
     rw [AB (by omega),AL,YI hi,AA,QAK,AA,hn,Az,AJ]
     exact hb1
    cases b with
    | true=>
     left
     refine ⟨(),⟨?_,(vZ (by simpa using hi)).2 ⟨h2,hb2.1 rfl⟩⟩,hst⟩
     rw [Ah hi]
     intro f hf
     rcases List.mem_append.1 hf with hf | hf
     ·exact h1 f hf
     ·rw [List.mem_singleton.1 hf];exact hn
    | false=>
     right
     rw [hst,AJ]
     congr 1
     symm
     have:¬ (fs.map (·.1)).Nodup:=by
      intro hnd
      have QYt:((fs.map (·.1)).take (i+1)).Nodup:=(List.take_sublist _ _).nodup hnd
      have:=hb2.2 ((vZ (by simpa using hi)).1 QYt).2
      cases this
     rw [AF this,Bool.and_false]
 ·rw [AB (by omega),AL,AF h];rfl
theorem QJo (t:cK) (i:Int) (hl:t.2.2.2.1.length<=1000):Gb (kC big) big (i,0,t)=some (decide (t.2.1=0)&&(decide (t.2.2.1=0)&&QDM t.2.2.2.1 i)):=by
 have spec:∀ b:Bool,(b=true↔(∀ f∈t.2.2.2.1,iP f.2.1 i=true))->(decide (t.2.1=0)&&(decide (t.2.2.1=0)&&QDM t.2.2.2.1 i))=(b&&(decide (t.2.1=0)&&(decide (t.2.2.1=0)&&(decide (0 < t.2.2.2.1.length)&&(decide (t.2.2.2.1.length<=8)&&(t.2.2.2.1.all (fun f=>dA f.1)&&decide ((t.2.2.2.1.map (·.1)).Nodup))))))):=by
  intro b hb
  rw [Bool.eq_iff_iff]
  simp only [QDM,AP,AZ,List.all_eq_true,hb]
  constructor
  ·rintro ⟨h1,h2,h3,h4,h5,h6⟩
   exact ⟨h6,h1,h2,by omega,h3.2,h4,h5⟩
  ·rintro ⟨h6,h1,h2,h3,h3',h4,h5⟩
   exact ⟨h1,h2,⟨by omega,h3'⟩,h4,h5,h6⟩
 refine Qi (g:=kC big) (n:=t.2.2.2.1.length) (fun (_:Unit) (k:Nat)=>(i,(k:Int),t)) (fun k _=>∀ f∈t.2.2.2.1.take k,iP f.2.1 i=true) (fun r=>r=some (decide (t.2.1=0)&&(decide (t.2.2.1=0)&&QDM t.2.2.2.1 i))) ?_ ?_
  t.2.2.2.1.length 0 big (by simp) (by unfold big;omega) () (by simp)
 ·intro self s h
  rw [List.take_length] at h
  rw [spec true (by simpa using h)]
  show oD self _=_
  unfold oD
  dsimp only
  rw [AF (by omega),AJ,QHq,AA,Ai]
  simp only [mR,gt_iff_lt]
  have e:decide ((0:Int) < (t.2.2.2.1.length:Int))=decide (0 < t.2.2.2.1.length):=by
   by_cases h:0 < t.2.2.2.1.length
   ·rw [AB h,AB (by omega)]
   ·rw [AF h,AF (by omega)]
  rw [e]
  cases decide (t.2.1=0) <;> cases decide (t.2.2.1=0) <;> cases decide (0 < t.2.2.2.1.length) <;> rfl
 ·intro self s k hk h
  have hst:kC big self (i,(k:Int),t)=bif iP (t.2.2.2.1[k]).2.1 i then self (i,((k+1:Nat):Int),t) else some false:=by
   show oD self _=_
   unfold oD iP
   dsimp only
   rw [AB (by omega),AL,YI hk,AA,AA,XB hk (by have:=Wy;omega)]
   by_cases h1:(t.2.2.2.1[k]).2.1 < 0
   ·rw [AB h1,AF (by omega:¬ 0<=(t.2.2.2.1[k]).2.1)];rfl
   ·rw [AF h1,AB (by omega:0<=(t.2.2.2.1[k]).2.1)]
    by_cases h2:(t.2.2.2.1[k]).2.1≥i
    ·rw [AB h2,AF (by omega:¬ (t.2.2.2.1[k]).2.1 < i)];rfl
    ·rw [AF h2,AB (by omega:(t.2.2.2.1[k]).2.1 < i)];rfl
  cases hx:iP (t.2.2.2.1[k]).2.1 i with
  | true=>
   left
   refine ⟨(),?_,by rw [hst,hx];rfl⟩
   rw [Ah hk]
   intro f hf
   rcases List.mem_append.1 hf with hf | hf
   ·exact h f hf
   ·rw [List.mem_singleton.1 hf];exact hx
  | false=>
   right
   rw [hst,hx,AJ,spec false (by
    simp only [Bool.false_eq_true,false_iff]
    intro hall
    have:=hall _ (Ae hk)
    rw [hx] at this
    cases this)]
   rfl
theorem QLr {l:List cK} {i:Nat} (hi:i < l.length) (hl:(l[i]).2.2.2.1.length<=1000):zf (l,(i:Int))=some (dO l[i] i l.length):=by
 show wW (Gb (kC big) big) (l,(i:Int))=_
 unfold wW
 dsimp only
 rw [YI hi,AA]
 generalize l[i]=t at *
 simp only [QJo t i hl]
 unfold dO
 simp only [QVY]
 obtain ⟨k,e,n,fs,u⟩:=t
 dsimp only
 simp only [mR,ge_iff_le,iP]
 generalize QDM fs i=A
 generalize decide (fs.length=0)=D
 generalize decide (e=0)=E
 generalize decide (n=0)=F
 have hG:decide (1<=n/\n<=16)=(decide (1<=n)&&decide (n<=16)):=by by_cases h:1<=n <;> by_cases h':n<=16 <;> simp [h,h']
 rw [hG]
 generalize decide (1<=n)=G
 generalize decide (n<=16)=H
 generalize decide (0<=e)=I
 generalize decide (e < (l.length:Int))=J
 generalize decide (e < (i:Int))=K
 by_cases h1:k=1
 ·subst h1;simp;cases E <;> cases F <;> cases D <;> rfl
 by_cases h2:k=2
 ·subst h2;simp;cases E <;> cases F <;> cases D <;> rfl
 by_cases h3:k=3
 ·subst h3;simp;cases E <;> cases F <;> cases D <;> rfl
 by_cases h4:k=4
 ·subst h4;simp;cases I <;> cases J <;> cases F <;> cases D <;> rfl
 by_cases h5:k=5
 ·subst h5;simp
 by_cases h6:k=6
 ·subst h6;simp;cases I <;> cases K <;> cases G <;> cases H <;> cases D <;> rfl
 by_cases h7:k=7
 ·subst h7;simp;cases I <;> cases J <;> cases F <;> cases D <;> rfl
 simp [h1,h2,h3,h4,h5,h6,h7]
theorem QF2 {n:Nat} (h:n<=10000):(Nat.ble 1 1&&Nat.ble (n+1) lim)=true:=by
 rw [AP]
 exact ⟨rfl,Nat.ble_eq_true_of_le (by have:=QLi;omega)⟩
theorem QJk (t:cK) (hf:t.2.2.2.1.length<=1000):uG t=some ((if t.1=6 then [t.2.1] else [])++t.2.2.2.1.map (·.2.1)):=by
 have run:∀ a:List Int,a.length<=1->Gb (lg big) big (0,t,a)=some (a++t.2.2.2.1.map (·.2.1)):=by
  intro a ha
  refine Qi (g:=lg big) (n:=t.2.2.2.1.length) (fun (r:List Int) (k:Nat)=>((k:Int),t,r)) (fun k r=>r=a++(t.2.2.2.1.map (·.2.1)).take k) (fun r=>r=some (a++t.2.2.2.1.map (·.2.1))) ?_ ?_
   t.2.2.2.1.length 0 big (by simp) (by unfold big;omega) _ (by simp)
  ·rintro self s rfl
   rw [BA (by simp)]
   show mH self _=_
   unfold mH
   dsimp only
   rw [AF (by omega),AJ]
  ·rintro self s k hk rfl
   left
   refine ⟨_,rfl,?_⟩
   have hlen:(a++(t.2.2.2.1.map (·.2.1)).take k).length<=1001:=by simp;omega
   show mH self _=_
   unfold mH
   dsimp only
   rw [AB (by omega),AL,YI hk,AA]
   rw [show [(t.2.2.2.1[k]).2.1].length=1 from rfl,QF2 (by omega),AL,XB hk (by have:=Wy;omega),Ah (by simpa using hk)]
   simp
 show uY (Gb (lg big) big) t=_
 unfold uY
 by_cases h6:t.1=6
 ·rw [h6,show ((6:Int)==6)=true from rfl,AL]
  rw [show (List.length ([]:List Int)+[t.2.1].length)=0+1 from rfl,QF2 (by omega),AL]
  exact run [t.2.1] (by simp)
 ·rw [show (t.1==6)=false from AF h6,AJ,AX h6]
  exact run [] (by simp)
theorem QHn {t:cK} {i n:Int} (h:dO t i n=true):(if t.1=6 then [t.2.1] else [])++t.2.2.2.1.map (·.2.1)=bI t:=by
 unfold bI
 by_cases h6:t.1=6
 ·rw [AY h6,AY h6,QAh h (by omega)];rfl
 rw [AX h6,AX h6]
 by_cases h5:t.1=5
 ·rw [AY h5];rfl
 ·rw [AX h5,QAh h h5];rfl
theorem QJl {t:cK} {i n:Int} (h:dO t i n=true):uG t=some (bI t):=by
 rw [QJk t (by have:=QDP h;omega),QHn h]
theorem QNb {a b:Int} (hb:0<=b):cap (cap a+b)=cap (a+b):=by
 by_cases h1:5001 < a <;> by_cases h2:5001 < a+b <;> simp [cap,h1,h2] <;> omega
theorem QJ9 (l:List cK) (x:Nat):(wN l 0).getD x 0=0:=by
 show (List.replicate l.length (0:Int)).getD x 0=0
 rw [Ad]
 by_cases hx:x < l.length
 ·simp [hx]
 ·rw [Av (by simpa using hx)];rfl
theorem QNc:cap 1=1:=rfl
theorem QBf {l:List cK} (hlen:l.length<=40) (hb:Built l) (me:List cK×Int->Option (List Int)) (d:Nat) (hd:d<=3) (below:List Int) (hbel:0 < d->below=wN l d) :
  Gb (jw me big) big (l,(d:Int),0,below,[])=some (wN l (d+1)):=by
 have hwd:=QBm hb d
 refine Qi (g:=jw me big) (n:=l.length) (fun (out:List Int) (i:Nat)=>(l,(d:Int),(i:Int),below,out)) (fun i out=>out=xk (wN l d) (l.take i) []) (fun r=>r=some (wN l (d+1))) ?_ ?_
  l.length 0 big (by simp) (by unfold big;omega) _ (by simp [xk])
 ·rintro self s rfl
  rw [List.take_length]
  show gT _ _ self _=_
  unfold gT
  dsimp only
  rw [AF (by omega),AJ]
  rfl
 ·rintro self s i hi rfl
  left
  refine ⟨_,rfl,?_⟩
  have hw:=QBl hb hwd.1 i (by omega)
  have hwl:(xk (wN l d) (l.take i) []).length=i:=by rw [QBk];simp;omega
  have hbi:=hb i hi
  have hpl:=QJg hbi
  have hpi:=QDx hb hi
  rw [show xk (wN l d) (l.take (i+1)) []=xk (wN l d) (l.take i) []++[cap (pF (wN l d) (xk (wN l d) (l.take i) []) l[i])] by rw [Ah hi,QA5]]
  show gT _ _ self _=_
  unfold gT
  dsimp only
  rw [AB (by omega),AL,YI hi,AA,QJl hbi,AA]
  have hget:=YI hi
  generalize hacc:xk (wN l d) (l.take i) []=acc at *
  generalize ZY:l[i]=t at *
  have hby:∀ p:Int,0<=acc.getD p.toNat 0/\acc.getD p.toNat 0<=5001:=fun p=>hw.getD p.toNat
  let by':Int:=if t.1=6 then t.2.2.1 else 1
  have QVV:1<=by'/\by'<=16:=by
   show 1<=(if t.1=6 then t.2.2.1 else 1)/\(if t.1=6 then t.2.2.1 else 1)<=16
   split
   ·rename_i h6;have:=qp hbi h6;omega
   ·omega
  let S (j:Nat):Int:=(((bI t).take j).map fun p=>by' * acc.getD p.toNat 0).sum
  have hS:∀ j (hj:j < (bI t).length),S (j+1)=S j+by' * acc.getD ((bI t)[j]).toNat 0:=by
   intro j hj
   show (((bI t).take (j+1)).map fun p=>by' * acc.getD p.toNat 0).sum=_
   rw [Ah hj,List.map_append,List.sum_append,List.map_singleton,List.sum_singleton]
  have hmul:∀ p:Int,0<=by' * acc.getD p.toNat 0/\by' * acc.getD p.toNat 0<=80016:=fun p=>QIz QVV.1 QVV.2 (hby p).1 (hby p).2
  have hlim:(Nat.ble 1 1&&Nat.ble (acc.length+1) lim)=true:=QF2 (by omega)
  have hsucc:=XB hi (by have:=Wy;omega:l.length<=maxLen)
  refine Qi (g:=tH me big self) (n:=(bI t).length) (fun (w:Int) (j:Nat)=>(l,(d:Int),(i:Int),w,(j:Int),below,acc,bI t)) (fun j w=>w=cap (1+S j)) (fun r=>r=self (l,(d:Int),((i+1:Nat):Int),below,acc++[cap (pF (wN l d) acc t)])) ?_ ?_
   (bI t).length 0 big (by simp) (by unfold big;omega) _ (by simp [S,QNc])
  ·rintro aH w rfl
   have QVU:S (bI t).length=if t.1=6 then t.2.2.1 * acc.getD t.2.1.toNat 0 else if t.1=5 then zT acc t.2.2.2.1 else 0:=by
    show (((bI t).take (bI t).length).map fun p=>by' * acc.getD p.toNat 0).sum=_
    rw [List.take_length]
    unfold bI
    by_cases h6:t.1=6
    ·rw [AY h6,AY h6]
     simp [by',h6]
    rw [AX h6,AX h6]
    by_cases h5:t.1=5
    ·rw [AY h5,AY h5]
     simp [by',h6,zT,Function.comp_def]
    ·rw [AX h5,AX h5];rfl
   rw [QVU]
   have hone:∀ x:Int,[x].length=1:=fun _=>rfl
   show jy _ self aH _=_
   unfold jy
   dsimp only
   rw [AF (by omega),AJ]
   simp only [hget,AA,hone,hlim,AL,hsucc]
   by_cases h4:t.1=4
   ·have h6:¬ t.1=6:=by omega
    have h5:¬ t.1=5:=by omega
    have h7:¬ t.1=7:=by omega
    have hp:=QA7 hbi (.inl h4)
    have hlw:=hwd.1.getD t.2.1.toNat
    rw [AX h6,AX h5,show (t.1==4)=true from AB h4,show (t.1==7)=false from AF h7]
    unfold pF
    rw [AY h4]
    by_cases hd0:d=0
    ·rw [AF (by omega),AJ,AJ]
     have:(wN l d).getD t.2.1.toNat 0=0:=by rw [hd0];exact QJ9 l _
     rw [this]
     rfl
    ·rw [AB (by omega),AL,AL,hbel (by omega),AB hp.1,AB (by rw [hwd.2];omega),Ai,AL,QA0 hp.1 (by rw [hwd.2];omega),AA,show cap (1+0)=1 from rfl,AL,AJ,QGK (by omega) (by omega)]
     rfl
   rw [show (t.1==4)=false from AF h4]
   by_cases h7:t.1=7
   ·have h6:¬ t.1=6:=by omega
    have h5:¬ t.1=5:=by omega
    have hp:=QA7 hbi (.inr h7)
    have hlw:=hwd.1.getD t.2.1.toNat
    rw [AX h6,AX h5,show (t.1==7)=true from AB h7]
    unfold pF
    rw [AX h4,AY h7]
    by_cases hd0:d=0
    ·rw [AF (by omega),AJ,AJ]
     have:(wN l d).getD t.2.1.toNat 0=0:=by rw [hd0];exact QJ9 l _
     rw [this]
     rfl
    ·rw [AB (by omega),AL,AJ,AL,AL,hbel (by omega),AB hp.1,AB (by rw [hwd.2];omega),Ai,AL,QA0 hp.1 (by rw [hwd.2];omega),AA,show cap (1+0)=1 from rfl,wrap_i64 (n:=16 * _) (by omega) (by omega),QGK (by omega) (by omega)]
     rfl
   rw [show (t.1==7)=false from AF h7]
   unfold pF
   rw [AX h4,AX h7]
   have hfin:(1:Int)+(if t.1=6 then t.2.2.1 * acc.getD t.2.1.toNat 0 else if t.1=5 then zT acc t.2.2.2.1 else 0)=(if t.1=6 then 1+t.2.2.1 * acc.getD t.2.1.toNat 0 else if t.1=5 then 1+zT acc t.2.2.2.1 else 1):=by
    split
    ·rfl
    split
    ·rfl
    ·rfl
   rw [hfin]
   cases decide ((d:Int) > 0) <;> rfl
  ·rintro aH w j hj rfl
   left
   refine ⟨_,rfl,?_⟩
   have hx:=hpi _ (Ae hj)
   have hm:=hmul (bI t)[j]
   have hcw:0<=cap (1+S j)/\cap (1+S j)<=5001:=by
    apply QGV
    have:0<=S j:=by
     show 0<=(((bI t).take j).map fun p=>by' * acc.getD p.toNat 0).sum
     have:∀ q:List Int,0<=(q.map fun p=>by' * acc.getD p.toNat 0).sum:=by
      intro q
      induction q with
      | nil=>simp
      | cons a q ih=>rw [List.map_cons,List.sum_cons];have:=hmul a;omega
     exact this _
    omega
   rw [hS j hj,← Int.add_assoc,← QNb hm.1]
   show jy _ self aH _=_
   unfold jy
   dsimp only
   rw [AB (by omega),AL,hget,AA]
   have e1:nth (bI t) (Int.toNat (j:Int))=some (bI t)[j]:=AU hj
   have d1:decide (0<=(j:Int))=true:=AB (by omega)
   have d2:decide ((j:Int) < ((bI t).length:Int))=true:=AB (by omega)
   have d3:decide (0<=(bI t)[j])=true:=AB hx.1
   have d4:decide ((bI t)[j] < (acc.length:Int))=true:=AB (by omega)
   simp only [e1,AA,d1,d2,d3,d4,Bool.and_self,AL,QA0 hx.1 (show (bI t)[j] < (acc.length:Int) by omega)]
   rw [XB hj (by have:=Wy;omega)]
   by_cases h6:t.1=6
   ·rw [show (t.1==6)=true from AB h6,AL]
    have QRF:by'=t.2.2.1:=AY h6
    rw [QRF] at hm ⊢
    rw [wrap_i64 (n:=t.2.2.1 * _) (by omega) (by omega),QGK (by omega) (by omega)]
    rfl
   ·rw [show (t.1==6)=false from AF h6,AJ]
    have QRF:by'=1:=AX h6
    rw [QRF] at hm ⊢
    rw [wrap_i64 (n:=1 * _) (by omega) (by omega),QGK (by omega) (by omega)]
    rfl
theorem QJ3 (k x):dx (k+1) x=oG (dx k) (Gb (jw (dx k) big) big) x:=rfl
theorem QCZ {l:List cK} (hlen:l.length<=40) (hb:Built l):∀ (d k:Nat),d<=3->d < k->dx k (l,(d:Int))=some (wN l (d+1))
 | d,0,_,h=>by omega
 | 0,k+1,_,_=>by
  rw [QJ3]
  unfold oG
  dsimp only
  rw [AF (by omega),AJ]
  exact QBf hlen hb _ 0 (by omega) [] (by omega)
 | d+1,k+1,hd,hk=>by
  rw [QJ3]
  unfold oG
  dsimp only
  rw [AB (by omega),AL,wrap_i64 (by omega) (by omega),show ((d+1:Nat):Int) - 1=(d:Int) by omega,QCZ hlen hb d k (by omega) (by omega),AA]
  exact QBf hlen hb _ (d+1) hd _ (fun _=>rfl)
theorem QHt {l:List cK} (hlen:l.length<=40) (hb:Built l):xE (l,3)=some (wN l 4):=
 QCZ hlen hb 3 big (by omega) (by unfold big;omega)
theorem QJh (l:List cK) (hf:∀ t∈l,t.2.2.2.1.length<=1000):yX l=some (if Valid l then 0 else 8):=by
 show uV (Gb (lY big) big) l=_
 unfold uV
 by_cases h:l.length<=32
 ·rw [AF (by omega),AJ]
  refine Qi (g:=lY big) (n:=l.length) (fun (_:Unit) (i:Nat)=>(l,(i:Int))) (fun i _=>∀ j (h:j < l.length),j < i->dO l[j] j l.length=true) (fun r=>r=some (if Valid l then 0 else 8)) ?_ ?_
   l.length 0 big (by simp) (by unfold big;omega) () (by intro j _ h;omega)
  ·intro self s hb
   have hb':Built l:=fun i hi=>hb i hi hi
   have hw:=QBm hb' 4
   show jP _ self _=_
   unfold jP
   dsimp only
   rw [AF (by omega),AJ,QHt (by omega) hb',AA]
   refine Qi (g:=qB big self) (n:=l.length) (fun (_:Unit) (i:Nat)=>(l,(i:Int),wN l 4)) (fun i _=>(5001:Int) ∉ (wN l 4).take i) (fun r=>r=some (if Valid l then 0 else 8)) ?_ ?_
    l.length 0 big (by simp) (by unfold big;omega) () (by simp)
   ·intro aH s hm
    rw [BA (by omega)] at hm
    show mE self aH _=_
    unfold mE
    dsimp only
    rw [AF (by omega),AJ,AY ⟨h,hb',hm⟩]
   ·intro aH s i hi hm
    have hi':i < (wN l 4).length:=by omega
    have hx:=hw.1 _ (Ae hi')
    have hst:qB big self aH (l,(i:Int),wN l 4)=bif decide ((wN l 4)[i] > 5000) then some 8 else aH (l,((i+1:Nat):Int),wN l 4):=by
     show mE self aH _=_
     unfold mE
     dsimp only
     rw [AB (by omega),AL,AB (by omega),AB (by omega),Ai,AL,show nth (wN l 4) (Int.toNat (i:Int))=some (wN l 4)[i] from AU hi',AA,XB hi (by have:=Wy;omega)]
    by_cases hg:(wN l 4)[i] > 5000
    ·right
     rw [hst,AB hg,AL,AX]
     rintro ⟨_,_,hn⟩
     exact hn (by rw [show (5001:Int)=(wN l 4)[i] by omega];exact Ae hi')
    ·left
     refine ⟨(),?_,by rw [hst,AF hg];rfl⟩
     rw [Ah hi']
     intro hmm
     rcases List.mem_append.1 hmm with hmm | hmm
     ·exact hm hmm
     ·have:=List.mem_singleton.1 hmm
      omega
  ·intro self s i hi hb
   have hst:lY big self (l,(i:Int))=bif !(dO l[i] i l.length) then some 8 else self (l,((i+1:Nat):Int)):=by
    show jP _ self _=_
    unfold jP
    dsimp only
    rw [AB (by omega),AL,QLr hi (hf _ (Ae hi)),AA,XB hi (by have:=Wy;omega)]
   cases hbi:dO l[i] (i:Int) (l.length:Int) with
   | false=>
    right
    rw [hst,hbi,A8,AL,AX fun hv=>by rw [hv.2.1 i hi] at hbi;cases hbi]
   | true=>
    left
    refine ⟨(),fun j hj hji=>?_,by rw [hst,hbi];rfl⟩
    by_cases e:j=i
    ·subst e;exact hbi
    ·exact hb j hj (by omega)
 ·rw [AB (by omega),AL,AX fun hv=>h hv.1]
theorem QJj (l:List cK):∃ b,yY l=some b/\(b=false->l.length<=40/\∀ t∈l,t.2.2.2.1.length<=20):=by
 show ∃ b,uW (Gb (lZ big) big) l=some b/\_
 unfold uW
 by_cases h:l.length<=40
 ·rw [AF (by omega),AJ]
  refine Qi (g:=lZ big) (n:=l.length) (fun (_:Unit) (i:Nat)=>(l,(i:Int))) (fun i _=>∀ t∈l.take i,t.2.2.2.1.length<=20) (fun r=>∃ b,r=some b/\(b=false->l.length<=40/\∀ t∈l,t.2.2.2.1.length<=20)) ?_ ?_
   l.length 0 big (by simp) (by unfold big;omega) () (by simp)
  ·intro self s hb
   rw [List.take_length] at hb
   refine ⟨false,?_,fun _=>⟨h,hb⟩⟩
   show eB _ self _=_
   unfold eB
   dsimp only
   rw [AF (by omega),AJ]
  ·intro self s i hi hb
   by_cases hg:(l[i]).2.2.2.1.length<=20
   ·have inner:Gb (fq big self) big (l,(i:Int),0)=self (l,((i+1:Nat):Int))∨Gb (fq big self) big (l,(i:Int),0)=some true:=by
     refine Qi (g:=fq big self) (n:=(l[i]).2.2.2.1.length) (fun (_:Unit) (k:Nat)=>(l,(i:Int),(k:Int))) (fun _ _=>True) (fun r=>r=self (l,((i+1:Nat):Int))∨r=some true) ?_ ?_
      (l[i]).2.2.2.1.length 0 big (by simp) (by unfold big;omega) () trivial
     ·intro aH s _
      left
      show mF self aH _=_
      unfold mF
      dsimp only
      rw [YI hi,AA,AF (by omega),AJ,XB hi (by have:=Wy;omega)]
     ·intro aH s k hk _
      have hst:fq big self aH (l,(i:Int),(k:Int))=bif decide ((((l[i]).2.2.2.1[k]).1.length:Int) > 100) then some true else aH (l,(i:Int),((k+1:Nat):Int)):=by
       show mF self aH _=_
       unfold mF
       dsimp only
       rw [YI hi,AA,AB (by omega),AL,AA,YI hk,AA,XB hk (by have:=Wy;omega)]
      rw [hst]
      cases decide ((((l[i]).2.2.2.1[k]).1.length:Int) > 100) with
      | true=>right;right;rfl
      | false=>left;exact ⟨(),trivial,rfl⟩
    have hst:lZ big self (l,(i:Int))=Gb (fq big self) big (l,(i:Int),0):=by
     show eB _ self _=_
     unfold eB
     dsimp only
     rw [AB (by omega),AL,YI hi,AA,AF (by omega),AJ]
    rcases inner with e | e
    ·left
     refine ⟨(),?_,hst.trans e⟩
     rw [Ah hi]
     intro t ht
     rcases List.mem_append.1 ht with ht | ht
     ·exact hb t ht
     ·rw [List.mem_singleton.1 ht];exact hg
    ·right
     exact ⟨true,hst.trans e,fun h=>by cases h⟩
   ·right
    refine ⟨true,?_,fun h=>by cases h⟩
    show eB _ self _=_
    unfold eB
    dsimp only
    rw [AB (by omega),AL,YI hi,AA,AB (by omega),AL]
 ·refine ⟨true,?_,fun h=>by cases h⟩
  rw [AB (by omega),AL]
theorem QE7 (less:List Int):∀ (a b:List cK) (acc:List Int),xk less (a++b) acc=xk less b (xk less a acc)
 | [],_,_=>rfl
 | t::r,b,acc=>QE7 less r b _
theorem QJA (less:List Int):∀ (b:List cK) (acc:List Int),∃ s,xk less b acc=acc++s
 | [],acc=>⟨[],by simp [xk]⟩
 | t::r,acc=>by
  obtain ⟨s,h⟩:=QJA less r (acc++[cap (pF less acc t)])
  exact ⟨[cap (pF less acc t)]++s,by rw [xk,h,Ab]⟩
theorem QE4 (acc:List Int) (t:cK) (h:t.1=5):zT acc t.2.2.2.1=((bI t).map fun p=>acc.getD p.toNat 0).sum:=by
 unfold zT bI
 rw [AX (by omega),AY h,List.map_map]
 rfl
theorem QI1 {less a b:List Int} {t:cK} (h:∀ p∈bI t,a.getD p.toNat 0=b.getD p.toNat 0):pF less a t=pF less b t:=by
 unfold pF
 split
 ·rfl
 split
 ·rfl
 split
 ·rename_i h6
  rw [h t.2.1 (by unfold bI;rw [AY h6];simp)]
 split
 ·rename_i h5
  rw [QE4 _ _ h5,QE4 _ _ h5]
  congr 2
  exact List.map_congr_left h
 ·rfl
theorem QWB {l:List cK} (hb:Built l) (n:Nat) {i:Nat} (hi:i < l.length):(wN l (n+1)).getD i 0=cap (pF (wN l n) (wN l (n+1)) l[i]):=by
 have hpre:∃ s,wN l (n+1)=xk (wN l n) (l.take (i+1)) []++s:=by
  have:wN l (n+1)=xk (wN l n) (l.drop (i+1)) (xk (wN l n) (l.take (i+1)) []):=by
   show xk (wN l n) l []=_
   rw [← QE7,List.take_append_drop]
  rw [this]
  exact QJA _ _ _
 obtain ⟨s,hs⟩:=hpre
 rw [Ah hi,QA5] at hs
 have hl:(xk (wN l n) (l.take i) []).length=i:=by rw [QBk];simp;omega
 have h1:(wN l (n+1)).getD i 0=cap (pF (wN l n) (xk (wN l n) (l.take i) []) l[i]):=by
  rw [hs,Ab,Ad,Ao (by omega),hl,Nat.sub_self]
  rfl
 rw [h1]
 congr 1
 apply QI1
 intro p hp
 have:=QDx hb hi p hp
 rw [hs,Ab,QDb this.1 (by omega)]
theorem QES {k n:Nat} (hk:Nat.ble 1 k=true) (h:n<=10000):(Nat.ble 1 k&&Nat.ble n lim)=true:=by
 rw [AP]
 exact ⟨hk,Nat.ble_eq_true_of_le (by have:=QLi;omega)⟩
theorem QLq (l:List cK) (hl:l.length<=1000) (hf:∀ t∈l,t.2.2.2.1.length<=1000):ze l=some l:=by
 show wV (Gb (rY big) big) l=_
 unfold wV
 refine Qi (g:=rY big) (n:=l.length) (fun (r:List cK) (i:Nat)=>(l,(i:Int),r)) (fun i r=>r=l.take i) (fun q=>q=some l) ?_ ?_
  l.length 0 big (by simp) (by unfold big;omega) _ (by simp)
 ·rintro self r rfl
  rw [List.take_length]
  show oC self _=_
  unfold oC
  dsimp only
  rw [AF (by omega),AJ]
 ·rintro self r i hi rfl
  left
  refine ⟨_,rfl,?_⟩
  have h1:=hf _ (Ae hi)
  have hle:(l.take i).length<=1000:=by simp;omega
  show oC self _=_
  unfold oC
  dsimp only
  rw [AB (by omega),AL,YI hi,AA,AA]
  rw [QES rfl (by simp;omega),AL,QES rfl (by simp only [List.length_singleton];omega),AL,XB hi (by have:=Wy;omega),Ah hi]
  rfl
abbrev Ext:=Int×(Int×Unit)
def AV (a:Int):Prop:=a=1∨a=8
def upS (n a:Int):Int:=if a=1 then n else (n+7) / 8 * 8
theorem QE6 {n a:Int} (h:AV a):n<=upS n a/\upS n a<=n+7/\a ∣ upS n a:=by
 unfold upS
 rcases h with rfl | rfl
 ·rw [AY rfl];exact ⟨by omega,by omega,Int.one_dvd n⟩
 ·rw [AX (by decide)];exact ⟨by omega,by omega,Int.dvd_mul_left _ _⟩
theorem QJ7 {n a:Int} (ha:AV a) (h0:0<=n) (h1:n<=1000000000000):(bif (a==0) then none else some (IntKind.i64.wrap (IntKind.i64.wrap ((IntKind.i64.wrap (IntKind.i64.wrap (n+a) - 1)).tdiv a) * a)))=some (upS n a):=by
 unfold upS
 rcases ha with rfl | rfl
 ·rw [show ((1:Int)==0)=false from rfl,AJ,AY rfl,wrap_i64 (n:=n+1) (by omega) (by omega),wrap_i64 (n:=n+1 - 1) (by omega) (by omega),Int.tdiv_one,wrap_i64 (n:=n+1 - 1) (by omega) (by omega),Int.mul_one,wrap_i64 (n:=n+1 - 1) (by omega) (by omega)]
  congr 1
  omega
 ·rw [show ((8:Int)==0)=false from rfl,AJ,AX (by decide),wrap_i64 (n:=n+8) (by omega) (by omega),wrap_i64 (n:=n+8 - 1) (by omega) (by omega),Int.tdiv_eq_ediv_of_nonneg (by omega),wrap_i64 (n:=(n+8 - 1) / 8) (by omega) (by omega),wrap_i64 (n:=(n+8 - 1) / 8 * 8) (by omega) (by omega)]
  congr 1
  omega
theorem zx {n a:Int} (ha:AV a) (h0:0<=n) (h1:n<=1000000000000):fP (n,a)=some (upS n a):=by
 show rF (n,a)=_
 unfold rF
 exact QJ7 ha h0 h1
theorem QLx {n a:Int} (ha:AV a) (h0:0<=n) (h1:n<=1000000000000):yC (n,a)=some (upS n a):=by
 show QC8 (n,a)=_
 unfold QC8
 exact QJ7 ha h0 h1
def ext (all:List Ext) (i:Int):Ext:=all.getD i.toNat (1,(1,()))
abbrev sz (all:List Ext) (i:Int):Int:=(ext all i).1
abbrev al (all:List Ext) (i:Int):Int:=(ext all i).2.1
theorem QDf {a:List Ext} {e:Int} (h0:0<=e) (h:e < (a.length:Int)):Nk a e=some (ext a e):=by
 obtain ⟨k,rfl⟩:=BK h0
 have hk:k < a.length:=by omega
 rw [YI hk]
 simp [hk,ext]
theorem QJ0 {a:List Ext} {e:Int} (h0:0<=e) (h:e < (a.length:Int)):nth a (Int.toNat e)=some (ext a e):=by
 obtain ⟨k,rfl⟩:=BK h0
 have hk:k < a.length:=by omega
 show a[k]? = _
 simp [hk,ext]
theorem QIm {a b:List Ext} {e:Int} (h0:0<=e) (h:e < (a.length:Int)):ext (a++b) e=ext a e:=by
 unfold ext
 rw [Ad,Ad,Am (by omega)]
def qg (all:List Ext) (s:List Int×(Int×Int)) (f:sS):List Int×(Int×Int):=(s.1++[upS s.2.1 (al all f.2.1)],(upS s.2.1 (al all f.2.1)+sz all f.2.1,max s.2.2 (al all f.2.1)))
def dK (all:List Ext) (fs:List sS):List Int×(Int×Int):=fs.foldl (qg all) ([],(0,1))
theorem QJx (all:List Ext) (fs:List sS) (f:sS):dK all (fs++[f])=qg all (dK all fs) f:=by simp [dK]
theorem QCD (all:List Ext) {fs:List sS} {k:Nat} (h:k < fs.length):dK all (fs.take (k+1))=qg all (dK all (fs.take k)) fs[k]:=by rw [Ah h,QJx]
theorem QHx {a b:List Ext}:∀ (fs:List sS),(∀ f∈fs,ext a f.2.1=ext b f.2.1)->dK a fs=dK b fs:=by
 intro fs h
 unfold dK
 generalize (([],(0,1)):List Int×(Int×Int))=s
 induction fs generalizing s with
 | nil=>rfl
 | cons f r ih=>
  rw [List.foldl_cons,List.foldl_cons]
  have:qg a s f=qg b s f:=by unfold qg al sz;rw [h f (by simp)]
  rw [this]
  exact ih (fun g hg=>h g (by simp [hg])) _
theorem QH6 (all:List Ext) (fs:List sS):(dK all fs).1.length=fs.length:=by
 have:∀ (fs:List sS) (s:List Int×(Int×Int)),(fs.foldl (qg all) s).1.length=s.1.length+fs.length:=by
  intro fs
  induction fs with
  | nil=>intro s;rfl
  | cons f r ih=>intro s;rw [List.foldl_cons,ih];simp [qg];omega
 unfold dK
 rw [this]
 simp
def Fits (all:List Ext) (g:Int->Int) (fs:List sS):Prop:=∀ f∈fs,1<=sz all f.2.1/\sz all f.2.1+7<=g f.2.1/\AV (al all f.2.1)
def QAR (g:Int->Int) (fs:List sS):Int:=(fs.map fun f=>g f.2.1).sum
theorem QJt (g:Int->Int) (fs:List sS) (f:sS):QAR g (fs++[f])=QAR g fs+g f.2.1:=by simp [QAR]
theorem QAu {all:List Ext} {g:Int->Int} {fs:List sS} (h:Fits all g fs):∀ k,k<=fs.length->0<=(dK all (fs.take k)).2.1/\(dK all (fs.take k)).2.1<=QAR g (fs.take k)/\AV (dK all (fs.take k)).2.2/\(0 < k->1<=(dK all (fs.take k)).2.1)
 | 0,_=>by simp [dK,QAR,AV]
 | k+1,hk=>by
  have ih:=QAu h k (by omega)
  have hf:=h _ (Ae (show k < fs.length by omega))
  rw [QCD all (by omega),Ah (by omega),QJt]
  have hu:=QE6 (n:=(dK all (fs.take k)).2.1) hf.2.2
  unfold qg
  dsimp only
  refine ⟨by omega,by omega,?_,by omega⟩
  have h1:=ih.2.2.1
  have h2:=hf.2.2
  unfold AV at h1 h2 ⊢
  omega
theorem QCC {g:Int->Int}:∀ (fs:List sS) (k:Nat),(∀ f∈fs,0<=g f.2.1)->QAR g (fs.take k)<=QAR g fs
 | [],k,_=>by simp [QAR]
 | f::r,0,h=>by
  have h1:=QCC r 0 fun x hx=>h x (by simp [hx])
  have h2:=h f (by simp)
  simp only [QAR,List.take_zero,List.map_nil,List.sum_nil,List.map_cons,List.sum_cons] at h1 ⊢
  omega
 | f::r,k+1,h=>by
  have h1:=QCC r k fun x hx=>h x (by simp [hx])
  simp only [QAR,List.take_succ_cons,List.map_cons,List.sum_cons] at h1 ⊢
  omega
theorem QLT {all:List Ext} {g:Int->Int} {fs:List sS} (h:Fits all g fs):∀ f∈fs,0<=g f.2.1:=fun f hf=>by have:=h f hf;omega
theorem QAM {all:List Ext} {g:Int->Int} {fs:List sS} (h:Fits all g fs) (hs:QAR g fs<=900000) {k:Nat} (hk:k<=fs.length):0<=(dK all (fs.take k)).2.1/\(dK all (fs.take k)).2.1<=900000/\AV (dK all (fs.take k)).2.2:=by
 have h1:=QAu h k hk
 have h2:=QCC fs k (QLT h)
 exact ⟨h1.1,by omega,h1.2.2.1⟩
theorem QH7 {all:List Ext} {g:Int->Int} {fs:List sS} (hf:Fits all g fs) (hs:QAR g fs<=900000) (hi:∀ f∈fs,0<=f.2.1/\f.2.1 < all.length) (hl:fs.length<=1000) :
  iq (all,fs)=some ((dK all fs).1,(upS (dK all fs).2.1 (dK all fs).2.2,((dK all fs).2.2,()))):=by
 show nI _ (Gb (jd _ big) big) (all,fs)=_
 unfold nI
 dsimp only
 rw [AB (by omega),AB (by omega),AB (by omega)]
 simp only [Bool.and_true,AL,Aj]
 refine Qi (g:=jd (fun _=>List.replicate) big) (n:=fs.length) (fun (s:List Int×(Int×Int)) (i:Nat)=>(all,fs,(fs.length:Int),(i:Int),((0:Int),((0:Int),())),s.1,(s.2.1,(s.2.2,())))) (fun i s=>s=((dK all (fs.take i)).1++List.replicate (fs.length - i) 0,(dK all (fs.take i)).2)) (fun r=>r=some ((dK all fs).1,(upS (dK all fs).2.1 (dK all fs).2.2,((dK all fs).2.2,())))) ?_ ?_
  fs.length 0 big (by simp) (by unfold big;omega) (List.replicate fs.length 0,(0,1)) (by simp [dK])
 ·rintro self s rfl
  have hb:=QAM hf hs (Nat.le_refl _)
  rw [List.take_length] at hb ⊢
  show gF _ self _=_
  unfold gF
  dsimp only
  rw [AF (by omega),AJ,zx hb.2.2 hb.1 (by omega),AA]
  simp
 ·rintro self s i hlt rfl
  left
  refine ⟨_,rfl,?_⟩
  have hb:=QAM hf hs (Nat.le_of_lt hlt)
  have hfi:=hf _ (Ae hlt)
  have hix:=hi _ (Ae hlt)
  have hu:=QE6 (n:=(dK all (fs.take i)).2.1) hfi.2.2
  have hb1:=QAM hf hs (show i+1<=fs.length by omega)
  have hlen:=QH6 all (fs.take i)
  rw [BJ,Nat.min_eq_left (by omega)] at hlen
  rw [QCD all hlt] at hb1 ⊢
  unfold qg at hb1 ⊢
  dsimp only at hb1 ⊢
  generalize dK all (fs.take i)=T at *
  have hset:∀ v:Int,(T.1++List.replicate (fs.length - i) 0).set i v=T.1++[v]++List.replicate (fs.length - (i+1)) 0:=by
   intro v
   rw [show fs.length - i=(fs.length - (i+1))+1 by omega,List.replicate_succ,List.set_append_right _ _ (by omega),hlen,Nat.sub_self,List.set_cons_zero,Ab]
   rfl
  have hsl:(T.1++List.replicate (fs.length - i) (0:Int)).length=fs.length:=by simp [hlen];omega
  have hsl2:∀ v:Int,(T.1++[v]++List.replicate (fs.length - (i+1)) (0:Int)).length=fs.length:=by intro v;simp [hlen];omega
  have QYu:∀ v:Int,nth (T.1++[v]++List.replicate (fs.length - (i+1)) (0:Int)) i=some v:=by
   intro v
   show (T.1++[v]++List.replicate (fs.length - (i+1)) (0:Int))[i]? = some v
   rw [Ab,Ao (by omega),hlen,Nat.sub_self]
   rfl
  show gF _ self _=_
  unfold gF
  dsimp only
  have d1:decide ((i:Int) < (fs.length:Int))=true:=AB (by omega)
  have d2:decide (0<=(i:Int))=true:=AB (by omega)
  simp only [d1,d2,AL,YI hlt,AA,QDf hix.1 hix.2,zx hfi.2.2 hb.1 (by omega),hsl,Aj,hset,hsl2,Bool.and_self,QYu]
  rw [XB hlt (by have:=Wy;omega),wrap_i64 (n:=upS T.2.1 (al all fs[i].2.1)+sz all fs[i].2.1) (by omega) (by omega),QLl]
def fE (acc:List Ext) (t:cK):Ext:=
 if t.1=2∨t.1=4 then (8,(8,()))
 else if t.1=3 then (16,(8,()))
 else if t.1=7 then (24,(8,()))
 else if t.1=6 then (t.2.2.1 * sz acc t.2.1,(al acc t.2.1,()))
 else if t.1=5 then (upS (dK acc t.2.2.2.1).2.1 (dK acc t.2.2.2.1).2.2,((dK acc t.2.2.2.1).2.2,()))
 else (1,(1,()))
def fQ:List cK->List Ext->List Ext
 | [],acc=>acc
 | t::r,acc=>fQ r (acc++[fE acc t])
theorem yE:∀ (l:List cK) (t:cK) (acc:List Ext),fQ (l++[t]) acc=fQ l acc++[fE (fQ l acc) t]
 | [],t,acc=>rfl
 | u::r,t,acc=>yE r t _
theorem QDX:∀ (l:List cK) (acc:List Ext),(fQ l acc).length=acc.length+l.length
 | [],acc=>rfl
 | u::r,acc=>by rw [fQ,QDX];simp;omega
theorem QCI:∀ (a b:List cK) (acc:List Ext),fQ (a++b) acc=fQ b (fQ a acc)
 | [],_,_=>rfl
 | t::r,b,acc=>QCI r b _
theorem QGZ:∀ (b:List cK) (acc:List Ext),∃ s,fQ b acc=acc++s
 | [],acc=>⟨[],by simp [fQ]⟩
 | t::r,acc=>by
  obtain ⟨s,h⟩:=QGZ r (acc++[fE acc t])
  exact ⟨[fE acc t]++s,by rw [fQ,h,Ab]⟩
def exS (l:List cK):List Ext:=fQ l []
theorem yt (l:List cK):(exS l).length=l.length:=by unfold exS;rw [QDX];simp
theorem QB3 {l:List cK} {i:Nat} (hi:i<=l.length):(fQ (l.take i) []).length=i:=by rw [QDX];simp;omega
theorem QIl (l:List cK) (i:Nat):∃ s,exS l=fQ (l.take i) []++s:=by
 have:exS l=fQ (l.drop i) (fQ (l.take i) []):=by
  unfold exS
  rw [← QCI,List.take_append_drop]
 rw [this]
 exact QGZ _ _
theorem QGb {l:List cK} {i:Nat} (hi:i<=l.length) {p:Int} (h0:0<=p) (h1:p < i):ext (fQ (l.take i) []) p=ext (exS l) p:=by
 obtain ⟨s,hs⟩:=QIl l i
 rw [hs,QIm h0 (by rw [QB3 hi];exact h1)]
theorem QF8 {a b:List Ext} {t:cK} (h:∀ p∈bI t,ext a p=ext b p):fE a t=fE b t:=by
 unfold fE
 split
 ·rfl
 split
 ·rfl
 split
 ·rfl
 split
 ·rename_i h6
  have e:=h t.2.1 (by unfold bI;rw [AY h6];simp)
  unfold sz al
  rw [e]
 split
 ·rename_i h6 h5
  have e:dK a t.2.2.2.1=dK b t.2.2.2.1:=QHx _ fun f hf=>h f.2.1 (by unfold bI;rw [AX h6,AY h5];exact List.mem_map.2 ⟨f,hf,rfl⟩)
  rw [e]
 ·rfl
theorem QRC {l:List cK} (hb:Built l) {i:Int} {t:cK} (ht:Nk l i=some t):ext (exS l) i=fE (exS l) t:=by
 obtain ⟨h0,h1,hx,rfl⟩:=Gx ht
 obtain ⟨s,hs⟩:=QIl l (i.toNat+1)
 rw [Ah hx,yE] at hs
 have hl:=QB3 (l:=l) (i:=i.toNat) (by omega)
 have e1:ext (exS l) i=fE (fQ (l.take i.toNat) []) l[i.toNat]:=by
  rw [hs,ext]
  rw [Ab,Ad,Ao (by omega),hl,Nat.sub_self]
  rfl
 rw [e1]
 exact QF8 fun p hp=>by
  have:=QDx hb hx p hp
  exact QGb (by omega) this.1 this.2
def wS (l:List cK) (i:Int):Int:=(wN l 4).getD i.toNat 0
theorem QNx {l:List cK} (hv:Valid l) {j:Nat} (hj:j < l.length):wS l j=pF (wN l 3) (wN l 4) l[j]/\wS l j<=5000:=by
 have h:=QWB hv.2.1 3 hj
 have hlen:=(QBm hv.2.1 4).2
 have hne:wS l j≠5001:=by
  intro e
  apply hv.2.2
  rw [← e]
  unfold wS
  rw [Aj,Ad,AU (by omega)]
  exact Ae _
 have e:wS l j=cap (pF (wN l 3) (wN l 4) l[j]):=by unfold wS;rw [Aj];exact h
 rw [e] at hne ⊢
 unfold cap at hne ⊢
 split at hne
 ·exact absurd rfl hne
 ·rename_i h1
  rw [AX h1]
  omega
def PE (w:Int) (x:Ext):Prop:=1<=x.1/\x.1+7<=32 * w/\AV x.2.1/\x.2.1 ∣ x.1
theorem QH2 (l:List cK) (fs:List sS):QAR (fun p=>32 * wS l p) fs=32 * zT (wN l 4) fs:=by
 induction fs with
 | nil=>rfl
 | cons f r ih=>
  simp only [QAR,zT,List.map_cons,List.sum_cons] at ih ⊢
  rw [ih,Int.mul_add]
  rfl
theorem QRS {l:List cK} (hv:Valid l) {j:Nat} (hj:j < l.length):1<=wS l j:=by
 rw [(QNx hv hj).1]
 have h3:=(QBm hv.2.1 3).1
 have h4:=(QBm hv.2.1 4).1
 have hbt:=hv.2.1 j hj
 generalize l[j]=t at *
 have h5:=h3.getD t.2.1.toNat
 have h6:=h4.getD t.2.1.toNat
 unfold pF
 split
 ·omega
 split
 ·omega
 split
 ·rename_i hk
  have h7:=qp hbt hk
  have:=QIz h7.2.2.1 h7.2.2.2 h6.1 h6.2
  omega
 split
 ·have:=zD h4 t.2.2.2.1
  omega
 ·omega
theorem QF7 {l:List cK} (hv:Valid l):∀ i,i<=l.length->∀ j:Nat,j < i->PE (wS l j) (ext (fQ (l.take i) []) j)
 | 0,_,j,hj=>by omega
 | i+1,hi,j,hj=>by
  have ih:=QF7 hv i (by omega)
  have hl:=QB3 (l:=l) (i:=i) (by omega)
  rw [Ah (by omega),yE]
  by_cases hji:j < i
  ·rw [QIm (by omega) (by omega)]
   exact ih j hji
  ·have:j=i:=by omega
   subst this
   have e1:ext (fQ (l.take j) []++[fE (fQ (l.take j) []) l[j]]) j=fE (fQ (l.take j) []) l[j]:=by
    unfold ext
    rw [Aj,Ad,Ao (by omega),hl,Nat.sub_self]
    rfl
   rw [e1]
   have hjl:j < l.length:=hi
   have hw:=(QNx hv hjl).1
   have hp:=QRS hv hjl
   have hbt:=hv.2.1 j hjl
   have hih:∀ p:Int,0<=p->p < j->PE (wS l p) (ext (fQ (l.take j) []) p):=by
    intro p h0 h1
    have:=ih p.toNat (by omega)
    rwa [Int.toNat_of_nonneg h0] at this
   clear e1 ih hl
   generalize fQ (l.take j) []=acc at *
   generalize l[j]=t at *
   unfold fE
   split
   ·exact ⟨by decide,by show (8:Int)+7<=_;omega,.inr rfl,⟨1,rfl⟩⟩
   rename_i h24
   split
   ·exact ⟨by decide,by show (16:Int)+7<=_;omega,.inr rfl,⟨2,rfl⟩⟩
   split
   ·exact ⟨by decide,by show (24:Int)+7<=_;omega,.inr rfl,⟨3,rfl⟩⟩
   rename_i h7
   split
   ·rename_i h6
    have hx:=qp hbt h6
    obtain ⟨g1,g2,g3,g4⟩:=hih t.2.1 hx.1 hx.2.1
    unfold pF at hw
    rw [AX (by omega),AX h7,AY h6] at hw
    have hw:wS l j=1+t.2.2.1 * wS l t.2.1:=hw
    have m1:=Int.mul_le_mul_of_nonneg_left g2 (show 0<=t.2.2.1 by omega)
    rw [Int.mul_add,Int.mul_left_comm] at m1
    have m2:=Int.mul_le_mul hx.2.2.1 g1 (by omega) (by omega)
    refine ⟨?_,?_,g3,Int.dvd_mul_of_dvd_right g4⟩
    ·show 1<=t.2.2.1 * (ext acc t.2.1).1
     omega
    ·show t.2.2.1 * (ext acc t.2.1).1+7<=_
     omega
   rename_i h6
   split
   ·rename_i h5
    have hx:=oz hbt h5
    have hfits:Fits acc (fun p=>32 * wS l p) t.2.2.2.1:=by
     intro f hf
     have:=hx.2 f hf
     obtain ⟨g1,g2,g3,g4⟩:=hih f.2.1 this.1 this.2
     exact ⟨g1,g2,g3⟩
    have hb:=QAu hfits _ (Nat.le_refl _)
    rw [List.take_length,QH2] at hb
    unfold pF at hw
    rw [AX (by omega),AX h7,AX h6,AY h5] at hw
    have hu:=QE6 (n:=(dK acc t.2.2.2.1).2.1) hb.2.2.1
    refine ⟨?_,?_,hb.2.2.1,hu.2.2⟩
    ·have:=hb.2.2.2 (by omega)
     show 1<=upS _ _
     omega
    ·show upS _ _+7<=_
     omega
   ·exact ⟨by decide,by show (1:Int)+7<=_;omega,.inl rfl,⟨1,rfl⟩⟩
theorem QLR {l:List cK} (hv:Valid l) {i:Int} (h0:0<=i) (h1:i < l.length):PE (wS l i) (ext (exS l) i):=by
 have:=QF7 hv l.length (Nat.le_refl _) i.toNat (by omega)
 rw [List.take_length,Int.toNat_of_nonneg h0] at this
 exact this
theorem QHW {l:List cK} (hv:Valid l) {i:Int} (h0:0<=i) (h1:i < l.length):1<=sz (exS l) i/\sz (exS l) i<=160000/\AV (al (exS l) i)/\al (exS l) i ∣ sz (exS l) i:=by
 obtain ⟨g1,g2,g3,g4⟩:=QLR hv h0 h1
 have:=(QNx hv (show i.toNat < l.length by omega)).2
 rw [Int.toNat_of_nonneg h0] at this
 exact ⟨g1,by show (ext (exS l) i).1<=_;omega,g3,g4⟩
theorem QH1 {l:List cK} (hv:Valid l) {i:Nat} (hi:i < l.length) (h5:(l[i]).1=5):Fits (fQ (l.take i) []) (fun p=>32 * wS l p) (l[i]).2.2.2.1/\QAR (fun p=>32 * wS l p) (l[i]).2.2.2.1<=900000:=by
 have hx:=oz (hv.2.1 i hi) h5
 constructor
 ·intro f hf
  have:=hx.2 f hf
  obtain ⟨g1,g2,g3,g4⟩:=QF7 hv i (by omega) f.2.1.toNat (by omega)
  rw [Int.toNat_of_nonneg this.1] at g1 g2 g3 g4
  exact ⟨g1,g2,g3⟩
 ·have hw:=QNx hv hi
  unfold pF at hw
  rw [AX (by omega),AX (by omega),AX (by omega),AY h5] at hw
  rw [QH2]
  omega
theorem QGc {acc:List Ext} {t:cK} (h6:t.1=6->0<=t.2.1/\t.2.1 < acc.length/\0<=t.2.2.1 * sz acc t.2.1/\t.2.2.1 * sz acc t.2.1<=900000)
  (h5:t.1=5->iq (acc,t.2.2.2.1)=some ((dK acc t.2.2.2.1).1,(upS (dK acc t.2.2.2.1).2.1 (dK acc t.2.2.2.1).2.2,((dK acc t.2.2.2.1).2.2,())))):mV (t,acc)=some (fE acc t):=by
 show rD _=_
 unfold rD fE
 dsimp only
 by_cases k2:t.1=2
 ·rw [AY (.inl k2),k2];rfl
 rw [show (t.1==2)=false from AF k2,AJ]
 by_cases k4:t.1=4
 ·rw [AY (.inr k4),k4];rfl
 rw [AX (by omega),show (t.1==4)=false from AF k4,AJ]
 by_cases k3:t.1=3
 ·rw [AY k3,k3];rfl
 rw [AX k3,show (t.1==3)=false from AF k3,AJ]
 by_cases k7:t.1=7
 ·rw [AY k7,k7];rfl
 rw [AX k7,show (t.1==7)=false from AF k7,AJ]
 by_cases k6:t.1=6
 ·have h:=h6 k6
  rw [AY k6,show (t.1==6)=true from AB k6,AL,QDf h.1 h.2.1,AA,wrap_i64 (n:=t.2.2.1 * sz acc t.2.1) (by have:=h.2.2;omega) (by have:=h.2.2;omega)]
 rw [AX k6,show (t.1==6)=false from AF k6,AJ]
 by_cases k5:t.1=5
 ·rw [AY k5,show (t.1==5)=true from AB k5,AL,h5 k5,AA]
 ·rw [AX k5,show (t.1==5)=false from AF k5,AJ]
theorem QER {l:List cK} (hv:Valid l) {i:Nat} (hi:i < l.length) (h6:(l[i]).1=6):(0<=(l[i]).2.1/\(l[i]).2.1 < i)/\0<=(l[i]).2.2.1 * sz (fQ (l.take i) []) (l[i]).2.1/\(l[i]).2.2.1 * sz (fQ (l.take i) []) (l[i]).2.1<=900000:=by
 have hx:=qp (hv.2.1 i hi) h6
 have ht:Nk l (i:Int)=some l[i]:=YI hi
 have e:=QRC hv.2.1 ht
 have ho:=QHW hv (i:=(i:Int)) (by omega) (by omega)
 unfold sz at ho ⊢
 rw [QGb (by omega) hx.1 hx.2.1]
 rw [e] at ho
 unfold fE at ho
 rw [AX (by omega),AX (by omega),AX (by omega),AY h6] at ho
 have h1:1<=(l[i]).2.2.1 * (ext (exS l) (l[i]).2.1).1:=ho.1
 have h2:(l[i]).2.2.1 * (ext (exS l) (l[i]).2.1).1<=160000:=ho.2.1
 exact ⟨⟨hx.1,hx.2.1⟩,by omega,by omega⟩
theorem QHX {l:List cK} (hv:Valid l):su l=some (exS l):=by
 have hlen:=hv.1
 show oQ (Gb (kZ big) big) l=_
 unfold oQ
 refine Qi (g:=kZ big) (n:=l.length) (fun (r:List Ext) (i:Nat)=>(l,(l.length:Int),(i:Int),r)) (fun i r=>r=fQ (l.take i) []) (fun q=>q=some (exS l)) ?_ ?_
  l.length 0 big (by simp) (by unfold big;omega) _ (by simp [fQ])
 ·rintro self s rfl
  rw [List.take_length]
  show gy self _=_
  unfold gy
  dsimp only
  rw [AF (by omega),AJ]
  rfl
 ·rintro self s i hi rfl
  left
  refine ⟨_,rfl,?_⟩
  have hl:=QB3 (l:=l) (i:=i) (by omega)
  rw [Ah hi,yE]
  show gy self _=_
  unfold gy
  dsimp only
  rw [AB (by omega),AL,YI hi,AA,QGc (fun h6=>by have:=QER hv hi h6;exact ⟨this.1.1,by omega,this.2⟩) (fun h5=>by
   have hx:=(oz (hv.2.1 i hi) h5)
   obtain ⟨g1,g2⟩:=QH1 hv hi h5
   exact QH7 g1 g2 (fun f hf=>by have:=hx.2 f hf;omega) (by omega)),AA,QES rfl (by simp [hl];omega),AL,XB hi (by have:=Wy;omega)]
  rfl
theorem QGj (x n:Int):oH (x,n)=some (iP x n):=by
 show tQ (x,n)=_
 unfold tQ iP
 dsimp only
 by_cases h:0<=x
 ·rw [AB (show x≥0 from h)];rfl
 ·rw [AF (show ¬ x≥0 from h)];rfl
def yD (l:List cK) (i:Int):Int:=if Valid l then (if 0<=i/\i < l.length then (if sz (exS l) i<=256 then 0 else 16) else 2) else 8
theorem QF6 {l:List cK} {i:Int} (h:yD l i=0):Valid l/\0<=i/\i < l.length/\sz (exS l) i<=256:=by
 unfold yD at h
 split at h
 ·rename_i hv
  split at h
  ·rename_i hi
   split at h
   ·rename_i hs
    exact ⟨hv,hi.1,hi.2,hs⟩
   ·cases h
  ·cases h
 ·cases h
theorem QBs {l:List cK} {i:Int} (hv:Valid l) (h0:0<=i) (h1:i < l.length) (hs:sz (exS l) i<=256):yD l i=0:=by
 unfold yD;rw [AY hv,AY ⟨h0,h1⟩,AY hs]
theorem QGq (l:List cK) (i:Int):mW (l,i)=some (if yD l i=0 then exS l else [],yD l i):=by
 show rE _=_
 unfold rE
 dsimp only
 rw [xw,AA]
 by_cases hv:Valid l
 ·rw [AY hv,show ((0:Int) != 0)=false from rfl,AJ,QGj,AA]
  by_cases hi:0<=i/\i < l.length
  ·rw [vM.2 hi,Az,AJ,QHX hv,AA,AB hi.1,AB (by rw [yt];exact hi.2),Ai,AL,QJ0 hi.1 (by rw [yt];exact hi.2),AA]
   by_cases hs:sz (exS l) i<=256
   ·rw [QBs hv hi.1 hi.2 hs,AF (by show ¬ sz (exS l) i > 256;omega),AJ,AY rfl]
   ·have:yD l i=16:=by unfold yD;rw [AY hv,AY hi,AX hs]
    rw [this,AB (by show sz (exS l) i > 256;omega),AL,AX (by decide)]
  ·have hb:iP i l.length=false:=by
    rw [Bool.eq_false_iff];intro h;exact hi (vM.1 h)
   have:yD l i=2:=by unfold yD;rw [AY hv,AX hi]
   rw [hb,A8,AL,this,AX (by decide)]
 ·have:yD l i=8:=by unfold yD;rw [AX hv]
  rw [AX hv,this,AX (by decide)];rfl
theorem QIX (l:List cK) (i:Int):pX (l,i)=some (if yD l i=0 then (sz (exS l) i,(al (exS l) i,0)) else (0,(0,yD l i))):=by
 show y8 _=_
 unfold y8
 dsimp only
 rw [QGq,AA]
 by_cases h:yD l i=0
 ·obtain ⟨hv,h0,h1,hs⟩:=QF6 h
  simp only [h,if_true]
  rw [show ((0:Int) != 0)=false from rfl,AJ,AB h0,AB (by rw [yt];exact h1),Ai,AL,QJ0 h0 (by rw [yt];exact h1),AA]
  first
   | rfl
   | (rw [QDf h0 (by rw [yt];exact h1)];rfl)
 ·simp only [AX h]
  rw [show (yD l i != 0)=true by simpa using h,AL]
end Go.Proofs.YtbgmjjplddddnaaGreatDoor.K
set_option linter.unusedVariables false
set_option linter.unusedSimpArgs false
set_option maxRecDepth 100000
namespace Go.Proofs.YtbgmjjplddddnaaGreatDoor.K
open Go.Lift
abbrev Cel:=Int×(Int×Unit)
def isC (t:cK):Prop:=t.1=6∨t.1=5
instance (t:cK):Decidable (isC t):=by unfold isC;infer_instance
def fin (S:List Ext) (t:cK) (j:Nat):Int:=if t.1=6 then j * sz S t.2.1 else (dK S (t.2.2.2.1.take j)).2.1
section
variable {l:List cK} (hv:Valid l) {i:Int} {t:cK} (ht:Nk l i=some t) (hk:isC t)
include hv ht hk
end
def QCd (S:List Ext):List Cel->Int->Int->Prop
 | [],lo,hi=>lo<=hi
 | c::r,lo,hi=>lo<=c.1/\QCd S r (c.1+sz S c.2.1) hi
theorem QCd.weak {S:List Ext}:∀ {a:List Cel} {lo lo' hi hi':Int},lo'<=lo->hi<=hi'->QCd S a lo hi->QCd S a lo' hi'
 | [],lo,lo',hi,hi',h1,h2,h=>by simp only [QCd] at h ⊢;omega
 | c::r,lo,lo',hi,hi',h1,h2,h=>⟨by have:=h.1;omega,QCd.weak (Int.le_refl _) h2 h.2⟩
theorem QCd.append {S:List Ext}:∀ {a b:List Cel} {lo m hi:Int},QCd S a lo m->QCd S b m hi->QCd S (a++b) lo hi
 | [],b,lo,m,hi,h1,h2=>QCd.weak h1 (Int.le_refl _) h2
 | c::r,b,lo,m,hi,h1,h2=>⟨h1.1,QCd.append h1.2 h2⟩
def QCc {α β:Type} (R:α->β->Prop):List α->List β->Prop
 | [],[]=>True
 | a::l,b::m=>R a b/\QCc R l m
 | _,_=>False
theorem QCc.append {α β:Type} {R:α->β->Prop}:∀ {a:List α} {b:List β} {c:List α} {d:List β},QCc R a b->QCc R c d->QCc R (a++c) (b++d)
 | [],[],_,_,_,h=>h
 | x::a,y::b,c,d,h,h'=>⟨h.1,QCc.append h.2 h'⟩
 | [],_::_,_,_,h,_=>h.elim
 | _::_,[],_,_,h,_=>h.elim
theorem QCc.len {α β:Type} {R:α->β->Prop}:∀ {a:List α} {b:List β},QCc R a b->a.length=b.length
 | [],[],_=>rfl
 | x::a,y::b,h=>by rw [Af,Af,QCc.len h.2]
 | [],_::_,h=>h.elim
 | _::_,[],h=>h.elim
theorem QCc.at {α β:Type} {R:α->β->Prop}:∀ {a:List α} {b:List β},QCc R a b->∀ (j:Nat) (h1:j < a.length) (h2:j < b.length),R a[j] b[j]
 | x::a,y::b,h,0,_,_=>h.1
 | x::a,y::b,h,j+1,h1,h2=>QCc.at h.2 j (by simpa using h1) (by simpa using h2)
 | [],_,_,_,h,_=>by simp at h
 | _::_,[],h,_,_,_=>h.elim
section
variable {l:List cK} (hv:Valid l)
include hv
end
end Go.Proofs.YtbgmjjplddddnaaGreatDoor.K
set_option linter.unusedVariables false
set_option linter.unusedSimpArgs false
set_option maxRecDepth 100000
namespace Go.Proofs.YtbgmjjplddddnaaGreatDoor.K
open Go.Lift
section
variable {l:List cK} (hv:Valid l) {i:Int} {t:cK} (ht:Nk l i=some t) (hk:isC t)
include hv ht hk
end
theorem QKo (n:Int):rR n=some (if n < 0∨n > 1073741824 then (0,2) else (upS n 8,0)):=by
 show xU n=_
 unfold xU
 by_cases h1:n < 0
 ·rw [AB h1,AL,AY (.inl h1)]
 rw [AF h1,AJ]
 by_cases h2:n > 1073741824
 ·rw [AB h2,AL,AY (.inr h2)]
 rw [AF h2,AJ,AX (by omega),zx (.inr rfl) (by omega) (by omega),AA]
end Go.Proofs.YtbgmjjplddddnaaGreatDoor.K
set_option linter.unusedVariables false
set_option linter.unusedSimpArgs false
set_option maxRecDepth 100000
namespace Go.Proofs.YtbgmjjplddddnaaGreatDoor.K
open Go.Lift
abbrev szs (S:List Ext):List Int:=S.map (·.1)
abbrev als (S:List Ext):List Int:=S.map (·.2.1)
theorem QLX {S:List Ext} {e:Int} (h0:0<=e) (h:e < (S.length:Int)):Nk (szs S) e=some (sz S e):=by
 obtain ⟨k,rfl⟩:=BK h0
 have hk:k < S.length:=by omega
 rw [YI (by simpa using hk)]
 simp [hk,ext,sz,al]
theorem QLW {S:List Ext} {e:Int} (h0:0<=e) (h:e < (S.length:Int)):Nk (als S) e=some (al S e):=by
 obtain ⟨k,rfl⟩:=BK h0
 have hk:k < S.length:=by omega
 rw [YI (by simpa using hk)]
 simp [hk,ext,sz,al]
theorem QJ1 {S:List Ext} {e:Int} (h0:0<=e) (h:e < (S.length:Int)):nth (szs S) (Int.toNat e)=some (sz S e):=by
 obtain ⟨k,rfl⟩:=BK h0
 have hk:k < S.length:=by omega
 show (szs S)[k]? = _
 simp [hk,ext,sz,al]
theorem QNp {S:List Ext} {e:Int} (h0:0<=e) (h:e < (S.length:Int)):nth (als S) (Int.toNat e)=some (al S e):=by
 obtain ⟨k,rfl⟩:=BK h0
 have hk:k < S.length:=by omega
 show (als S)[k]? = _
 simp [hk,ext,sz,al]
theorem QG1 {S:List Ext} {g:Int->Int} {fs:List sS} (hf:Fits S g fs) (hs:QAR g fs<=900000) (hi:∀ f∈fs,0<=f.2.1/\f.2.1 < S.length) (hl:fs.length<=1000) :
  tC (szs S,als S,fs)=some ((dK S fs).1,(upS (dK S fs).2.1 (dK S fs).2.2,(dK S fs).2.2)):=by
 show oU (Gb (kg big) big) _=_
 unfold oU
 dsimp only
 refine Qi (g:=kg big) (n:=fs.length) (fun (s:List Int×(Int×Int)) (i:Nat)=>(szs S,als S,fs,s.2.1,s.2.2,(i:Int),s.1)) (fun i s=>s=dK S (fs.take i)) (fun r=>r=some ((dK S fs).1,(upS (dK S fs).2.1 (dK S fs).2.2,(dK S fs).2.2))) ?_ ?_
  fs.length 0 big (by simp) (by unfold big;omega) ([],(0,1)) rfl
 ·rintro self s rfl
  have hb:=QAM hf hs (Nat.le_refl _)
  rw [List.take_length] at hb ⊢
  have hu:=QE6 (n:=(dK S fs).2.1) hb.2.2
  show iD self _=_
  unfold iD
  dsimp only
  rw [AF (by omega),AJ,QLx hb.2.2 hb.1 (by omega),AA,AY (by omega)]
 ·rintro self s i hlt rfl
  left
  refine ⟨_,rfl,?_⟩
  have hb:=QAM hf hs (Nat.le_of_lt hlt)
  have hfi:=hf _ (Ae hlt)
  have hix:=hi _ (Ae hlt)
  have hu:=QE6 (n:=(dK S (fs.take i)).2.1) hfi.2.2
  have hb1:=QAM hf hs (show i+1<=fs.length by omega)
  have hlen:=QH6 S (fs.take i)
  rw [BJ,Nat.min_eq_left (by omega)] at hlen
  rw [QCD S hlt] at hb1 ⊢
  unfold qg at hb1 ⊢
  dsimp only at hb1 ⊢
  generalize dK S (fs.take i)=T at *
  show iD self _=_
  unfold iD
  dsimp only
  rw [AB (by omega),AL,YI hlt,AA,QLW hix.1 hix.2,AA,QLx hfi.2.2 hb.1 (by omega),AA,QES rfl (by rw [List.length_singleton];omega),AL,QLX hix.1 hix.2,AA,AA]
  rw [XB hlt (by have:=Wy;omega),wrap_i64 (n:=upS T.2.1 (al S fs[i].2.1)+sz S fs[i].2.1) (by omega) (by omega),AY (by omega),QLl]
  rfl
theorem QGa {acc:List Ext} {t:cK} {i n:Int} (h:dO t i n=true) :
  (t.1=1->fE acc t=(1,(1,())))/\(t.1=3->fE acc t=(16,(8,())))/\(t.1=7->fE acc t=(24,(8,())))/\(t.1=6->fE acc t=(t.2.2.1 * sz acc t.2.1,(al acc t.2.1,())))/\
  (t.1=5->fE acc t=(upS (dK acc t.2.2.2.1).2.1 (dK acc t.2.2.2.1).2.2,((dK acc t.2.2.2.1).2.2,())))/\(t.1≠1->t.1≠3->t.1≠7->t.1≠6->t.1≠5->fE acc t=(8,(8,()))):=by
 have hk:=QHQ h
 unfold fE
 refine ⟨fun e=>?_,fun e=>?_,fun e=>?_,fun e=>?_,fun e=>?_,fun e1 e2 e3 e4 e5=>?_⟩
 ·rw [AX (by omega),AX (by omega),AX (by omega),AX (by omega),AX (by omega)]
 ·rw [AX (by omega),AY e]
 ·rw [AX (by omega),AX (by omega),AY e]
 ·rw [AX (by omega),AX (by omega),AX (by omega),AY e]
 ·rw [AX (by omega),AX (by omega),AX (by omega),AX (by omega),AY e]
 ·rw [AY (by omega)]
theorem QJm {l:List cK} (hv:Valid l):yZ l=some (szs (exS l),als (exS l)):=by
 have hlen:=hv.1
 show uZ (Gb (qD big) big) l=_
 unfold uZ
 refine Qi (g:=qD big) (n:=l.length) (fun (r:List Int×List Int) (i:Nat)=>(l,(i:Int),r.1,r.2)) (fun i r=>r=(szs (fQ (l.take i) []),als (fQ (l.take i) []))) (fun q=>q=some (szs (exS l),als (exS l))) ?_ ?_
  l.length 0 big (by simp) (by unfold big;omega) ([],[]) (by simp [fQ])
 ·rintro self s rfl
  rw [List.take_length]
  show mI self _=_
  unfold mI
  dsimp only
  rw [AF (by omega),AJ]
  rfl
 ·rintro self s i hi rfl
  left
  refine ⟨_,rfl,?_⟩
  have hl:=QB3 (l:=l) (i:=i) (by omega)
  have hs1:(szs (fQ (l.take i) [])).length=i:=by rw [Aw,hl]
  have hs2:(als (fQ (l.take i) [])).length=i:=by rw [Aw,hl]
  obtain ⟨k1,k3,k7,k6,k5,k0⟩:=QGa (acc:=fQ (l.take i) []) (hv.2.1 i hi)
  have ha6:=fun h6=>QER hv hi h6
  have ha5:=fun h5=>QH1 hv hi h5
  have hx5:=fun h5=>(oz (hv.2.1 i hi) h5)
  have e0:fQ (l.take (i+1)) []=fQ (l.take i) []++[fE (fQ (l.take i) []) l[i]]:=by rw [Ah hi,yE]
  have e1:szs (fQ (l.take (i+1)) [])=szs (fQ (l.take i) [])++[(fE (fQ (l.take i) []) l[i]).1]:=by rw [e0];simp
  have e2:als (fQ (l.take (i+1)) [])=als (fQ (l.take i) [])++[(fE (fQ (l.take i) []) l[i]).2.1]:=by rw [e0];simp
  rw [e1,e2]
  clear e0 e1 e2
  have hget:=YI hi
  have hsucc:=XB hi (by have:=Wy;omega:l.length<=maxLen)
  have hb1:∀ x:Int,(Nat.ble 1 1&&Nat.ble ((szs (fQ (l.take i) [])).length+[x].length) lim)=true:=fun x=>QES rfl (by rw [List.length_singleton];omega)
  have hb2:∀ x:Int,(Nat.ble 1 1&&Nat.ble ((als (fQ (l.take i) [])).length+[x].length) lim)=true:=fun x=>QES rfl (by rw [List.length_singleton];omega)
  generalize fQ (l.take i) []=acc at *
  generalize l[i]=t at *
  show mI self _=_
  unfold mI
  dsimp only
  rw [AB (by omega),AL,hget,AA]
  simp only [hb1,hb2,AL,hsucc]
  by_cases h1:t.1=1
  ·rw [k1 h1,show (t.1==1)=true from AB h1,AL];rfl
  rw [show (t.1==1)=false from AF h1,AJ]
  by_cases h3:t.1=3
  ·rw [k3 h3,show (t.1==3)=true from AB h3,AL];rfl
  rw [show (t.1==3)=false from AF h3,AJ]
  by_cases h7:t.1=7
  ·rw [k7 h7,show (t.1==7)=true from AB h7,AL];rfl
  rw [show (t.1==7)=false from AF h7,AJ]
  by_cases h6:t.1=6
  ·have hx:=ha6 h6
   rw [k6 h6,show (t.1==6)=true from AB h6,AL,AA,AA,AB hx.1.1,AB (by omega),Ai,AL,QJ1 hx.1.1 (by omega),AA,AA,AB hx.1.1,AB (show t.2.1 < ((als acc).length:Int) by omega),Ai,AL,QNp hx.1.1 (by omega),AA,wrap_i64 (n:=t.2.2.1 * sz acc t.2.1) (by omega) (by omega),AY (by omega)]
   rfl
  rw [show (t.1==6)=false from AF h6,AJ]
  by_cases h5:t.1=5
  ·obtain ⟨g1,g2⟩:=ha5 h5
   have hx:=hx5 h5
   rw [k5 h5,show (t.1==5)=true from AB h5,AL,AA,QG1 g1 g2 (fun f hf=>by have:=hx.2 f hf;omega) (by omega),AA]
   rfl
  rw [show (t.1==5)=false from AF h5,AJ,k0 h1 h3 h7 h6 h5]
  rfl
end Go.Proofs.YtbgmjjplddddnaaGreatDoor.K
