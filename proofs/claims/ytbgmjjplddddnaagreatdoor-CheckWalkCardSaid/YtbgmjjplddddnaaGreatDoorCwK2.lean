import Derived.Test.YtbgmjjplddddnaaGreatDoorCwT1
set_option linter.unusedVariables false
set_option linter.unusedSimpArgs false
set_option linter.unusedSectionVars false
set_option maxRecDepth 100000
namespace Go.Proofs.YtbgmjjplddddnaaGreatDoor.K
open Go.Lift
abbrev tV:=List Int×(Int×Unit)
abbrev dI:=Int×(Int×(Int×(List tV×Unit)))
theorem QHC {kt vt:Ty} (x y:kt.den) (z v:vt.den):∀ m:List (kt.den×vt.den),Pw x z (MO y v m)=bif JW kt x y then (v,true) else Pw x z m
 | []=>rfl
 | p::r=>by
  simp only [MO]
  by_cases h:y=p.1
  ·subst h
   rw [XZ,AL]
   simp only [Pw]
   cases JW kt x p.1 <;> rfl
  ·rw [Ww h,AJ]
   simp only [Pw]
   rw [QHC x y z v r]
   by_cases h2:x=p.1
   ·subst h2
    rw [XZ,AL,Ww (fun e=>h e.symm),AJ,AL]
   ·rw [Ww h2,AJ,AJ]
def Marks (kt:Ty) (m:List (kt.den×Bool)) (S:kt.den->Prop):Prop:=∀ x,(@Pw kt .bool x false m).1=true↔S x
theorem Marks.nil {kt:Ty}:Marks kt [] (fun _=>False):=fun x=>by simp [Pw]
theorem Marks.put {kt:Ty} {m:List (kt.den×Bool)} {S:kt.den->Prop} (h:Marks kt m S) (y:kt.den):Marks kt (@MO kt .bool y true m) (fun x=>x=y∨S x):=by
 intro x
 rw [QHC]
 by_cases e:x=y
 ·subst e;rw [XZ];simp
 ·rw [Ww e,AJ,h x];simp [e]
def iL (x n:Int):Bool:=decide (0<=x)&&decide (x < n)
theorem wI {x n:Int}:iL x n=true↔0<=x/\x < n:=by simp [iL]
def QBh (c:Int):Bool:=(decide (97<=c)&&decide (c<=122))||(decide (65<=c)&&decide (c<=90))
def QII (c:Int):Bool:=decide (48<=c)&&decide (c<=57)
def dA (s:List Int):Bool:=match s with
 | []=>false
 | c::_=>decide (s.length<=16)&&(QBh c&&s.all fun c=>QBh c||QII c)
theorem zP (x n:Int):aU (x,n)=some (iL x n):=by
 show wV (x,n)=_
 unfold wV iL
 dsimp only
 by_cases h:0<=x
 ·rw [AB (show x≥0 from h)];rfl
 ·rw [AF (show ¬ x≥0 from h)];rfl
theorem QD5 (c:Int):kG c=some (QBh c):=by
 show uM c=_
 unfold uM QBh
 simp only [ge_iff_le]
 cases decide (97<=c) <;> cases decide (c<=122) <;> cases decide (65<=c) <;> cases decide (c<=90) <;> rfl
theorem QIN (c:Int):qD c=some (QII c):=by
 show wU c=_
 unfold wU QII
 simp only [ge_iff_le]
 cases decide (48<=c) <;> cases decide (c<=57) <;> rfl
theorem QCm {β:Type} (p:β->Bool):∀ l:List β,TP (fun x (s:Unit) k=>bif p x then k s else some false) (fun _=>some true) l ()=some (l.all p)
 | []=>rfl
 | x::r=>by
  simp only [TP,List.all_cons]
  cases p x with
  | true=>exact QCm p r
  | false=>rfl
theorem QE3 (s:List Int):qB s=some (dA s):=by
 show vF (Gb (qM big) big) s=_
 unfold vF
 cases s with
 | nil=>rfl
 | cons c r=>
  rw [Ww (by simp),AJ]
  by_cases h:(c::r).length<=16
  ·rw [AF (by omega),AJ]
   have h0:Nk (c::r) (0:Int)=some c:=rfl
   rw [h0,AA,QD5,AA]
   simp only [dA]
   rw [AB h,Ai]
   cases hc:QBh c with
   | false=>rfl
   | true=>
    rw [Az,AJ,Ai]
    have:=SY (g:=qM big) (xs:=c::r) (fun (_:Unit) (i:Nat)=>(c::r,((c::r).length:Int),(i:Int))) (fun x s k=>bif (QBh x||QII x) then k s else some false) (fun _=>some true)
     (fun self s=>by
      show mM self _=_
      unfold mM
      dsimp only
      rw [AF (by omega),AJ])
     (fun self s i hi=>by
      show mM self _=_
      unfold mM
      dsimp only
      rw [AB (by omega),AL,YI hi,AA,QD5,AA,AA,QIN,AA]
      rw [XB hi (by have:=Wy;omega)]
      cases QBh (c::r)[i] <;> cases QII (c::r)[i] <;> rfl)
     (c::r).length 0 big (by simp) (by unfold big;omega) ()
    rw [List.drop_zero,QCm] at this
    exact this
  ·rw [AB (by omega),AL]
   simp only [dA]
   rw [AF h];rfl
def QE6 (fs:List tV) (n:Int):Bool:=decide (1<=fs.length/\fs.length<=8)&&(fs.all (fun f=>dA f.1)&&(decide ((fs.map (·.1)).Nodup)&&fs.all fun f=>iL f.2.1 n))
theorem QAr (n:Int):∀ (fs:List tV) (m:List (List Int×Bool)) (S:List Int->Prop),Marks .str m S->∃ b,TP (fun (f:tV) m k=>bif dA f.1 then (bif (@Pw .str .bool f.1 false m).1 then some false else (bif iL f.2.1 n then k (@MO .str .bool f.1 true m) else some false)) else some false) (fun _=>some true) fs m=some b/\
  (b=true↔(∀ f∈fs,dA f.1=true/\iL f.2.1 n=true/\¬ S f.1)/\(fs.map (·.1)).Nodup)
 | [],m,S,_=>⟨true,rfl,by simp⟩
 | f::r,m,S,h=>by
  simp only [TP]
  cases h1:dA f.1 with
  | false=>exact ⟨false,rfl,by simp [h1]⟩
  | true=>
   rw [AL]
   cases h2:(@Pw .str .bool f.1 false m).1 with
   | true=>exact ⟨false,rfl,by simp [(h f.1).1 h2]⟩
   | false=>
    rw [AJ]
    have h2':¬ S f.1:=fun hs=>by rw [(h f.1).2 hs] at h2;cases h2
    cases h3:iL f.2.1 n with
    | false=>exact ⟨false,rfl,by simp [h3]⟩
    | true=>
     rw [AL]
     obtain ⟨b,e,hb⟩:=QAr n r _ _ (h.put f.1)
     refine ⟨b,e,hb.trans ?_⟩
     simp only [List.mem_cons,forall_eq_or_imp,List.map_cons,List.nodup_cons,List.mem_map,not_exists,not_and,not_or]
     constructor
     ·rintro ⟨g1,g2⟩
      exact ⟨⟨⟨h1,h3,h2'⟩,fun x hx=>⟨(g1 x hx).1,(g1 x hx).2.1,(g1 x hx).2.2.2⟩⟩,fun x hx e=>(g1 x hx).2.2.1 e,g2⟩
     ·rintro ⟨⟨_,g1⟩,g2,g3⟩
      exact ⟨fun x hx=>⟨(g1 x hx).1,(g1 x hx).2.1,fun e=>g2 x hx e,(g1 x hx).2.2⟩,g3⟩
theorem QH7 (fs:List tV) (n:Int):dH (fs,n)=some (QE6 fs n):=by
 show om (Gb (iD big) big) (fs,n)=_
 unfold om QE6
 dsimp only
 by_cases h1:fs.length < 1
 ·rw [AB (by omega),AL,AF (by omega)];rfl
 rw [AF (by omega),AJ]
 by_cases h2:fs.length > 8
 ·rw [AB (by omega),AL,AF (by omega)];rfl
 rw [AF (by omega),AJ]
 have:=SY (g:=iD big) (xs:=fs) (fun (m:List (List Int×Bool)) (i:Nat)=>(n,fs,(fs.length:Int),(i:Int),m)) (fun f m k=>bif dA f.1 then (bif (@Pw .str .bool f.1 false m).1 then some false else (bif iL f.2.1 n then k (@MO .str .bool f.1 true m) else some false)) else some false) (fun _=>some true)
  (fun self s=>by
   show iH self _=_
   unfold iH
   dsimp only
   rw [AF (by omega),AJ])
  (fun self s i hi=>by
   show iH self _=_
   unfold iH
   dsimp only
   rw [AB (by omega),AL,YI hi,AA,QE3,AA,zP,AA]
   rw [XB hi (by have:=Wy;omega)]
   cases dA fs[i].1 <;> cases (@Pw .str .bool fs[i].1 false s).1 <;> cases iL fs[i].2.1 n <;> rfl)
  fs.length 0 big (by simp) (by unfold big;omega) []
 obtain ⟨b,e,hb⟩:=QAr n fs [] _ Marks.nil
 rw [List.drop_zero,e] at this
 have this:Gb (iD big) big (n,fs,(fs.length:Int),0,[])=some b:=this
 rw [this,AB (by omega),Ai]
 congr 1
 rw [Bool.eq_iff_iff,hb]
 simp only [AP,AZ,List.all_eq_true,not_false_eq_true,and_true]
 exact ⟨fun h=>⟨fun f hf=>(h.1 f hf).1,h.2,fun f hf=>(h.1 f hf).2⟩,fun h=>⟨fun f hf=>⟨h.1 f hf,h.2.2 f hf⟩,h.2.1⟩⟩
def dJ (t:dI) (i n:Int):Bool:=
 if t.1=1∨t.1=2∨t.1=3 then decide (t.2.1=0)&&(decide (t.2.2.1=0)&&decide (t.2.2.2.1.length=0))
 else if t.1=4∨t.1=7 then iL t.2.1 n&&(decide (t.2.2.1=0)&&decide (t.2.2.2.1.length=0))
 else if t.1=6 then iL t.2.1 i&&(decide (1<=t.2.2.1/\t.2.2.1<=16)&&decide (t.2.2.2.1.length=0))
 else if t.1=5 then decide (t.2.1=0)&&(decide (t.2.2.1=0)&&QE6 t.2.2.2.1 i)
 else false
theorem QX4 {α:Type} (l:List α):((l.length:Int)==0)=decide (l.length=0):=by
 by_cases h:l.length=0
 ·rw [h];rfl
 ·rw [AF h];simp;intro e;exact h (by rw [e];rfl)
theorem y7 (a b:Int):(a==b)=decide (a=b):=rfl
theorem QEM (t:dI) (i n:Int):qC (t,i,n)=some (dJ t i n):=by
 show wT (t,i,n)=_
 unfold wT dJ
 simp only [zP,QH7,QX4,AA]
 obtain ⟨k,e,l,fs,u⟩:=t
 dsimp only
 simp only [y7,ge_iff_le]
 generalize QE6 fs i=A
 generalize iL e n=B
 generalize iL e i=C
 generalize decide (fs.length=0)=D
 generalize decide (e=0)=E
 generalize decide (l=0)=F
 have hG:decide (1<=l/\l<=16)=(decide (1<=l)&&decide (l<=16)):=by by_cases h:1<=l <;> by_cases h':l<=16 <;> simp [h,h']
 rw [hG]
 generalize decide (1<=l)=G
 generalize decide (l<=16)=H
 by_cases h1:k=1
 ·subst h1;simp;cases A <;> cases B <;> cases C <;> cases D <;> cases E <;> cases F <;> cases G <;> cases H <;> rfl
 by_cases h2:k=2
 ·subst h2;simp;cases A <;> cases B <;> cases C <;> cases D <;> cases E <;> cases F <;> cases G <;> cases H <;> rfl
 by_cases h3:k=3
 ·subst h3;simp;cases A <;> cases B <;> cases C <;> cases D <;> cases E <;> cases F <;> cases G <;> cases H <;> rfl
 by_cases h4:k=4
 ·subst h4;simp;cases A <;> cases B <;> cases C <;> cases D <;> cases E <;> cases F <;> cases G <;> cases H <;> rfl
 by_cases h5:k=5
 ·subst h5;simp;cases A <;> cases B <;> cases C <;> cases D <;> cases E <;> cases F <;> cases G <;> cases H <;> rfl
 by_cases h6:k=6
 ·subst h6;simp;cases A <;> cases B <;> cases C <;> cases D <;> cases E <;> cases F <;> cases G <;> cases H <;> rfl
 by_cases h7:k=7
 ·subst h7;simp;cases A <;> cases B <;> cases C <;> cases D <;> cases E <;> cases F <;> cases G <;> cases H <;> rfl
 simp [h1,h2,h3,h4,h5,h6,h7]
theorem QAY {t:dI} {i n:Int} (h:dJ t i n=true) (hk:t.1=4∨t.1=7):0<=t.2.1/\t.2.1 < n:=by
 unfold dJ at h
 rw [AX (by omega),AY hk] at h
 simp only [AP] at h
 exact wI.1 h.1
theorem rM {t:dI} {i n:Int} (h:dJ t i n=true) (hk:t.1=6):0<=t.2.1/\t.2.1 < i/\1<=t.2.2.1/\t.2.2.1<=16:=by
 unfold dJ at h
 rw [AX (by omega),AX (by omega),AY hk] at h
 simp only [AP,AZ] at h
 have:=wI.1 h.1
 exact ⟨this.1,this.2,h.2.1⟩
theorem pK {t:dI} {i n:Int} (h:dJ t i n=true) (hk:t.1=5):(1<=t.2.2.2.1.length/\t.2.2.2.1.length<=8)/\∀ f∈t.2.2.2.1,0<=f.2.1/\f.2.1 < i:=by
 unfold dJ at h
 rw [AX (by omega),AX (by omega),AX (by omega),AY hk] at h
 simp only [AP,AZ,QE6,List.all_eq_true] at h
 exact ⟨h.2.2.1,fun f hf=>wI.1 (h.2.2.2.2.2 f hf)⟩
theorem QB7 {t:dI} {i n:Int} (h:dJ t i n=true) (hk:t.1≠5):t.2.2.2.1=[]:=by
 unfold dJ at h
 have e:∀ {l:List tV},decide (l.length=0)=true->l=[]:=fun h=>Aq (of_decide_eq_true h)
 split at h
 ·simp only [AP] at h;exact e h.2.2
 split at h
 ·simp only [AP] at h;exact e h.2.2
 split at h
 ·simp only [AP] at h;exact e h.2.2
 ·simp [hk] at h
theorem QID {t:dI} {i n:Int} (h:dJ t i n=true):1<=t.1/\t.1<=7:=by
 unfold dJ at h
 split at h
 ·omega
 split at h
 ·omega
 split at h
 ·omega
 split at h
 ·omega
 ·cases h
def bK (t:dI):List Int:=if t.1=6 then [t.2.1] else if t.1=5 then t.2.2.2.1.map (·.2.1) else []
def QQW (t:dI):List Int:=if t.1=4∨t.1=7 then [t.2.1] else bK t
def cap (w:Int):Int:=if 5001 < w then 5001 else w
def QA3 (acc:List Int) (fs:List tV):Int:=(fs.map fun f=>acc.getD f.2.1.toNat 0).sum
def pV (less acc:List Int) (t:dI):Int:=
 if t.1=4 then 1+less.getD t.2.1.toNat 0
 else if t.1=7 then 1+16 * less.getD t.2.1.toNat 0
 else if t.1=6 then 1+t.2.2.1 * acc.getD t.2.1.toNat 0
 else if t.1=5 then 1+QA3 acc t.2.2.2.1
 else 1
def yP (less:List Int):List dI->List Int->List Int
 | [],acc=>acc
 | t::r,acc=>yP less r (acc++[cap (pV less acc t)])
def QFg (l:List Int):Prop:=∀ x∈l,0<=x/\x<=5001
theorem QFg.getD {l:List Int} (h:QFg l) (i:Nat):0<=l.getD i 0/\l.getD i 0<=5001:=by
 by_cases hi:i < l.length
 ·rw [Ad,AU hi]
  exact h _ (Ae hi)
 ·rw [Ad,Av (by omega)]
  simp
theorem QHE {w:Int} (h:0<=w):0<=cap w/\cap w<=5001:=by unfold cap;split <;> omega
theorem zf {acc:List Int} (h:QFg acc):∀ fs:List tV,0<=QA3 acc fs/\QA3 acc fs<=5001 * fs.length
 | []=>by simp [QA3]
 | f::r=>by
  have h1:=zf h r
  have h2:=h.getD f.2.1.toNat
  simp only [QA3,List.map_cons,List.sum_cons,Af] at h1 ⊢
  omega
theorem QL0 (acc:List Int) (fs:List tV) (f:tV):QA3 acc (fs++[f])=QA3 acc fs+acc.getD f.2.1.toNat 0:=by simp [QA3]
theorem QJx {a b:Int} (h0:1<=a) (h1:a<=16) (h2:0<=b) (h3:b<=5001):0<=a * b/\a * b<=80016:=by
 constructor
 ·exact Int.mul_nonneg (by omega) h2
 ·have:=Int.mul_le_mul h1 h3 h2 (by omega:(0:Int)<=16)
  omega
theorem QEo {less acc:List Int} {t:dI} {i n:Int} (hl:QFg less) (ha:QFg acc) (h:dJ t i n=true):0<=pV less acc t/\pV less acc t<=100000:=by
 unfold pV
 have h1:=hl.getD t.2.1.toNat
 have h2:=ha.getD t.2.1.toNat
 split
 ·omega
 split
 ·omega
 split
 ·rename_i h6
  have h3:=rM h h6
  have:=QJx h3.2.2.1 h3.2.2.2 h2.1 h2.2
  omega
 split
 ·rename_i h5
  have h3:=pK h h5
  have:=zf ha t.2.2.2.1
  omega
 ·omega
theorem QAW (less:List Int):∀ (l:List dI) (t:dI) (acc:List Int),yP less (l++[t]) acc=yP less l acc++[cap (pV less (yP less l acc) t)]
 | [],t,acc=>rfl
 | u::r,t,acc=>QAW less r t _
theorem QCP (less:List Int):∀ (l:List dI) (acc:List Int),(yP less l acc).length=acc.length+l.length
 | [],acc=>rfl
 | u::r,acc=>by rw [yP,QCP];simp;omega
def Built (l:List dI):Prop:=∀ i (h:i < l.length),dJ l[i] (i:Int) (l.length:Int)=true
theorem QCQ {l:List dI} (hb:Built l) {less:List Int} (hl:QFg less):∀ i,i<=l.length->QFg (yP less (l.take i) [])
 | 0,_=>by intro x hx;simp [yP] at hx
 | i+1,hi=>by
  have ih:=QCQ hb hl i (by omega)
  rw [Ah (by omega),QAW]
  intro x hx
  rcases List.mem_append.1 hx with hx | hx
  ·exact ih x hx
  ·simp at hx
   subst hx
   exact QHE (QEo hl ih (hb i (by omega))).1
theorem QEJ {a b:List Int} {e:Int} (h0:0<=e) (h:e < (a.length:Int)):(a++b).getD e.toNat 0=a.getD e.toNat 0:=by
 rw [Ad,Ad,Am (by omega)]
theorem QFK {a:List Int} {e:Int} (h0:0<=e) (h:e < (a.length:Int)):Nk a e=some (a.getD e.toNat 0):=by
 obtain ⟨k,rfl⟩:=BK h0
 have hk:k < a.length:=by omega
 rw [YI hk]
 simp [hk]
theorem QAS {a:List Int} {e:Int} (h0:0<=e) (h:e < (a.length:Int)):nth a (Int.toNat e)=some (a.getD e.toNat 0):=by
 obtain ⟨k,rfl⟩:=BK h0
 have hk:k < a.length:=by omega
 show a[k]? = _
 simp [hk]
theorem QH4 {a b:Int} (h0 : -9223372036854775808<=a+b) (h1:a+b<=9223372036854775807):IntKind.i64.wrap (a+b)=a+b:=wrap_i64 h0 h1
theorem QFk (w:Int):(if (5001:Int) < w then (5001:Int) else w)=cap w:=rfl
theorem QIk {l:List dI} (hlen:l.length<=40) (hb:Built l) {less:List Int} (hl:QFg less) (hll:less.length=l.length):vZ (l,less)=some (yP less l []):=by
 show q8 _ (Gb (nL _ big) big) (l,less)=_
 unfold q8
 dsimp only
 rw [AB (by omega),AB (by omega),AB (by omega)]
 simp only [Bool.and_true,AL]
 refine Qi (g:=nL (fun _=>List.replicate) big) (n:=l.length) (fun (r:List Int) (i:Nat)=>(less,l,(l.length:Int),(i:Int),r)) (fun i r=>r=yP less (l.take i) []++List.replicate (l.length - i) 0) (fun r=>r=some (yP less l [])) ?_ ?_
  l.length 0 big (by simp) (by unfold big;omega) _ (by simp [yP])
 ·rintro self s rfl
  show fQ _ _ self _=_
  unfold fQ
  dsimp only
  rw [AF (by omega),AJ]
  simp
 ·rintro self s i hi rfl
  left
  refine ⟨_,rfl,?_⟩
  have hw:=QCQ hb hl i (by omega)
  have hwl:(yP less (l.take i) []).length=i:=by rw [QCP];simp;omega
  have hsl:(yP less (l.take i) []++List.replicate (l.length - i) 0).length=l.length:=by simp [hwl];omega
  have hbd:=QEo hl hw (hb i hi)
  have hset:∀ v:Int,(yP less (l.take i) []++List.replicate (l.length - i) 0).set i v=yP less (l.take i) []++[v]++List.replicate (l.length - (i+1)) 0:=by
   intro v
   rw [show l.length - i=(l.length - (i+1))+1 by omega,List.replicate_succ,List.set_append_right _ _ (by omega),hwl,Nat.sub_self,List.set_cons_zero,Ab]
   rfl
  have hgo:yP less (l.take (i+1)) []=yP less (l.take i) []++[cap (pV less (yP less (l.take i) []) l[i])]:=by
   rw [Ah hi,QAW]
  have hbi:=hb i hi
  rw [hgo]
  show fQ _ _ self _=_
  unfold fQ
  dsimp only
  rw [AB (by omega),AL,YI hi,AA]
  have hin:(decide (0<=(i:Int))&&decide ((i:Int) < ((yP less (l.take i) []++List.replicate (l.length - i) 0).length:Int)))=true:=by
   rw [AB (by omega),AB (by omega)];rfl
  have hsucc:=XB hi (by have:=Wy;omega:l.length<=maxLen)
  simp only [hin,AL,Aj,hset,hsucc]
  generalize hacc:yP less (l.take i) []=acc at *
  generalize ZY:l[i]=t at *
  have hlw:=hl.getD t.2.1.toNat
  have haw:=hw.getD t.2.1.toNat
  by_cases h4:t.1=4
  ·have hp:=QAY hbi (.inl h4)
   rw [h4,show ((4:Int)==4)=true from rfl,AL,QFK hp.1 (by omega),AA]
   rw [QH4 (by omega) (by omega),QFk]
   unfold pV
   rw [AY h4]
  have e4:(t.1==4)=false:=AF h4
  rw [e4,AJ]
  by_cases h7:t.1=7
  ·have hp:=QAY hbi (.inr h7)
   rw [h7,show ((7:Int)==7)=true from rfl,AL,QFK hp.1 (by omega),AA]
   rw [wrap_i64 (n:=16 * _) (by omega) (by omega),QH4 (by omega) (by omega),QFk]
   unfold pV
   rw [AX h4,AY h7]
  have e7:(t.1==7)=false:=AF h7
  rw [e7,AJ]
  by_cases h6:t.1=6
  ·have hp:=rM hbi h6
   rw [h6,show ((6:Int)==6)=true from rfl,AL]
   rw [AB (by omega),AB (by omega),Ai,AL,QAS hp.1 (by omega),AA,QEJ hp.1 (by omega)]
   have hm:=QJx hp.2.2.1 hp.2.2.2 haw.1 haw.2
   rw [wrap_i64 (n:=t.2.2.1 * _) (by omega) (by omega),QH4 (by omega) (by omega),QFk]
   unfold pV
   rw [AX h4,AX h7,AY h6]
  have e6:(t.1==6)=false:=AF h6
  rw [e6,AJ]
  by_cases h5:t.1=5
  ·have hp:=pK hbi h5
   rw [h5,show ((5:Int)==5)=true from rfl,AL]
   refine Qi (g:=rT (fun _=>List.replicate) big self) (n:=t.2.2.2.1.length) (fun (w:Int) (j:Nat)=>(less,(i:Int),w,l,(l.length:Int),(i:Int),t.2.2.2.1,(t.2.2.2.1.length:Int),(j:Int),acc++List.replicate (l.length - i) 0)) (fun j w=>w=1+QA3 acc (t.2.2.2.1.take j)) (fun r=>r=self (less,l,(l.length:Int),((i+1:Nat):Int),acc++[cap (pV less acc t)]++List.replicate (l.length - (i+1)) 0)) ?_ ?_
    t.2.2.2.1.length 0 big (by simp) (by unfold big;omega) _ (by simp [QA3])
   ·rintro aJ s rfl
    show jX _ self aJ _=_
    unfold jX
    dsimp only
    rw [AF (by omega),AJ]
    simp only [hin,AL,Aj,hset,hsucc,QFk]
    rw [List.take_length]
    unfold pV
    rw [AX h4,AX h7,AX h6,AY h5]
   ·rintro aJ s j hj rfl
    left
    refine ⟨_,rfl,?_⟩
    have hf:=hp.2 t.2.2.2.1[j] (Ae hj)
    have hs:=zf hw (t.2.2.2.1.take j)
    have hfw:=hw.getD t.2.2.2.1[j].2.1.toNat
    have htl:(t.2.2.2.1.take j).length<=8:=by simp;omega
    show jX _ self aJ _=_
    unfold jX
    dsimp only
    rw [AB (by omega),AL,YI hj,AA]
    rw [AB (by omega),AB (by omega),Ai,AL,QAS hf.1 (by omega),AA,QEJ hf.1 (by omega),XB hj (by have:=Wy;omega),QH4 (by omega) (by omega)]
    rw [Ah hj,QL0,Int.add_assoc]
  ·have e5:(t.1==5)=false:=AF h5
   rw [e5,AJ]
   show self (less,l,(l.length:Int),((i+1:Nat):Int),acc++[_]++_)=_
   unfold pV
   rw [AX h4,AX h7,AX h6,AX h5]
   rfl
def wN (l:List dI):Nat->List Int
 | 0=>List.replicate l.length 0
 | n+1=>yP (wN l n) l []
theorem QCR {l:List dI} (hb:Built l):∀ n,QFg (wN l n)/\(wN l n).length=l.length
 | 0=>⟨fun x hx=>by simp [wN] at hx;omega,by simp [wN]⟩
 | n+1=>by
  have ih:=QCR hb n
  have:=QCQ hb ih.1 l.length (Nat.le_refl _)
  rw [List.take_length] at this
  exact ⟨this,by rw [wN,QCP];simp⟩
theorem QL7 {l:List dI} (hlen:l.length<=40) (hb:Built l):xY l=some (wN l 4):=by
 show sW _ (Gb (oQ _ big) big) l=_
 unfold sW
 rw [AB (by omega),AB (by omega),AB (by omega)]
 simp only [Bool.and_true,AL]
 refine Qi (g:=oQ (fun _=>List.replicate) big) (n:=4) (fun (r:List Int) (i:Nat)=>(l,(i:Int),r)) (fun i r=>r=wN l i) (fun r=>r=some (wN l 4)) ?_ ?_
  4 0 big (by simp) (by unfold big;omega) _ (by simp [wN])
 ·rintro self s rfl
  rfl
 ·rintro self s i hi rfl
  left
  refine ⟨_,rfl,?_⟩
  show uI _ self _=_
  unfold uI
  dsimp only
  rw [AB (by omega),AL,QIk hlen hb (QCR hb i).1 (QCR hb i).2,AA,XB hi (by have:=Wy;omega)]
  rfl
theorem QLi (l:List Int) (y:Int) (hl:l.length<=1000):∃ j,ko (l,y)=some j/\(0<=j↔y∈l):=by
 show ∃ j,gG (Gb (eX big) big) (l,y)=some j/\_
 unfold gG
 refine Qi (g:=eX big) (n:=l.length) (fun (_:Unit) (i:Nat)=>(l,y,(l.length:Int),(i:Int))) (fun i _=>y ∉ l.take i) (fun r=>∃ j,r=some j/\(0<=j↔y∈l)) ?_ ?_
  l.length 0 big (by simp) (by unfold big;omega) () (by simp)
 ·intro self s h
  refine ⟨-1,?_,?_⟩
  ·show aY self _=_
   unfold aY
   dsimp only
   rw [AF (by omega),AJ]
  ·rw [List.take_length] at h
   simp [h]
 ·intro self s i hi h
  by_cases e:y=l[i]
  ·right
   refine ⟨i,?_,by simp only [Int.natCast_nonneg,true_iff];rw [e];exact Ae hi⟩
   show aY self _=_
   unfold aY
   dsimp only
   rw [AB (by omega),AL,YI hi,AA,show (y==l[i])=true from AB e,AL]
  ·left
   refine ⟨(),?_,?_⟩
   ·rw [Ah hi]
    intro hm
    rcases List.mem_append.1 hm with hm | hm
    ·exact h hm
    ·exact e (List.mem_singleton.1 hm)
   ·show aY self _=_
    unfold aY
    dsimp only
    rw [AB (by omega),AL,YI hi,AA,show (y==l[i])=false from AF e,AJ,XB hi (by have:=Wy;omega)]
theorem QCx (l:List Int) (y:Int) (hl:l.length<=1000):bT (l,y)=some (decide (y∈l)):=by
 show iX (l,y)=_
 unfold iX
 obtain ⟨j,h1,h2⟩:=QLi l y hl
 rw [h1,AA]
 congr 1
 rw [Bool.eq_iff_iff,AZ,AZ]
 exact h2
def Valid (l:List dI):Prop:=l.length<=32/\Built l/\(5001:Int) ∉ wN l 4
instance (l:List dI):Decidable (Built l):=by unfold Built;infer_instance
instance (l:List dI):Decidable (Valid l):=by unfold Valid;infer_instance
theorem yS (l:List dI):zC l=some (if Valid l then 0 else 8):=by
 show vE (Gb (qL big) big) l=_
 unfold vE
 by_cases h:l.length<=32
 ·rw [AF (by omega),AJ]
  refine Qi (g:=qL big) (n:=l.length) (fun (_:Unit) (i:Nat)=>(l,l,(l.length:Int),(i:Int))) (fun i _=>∀ j (h:j < l.length),j < i->dJ l[j] j l.length=true) (fun r=>r=some (if Valid l then 0 else 8)) ?_ ?_
   l.length 0 big (by simp) (by unfold big;omega) () (by intro j _ h;omega)
  ·intro self s hb
   have hb':Built l:=fun i hi=>hb i hi hi
   show fq self _=_
   unfold fq
   dsimp only
   rw [AF (by omega),AJ,QL7 (by omega) hb',AA,QCx _ _ (by rw [(QCR hb' 4).2];omega),AA]
   by_cases hm:(5001:Int)∈wN l 4
   ·rw [AB hm,AL,AX fun hv=>hv.2.2 hm]
   ·rw [AF hm,AJ,AY ⟨h,hb',hm⟩]
  ·intro self s i hi hb
   cases hbi:dJ l[i] (i:Int) (l.length:Int) with
   | false=>
    right
    show fq self _=_
    unfold fq
    dsimp only
    rw [AB (by omega),AL,YI hi,AA,QEM,AA,hbi,A8,AL,AX fun hv=>by rw [hv.2.1 i hi] at hbi;cases hbi]
   | true=>
    left
    refine ⟨(),fun j hj hji=>?_,?_⟩
    ·by_cases e:j=i
     ·subst e;exact hbi
     ·exact hb j hj (by omega)
    ·show fq self _=_
     unfold fq
     dsimp only
     rw [AB (by omega),AL,YI hi,AA,QEM,AA,hbi,Az,AJ,XB hi (by have:=Wy;omega)]
 ·rw [AB (by omega),AL,AX fun hv=>h hv.1]
def Ixs (n:Int) (l:List Int):Prop:=∀ x∈l,0<=x/\x < n
theorem QEb {l:List dI} (hb:Built l) {i:Nat} (hi:i < l.length):Ixs i (bK l[i]):=by
 intro x hx
 have h:=hb i hi
 unfold bK at hx
 split at hx
 ·rename_i h6
  have:=rM h h6
  simp at hx
  subst hx
  exact ⟨this.1,this.2.1⟩
 split at hx
 ·rename_i h5
  obtain ⟨f,hf,rfl⟩:=List.mem_map.1 hx
  exact (pK h h5).2 f hf
 ·simp at hx
theorem QE9 {t:dI} {i n:Int} (h:dJ t i n=true):t.2.2.2.1.length<=8:=by
 by_cases h5:t.1=5
 ·exact (pK h h5).1.2
 ·rw [QB7 h h5];simp
theorem QKn {t:dI} {i n:Int} (h:dJ t i n=true):(bK t).length<=8:=by
 have:=QE9 h
 unfold bK
 split
 ·simp
 split
 ·simpa using this
 ·simp
def Deep (n:Int) (l:List Int):Prop:=∀ x∈l,0<=x/\x<=n
theorem Deep.getD {n:Int} {l:List Int} (hn:0<=n) (h:Deep n l) (i:Nat):0<=l.getD i 0/\l.getD i 0<=n:=by
 by_cases hi:i < l.length
 ·rw [Ad,AU hi]
  exact h _ (Ae hi)
 ·rw [Ad,Av (by omega)]
  simpa using hn
theorem QMs (a b:Int):(if b > a then b else a)=max a b:=by omega
def un (kt:Ty) (ks:List kt.den) (m:List (kt.den×Bool)):Nat:=(ks.filter fun k=>!(@Pw kt .bool k false m).1).length
inductive Rch (l:List dI) (ways:dI->List Int) (i:Int):Int->Prop
 | self:Rch l ways i i
 | step {x y:Int} (t:dI):Rch l ways i x->Nk l x=some t->y∈ways t->Rch l ways i y
theorem Rch.trans {l:List dI} {ways:dI->List Int} {i j k:Int} (h:Rch l ways i j) (h':Rch l ways j k):Rch l ways i k:=by
 induction h' with
 | self=>exact h
 | step t _ h1 h2 ih=>exact .step t ih h1 h2
theorem Gx {α:Type} {l:List α} {x:Int} {t:α} (h:Nk l x=some t):0<=x/\x < l.length/\∃ (hx:x.toNat < l.length),t=l[x.toNat]:=by
 unfold Nk at h
 by_cases h0:0<=x
 ·rw [AB h0] at h
  simp only [AL] at h
  have h':l[x.toNat]? = some t:=h
  obtain ⟨h1,h2⟩:=Ap.1 h'
  exact ⟨h0,by omega,h1,h2.symm⟩
 ·rw [AF h0] at h
  cases h
theorem gu {l:List dI} {x:Int} (h0:0<=x) (h1:x < l.length):∃ t,Nk l x=some t:=by
 obtain ⟨k,rfl⟩:=BK h0
 exact ⟨_,YI (by omega)⟩
theorem QMq:1000000<=lim:=by decide
inductive Pch (l:List dI) (a b:Int):Int->Int->Prop
 | self:Pch l a b a b
 | step {x y x' y':Int} (t u:dI) (j:Nat):Pch l a b x y->Nk l x=some t->Nk l y=some u->(QQW t)[j]? = some x'->(QQW u)[j]? = some y'->Pch l a b x' y'
theorem Pch.trans {l:List dI} {a b c d e f:Int} (h:Pch l a b c d) (h':Pch l c d e f):Pch l a b e f:=by
 induction h' with
 | self=>exact h
 | step t u j _ h1 h2 h3 h4 ih=>exact .step t u j ih h1 h2 h3 h4
theorem QEe (c:Int):oI c=some (QBh c):=by
 show yH c=_
 unfold yH QBh
 simp only [ge_iff_le]
 cases decide (97<=c) <;> cases decide (c<=122) <;> cases decide (65<=c) <;> cases decide (c<=90) <;> rfl
theorem QAj (s:List Int):uY s=some (dA s):=by
 show vJ (Gb (qO big) big) s=_
 unfold vJ
 cases s with
 | nil=>rfl
 | cons c r=>
  rw [AF (by simp;omega),AJ]
  by_cases h:(c::r).length<=16
  ·rw [AF (by omega),AJ]
   have h0:Nk (c::r) (0:Int)=some c:=rfl
   rw [h0,AA,QEe,AA]
   simp only [dA]
   rw [AB h,Ai]
   cases hc:QBh c with
   | false=>rfl
   | true=>
    rw [Az,AJ,Ai]
    have:=SY (g:=qO big) (xs:=c::r) (fun (_:Unit) (i:Nat)=>(c::r,(i:Int))) (fun x s k=>bif (QBh x||QII x) then k s else some false) (fun _=>some true)
     (fun self s=>by
      show mQ self _=_
      unfold mQ
      dsimp only
      rw [AF (by omega),AJ])
     (fun self s i hi=>by
      show mQ self _=_
      unfold mQ
      dsimp only
      rw [AB (by omega),AL,YI hi,AA,QEe,AA,AA,AA]
      rw [XB hi (by have:=Wy;omega)]
      unfold QII
      by_cases h1:(c::r)[i] < 48
      ·rw [AB h1,AF (by omega:¬ 48<=(c::r)[i])]
       cases QBh (c::r)[i] <;> rfl
      ·rw [AF h1,AB (by omega:48<=(c::r)[i])]
       by_cases h2:(c::r)[i] > 57
       ·rw [AB h2,AF (by omega:¬ (c::r)[i]<=57)]
        cases QBh (c::r)[i] <;> rfl
       ·rw [AF h2,AB (by omega:(c::r)[i]<=57)]
        cases QBh (c::r)[i] <;> rfl)
     (c::r).length 0 big (by simp) (by unfold big;omega) ()
    rw [List.drop_zero,QCm] at this
    exact this
  ·rw [AB (by omega),AL]
   simp only [dA]
   rw [AF h];rfl
theorem wW {l:List (List Int)} {i:Nat} (hi:i < l.length):(l.take (i+1)).Nodup↔(l.take i).Nodup/\∀ k (hk:k < i),l[k]≠l[i]:=by
 rw [Ah hi,List.nodup_append]
 simp only [List.nodup_cons,List.not_mem_nil,not_false_eq_true,List.nodup_nil,and_self,List.mem_singleton,forall_eq,true_and]
 constructor
 ·rintro ⟨h1,h2⟩
  refine ⟨h1,fun k hk e=>h2 l[k] ?_ e⟩
  exact List.mem_take_iff_getElem.2 ⟨k,by omega,rfl⟩
 ·rintro ⟨h1,h2⟩
  refine ⟨h1,fun a ha e=>?_⟩
  obtain ⟨k,hk,rfl⟩:=List.mem_take_iff_getElem.1 ha
  exact h2 k (by omega) e
theorem QIY (fs:List tV):oH (fs,8)=some (decide (fs.length<=8)&&(fs.all (fun f=>dA f.1)&&decide ((fs.map (·.1)).Nodup))):=by
 show kZ (Gb (bW big) big) (fs,8)=_
 unfold kZ
 dsimp only
 by_cases h:fs.length<=8
 ·rw [AF (by omega),AJ,AB h,Ai]
  refine Qi (g:=bW big) (n:=fs.length) (fun (_:Unit) (i:Nat)=>(fs,(i:Int))) (fun i _=>(∀ f∈fs.take i,dA f.1=true)/\((fs.map (·.1)).take i).Nodup) (fun r=>r=some (fs.all (fun f=>dA f.1)&&decide ((fs.map (·.1)).Nodup))) ?_ ?_
   fs.length 0 big (by simp) (by unfold big;omega) () (by simp)
  ·rintro self s ⟨h1,h2⟩
   rw [List.take_length] at h1
   rw [BA (by simp)] at h2
   show bG _ self _=_
   unfold bG
   dsimp only
   rw [AF (by omega),AJ,AB h2,Bool.and_true,List.all_eq_true.2 h1]
  ·rintro self s i hi ⟨h1,h2⟩
   cases hn:dA fs[i].1 with
   | false=>
    right
    show bG _ self _=_
    unfold bG
    dsimp only
    rw [AB (by omega),AL,YI hi,AA,QAj,AA,hn,A8,AL]
    have:fs.all (fun f=>dA f.1)=false:=by
     rw [Bool.eq_false_iff]
     intro hall
     have:=List.all_eq_true.1 hall _ (Ae hi)
     rw [hn] at this
     cases this
    rw [this];rfl
   | true=>
    have inner:∃ b:Bool,Gb (bX big self) big (fs,(i:Int),0)=(bif b then self (fs,((i+1:Nat):Int)) else some false)/\(b=true↔∀ k (hk:k < i),(fs.map (·.1))[k]'(by simp;omega)≠(fs.map (·.1))[i]'(by simpa using hi)):=by
     refine Qi (g:=bX big self) (n:=i) (fun (_:Unit) (k:Nat)=>(fs,(i:Int),(k:Int))) (fun j _=>∀ k (hk:k < j) (hki:k < fs.length),(fs[k]).1≠(fs[i]).1) (fun r=>∃ b:Bool,r=(bif b then self (fs,((i+1:Nat):Int)) else some false)/\(b=true↔∀ k (hk:k < i),(fs.map (·.1))[k]'(by simp;omega)≠(fs.map (·.1))[i]'(by simpa using hi))) ?_ ?_
      i 0 big (by simp) (by unfold big;omega) () (by intro k hk;omega)
     ·intro aJ s hs
      refine ⟨true,?_,by simp only [true_iff,List.getElem_map];exact fun k hk=>hs k hk (by omega)⟩
      show fB self aJ _=_
      unfold fB
      dsimp only
      rw [AF (by omega),AJ,XB hi (by have:=Wy;omega)]
      rfl
     ·intro aJ s j hj hs
      have hj':j < fs.length:=by omega
      have hst:bX big self aJ (fs,(i:Int),(j:Int))=bif JW .str (fs[j]).1 (fs[i]).1 then some false else aJ (fs,(i:Int),((j+1:Nat):Int)):=by
       show fB self aJ _=_
       unfold fB
       dsimp only
       rw [AB (by omega),AL,YI hj',AA,YI hi,AA,XB hj (by have:=Wy;omega)]
      by_cases e:(fs[j]).1=(fs[i]).1
      ·right
       refine ⟨false,by rw [hst,e,XZ];rfl,?_⟩
       simp only [Bool.false_eq_true,false_iff,List.getElem_map]
       exact fun hh=>hh j hj e
      ·left
       refine ⟨(),fun k hk hki=>?_,by rw [hst,Ww e];rfl⟩
       by_cases hkj:k=j
       ·subst hkj;exact e
       ·exact hs k (by omega) hki
    obtain ⟨b,hb1,hb2⟩:=inner
    have hst:bW big self (fs,(i:Int))=(bif b then self (fs,((i+1:Nat):Int)) else some false):=by
     show bG _ self _=_
     unfold bG
     dsimp only
     rw [AB (by omega),AL,YI hi,AA,QAj,AA,hn,Az,AJ]
     exact hb1
    cases b with
    | true=>
     left
     refine ⟨(),⟨?_,(wW (by simpa using hi)).2 ⟨h2,hb2.1 rfl⟩⟩,hst⟩
     rw [Ah hi]
     intro f hf
     rcases List.mem_append.1 hf with hf | hf
     ·exact h1 f hf
     ·rw [List.mem_singleton.1 hf];exact hn
    | false=>
     right
     rw [hst,AJ]
     congr 1
     symm
     have:¬ (fs.map (·.1)).Nodup:=by
      intro hnd
      have QaL:((fs.map (·.1)).take (i+1)).Nodup:=(List.take_sublist _ _).nodup hnd
      have:=hb2.2 ((wW (by simpa using hi)).1 QaL).2
      cases this
     rw [AF this,Bool.and_false]
 ·rw [AB (by omega),AL,AF h];rfl
theorem QKv (t:dI) (i:Int) (hl:t.2.2.2.1.length<=1000):Gb (kS big) big (i,0,t)=some (decide (t.2.1=0)&&(decide (t.2.2.1=0)&&QE6 t.2.2.2.1 i)):=by
 have spec:∀ b:Bool,(b=true↔(∀ f∈t.2.2.2.1,iL f.2.1 i=true))->(decide (t.2.1=0)&&(decide (t.2.2.1=0)&&QE6 t.2.2.2.1 i))=(b&&(decide (t.2.1=0)&&(decide (t.2.2.1=0)&&(decide (0 < t.2.2.2.1.length)&&(decide (t.2.2.2.1.length<=8)&&(t.2.2.2.1.all (fun f=>dA f.1)&&decide ((t.2.2.2.1.map (·.1)).Nodup))))))):=by
  intro b hb
  rw [Bool.eq_iff_iff]
  simp only [QE6,AP,AZ,List.all_eq_true,hb]
  constructor
  ·rintro ⟨h1,h2,h3,h4,h5,h6⟩
   exact ⟨h6,h1,h2,by omega,h3.2,h4,h5⟩
  ·rintro ⟨h6,h1,h2,h3,h3',h4,h5⟩
   exact ⟨h1,h2,⟨by omega,h3'⟩,h4,h5,h6⟩
 refine Qi (g:=kS big) (n:=t.2.2.2.1.length) (fun (_:Unit) (k:Nat)=>(i,(k:Int),t)) (fun k _=>∀ f∈t.2.2.2.1.take k,iL f.2.1 i=true) (fun r=>r=some (decide (t.2.1=0)&&(decide (t.2.2.1=0)&&QE6 t.2.2.2.1 i))) ?_ ?_
  t.2.2.2.1.length 0 big (by simp) (by unfold big;omega) () (by simp)
 ·intro self s h
  rw [List.take_length] at h
  rw [spec true (by simpa using h)]
  show oN self _=_
  unfold oN
  dsimp only
  rw [AF (by omega),AJ,QIY,AA,Ai]
  simp only [y7,gt_iff_lt]
  have e:decide ((0:Int) < (t.2.2.2.1.length:Int))=decide (0 < t.2.2.2.1.length):=by
   by_cases h:0 < t.2.2.2.1.length
   ·rw [AB h,AB (by omega)]
   ·rw [AF h,AF (by omega)]
  rw [e]
  cases decide (t.2.1=0) <;> cases decide (t.2.2.1=0) <;> cases decide (0 < t.2.2.2.1.length) <;> rfl
 ·intro self s k hk h
  have hst:kS big self (i,(k:Int),t)=bif iL (t.2.2.2.1[k]).2.1 i then self (i,((k+1:Nat):Int),t) else some false:=by
   show oN self _=_
   unfold oN iL
   dsimp only
   rw [AB (by omega),AL,YI hk,AA,AA,XB hk (by have:=Wy;omega)]
   by_cases h1:(t.2.2.2.1[k]).2.1 < 0
   ·rw [AB h1,AF (by omega:¬ 0<=(t.2.2.2.1[k]).2.1)];rfl
   ·rw [AF h1,AB (by omega:0<=(t.2.2.2.1[k]).2.1)]
    by_cases h2:(t.2.2.2.1[k]).2.1≥i
    ·rw [AB h2,AF (by omega:¬ (t.2.2.2.1[k]).2.1 < i)];rfl
    ·rw [AF h2,AB (by omega:(t.2.2.2.1[k]).2.1 < i)];rfl
  cases hx:iL (t.2.2.2.1[k]).2.1 i with
  | true=>
   left
   refine ⟨(),?_,by rw [hst,hx];rfl⟩
   rw [Ah hk]
   intro f hf
   rcases List.mem_append.1 hf with hf | hf
   ·exact h f hf
   ·rw [List.mem_singleton.1 hf];exact hx
  | false=>
   right
   rw [hst,hx,AJ,spec false (by
    simp only [Bool.false_eq_true,false_iff]
    intro hall
    have:=hall _ (Ae hk)
    rw [hx] at this
    cases this)]
   rfl
theorem QMv {l:List dI} {i:Nat} (hi:i < l.length) (hl:(l[i]).2.2.2.1.length<=1000):QAC (l,(i:Int))=some (dJ l[i] i l.length):=by
 show xP (Gb (kS big) big) (l,(i:Int))=_
 unfold xP
 dsimp only
 rw [YI hi,AA]
 generalize l[i]=t at *
 simp only [QKv t i hl]
 unfold dJ
 simp only [QX4]
 obtain ⟨k,e,n,fs,u⟩:=t
 dsimp only
 simp only [y7,ge_iff_le,iL]
 generalize QE6 fs i=A
 generalize decide (fs.length=0)=D
 generalize decide (e=0)=E
 generalize decide (n=0)=F
 have hG:decide (1<=n/\n<=16)=(decide (1<=n)&&decide (n<=16)):=by by_cases h:1<=n <;> by_cases h':n<=16 <;> simp [h,h']
 rw [hG]
 generalize decide (1<=n)=G
 generalize decide (n<=16)=H
 generalize decide (0<=e)=I
 generalize decide (e < (l.length:Int))=J
 generalize decide (e < (i:Int))=K
 by_cases h1:k=1
 ·subst h1;simp;cases E <;> cases F <;> cases D <;> rfl
 by_cases h2:k=2
 ·subst h2;simp;cases E <;> cases F <;> cases D <;> rfl
 by_cases h3:k=3
 ·subst h3;simp;cases E <;> cases F <;> cases D <;> rfl
 by_cases h4:k=4
 ·subst h4;simp;cases I <;> cases J <;> cases F <;> cases D <;> rfl
 by_cases h5:k=5
 ·subst h5;simp
 by_cases h6:k=6
 ·subst h6;simp;cases I <;> cases K <;> cases G <;> cases H <;> cases D <;> rfl
 by_cases h7:k=7
 ·subst h7;simp;cases I <;> cases J <;> cases F <;> cases D <;> rfl
 simp [h1,h2,h3,h4,h5,h6,h7]
theorem QFj {n:Nat} (h:n<=10000):(Nat.ble 1 1&&Nat.ble (n+1) lim)=true:=by
 rw [AP]
 exact ⟨rfl,Nat.ble_eq_true_of_le (by have:=QMq;omega)⟩
theorem QKs (t:dI) (hf:t.2.2.2.1.length<=1000):uZ t=some ((if t.1=6 then [t.2.1] else [])++t.2.2.2.1.map (·.2.1)):=by
 have run:∀ a:List Int,a.length<=1->Gb (mE big) big (0,t,a)=some (a++t.2.2.2.1.map (·.2.1)):=by
  intro a ha
  refine Qi (g:=mE big) (n:=t.2.2.2.1.length) (fun (r:List Int) (k:Nat)=>((k:Int),t,r)) (fun k r=>r=a++(t.2.2.2.1.map (·.2.1)).take k) (fun r=>r=some (a++t.2.2.2.1.map (·.2.1))) ?_ ?_
   t.2.2.2.1.length 0 big (by simp) (by unfold big;omega) _ (by simp)
  ·rintro self s rfl
   rw [BA (by simp)]
   show mR self _=_
   unfold mR
   dsimp only
   rw [AF (by omega),AJ]
  ·rintro self s k hk rfl
   left
   refine ⟨_,rfl,?_⟩
   have hlen:(a++(t.2.2.2.1.map (·.2.1)).take k).length<=1001:=by simp;omega
   show mR self _=_
   unfold mR
   dsimp only
   rw [AB (by omega),AL,YI hk,AA]
   rw [show [(t.2.2.2.1[k]).2.1].length=1 from rfl,QFj (by omega),AL,XB hk (by have:=Wy;omega),Ah (by simpa using hk)]
   simp
 show vK (Gb (mE big) big) t=_
 unfold vK
 by_cases h6:t.1=6
 ·rw [h6,show ((6:Int)==6)=true from rfl,AL]
  rw [show (List.length ([]:List Int)+[t.2.1].length)=0+1 from rfl,QFj (by omega),AL]
  exact run [t.2.1] (by simp)
 ·rw [show (t.1==6)=false from AF h6,AJ,AX h6]
  exact run [] (by simp)
theorem QIW {t:dI} {i n:Int} (h:dJ t i n=true):(if t.1=6 then [t.2.1] else [])++t.2.2.2.1.map (·.2.1)=bK t:=by
 unfold bK
 by_cases h6:t.1=6
 ·rw [AY h6,AY h6,QB7 h (by omega)];rfl
 rw [AX h6,AX h6]
 by_cases h5:t.1=5
 ·rw [AY h5];rfl
 ·rw [AX h5,QB7 h h5];rfl
theorem QKt {t:dI} {i n:Int} (h:dJ t i n=true):uZ t=some (bK t):=by
 rw [QKs t (by have:=QE9 h;omega),QIW h]
theorem QOf {a b:Int} (hb:0<=b):cap (cap a+b)=cap (a+b):=by
 by_cases h1:5001 < a <;> by_cases h2:5001 < a+b <;> simp [cap,h1,h2] <;> omega
theorem QKD (l:List dI) (x:Nat):(wN l 0).getD x 0=0:=by
 show (List.replicate l.length (0:Int)).getD x 0=0
 rw [Ad]
 by_cases hx:x < l.length
 ·simp [hx]
 ·rw [Av (by simpa using hx)];rfl
theorem QOg:cap 1=1:=rfl
theorem QCH {l:List dI} (hlen:l.length<=40) (hb:Built l) (me:List dI×Int->Option (List Int)) (d:Nat) (hd:d<=3) (below:List Int) (hbel:0 < d->below=wN l d) :
  Gb (kI me big) big (l,(d:Int),0,below,[])=some (wN l (d+1)):=by
 have hwd:=QCR hb d
 refine Qi (g:=kI me big) (n:=l.length) (fun (out:List Int) (i:Nat)=>(l,(d:Int),(i:Int),below,out)) (fun i out=>out=yP (wN l d) (l.take i) []) (fun r=>r=some (wN l (d+1))) ?_ ?_
  l.length 0 big (by simp) (by unfold big;omega) _ (by simp [yP])
 ·rintro self s rfl
  rw [List.take_length]
  show gT _ _ self _=_
  unfold gT
  dsimp only
  rw [AF (by omega),AJ]
  rfl
 ·rintro self s i hi rfl
  left
  refine ⟨_,rfl,?_⟩
  have hw:=QCQ hb hwd.1 i (by omega)
  have hwl:(yP (wN l d) (l.take i) []).length=i:=by rw [QCP];simp;omega
  have hbi:=hb i hi
  have hpl:=QKn hbi
  have hpi:=QEb hb hi
  rw [show yP (wN l d) (l.take (i+1)) []=yP (wN l d) (l.take i) []++[cap (pV (wN l d) (yP (wN l d) (l.take i) []) l[i])] by rw [Ah hi,QAW]]
  show gT _ _ self _=_
  unfold gT
  dsimp only
  rw [AB (by omega),AL,YI hi,AA,QKt hbi,AA]
  have hget:=YI hi
  generalize hacc:yP (wN l d) (l.take i) []=acc at *
  generalize ZY:l[i]=t at *
  have hby:∀ p:Int,0<=acc.getD p.toNat 0/\acc.getD p.toNat 0<=5001:=fun p=>hw.getD p.toNat
  let by':Int:=if t.1=6 then t.2.2.1 else 1
  have QX0:1<=by'/\by'<=16:=by
   show 1<=(if t.1=6 then t.2.2.1 else 1)/\(if t.1=6 then t.2.2.1 else 1)<=16
   split
   ·rename_i h6;have:=rM hbi h6;omega
   ·omega
  let S (j:Nat):Int:=(((bK t).take j).map fun p=>by' * acc.getD p.toNat 0).sum
  have hS:∀ j (hj:j < (bK t).length),S (j+1)=S j+by' * acc.getD ((bK t)[j]).toNat 0:=by
   intro j hj
   show (((bK t).take (j+1)).map fun p=>by' * acc.getD p.toNat 0).sum=_
   rw [Ah hj,List.map_append,List.sum_append,List.map_singleton,List.sum_singleton]
  have hmul:∀ p:Int,0<=by' * acc.getD p.toNat 0/\by' * acc.getD p.toNat 0<=80016:=fun p=>QJx QX0.1 QX0.2 (hby p).1 (hby p).2
  have hlim:(Nat.ble 1 1&&Nat.ble (acc.length+1) lim)=true:=QFj (by omega)
  have hsucc:=XB hi (by have:=Wy;omega:l.length<=maxLen)
  refine Qi (g:=uG me big self) (n:=(bK t).length) (fun (w:Int) (j:Nat)=>(l,(d:Int),(i:Int),w,(j:Int),below,acc,bK t)) (fun j w=>w=cap (1+S j)) (fun r=>r=self (l,(d:Int),((i+1:Nat):Int),below,acc++[cap (pV (wN l d) acc t)])) ?_ ?_
   (bK t).length 0 big (by simp) (by unfold big;omega) _ (by simp [S,QOg])
  ·rintro aJ w rfl
   have QWz:S (bK t).length=if t.1=6 then t.2.2.1 * acc.getD t.2.1.toNat 0 else if t.1=5 then QA3 acc t.2.2.2.1 else 0:=by
    show (((bK t).take (bK t).length).map fun p=>by' * acc.getD p.toNat 0).sum=_
    rw [List.take_length]
    unfold bK
    by_cases h6:t.1=6
    ·rw [AY h6,AY h6]
     simp [by',h6]
    rw [AX h6,AX h6]
    by_cases h5:t.1=5
    ·rw [AY h5,AY h5]
     simp [by',h6,QA3,Function.comp_def]
    ·rw [AX h5,AX h5];rfl
   rw [QWz]
   have hone:∀ x:Int,[x].length=1:=fun _=>rfl
   show kJ _ self aJ _=_
   unfold kJ
   dsimp only
   rw [AF (by omega),AJ]
   simp only [hget,AA,hone,hlim,AL,hsucc]
   by_cases h4:t.1=4
   ·have h6:¬ t.1=6:=by omega
    have h5:¬ t.1=5:=by omega
    have h7:¬ t.1=7:=by omega
    have hp:=QAY hbi (.inl h4)
    have hlw:=hwd.1.getD t.2.1.toNat
    rw [AX h6,AX h5,show (t.1==4)=true from AB h4,show (t.1==7)=false from AF h7]
    unfold pV
    rw [AY h4]
    by_cases hd0:d=0
    ·rw [AF (by omega),AJ,AJ]
     have:(wN l d).getD t.2.1.toNat 0=0:=by rw [hd0];exact QKD l _
     rw [this]
     rfl
    ·rw [AB (by omega),AL,AL,hbel (by omega),AB hp.1,AB (by rw [hwd.2];omega),Ai,AL,QAS hp.1 (by rw [hwd.2];omega),AA,show cap (1+0)=1 from rfl,AL,AJ,QH4 (by omega) (by omega)]
     rfl
   rw [show (t.1==4)=false from AF h4]
   by_cases h7:t.1=7
   ·have h6:¬ t.1=6:=by omega
    have h5:¬ t.1=5:=by omega
    have hp:=QAY hbi (.inr h7)
    have hlw:=hwd.1.getD t.2.1.toNat
    rw [AX h6,AX h5,show (t.1==7)=true from AB h7]
    unfold pV
    rw [AX h4,AY h7]
    by_cases hd0:d=0
    ·rw [AF (by omega),AJ,AJ]
     have:(wN l d).getD t.2.1.toNat 0=0:=by rw [hd0];exact QKD l _
     rw [this]
     rfl
    ·rw [AB (by omega),AL,AJ,AL,AL,hbel (by omega),AB hp.1,AB (by rw [hwd.2];omega),Ai,AL,QAS hp.1 (by rw [hwd.2];omega),AA,show cap (1+0)=1 from rfl,wrap_i64 (n:=16 * _) (by omega) (by omega),QH4 (by omega) (by omega)]
     rfl
   rw [show (t.1==7)=false from AF h7]
   unfold pV
   rw [AX h4,AX h7]
   have hfin:(1:Int)+(if t.1=6 then t.2.2.1 * acc.getD t.2.1.toNat 0 else if t.1=5 then QA3 acc t.2.2.2.1 else 0)=(if t.1=6 then 1+t.2.2.1 * acc.getD t.2.1.toNat 0 else if t.1=5 then 1+QA3 acc t.2.2.2.1 else 1):=by
    split
    ·rfl
    split
    ·rfl
    ·rfl
   rw [hfin]
   cases decide ((d:Int) > 0) <;> rfl
  ·rintro aJ w j hj rfl
   left
   refine ⟨_,rfl,?_⟩
   have hx:=hpi _ (Ae hj)
   have hm:=hmul (bK t)[j]
   have hcw:0<=cap (1+S j)/\cap (1+S j)<=5001:=by
    apply QHE
    have:0<=S j:=by
     show 0<=(((bK t).take j).map fun p=>by' * acc.getD p.toNat 0).sum
     have:∀ q:List Int,0<=(q.map fun p=>by' * acc.getD p.toNat 0).sum:=by
      intro q
      induction q with
      | nil=>simp
      | cons a q ih=>rw [List.map_cons,List.sum_cons];have:=hmul a;omega
     exact this _
    omega
   rw [hS j hj,← Int.add_assoc,← QOf hm.1]
   show kJ _ self aJ _=_
   unfold kJ
   dsimp only
   rw [AB (by omega),AL,hget,AA]
   have e1:nth (bK t) (Int.toNat (j:Int))=some (bK t)[j]:=AU hj
   have d1:decide (0<=(j:Int))=true:=AB (by omega)
   have d2:decide ((j:Int) < ((bK t).length:Int))=true:=AB (by omega)
   have d3:decide (0<=(bK t)[j])=true:=AB hx.1
   have d4:decide ((bK t)[j] < (acc.length:Int))=true:=AB (by omega)
   simp only [e1,AA,d1,d2,d3,d4,Bool.and_self,AL,QAS hx.1 (show (bK t)[j] < (acc.length:Int) by omega)]
   rw [XB hj (by have:=Wy;omega)]
   by_cases h6:t.1=6
   ·rw [show (t.1==6)=true from AB h6,AL]
    have QSU:by'=t.2.2.1:=AY h6
    rw [QSU] at hm ⊢
    rw [wrap_i64 (n:=t.2.2.1 * _) (by omega) (by omega),QH4 (by omega) (by omega)]
    rfl
   ·rw [show (t.1==6)=false from AF h6,AJ]
    have QSU:by'=1:=AX h6
    rw [QSU] at hm ⊢
    rw [wrap_i64 (n:=1 * _) (by omega) (by omega),QH4 (by omega) (by omega)]
    rfl
theorem QK4 (k x):dY (k+1) x=oO (dY k) (Gb (kI (dY k) big) big) x:=rfl
theorem QDG {l:List dI} (hlen:l.length<=40) (hb:Built l):∀ (d k:Nat),d<=3->d < k->dY k (l,(d:Int))=some (wN l (d+1))
 | d,0,_,h=>by omega
 | 0,k+1,_,_=>by
  rw [QK4]
  unfold oO
  dsimp only
  rw [AF (by omega),AJ]
  exact QCH hlen hb _ 0 (by omega) [] (by omega)
 | d+1,k+1,hd,hk=>by
  rw [QK4]
  unfold oO
  dsimp only
  rw [AB (by omega),AL,wrap_i64 (by omega) (by omega),show ((d+1:Nat):Int) - 1=(d:Int) by omega,QDG hlen hb d k (by omega) (by omega),AA]
  exact QCH hlen hb _ (d+1) hd _ (fun _=>rfl)
theorem QIc {l:List dI} (hlen:l.length<=40) (hb:Built l):xZ (l,3)=some (wN l 4):=
 QDG hlen hb 3 big (by omega) (by unfold big;omega)
theorem QKp (l:List dI) (hf:∀ t∈l,t.2.2.2.1.length<=1000):zG l=some (if Valid l then 0 else 8):=by
 show vH (Gb (l9 big) big) l=_
 unfold vH
 by_cases h:l.length<=32
 ·rw [AF (by omega),AJ]
  refine Qi (g:=l9 big) (n:=l.length) (fun (_:Unit) (i:Nat)=>(l,(i:Int))) (fun i _=>∀ j (h:j < l.length),j < i->dJ l[j] j l.length=true) (fun r=>r=some (if Valid l then 0 else 8)) ?_ ?_
   l.length 0 big (by simp) (by unfold big;omega) () (by intro j _ h;omega)
  ·intro self s hb
   have hb':Built l:=fun i hi=>hb i hi hi
   have hw:=QCR hb' 4
   show jY _ self _=_
   unfold jY
   dsimp only
   rw [AF (by omega),AJ,QIc (by omega) hb',AA]
   refine Qi (g:=qN big self) (n:=l.length) (fun (_:Unit) (i:Nat)=>(l,(i:Int),wN l 4)) (fun i _=>(5001:Int) ∉ (wN l 4).take i) (fun r=>r=some (if Valid l then 0 else 8)) ?_ ?_
    l.length 0 big (by simp) (by unfold big;omega) () (by simp)
   ·intro aJ s hm
    rw [BA (by omega)] at hm
    show mO self aJ _=_
    unfold mO
    dsimp only
    rw [AF (by omega),AJ,AY ⟨h,hb',hm⟩]
   ·intro aJ s i hi hm
    have hi':i < (wN l 4).length:=by omega
    have hx:=hw.1 _ (Ae hi')
    have hst:qN big self aJ (l,(i:Int),wN l 4)=bif decide ((wN l 4)[i] > 5000) then some 8 else aJ (l,((i+1:Nat):Int),wN l 4):=by
     show mO self aJ _=_
     unfold mO
     dsimp only
     rw [AB (by omega),AL,AB (by omega),AB (by omega),Ai,AL,show nth (wN l 4) (Int.toNat (i:Int))=some (wN l 4)[i] from AU hi',AA,XB hi (by have:=Wy;omega)]
    by_cases hg:(wN l 4)[i] > 5000
    ·right
     rw [hst,AB hg,AL,AX]
     rintro ⟨_,_,hn⟩
     exact hn (by rw [show (5001:Int)=(wN l 4)[i] by omega];exact Ae hi')
    ·left
     refine ⟨(),?_,by rw [hst,AF hg];rfl⟩
     rw [Ah hi']
     intro hmm
     rcases List.mem_append.1 hmm with hmm | hmm
     ·exact hm hmm
     ·have:=List.mem_singleton.1 hmm
      omega
  ·intro self s i hi hb
   have hst:l9 big self (l,(i:Int))=bif !(dJ l[i] i l.length) then some 8 else self (l,((i+1:Nat):Int)):=by
    show jY _ self _=_
    unfold jY
    dsimp only
    rw [AB (by omega),AL,QMv hi (hf _ (Ae hi)),AA,XB hi (by have:=Wy;omega)]
   cases hbi:dJ l[i] (i:Int) (l.length:Int) with
   | false=>
    right
    rw [hst,hbi,A8,AL,AX fun hv=>by rw [hv.2.1 i hi] at hbi;cases hbi]
   | true=>
    left
    refine ⟨(),fun j hj hji=>?_,by rw [hst,hbi];rfl⟩
    by_cases e:j=i
    ·subst e;exact hbi
    ·exact hb j hj (by omega)
 ·rw [AB (by omega),AL,AX fun hv=>h hv.1]
theorem QKr (l:List dI):∃ b,zH l=some b/\(b=false->l.length<=40/\∀ t∈l,t.2.2.2.1.length<=20):=by
 show ∃ b,vI (Gb (mD big) big) l=some b/\_
 unfold vI
 by_cases h:l.length<=40
 ·rw [AF (by omega),AJ]
  refine Qi (g:=mD big) (n:=l.length) (fun (_:Unit) (i:Nat)=>(l,(i:Int))) (fun i _=>∀ t∈l.take i,t.2.2.2.1.length<=20) (fun r=>∃ b,r=some b/\(b=false->l.length<=40/\∀ t∈l,t.2.2.2.1.length<=20)) ?_ ?_
   l.length 0 big (by simp) (by unfold big;omega) () (by simp)
  ·intro self s hb
   rw [List.take_length] at hb
   refine ⟨false,?_,fun _=>⟨h,hb⟩⟩
   show dw _ self _=_
   unfold dw
   dsimp only
   rw [AF (by omega),AJ]
  ·intro self s i hi hb
   by_cases hg:(l[i]).2.2.2.1.length<=20
   ·have inner:Gb (fV big self) big (l,(i:Int),0)=self (l,((i+1:Nat):Int))∨Gb (fV big self) big (l,(i:Int),0)=some true:=by
     refine Qi (g:=fV big self) (n:=(l[i]).2.2.2.1.length) (fun (_:Unit) (k:Nat)=>(l,(i:Int),(k:Int))) (fun _ _=>True) (fun r=>r=self (l,((i+1:Nat):Int))∨r=some true) ?_ ?_
      (l[i]).2.2.2.1.length 0 big (by simp) (by unfold big;omega) () trivial
     ·intro aJ s _
      left
      show mP self aJ _=_
      unfold mP
      dsimp only
      rw [YI hi,AA,AF (by omega),AJ,XB hi (by have:=Wy;omega)]
     ·intro aJ s k hk _
      have hst:fV big self aJ (l,(i:Int),(k:Int))=bif decide ((((l[i]).2.2.2.1[k]).1.length:Int) > 100) then some true else aJ (l,(i:Int),((k+1:Nat):Int)):=by
       show mP self aJ _=_
       unfold mP
       dsimp only
       rw [YI hi,AA,AB (by omega),AL,AA,YI hk,AA,XB hk (by have:=Wy;omega)]
      rw [hst]
      cases decide ((((l[i]).2.2.2.1[k]).1.length:Int) > 100) with
      | true=>right;right;rfl
      | false=>left;exact ⟨(),trivial,rfl⟩
    have hst:mD big self (l,(i:Int))=Gb (fV big self) big (l,(i:Int),0):=by
     show dw _ self _=_
     unfold dw
     dsimp only
     rw [AB (by omega),AL,YI hi,AA,AF (by omega),AJ]
    rcases inner with e | e
    ·left
     refine ⟨(),?_,hst.trans e⟩
     rw [Ah hi]
     intro t ht
     rcases List.mem_append.1 ht with ht | ht
     ·exact hb t ht
     ·rw [List.mem_singleton.1 ht];exact hg
    ·right
     exact ⟨true,hst.trans e,fun h=>by cases h⟩
   ·right
    refine ⟨true,?_,fun h=>by cases h⟩
    show dw _ self _=_
    unfold dw
    dsimp only
    rw [AB (by omega),AL,YI hi,AA,AB (by omega),AL]
 ·refine ⟨true,?_,fun h=>by cases h⟩
  rw [AB (by omega),AL]
theorem QGi (a b:List Int) (h:a.length<=1000):uD (a,b)=some (decide (a=b)):=by
 show oq (Gb (iE big) big) _=_
 unfold oq
 dsimp only
 by_cases hl:a.length=b.length
 ·rw [show ((a.length:Int) != (b.length:Int))=false by rw [hl];simp,AJ]
  refine Qi (g:=iE big) (n:=a.length) (fun (_:Unit) (i:Nat)=>(a,b,(i:Int))) (fun i _=>a.take i=b.take i) (fun r=>r=some (decide (a=b))) ?_ ?_
   a.length 0 big (by simp) (by unfold big;omega) () (by simp)
  ·intro self s h
   rw [List.take_length,BA (by omega)] at h
   show iJ self _=_
   unfold iJ
   dsimp only
   rw [AF (by omega),AJ,AB h]
  ·intro self s i hi h
   have hi':i < b.length:=by omega
   have hst:iE big self (a,b,(i:Int))=bif (a[i] != b[i]) then some false else self (a,b,((i+1:Nat):Int)):=by
    show iJ self _=_
    unfold iJ
    dsimp only
    rw [AB (by omega),AL,YI hi,AA,YI hi',AA,XB hi (by have:=Wy;omega)]
   by_cases e:a[i]=b[i]
   ·left
    refine ⟨(),?_,by rw [hst,show (a[i] != b[i])=false by rw [e];simp];rfl⟩
    rw [Ah hi,Ah hi',h,e]
   ·right
    rw [hst,show (a[i] != b[i])=true by simpa using e,AL]
    congr 1
    symm
    apply AF
    intro hh
    subst hh
    exact e rfl
 ·rw [show ((a.length:Int) != (b.length:Int))=true by simp;omega,AL,AF (fun e=>hl (by rw [e]))]
theorem QEn (less:List Int):∀ (a b:List dI) (acc:List Int),yP less (a++b) acc=yP less b (yP less a acc)
 | [],_,_=>rfl
 | t::r,b,acc=>QEn less r b _
theorem QKE (less:List Int):∀ (b:List dI) (acc:List Int),∃ s,yP less b acc=acc++s
 | [],acc=>⟨[],by simp [yP]⟩
 | t::r,acc=>by
  obtain ⟨s,h⟩:=QKE less r (acc++[cap (pV less acc t)])
  exact ⟨[cap (pV less acc t)]++s,by rw [yP,h,Ab]⟩
theorem QEk (acc:List Int) (t:dI) (h:t.1=5):QA3 acc t.2.2.2.1=((bK t).map fun p=>acc.getD p.toNat 0).sum:=by
 unfold QA3 bK
 rw [AX (by omega),AY h,List.map_map]
 rfl
theorem QIj {less a b:List Int} {t:dI} (h:∀ p∈bK t,a.getD p.toNat 0=b.getD p.toNat 0):pV less a t=pV less b t:=by
 unfold pV
 split
 ·rfl
 split
 ·rfl
 split
 ·rename_i h6
  rw [h t.2.1 (by unfold bK;rw [AY h6];simp)]
 split
 ·rename_i h5
  rw [QEk _ _ h5,QEk _ _ h5]
  congr 2
  exact List.map_congr_left h
 ·rfl
theorem QXi {l:List dI} (hb:Built l) (n:Nat) {i:Nat} (hi:i < l.length):(wN l (n+1)).getD i 0=cap (pV (wN l n) (wN l (n+1)) l[i]):=by
 have hpre:∃ s,wN l (n+1)=yP (wN l n) (l.take (i+1)) []++s:=by
  have:wN l (n+1)=yP (wN l n) (l.drop (i+1)) (yP (wN l n) (l.take (i+1)) []):=by
   show yP (wN l n) l []=_
   rw [← QEn,List.take_append_drop]
  rw [this]
  exact QKE _ _ _
 obtain ⟨s,hs⟩:=hpre
 rw [Ah hi,QAW] at hs
 have hl:(yP (wN l n) (l.take i) []).length=i:=by rw [QCP];simp;omega
 have h1:(wN l (n+1)).getD i 0=cap (pV (wN l n) (yP (wN l n) (l.take i) []) l[i]):=by
  rw [hs,Ab,Ad,Ao (by omega),hl,Nat.sub_self]
  rfl
 rw [h1]
 congr 1
 apply QIj
 intro p hp
 have:=QEb hb hi p hp
 rw [hs,Ab,QEJ this.1 (by omega)]
theorem QJb {k n:Nat} (hk:Nat.ble 1 k=true) (h:n<=10000):(Nat.ble 1 k&&Nat.ble n lim)=true:=by
 rw [AP]
 exact ⟨hk,Nat.ble_eq_true_of_le (by have:=QMq;omega)⟩
abbrev Ext:=Int×(Int×Unit)
def AV (a:Int):Prop:=a=1∨a=8
def upS (n a:Int):Int:=if a=1 then n else (n+7) / 8 * 8
theorem QEm {n a:Int} (h:AV a):n<=upS n a/\upS n a<=n+7/\a ∣ upS n a:=by
 unfold upS
 rcases h with rfl | rfl
 ·rw [AY rfl];exact ⟨by omega,by omega,Int.one_dvd n⟩
 ·rw [AX (by decide)];exact ⟨by omega,by omega,Int.dvd_mul_left _ _⟩
theorem QKC {n a:Int} (ha:AV a) (h0:0<=n) (h1:n<=1000000000000):(bif (a==0) then none else some (IntKind.i64.wrap (IntKind.i64.wrap ((IntKind.i64.wrap (IntKind.i64.wrap (n+a) - 1)).tdiv a) * a)))=some (upS n a):=by
 unfold upS
 rcases ha with rfl | rfl
 ·rw [show ((1:Int)==0)=false from rfl,AJ,AY rfl,wrap_i64 (n:=n+1) (by omega) (by omega),wrap_i64 (n:=n+1 - 1) (by omega) (by omega),Int.tdiv_one,wrap_i64 (n:=n+1 - 1) (by omega) (by omega),Int.mul_one,wrap_i64 (n:=n+1 - 1) (by omega) (by omega)]
  congr 1
  omega
 ·rw [show ((8:Int)==0)=false from rfl,AJ,AX (by decide),wrap_i64 (n:=n+8) (by omega) (by omega),wrap_i64 (n:=n+8 - 1) (by omega) (by omega),Int.tdiv_eq_ediv_of_nonneg (by omega),wrap_i64 (n:=(n+8 - 1) / 8) (by omega) (by omega),wrap_i64 (n:=(n+8 - 1) / 8 * 8) (by omega) (by omega)]
  congr 1
  omega
theorem QAP {n a:Int} (ha:AV a) (h0:0<=n) (h1:n<=1000000000000):fM (n,a)=some (upS n a):=by
 show rZ (n,a)=_
 unfold rZ
 exact QKC ha h0 h1
theorem QId {n a:Int} (ha:AV a) (h0:0<=n) (h1:n<=1000000000000):vW (n,a)=some (upS n a):=by
 show QCs (n,a)=_
 unfold QCs
 exact QKC ha h0 h1
def ext (all:List Ext) (i:Int):Ext:=all.getD i.toNat (1,(1,()))
abbrev sz (all:List Ext) (i:Int):Int:=(ext all i).1
abbrev al (all:List Ext) (i:Int):Int:=(ext all i).2.1
theorem QEK {a:List Ext} {e:Int} (h0:0<=e) (h:e < (a.length:Int)):Nk a e=some (ext a e):=by
 obtain ⟨k,rfl⟩:=BK h0
 have hk:k < a.length:=by omega
 rw [YI hk]
 simp [hk,ext]
theorem QK0 {a:List Ext} {e:Int} (h0:0<=e) (h:e < (a.length:Int)):nth a (Int.toNat e)=some (ext a e):=by
 obtain ⟨k,rfl⟩:=BK h0
 have hk:k < a.length:=by omega
 show a[k]? = _
 simp [hk,ext]
theorem QJh {a b:List Ext} {e:Int} (h0:0<=e) (h:e < (a.length:Int)):ext (a++b) e=ext a e:=by
 unfold ext
 rw [Ad,Ad,Am (by omega)]
def rD (all:List Ext) (s:List Int×(Int×Int)) (f:tV):List Int×(Int×Int):=(s.1++[upS s.2.1 (al all f.2.1)],(upS s.2.1 (al all f.2.1)+sz all f.2.1,max s.2.2 (al all f.2.1)))
def dG (all:List Ext) (fs:List tV):List Int×(Int×Int):=fs.foldl (rD all) ([],(0,1))
theorem QL3 (all:List Ext) (fs:List tV) (f:tV):dG all (fs++[f])=rD all (dG all fs) f:=by simp [dG]
theorem QCw (all:List Ext) {fs:List tV} {k:Nat} (h:k < fs.length):dG all (fs.take (k+1))=rD all (dG all (fs.take k)) fs[k]:=by rw [Ah h,QL3]
theorem QIg {a b:List Ext}:∀ (fs:List tV),(∀ f∈fs,ext a f.2.1=ext b f.2.1)->dG a fs=dG b fs:=by
 intro fs h
 unfold dG
 generalize (([],(0,1)):List Int×(Int×Int))=s
 induction fs generalizing s with
 | nil=>rfl
 | cons f r ih=>
  rw [List.foldl_cons,List.foldl_cons]
  have:rD a s f=rD b s f:=by unfold rD al sz;rw [h f (by simp)]
  rw [this]
  exact ih (fun g hg=>h g (by simp [hg])) _
theorem QHm (all:List Ext) (fs:List tV):(dG all fs).1.length=fs.length:=by
 have:∀ (fs:List tV) (s:List Int×(Int×Int)),(fs.foldl (rD all) s).1.length=s.1.length+fs.length:=by
  intro fs
  induction fs with
  | nil=>intro s;rfl
  | cons f r ih=>intro s;rw [List.foldl_cons,ih];simp [rD];omega
 unfold dG
 rw [this]
 simp
def Fits (all:List Ext) (g:Int->Int) (fs:List tV):Prop:=∀ f∈fs,1<=sz all f.2.1/\sz all f.2.1+7<=g f.2.1/\AV (al all f.2.1)
def QAo (g:Int->Int) (fs:List tV):Int:=(fs.map fun f=>g f.2.1).sum
theorem QKz (g:Int->Int) (fs:List tV) (f:tV):QAo g (fs++[f])=QAo g fs+g f.2.1:=by simp [QAo]
theorem QBN {all:List Ext} {g:Int->Int} {fs:List tV} (h:Fits all g fs):∀ k,k<=fs.length->0<=(dG all (fs.take k)).2.1/\(dG all (fs.take k)).2.1<=QAo g (fs.take k)/\AV (dG all (fs.take k)).2.2/\(0 < k->1<=(dG all (fs.take k)).2.1)
 | 0,_=>by simp [dG,QAo,AV]
 | k+1,hk=>by
  have ih:=QBN h k (by omega)
  have hf:=h _ (Ae (show k < fs.length by omega))
  rw [QCw all (by omega),Ah (by omega),QKz]
  have hu:=QEm (n:=(dG all (fs.take k)).2.1) hf.2.2
  unfold rD
  dsimp only
  refine ⟨by omega,by omega,?_,by omega⟩
  have h1:=ih.2.2.1
  have h2:=hf.2.2
  unfold AV at h1 h2 ⊢
  omega
theorem QCv {g:Int->Int}:∀ (fs:List tV) (k:Nat),(∀ f∈fs,0<=g f.2.1)->QAo g (fs.take k)<=QAo g fs
 | [],k,_=>by simp [QAo]
 | f::r,0,h=>by
  have h1:=QCv r 0 fun x hx=>h x (by simp [hx])
  have h2:=h f (by simp)
  simp only [QAo,List.take_zero,List.map_nil,List.sum_nil,List.map_cons,List.sum_cons] at h1 ⊢
  omega
 | f::r,k+1,h=>by
  have h1:=QCv r k fun x hx=>h x (by simp [hx])
  simp only [QAo,List.take_succ_cons,List.map_cons,List.sum_cons] at h1 ⊢
  omega
theorem QMb {all:List Ext} {g:Int->Int} {fs:List tV} (h:Fits all g fs):∀ f∈fs,0<=g f.2.1:=fun f hf=>by have:=h f hf;omega
theorem QAl {all:List Ext} {g:Int->Int} {fs:List tV} (h:Fits all g fs) (hs:QAo g fs<=900000) {k:Nat} (hk:k<=fs.length):0<=(dG all (fs.take k)).2.1/\(dG all (fs.take k)).2.1<=900000/\AV (dG all (fs.take k)).2.2:=by
 have h1:=QBN h k hk
 have h2:=QCv fs k (QMb h)
 exact ⟨h1.1,by omega,h1.2.2.1⟩
theorem QHn {all:List Ext} {g:Int->Int} {fs:List tV} (hf:Fits all g fs) (hs:QAo g fs<=900000) (hi:∀ f∈fs,0<=f.2.1/\f.2.1 < all.length) (hl:fs.length<=1000) :
  jC (all,fs)=some ((dG all fs).1,(upS (dG all fs).2.1 (dG all fs).2.2,((dG all fs).2.2,()))):=by
 show nT _ (Gb (jr _ big) big) (all,fs)=_
 unfold nT
 dsimp only
 rw [AB (by omega),AB (by omega),AB (by omega)]
 simp only [Bool.and_true,AL,Aj]
 refine Qi (g:=jr (fun _=>List.replicate) big) (n:=fs.length) (fun (s:List Int×(Int×Int)) (i:Nat)=>(all,fs,(fs.length:Int),(i:Int),((0:Int),((0:Int),())),s.1,(s.2.1,(s.2.2,())))) (fun i s=>s=((dG all (fs.take i)).1++List.replicate (fs.length - i) 0,(dG all (fs.take i)).2)) (fun r=>r=some ((dG all fs).1,(upS (dG all fs).2.1 (dG all fs).2.2,((dG all fs).2.2,())))) ?_ ?_
  fs.length 0 big (by simp) (by unfold big;omega) (List.replicate fs.length 0,(0,1)) (by simp [dG])
 ·rintro self s rfl
  have hb:=QAl hf hs (Nat.le_refl _)
  rw [List.take_length] at hb ⊢
  show fu _ self _=_
  unfold fu
  dsimp only
  rw [AF (by omega),AJ,QAP hb.2.2 hb.1 (by omega),AA]
  simp
 ·rintro self s i hlt rfl
  left
  refine ⟨_,rfl,?_⟩
  have hb:=QAl hf hs (Nat.le_of_lt hlt)
  have hfi:=hf _ (Ae hlt)
  have hix:=hi _ (Ae hlt)
  have hu:=QEm (n:=(dG all (fs.take i)).2.1) hfi.2.2
  have hb1:=QAl hf hs (show i+1<=fs.length by omega)
  have hlen:=QHm all (fs.take i)
  rw [BJ,Nat.min_eq_left (by omega)] at hlen
  rw [QCw all hlt] at hb1 ⊢
  unfold rD at hb1 ⊢
  dsimp only at hb1 ⊢
  generalize dG all (fs.take i)=T at *
  have hset:∀ v:Int,(T.1++List.replicate (fs.length - i) 0).set i v=T.1++[v]++List.replicate (fs.length - (i+1)) 0:=by
   intro v
   rw [show fs.length - i=(fs.length - (i+1))+1 by omega,List.replicate_succ,List.set_append_right _ _ (by omega),hlen,Nat.sub_self,List.set_cons_zero,Ab]
   rfl
  have hsl:(T.1++List.replicate (fs.length - i) (0:Int)).length=fs.length:=by simp [hlen];omega
  have hsl2:∀ v:Int,(T.1++[v]++List.replicate (fs.length - (i+1)) (0:Int)).length=fs.length:=by intro v;simp [hlen];omega
  have QaM:∀ v:Int,nth (T.1++[v]++List.replicate (fs.length - (i+1)) (0:Int)) i=some v:=by
   intro v
   show (T.1++[v]++List.replicate (fs.length - (i+1)) (0:Int))[i]? = some v
   rw [Ab,Ao (by omega),hlen,Nat.sub_self]
   rfl
  show fu _ self _=_
  unfold fu
  dsimp only
  have d1:decide ((i:Int) < (fs.length:Int))=true:=AB (by omega)
  have d2:decide (0<=(i:Int))=true:=AB (by omega)
  simp only [d1,d2,AL,YI hlt,AA,QEK hix.1 hix.2,QAP hfi.2.2 hb.1 (by omega),hsl,Aj,hset,hsl2,Bool.and_self,QaM]
  rw [XB hlt (by have:=Wy;omega),wrap_i64 (n:=upS T.2.1 (al all fs[i].2.1)+sz all fs[i].2.1) (by omega) (by omega),QMs]
def fA (acc:List Ext) (t:dI):Ext:=
 if t.1=2∨t.1=4 then (8,(8,()))
 else if t.1=3 then (16,(8,()))
 else if t.1=7 then (24,(8,()))
 else if t.1=6 then (t.2.2.1 * sz acc t.2.1,(al acc t.2.1,()))
 else if t.1=5 then (upS (dG acc t.2.2.2.1).2.1 (dG acc t.2.2.2.1).2.2,((dG acc t.2.2.2.1).2.2,()))
 else (1,(1,()))
def fO:List dI->List Ext->List Ext
 | [],acc=>acc
 | t::r,acc=>fO r (acc++[fA acc t])
theorem yY:∀ (l:List dI) (t:dI) (acc:List Ext),fO (l++[t]) acc=fO l acc++[fA (fO l acc) t]
 | [],t,acc=>rfl
 | u::r,t,acc=>yY r t _
theorem QEG:∀ (l:List dI) (acc:List Ext),(fO l acc).length=acc.length+l.length
 | [],acc=>rfl
 | u::r,acc=>by rw [fO,QEG];simp;omega
theorem QD2:∀ (a b:List dI) (acc:List Ext),fO (a++b) acc=fO b (fO a acc)
 | [],_,_=>rfl
 | t::r,b,acc=>QD2 r b _
theorem QHH:∀ (b:List dI) (acc:List Ext),∃ s,fO b acc=acc++s
 | [],acc=>⟨[],by simp [fO]⟩
 | t::r,acc=>by
  obtain ⟨s,h⟩:=QHH r (acc++[fA acc t])
  exact ⟨[fA acc t]++s,by rw [fO,h,Ab]⟩
def exS (l:List dI):List Ext:=fO l []
theorem uo (l:List dI):(exS l).length=l.length:=by unfold exS;rw [QEG];simp
theorem QBZ {l:List dI} {i:Nat} (hi:i<=l.length):(fO (l.take i) []).length=i:=by rw [QEG];simp;omega
theorem QJg (l:List dI) (i:Nat):∃ s,exS l=fO (l.take i) []++s:=by
 have:exS l=fO (l.drop i) (fO (l.take i) []):=by
  unfold exS
  rw [← QD2,List.take_append_drop]
 rw [this]
 exact QHH _ _
theorem QHJ {l:List dI} {i:Nat} (hi:i<=l.length) {p:Int} (h0:0<=p) (h1:p < i):ext (fO (l.take i) []) p=ext (exS l) p:=by
 obtain ⟨s,hs⟩:=QJg l i
 rw [hs,QJh h0 (by rw [QBZ hi];exact h1)]
theorem QFp {a b:List Ext} {t:dI} (h:∀ p∈bK t,ext a p=ext b p):fA a t=fA b t:=by
 unfold fA
 split
 ·rfl
 split
 ·rfl
 split
 ·rfl
 split
 ·rename_i h6
  have e:=h t.2.1 (by unfold bK;rw [AY h6];simp)
  unfold sz al
  rw [e]
 split
 ·rename_i h6 h5
  have e:dG a t.2.2.2.1=dG b t.2.2.2.1:=QIg _ fun f hf=>h f.2.1 (by unfold bK;rw [AX h6,AY h5];exact List.mem_map.2 ⟨f,hf,rfl⟩)
  rw [e]
 ·rfl
theorem QSR {l:List dI} (hb:Built l) {i:Int} {t:dI} (ht:Nk l i=some t):ext (exS l) i=fA (exS l) t:=by
 obtain ⟨h0,h1,hx,rfl⟩:=Gx ht
 obtain ⟨s,hs⟩:=QJg l (i.toNat+1)
 rw [Ah hx,yY] at hs
 have hl:=QBZ (l:=l) (i:=i.toNat) (by omega)
 have e1:ext (exS l) i=fA (fO (l.take i.toNat) []) l[i.toNat]:=by
  rw [hs,ext]
  rw [Ab,Ad,Ao (by omega),hl,Nat.sub_self]
  rfl
 rw [e1]
 exact QFp fun p hp=>by
  have:=QEb hb hx p hp
  exact QHJ (by omega) this.1 this.2
def wS (l:List dI) (i:Int):Int:=(wN l 4).getD i.toNat 0
theorem QP1 {l:List dI} (hv:Valid l) {j:Nat} (hj:j < l.length):wS l j=pV (wN l 3) (wN l 4) l[j]/\wS l j<=5000:=by
 have h:=QXi hv.2.1 3 hj
 have hlen:=(QCR hv.2.1 4).2
 have hne:wS l j≠5001:=by
  intro e
  apply hv.2.2
  rw [← e]
  unfold wS
  rw [Aj,Ad,AU (by omega)]
  exact Ae _
 have e:wS l j=cap (pV (wN l 3) (wN l 4) l[j]):=by unfold wS;rw [Aj];exact h
 rw [e] at hne ⊢
 unfold cap at hne ⊢
 split at hne
 ·exact absurd rfl hne
 ·rename_i h1
  rw [AX h1]
  omega
def PE (w:Int) (x:Ext):Prop:=1<=x.1/\x.1+7<=32 * w/\AV x.2.1/\x.2.1 ∣ x.1
theorem QHj (l:List dI) (fs:List tV):QAo (fun p=>32 * wS l p) fs=32 * QA3 (wN l 4) fs:=by
 induction fs with
 | nil=>rfl
 | cons f r ih=>
  simp only [QAo,QA3,List.map_cons,List.sum_cons] at ih ⊢
  rw [ih,Int.mul_add]
  rfl
theorem QSh {l:List dI} (hv:Valid l) {j:Nat} (hj:j < l.length):1<=wS l j:=by
 rw [(QP1 hv hj).1]
 have h3:=(QCR hv.2.1 3).1
 have h4:=(QCR hv.2.1 4).1
 have hbt:=hv.2.1 j hj
 generalize l[j]=t at *
 have h5:=h3.getD t.2.1.toNat
 have h6:=h4.getD t.2.1.toNat
 unfold pV
 split
 ·omega
 split
 ·omega
 split
 ·rename_i hk
  have h7:=rM hbt hk
  have:=QJx h7.2.2.1 h7.2.2.2 h6.1 h6.2
  omega
 split
 ·have:=zf h4 t.2.2.2.1
  omega
 ·omega
theorem QFo {l:List dI} (hv:Valid l):∀ i,i<=l.length->∀ j:Nat,j < i->PE (wS l j) (ext (fO (l.take i) []) j)
 | 0,_,j,hj=>by omega
 | i+1,hi,j,hj=>by
  have ih:=QFo hv i (by omega)
  have hl:=QBZ (l:=l) (i:=i) (by omega)
  rw [Ah (by omega),yY]
  by_cases hji:j < i
  ·rw [QJh (by omega) (by omega)]
   exact ih j hji
  ·have:j=i:=by omega
   subst this
   have e1:ext (fO (l.take j) []++[fA (fO (l.take j) []) l[j]]) j=fA (fO (l.take j) []) l[j]:=by
    unfold ext
    rw [Aj,Ad,Ao (by omega),hl,Nat.sub_self]
    rfl
   rw [e1]
   have hjl:j < l.length:=hi
   have hw:=(QP1 hv hjl).1
   have hp:=QSh hv hjl
   have hbt:=hv.2.1 j hjl
   have hih:∀ p:Int,0<=p->p < j->PE (wS l p) (ext (fO (l.take j) []) p):=by
    intro p h0 h1
    have:=ih p.toNat (by omega)
    rwa [Int.toNat_of_nonneg h0] at this
   clear e1 ih hl
   generalize fO (l.take j) []=acc at *
   generalize l[j]=t at *
   unfold fA
   split
   ·exact ⟨by decide,by show (8:Int)+7<=_;omega,.inr rfl,⟨1,rfl⟩⟩
   rename_i h24
   split
   ·exact ⟨by decide,by show (16:Int)+7<=_;omega,.inr rfl,⟨2,rfl⟩⟩
   split
   ·exact ⟨by decide,by show (24:Int)+7<=_;omega,.inr rfl,⟨3,rfl⟩⟩
   rename_i h7
   split
   ·rename_i h6
    have hx:=rM hbt h6
    obtain ⟨g1,g2,g3,g4⟩:=hih t.2.1 hx.1 hx.2.1
    unfold pV at hw
    rw [AX (by omega),AX h7,AY h6] at hw
    have hw:wS l j=1+t.2.2.1 * wS l t.2.1:=hw
    have m1:=Int.mul_le_mul_of_nonneg_left g2 (show 0<=t.2.2.1 by omega)
    rw [Int.mul_add,Int.mul_left_comm] at m1
    have m2:=Int.mul_le_mul hx.2.2.1 g1 (by omega) (by omega)
    refine ⟨?_,?_,g3,Int.dvd_mul_of_dvd_right g4⟩
    ·show 1<=t.2.2.1 * (ext acc t.2.1).1
     omega
    ·show t.2.2.1 * (ext acc t.2.1).1+7<=_
     omega
   rename_i h6
   split
   ·rename_i h5
    have hx:=pK hbt h5
    have hfits:Fits acc (fun p=>32 * wS l p) t.2.2.2.1:=by
     intro f hf
     have:=hx.2 f hf
     obtain ⟨g1,g2,g3,g4⟩:=hih f.2.1 this.1 this.2
     exact ⟨g1,g2,g3⟩
    have hb:=QBN hfits _ (Nat.le_refl _)
    rw [List.take_length,QHj] at hb
    unfold pV at hw
    rw [AX (by omega),AX h7,AX h6,AY h5] at hw
    have hu:=QEm (n:=(dG acc t.2.2.2.1).2.1) hb.2.2.1
    refine ⟨?_,?_,hb.2.2.1,hu.2.2⟩
    ·have:=hb.2.2.2 (by omega)
     show 1<=upS _ _
     omega
    ·show upS _ _+7<=_
     omega
   ·exact ⟨by decide,by show (1:Int)+7<=_;omega,.inl rfl,⟨1,rfl⟩⟩
theorem QMZ {l:List dI} (hv:Valid l) {i:Int} (h0:0<=i) (h1:i < l.length):PE (wS l i) (ext (exS l) i):=by
 have:=QFo hv l.length (Nat.le_refl _) i.toNat (by omega)
 rw [List.take_length,Int.toNat_of_nonneg h0] at this
 exact this
theorem QFq {l:List dI} (hv:Valid l) {i:Int} (h0:0<=i) (h1:i < l.length):1<=sz (exS l) i/\sz (exS l) i<=160000/\AV (al (exS l) i)/\al (exS l) i ∣ sz (exS l) i:=by
 obtain ⟨g1,g2,g3,g4⟩:=QMZ hv h0 h1
 have:=(QP1 hv (show i.toNat < l.length by omega)).2
 rw [Int.toNat_of_nonneg h0] at this
 exact ⟨g1,by show (ext (exS l) i).1<=_;omega,g3,g4⟩
theorem QHi {l:List dI} (hv:Valid l) {i:Nat} (hi:i < l.length) (h5:(l[i]).1=5):Fits (fO (l.take i) []) (fun p=>32 * wS l p) (l[i]).2.2.2.1/\QAo (fun p=>32 * wS l p) (l[i]).2.2.2.1<=900000:=by
 have hx:=pK (hv.2.1 i hi) h5
 constructor
 ·intro f hf
  have:=hx.2 f hf
  obtain ⟨g1,g2,g3,g4⟩:=QFo hv i (by omega) f.2.1.toNat (by omega)
  rw [Int.toNat_of_nonneg this.1] at g1 g2 g3 g4
  exact ⟨g1,g2,g3⟩
 ·have hw:=QP1 hv hi
  unfold pV at hw
  rw [AX (by omega),AX (by omega),AX (by omega),AY h5] at hw
  rw [QHj]
  omega
theorem QHK {acc:List Ext} {t:dI} (h6:t.1=6->0<=t.2.1/\t.2.1 < acc.length/\0<=t.2.2.1 * sz acc t.2.1/\t.2.2.1 * sz acc t.2.1<=900000)
  (h5:t.1=5->jC (acc,t.2.2.2.1)=some ((dG acc t.2.2.2.1).1,(upS (dG acc t.2.2.2.1).2.1 (dG acc t.2.2.2.1).2.2,((dG acc t.2.2.2.1).2.2,())))):nD (t,acc)=some (fA acc t):=by
 show rX _=_
 unfold rX fA
 dsimp only
 by_cases k2:t.1=2
 ·rw [AY (.inl k2),k2];rfl
 rw [show (t.1==2)=false from AF k2,AJ]
 by_cases k4:t.1=4
 ·rw [AY (.inr k4),k4];rfl
 rw [AX (by omega),show (t.1==4)=false from AF k4,AJ]
 by_cases k3:t.1=3
 ·rw [AY k3,k3];rfl
 rw [AX k3,show (t.1==3)=false from AF k3,AJ]
 by_cases k7:t.1=7
 ·rw [AY k7,k7];rfl
 rw [AX k7,show (t.1==7)=false from AF k7,AJ]
 by_cases k6:t.1=6
 ·have h:=h6 k6
  rw [AY k6,show (t.1==6)=true from AB k6,AL,QEK h.1 h.2.1,AA,wrap_i64 (n:=t.2.2.1 * sz acc t.2.1) (by have:=h.2.2;omega) (by have:=h.2.2;omega)]
 rw [AX k6,show (t.1==6)=false from AF k6,AJ]
 by_cases k5:t.1=5
 ·rw [AY k5,show (t.1==5)=true from AB k5,AL,h5 k5,AA]
 ·rw [AX k5,show (t.1==5)=false from AF k5,AJ]
theorem QF7 {l:List dI} (hv:Valid l) {i:Nat} (hi:i < l.length) (h6:(l[i]).1=6):(0<=(l[i]).2.1/\(l[i]).2.1 < i)/\0<=(l[i]).2.2.1 * sz (fO (l.take i) []) (l[i]).2.1/\(l[i]).2.2.1 * sz (fO (l.take i) []) (l[i]).2.1<=900000:=by
 have hx:=rM (hv.2.1 i hi) h6
 have ht:Nk l (i:Int)=some l[i]:=YI hi
 have e:=QSR hv.2.1 ht
 have ho:=QFq hv (i:=(i:Int)) (by omega) (by omega)
 unfold sz at ho ⊢
 rw [QHJ (by omega) hx.1 hx.2.1]
 rw [e] at ho
 unfold fA at ho
 rw [AX (by omega),AX (by omega),AX (by omega),AY h6] at ho
 have h1:1<=(l[i]).2.2.1 * (ext (exS l) (l[i]).2.1).1:=ho.1
 have h2:(l[i]).2.2.1 * (ext (exS l) (l[i]).2.1).1<=160000:=ho.2.1
 exact ⟨⟨hx.1,hx.2.1⟩,by omega,by omega⟩
theorem QIJ {l:List dI} (hv:Valid l):tu l=some (exS l):=by
 have hlen:=hv.1
 show oo (Gb (lK big) big) l=_
 unfold oo
 refine Qi (g:=lK big) (n:=l.length) (fun (r:List Ext) (i:Nat)=>(l,(l.length:Int),(i:Int),r)) (fun i r=>r=fO (l.take i) []) (fun q=>q=some (exS l)) ?_ ?_
  l.length 0 big (by simp) (by unfold big;omega) _ (by simp [fO])
 ·rintro self s rfl
  rw [List.take_length]
  show iI self _=_
  unfold iI
  dsimp only
  rw [AF (by omega),AJ]
  rfl
 ·rintro self s i hi rfl
  left
  refine ⟨_,rfl,?_⟩
  have hl:=QBZ (l:=l) (i:=i) (by omega)
  rw [Ah hi,yY]
  show iI self _=_
  unfold iI
  dsimp only
  rw [AB (by omega),AL,YI hi,AA,QHK (fun h6=>by have:=QF7 hv hi h6;exact ⟨this.1.1,by omega,this.2⟩) (fun h5=>by
   have hx:=(pK (hv.2.1 i hi) h5)
   obtain ⟨g1,g2⟩:=QHi hv hi h5
   exact QHn g1 g2 (fun f hf=>by have:=hx.2 f hf;omega) (by omega)),AA,QJb rfl (by simp [hl];omega),AL,XB hi (by have:=Wy;omega)]
  rfl
theorem QHR (x n:Int):oP (x,n)=some (iL x n):=by
 show uN (x,n)=_
 unfold uN iL
 dsimp only
 by_cases h:0<=x
 ·rw [AB (show x≥0 from h)];rfl
 ·rw [AF (show ¬ x≥0 from h)];rfl
def yX (l:List dI) (i:Int):Int:=if Valid l then (if 0<=i/\i < l.length then (if sz (exS l) i<=256 then 0 else 16) else 2) else 8
theorem QFn {l:List dI} {i:Int} (h:yX l i=0):Valid l/\0<=i/\i < l.length/\sz (exS l) i<=256:=by
 unfold yX at h
 split at h
 ·rename_i hv
  split at h
  ·rename_i hi
   split at h
   ·rename_i hs
    exact ⟨hv,hi.1,hi.2,hs⟩
   ·cases h
  ·cases h
 ·cases h
theorem QCa {l:List dI} {i:Int} (hv:Valid l) (h0:0<=i) (h1:i < l.length) (hs:sz (exS l) i<=256):yX l i=0:=by
 unfold yX;rw [AY hv,AY ⟨h0,h1⟩,AY hs]
theorem QHY (l:List dI) (i:Int):nE (l,i)=some (if yX l i=0 then exS l else [],yX l i):=by
 show rY _=_
 unfold rY
 dsimp only
 rw [yS,AA]
 by_cases hv:Valid l
 ·rw [AY hv,show ((0:Int) != 0)=false from rfl,AJ,QHR,AA]
  by_cases hi:0<=i/\i < l.length
  ·rw [wI.2 hi,Az,AJ,QIJ hv,AA,AB hi.1,AB (by rw [uo];exact hi.2),Ai,AL,QK0 hi.1 (by rw [uo];exact hi.2),AA]
   by_cases hs:sz (exS l) i<=256
   ·rw [QCa hv hi.1 hi.2 hs,AF (by show ¬ sz (exS l) i > 256;omega),AJ,AY rfl]
   ·have:yX l i=16:=by unfold yX;rw [AY hv,AY hi,AX hs]
    rw [this,AB (by show sz (exS l) i > 256;omega),AL,AX (by decide)]
  ·have hb:iL i l.length=false:=by
    rw [Bool.eq_false_iff];intro h;exact hi (wI.1 h)
   have:yX l i=2:=by unfold yX;rw [AY hv,AX hi]
   rw [hb,A8,AL,this,AX (by decide)]
 ·have:yX l i=8:=by unfold yX;rw [AX hv]
  rw [AX hv,this,AX (by decide)];rfl
theorem QJP (l:List dI) (i:Int):qE (l,i)=some (if yX l i=0 then (sz (exS l) i,(al (exS l) i,0)) else (0,(0,yX l i))):=by
 show zT _=_
 unfold zT
 dsimp only
 rw [QHY,AA]
 by_cases h:yX l i=0
 ·obtain ⟨hv,h0,h1,hs⟩:=QFn h
  simp only [h,if_true]
  rw [show ((0:Int) != 0)=false from rfl,AJ,AB h0,AB (by rw [uo];exact h1),Ai,AL,QK0 h0 (by rw [uo];exact h1),AA]
  first
   | rfl
   | (rw [QEK h0 (by rw [uo];exact h1)];rfl)
 ·simp only [AX h]
  rw [show (yX l i != 0)=true by simpa using h,AL]
end Go.Proofs.YtbgmjjplddddnaaGreatDoor.K
set_option linter.unusedVariables false
set_option linter.unusedSimpArgs false
set_option maxRecDepth 100000
namespace Go.Proofs.YtbgmjjplddddnaaGreatDoor.K
open Go.Lift
abbrev Cel:=Int×(Int×Unit)
def isC (t:dI):Prop:=t.1=6∨t.1=5
instance (t:dI):Decidable (isC t):=by unfold isC;infer_instance
def fin (S:List Ext) (t:dI) (j:Nat):Int:=if t.1=6 then j * sz S t.2.1 else (dG S (t.2.2.2.1.take j)).2.1
section
variable {l:List dI} (hv:Valid l) {i:Int} {t:dI} (ht:Nk l i=some t) (hk:isC t)
include hv ht hk
end
def QDJ (S:List Ext):List Cel->Int->Int->Prop
 | [],lo,hi=>lo<=hi
 | c::r,lo,hi=>lo<=c.1/\QDJ S r (c.1+sz S c.2.1) hi
theorem QDJ.weak {S:List Ext}:∀ {a:List Cel} {lo lo' hi hi':Int},lo'<=lo->hi<=hi'->QDJ S a lo hi->QDJ S a lo' hi'
 | [],lo,lo',hi,hi',h1,h2,h=>by simp only [QDJ] at h ⊢;omega
 | c::r,lo,lo',hi,hi',h1,h2,h=>⟨by have:=h.1;omega,QDJ.weak (Int.le_refl _) h2 h.2⟩
theorem QDJ.append {S:List Ext}:∀ {a b:List Cel} {lo m hi:Int},QDJ S a lo m->QDJ S b m hi->QDJ S (a++b) lo hi
 | [],b,lo,m,hi,h1,h2=>QDJ.weak h1 (Int.le_refl _) h2
 | c::r,b,lo,m,hi,h1,h2=>⟨h1.1,QDJ.append h1.2 h2⟩
def QDI {α β:Type} (R:α->β->Prop):List α->List β->Prop
 | [],[]=>True
 | a::l,b::m=>R a b/\QDI R l m
 | _,_=>False
theorem QDI.append {α β:Type} {R:α->β->Prop}:∀ {a:List α} {b:List β} {c:List α} {d:List β},QDI R a b->QDI R c d->QDI R (a++c) (b++d)
 | [],[],_,_,_,h=>h
 | x::a,y::b,c,d,h,h'=>⟨h.1,QDI.append h.2 h'⟩
 | [],_::_,_,_,h,_=>h.elim
 | _::_,[],_,_,h,_=>h.elim
theorem QDI.len {α β:Type} {R:α->β->Prop}:∀ {a:List α} {b:List β},QDI R a b->a.length=b.length
 | [],[],_=>rfl
 | x::a,y::b,h=>by rw [Af,Af,QDI.len h.2]
 | [],_::_,h=>h.elim
 | _::_,[],h=>h.elim
theorem QDI.at {α β:Type} {R:α->β->Prop}:∀ {a:List α} {b:List β},QDI R a b->∀ (j:Nat) (h1:j < a.length) (h2:j < b.length),R a[j] b[j]
 | x::a,y::b,h,0,_,_=>h.1
 | x::a,y::b,h,j+1,h1,h2=>QDI.at h.2 j (by simpa using h1) (by simpa using h2)
 | [],_,_,_,h,_=>by simp at h
 | _::_,[],h,_,_,_=>h.elim
section
variable {l:List dI} (hv:Valid l)
include hv
end
end Go.Proofs.YtbgmjjplddddnaaGreatDoor.K
set_option linter.unusedVariables false
set_option linter.unusedSimpArgs false
set_option maxRecDepth 100000
namespace Go.Proofs.YtbgmjjplddddnaaGreatDoor.K
open Go.Lift
section
variable {l:List dI} (hv:Valid l) {i:Int} {t:dI} (ht:Nk l i=some t) (hk:isC t)
include hv ht hk
end
theorem QLr (n:Int):sI n=some (if n < 0∨n > 1073741824 then (0,2) else (upS n 8,0)):=by
 show yG n=_
 unfold yG
 by_cases h1:n < 0
 ·rw [AB h1,AL,AY (.inl h1)]
 rw [AF h1,AJ]
 by_cases h2:n > 1073741824
 ·rw [AB h2,AL,AY (.inr h2)]
 rw [AF h2,AJ,AX (by omega),QAP (.inr rfl) (by omega) (by omega),AA]
end Go.Proofs.YtbgmjjplddddnaaGreatDoor.K
set_option linter.unusedVariables false
set_option linter.unusedSimpArgs false
set_option maxRecDepth 100000
namespace Go.Proofs.YtbgmjjplddddnaaGreatDoor.K
open Go.Lift
abbrev szs (S:List Ext):List Int:=S.map (·.1)
abbrev als (S:List Ext):List Int:=S.map (·.2.1)
theorem QHO {S:List Ext} {e:Int} (h0:0<=e) (h:e < (S.length:Int)):Nk (szs S) e=some (sz S e):=by
 obtain ⟨k,rfl⟩:=BK h0
 have hk:k < S.length:=by omega
 rw [YI (by simpa using hk)]
 simp [hk,ext,sz,al]
theorem QMe {S:List Ext} {e:Int} (h0:0<=e) (h:e < (S.length:Int)):Nk (als S) e=some (al S e):=by
 obtain ⟨k,rfl⟩:=BK h0
 have hk:k < S.length:=by omega
 rw [YI (by simpa using hk)]
 simp [hk,ext,sz,al]
theorem QK1 {S:List Ext} {e:Int} (h0:0<=e) (h:e < (S.length:Int)):nth (szs S) (Int.toNat e)=some (sz S e):=by
 obtain ⟨k,rfl⟩:=BK h0
 have hk:k < S.length:=by omega
 show (szs S)[k]? = _
 simp [hk,ext,sz,al]
theorem QOu {S:List Ext} {e:Int} (h0:0<=e) (h:e < (S.length:Int)):nth (als S) (Int.toNat e)=some (al S e):=by
 obtain ⟨k,rfl⟩:=BK h0
 have hk:k < S.length:=by omega
 show (als S)[k]? = _
 simp [hk,ext,sz,al]
theorem QGk {S:List Ext} {g:Int->Int} {fs:List tV} (hf:Fits S g fs) (hs:QAo g fs<=900000) (hi:∀ f∈fs,0<=f.2.1/\f.2.1 < S.length) (hl:fs.length<=1000) :
  uE (szs S,als S,fs)=some ((dG S fs).1,(upS (dG S fs).2.1 (dG S fs).2.2,(dG S fs).2.2)):=by
 show ou (Gb (lM big) big) _=_
 unfold ou
 dsimp only
 refine Qi (g:=lM big) (n:=fs.length) (fun (s:List Int×(Int×Int)) (i:Nat)=>(szs S,als S,fs,s.2.1,s.2.2,(i:Int),s.1)) (fun i s=>s=dG S (fs.take i)) (fun r=>r=some ((dG S fs).1,(upS (dG S fs).2.1 (dG S fs).2.2,(dG S fs).2.2))) ?_ ?_
  fs.length 0 big (by simp) (by unfold big;omega) ([],(0,1)) rfl
 ·rintro self s rfl
  have hb:=QAl hf hs (Nat.le_refl _)
  rw [List.take_length] at hb ⊢
  have hu:=QEm (n:=(dG S fs).2.1) hb.2.2
  show iK self _=_
  unfold iK
  dsimp only
  rw [AF (by omega),AJ,QId hb.2.2 hb.1 (by omega),AA,AY (by omega)]
 ·rintro self s i hlt rfl
  left
  refine ⟨_,rfl,?_⟩
  have hb:=QAl hf hs (Nat.le_of_lt hlt)
  have hfi:=hf _ (Ae hlt)
  have hix:=hi _ (Ae hlt)
  have hu:=QEm (n:=(dG S (fs.take i)).2.1) hfi.2.2
  have hb1:=QAl hf hs (show i+1<=fs.length by omega)
  have hlen:=QHm S (fs.take i)
  rw [BJ,Nat.min_eq_left (by omega)] at hlen
  rw [QCw S hlt] at hb1 ⊢
  unfold rD at hb1 ⊢
  dsimp only at hb1 ⊢
  generalize dG S (fs.take i)=T at *
  show iK self _=_
  unfold iK
  dsimp only
  rw [AB (by omega),AL,YI hlt,AA,QMe hix.1 hix.2,AA,QId hfi.2.2 hb.1 (by omega),AA,QJb rfl (by rw [List.length_singleton];omega),AL,QHO hix.1 hix.2,AA,AA]
  rw [XB hlt (by have:=Wy;omega),wrap_i64 (n:=upS T.2.1 (al S fs[i].2.1)+sz S fs[i].2.1) (by omega) (by omega),AY (by omega),QMs]
  rfl
theorem QHI {acc:List Ext} {t:dI} {i n:Int} (h:dJ t i n=true) :
  (t.1=1->fA acc t=(1,(1,())))/\(t.1=3->fA acc t=(16,(8,())))/\(t.1=7->fA acc t=(24,(8,())))/\(t.1=6->fA acc t=(t.2.2.1 * sz acc t.2.1,(al acc t.2.1,())))/\
  (t.1=5->fA acc t=(upS (dG acc t.2.2.2.1).2.1 (dG acc t.2.2.2.1).2.2,((dG acc t.2.2.2.1).2.2,())))/\(t.1≠1->t.1≠3->t.1≠7->t.1≠6->t.1≠5->fA acc t=(8,(8,()))):=by
 have hk:=QID h
 unfold fA
 refine ⟨fun e=>?_,fun e=>?_,fun e=>?_,fun e=>?_,fun e=>?_,fun e1 e2 e3 e4 e5=>?_⟩
 ·rw [AX (by omega),AX (by omega),AX (by omega),AX (by omega),AX (by omega)]
 ·rw [AX (by omega),AY e]
 ·rw [AX (by omega),AX (by omega),AY e]
 ·rw [AX (by omega),AX (by omega),AX (by omega),AY e]
 ·rw [AX (by omega),AX (by omega),AX (by omega),AX (by omega),AY e]
 ·rw [AY (by omega)]
theorem QFV {l:List dI} (hv:Valid l):uf l=some (szs (exS l),als (exS l)):=by
 have hlen:=hv.1
 show vL (Gb (qP big) big) l=_
 unfold vL
 refine Qi (g:=qP big) (n:=l.length) (fun (r:List Int×List Int) (i:Nat)=>(l,(i:Int),r.1,r.2)) (fun i r=>r=(szs (fO (l.take i) []),als (fO (l.take i) []))) (fun q=>q=some (szs (exS l),als (exS l))) ?_ ?_
  l.length 0 big (by simp) (by unfold big;omega) ([],[]) (by simp [fO])
 ·rintro self s rfl
  rw [List.take_length]
  show mU self _=_
  unfold mU
  dsimp only
  rw [AF (by omega),AJ]
  rfl
 ·rintro self s i hi rfl
  left
  refine ⟨_,rfl,?_⟩
  have hl:=QBZ (l:=l) (i:=i) (by omega)
  have hs1:(szs (fO (l.take i) [])).length=i:=by rw [Aw,hl]
  have hs2:(als (fO (l.take i) [])).length=i:=by rw [Aw,hl]
  obtain ⟨k1,k3,k7,k6,k5,k0⟩:=QHI (acc:=fO (l.take i) []) (hv.2.1 i hi)
  have ha6:=fun h6=>QF7 hv hi h6
  have ha5:=fun h5=>QHi hv hi h5
  have hx5:=fun h5=>(pK (hv.2.1 i hi) h5)
  have e0:fO (l.take (i+1)) []=fO (l.take i) []++[fA (fO (l.take i) []) l[i]]:=by rw [Ah hi,yY]
  have e1:szs (fO (l.take (i+1)) [])=szs (fO (l.take i) [])++[(fA (fO (l.take i) []) l[i]).1]:=by rw [e0];simp
  have e2:als (fO (l.take (i+1)) [])=als (fO (l.take i) [])++[(fA (fO (l.take i) []) l[i]).2.1]:=by rw [e0];simp
  rw [e1,e2]
  clear e0 e1 e2
  have hget:=YI hi
  have hsucc:=XB hi (by have:=Wy;omega:l.length<=maxLen)
  have hb1:∀ x:Int,(Nat.ble 1 1&&Nat.ble ((szs (fO (l.take i) [])).length+[x].length) lim)=true:=fun x=>QJb rfl (by rw [List.length_singleton];omega)
  have hb2:∀ x:Int,(Nat.ble 1 1&&Nat.ble ((als (fO (l.take i) [])).length+[x].length) lim)=true:=fun x=>QJb rfl (by rw [List.length_singleton];omega)
  generalize fO (l.take i) []=acc at *
  generalize l[i]=t at *
  show mU self _=_
  unfold mU
  dsimp only
  rw [AB (by omega),AL,hget,AA]
  simp only [hb1,hb2,AL,hsucc]
  by_cases h1:t.1=1
  ·rw [k1 h1,show (t.1==1)=true from AB h1,AL];rfl
  rw [show (t.1==1)=false from AF h1,AJ]
  by_cases h3:t.1=3
  ·rw [k3 h3,show (t.1==3)=true from AB h3,AL];rfl
  rw [show (t.1==3)=false from AF h3,AJ]
  by_cases h7:t.1=7
  ·rw [k7 h7,show (t.1==7)=true from AB h7,AL];rfl
  rw [show (t.1==7)=false from AF h7,AJ]
  by_cases h6:t.1=6
  ·have hx:=ha6 h6
   rw [k6 h6,show (t.1==6)=true from AB h6,AL,AA,AA,AB hx.1.1,AB (by omega),Ai,AL,QK1 hx.1.1 (by omega),AA,AA,AB hx.1.1,AB (show t.2.1 < ((als acc).length:Int) by omega),Ai,AL,QOu hx.1.1 (by omega),AA,wrap_i64 (n:=t.2.2.1 * sz acc t.2.1) (by omega) (by omega),AY (by omega)]
   rfl
  rw [show (t.1==6)=false from AF h6,AJ]
  by_cases h5:t.1=5
  ·obtain ⟨g1,g2⟩:=ha5 h5
   have hx:=hx5 h5
   rw [k5 h5,show (t.1==5)=true from AB h5,AL,AA,QGk g1 g2 (fun f hf=>by have:=hx.2 f hf;omega) (by omega),AA]
   rfl
  rw [show (t.1==5)=false from AF h5,AJ,k0 h1 h3 h7 h6 h5]
  rfl
end Go.Proofs.YtbgmjjplddddnaaGreatDoor.K
