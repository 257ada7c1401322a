import Derived.Test.YtjcnhegjiffgpaaGreatDoorCtT1
set_option linter.unusedVariables false
set_option linter.unusedSimpArgs false
set_option linter.unusedSectionVars false
set_option maxRecDepth 100000
namespace Go.Proofs.YtjcnhegjiffgpaaGreatDoor.K
open Go.Lift
abbrev Qo:=List Int×(Int×Unit)
abbrev ES:=Int×(Int×(Int×(List Qo×Unit)))
theorem QBM {kt vt:Ty} (x y:kt.den) (z v:vt.den):∀ m:List (kt.den×vt.den),bf x z (XP y v m)=bif R3 kt x y then (v,true) else bf x z m
 | []=>rfl
 | p::r=>by
  simp only [XP]
  by_cases h:y=p.1
  ·subst h
   rw [Ud,AL]
   simp only [bf]
   cases R3 kt x p.1 <;> rfl
  ·rw [Oh h,AJ]
   simp only [bf]
   rw [QBM x y z v r]
   by_cases h2:x=p.1
   ·subst h2
    rw [Ud,AL,Oh (λe=>h e.symm),AJ,AL]
   ·rw [Oh h2,AJ,AJ]
def Marks (kt:Ty) (m:List (kt.den×Bool)) (S:kt.den->Prop):Prop:=∀ x,(@bf kt .bool x false m).1=true↔S x
theorem Marks.nil {kt:Ty}:Marks kt [] (λ_=>False):=λx=>by simp [bf]
theorem Marks.put {kt:Ty} {m:List (kt.den×Bool)} {S:kt.den->Prop} (h:Marks kt m S) (y:kt.den):Marks kt (@XP kt .bool y true m) (λx=>x=y\/S x):=by
 intro x
 rw [QBM]
 by_cases e:x=y
 ·subst e;rw [Ud];simp
 ·rw [Oh e,AJ,h x];simp [e]
def Fq (x n:Int):Bool:=decide (0<=x)&&decide (x < n)
theorem Uq {x n:Int}:Fq x n=true↔0<=x/\x < n:=by simp [Fq]
def iK (c:Int):Bool:=(decide (97<=c)&&decide (c<=122))||(decide (65<=c)&&decide (c<=90))
def QDa (c:Int):Bool:=decide (48<=c)&&decide (c<=57)
def Ej (s:List Int):Bool:=match s with
 | []=>false
 | c::_=>decide (s.length<=16)&&(iK c&&s.all λc=>iK c||QDa c)
theorem YA (x n:Int):CK (x,n)=some (Fq x n):=by
 show U9 (x,n)=_
 unfold U9 Fq
 dsimp only
 by_cases h:0<=x
 ·rw [AB (show x>=0 from h)];rfl
 ·rw [AF (show ¬ x>=0 from h)];rfl
theorem mM (c:Int):J9 c=some (iK c):=by
 show TJ c=_
 unfold TJ iK
 simp only [ge_iff_le]
 cases decide (97<=c) <;> cases decide (c<=122) <;> cases decide (65<=c) <;> cases decide (c<=90) <;> rfl
theorem QDm (c:Int):O8 c=some (QDa c):=by
 show U8 c=_
 unfold U8 QDa
 simp only [ge_iff_le]
 cases decide (48<=c) <;> cases decide (c<=57) <;> rfl
theorem kG {β:Type} (p:β->Bool):∀ l:List β,XB (λx (s:Unit) k=>bif p x then k s else some false) (λ_=>some true) l ()=some (l.all p)
 | []=>rfl
 | x::r=>by
  simp only [XB,List.all_cons]
  cases p x with
  | true=>exact kG p r
  | false=>rfl
theorem qO (s:List Int):O6 s=some (Ej s):=by
 show QK (BP (Lh big) big) s=_
 unfold QK
 cases s with
 | nil=>rfl
 | cons c r=>
  rw [Oh (by simp),AJ]
  by_cases h:(c::r).length<=16
  ·rw [AF (by omega),AJ]
   have h0:BX (c::r) (0:Int)=some c:=rfl
   rw [h0,AA,mM,AA]
   simp only [Ej]
   rw [AB h,Ai]
   cases hc:iK c with
   | false=>rfl
   | true=>
    rw [A8,AJ,Ai]
    have:=UM (g:=Lh big) (xs:=c::r) (λ(_:Unit) (i:Nat)=>(c::r,((c::r).length:Int),(i:Int))) (λx s k=>bif (iK x||QDa x) then k s else some false) (λ_=>some true)
     (λself s=>by
      show L9 self _=_
      unfold L9
      dsimp only
      rw [AF (by omega),AJ])
     (λself s i hi=>by
      show L9 self _=_
      unfold L9
      dsimp only
      rw [AB (by omega),AL,CV hi,AA,mM,AA,AA,QDm,AA]
      rw [CY hi (by have:=Bw;omega)]
      cases iK (c::r)[i] <;> cases QDa (c::r)[i] <;> rfl)
     (c::r).length 0 big (by simp) (by unfold big;omega) ()
    rw [List.drop_zero,kG] at this
    exact this
  ·rw [AB (by omega),AL]
   simp only [Ej]
   rw [AF h];rfl
def qY (fs:List Qo) (n:Int):Bool:=decide (1<=fs.length/\fs.length<=8)&&(fs.all (λf=>Ej f.1)&&(decide ((fs.map (·.1)).Nodup)&&fs.all λf=>Fq f.2.1 n))
theorem dD (n:Int):∀ (fs:List Qo) (m:List (List Int×Bool)) (S:List Int->Prop),Marks .str m S->∃ b,XB (λ(f:Qo) m k=>bif Ej f.1 then (bif (@bf .str .bool f.1 false m).1 then some false else (bif Fq f.2.1 n then k (@XP .str .bool f.1 true m) else some false)) else some false) (λ_=>some true) fs m=some b/\
  (b=true↔(∀ f∈fs,Ej f.1=true/\Fq f.2.1 n=true/\¬ S f.1)/\(fs.map (·.1)).Nodup)
 | [],m,S,_=>⟨true,rfl,by simp⟩
 | f::r,m,S,h=>by
  simp only [XB]
  cases h1:Ej f.1 with
  | false=>exact ⟨false,rfl,by simp [h1]⟩
  | true=>
   rw [AL]
   cases h2:(@bf .str .bool f.1 false m).1 with
   | true=>exact ⟨false,rfl,by simp [(h f.1).1 h2]⟩
   | false=>
    rw [AJ]
    have h2':¬ S f.1:=λhs=>by rw [(h f.1).2 hs] at h2;cases h2
    cases h3:Fq f.2.1 n with
    | false=>exact ⟨false,rfl,by simp [h3]⟩
    | true=>
     rw [AL]
     obtain ⟨b,e,hb⟩:=dD n r _ _ (h.put f.1)
     refine ⟨b,e,hb.trans ?_⟩
     simp only [List.mem_cons,forall_eq_or_imp,List.map_cons,List.nodup_cons,List.mem_map,not_exists,not_and,not_or]
     constructor
     ·rintro ⟨g1,g2⟩
      exact ⟨⟨⟨h1,h3,h2'⟩,λx hx=>⟨(g1 x hx).1,(g1 x hx).2.1,(g1 x hx).2.2.2⟩⟩,λx hx e=>(g1 x hx).2.2.1 e,g2⟩
     ·rintro ⟨⟨_,g1⟩,g2,g3⟩
      exact ⟨λx hx=>⟨(g1 x hx).1,(g1 x hx).2.1,λe=>g2 x hx e,(g1 x hx).2.2⟩,g3⟩
theorem QBG (fs:List Qo) (n:Int):Er (fs,n)=some (qY fs n):=by
 show KS (BP (FV big) big) (fs,n)=_
 unfold KS qY
 dsimp only
 by_cases h1:fs.length < 1
 ·rw [AB (by omega),AL,AF (by omega)];rfl
 rw [AF (by omega),AJ]
 by_cases h2:fs.length > 8
 ·rw [AB (by omega),AL,AF (by omega)];rfl
 rw [AF (by omega),AJ]
 have:=UM (g:=FV big) (xs:=fs) (λ(m:List (List Int×Bool)) (i:Nat)=>(n,fs,(fs.length:Int),(i:Int),m)) (λf m k=>bif Ej f.1 then (bif (@bf .str .bool f.1 false m).1 then some false else (bif Fq f.2.1 n then k (@XP .str .bool f.1 true m) else some false)) else some false) (λ_=>some true)
  (λself s=>by
   show Ht self _=_
   unfold Ht
   dsimp only
   rw [AF (by omega),AJ])
  (λself s i hi=>by
   show Ht self _=_
   unfold Ht
   dsimp only
   rw [AB (by omega),AL,CV hi,AA,qO,AA,YA,AA]
   rw [CY hi (by have:=Bw;omega)]
   cases Ej fs[i].1 <;> cases (@bf .str .bool fs[i].1 false s).1 <;> cases Fq fs[i].2.1 n <;> rfl)
  fs.length 0 big (by simp) (by unfold big;omega) []
 obtain ⟨b,e,hb⟩:=dD n fs [] _ Marks.nil
 rw [List.drop_zero,e] at this
 have this:BP (FV big) big (n,fs,(fs.length:Int),0,[])=some b:=this
 rw [this,AB (by omega),Ai]
 congr 1
 rw [Bool.eq_iff_iff,hb]
 simp only [AP,AZ,List.all_eq_true,not_false_eq_true,and_true]
 exact ⟨λh=>⟨λf hf=>(h.1 f hf).1,h.2,λf hf=>(h.1 f hf).2⟩,λh=>⟨λf hf=>⟨h.1 f hf,h.2.2 f hf⟩,h.2.1⟩⟩
def EB (t:ES) (i n:Int):Bool:=
 if t.1=1\/t.1=2\/t.1=3 then decide (t.2.1=0)&&(decide (t.2.2.1=0)&&decide (t.2.2.2.1.length=0))
 else if t.1=4\/t.1=7 then Fq t.2.1 n&&(decide (t.2.2.1=0)&&decide (t.2.2.2.1.length=0))
 else if t.1=6 then Fq t.2.1 i&&(decide (1<=t.2.2.1/\t.2.2.1<=16)&&decide (t.2.2.2.1.length=0))
 else if t.1=5 then decide (t.2.1=0)&&(decide (t.2.2.1=0)&&qY t.2.2.2.1 i)
 else false
theorem QZU {α:Type} (l:List α):((l.length:Int)==0)=decide (l.length=0):=by
 by_cases h:l.length=0
 ·rw [h];rfl
 ·rw [AF h];simp;intro e;exact h (by rw [e];rfl)
theorem VY (a b:Int):(a==b)=decide (a=b):=rfl
theorem rZ (t:ES) (i n:Int):O7 (t,i,n)=some (EB t i n):=by
 show U7 (t,i,n)=_
 unfold U7 EB
 simp only [YA,QBG,QZU,AA]
 obtain ⟨k,e,l,fs,u⟩:=t
 dsimp only
 simp only [VY,ge_iff_le]
 generalize qY fs i=A
 generalize Fq e n=B
 generalize Fq e i=C
 generalize decide (fs.length=0)=D
 generalize decide (e=0)=E
 generalize decide (l=0)=F
 have hG:decide (1<=l/\l<=16)=(decide (1<=l)&&decide (l<=16)):=by by_cases h:1<=l <;> by_cases h':l<=16 <;> simp [h,h']
 rw [hG]
 generalize decide (1<=l)=G
 generalize decide (l<=16)=H
 by_cases h1:k=1
 ·subst h1;simp;cases A <;> cases B <;> cases C <;> cases D <;> cases E <;> cases F <;> cases G <;> cases H <;> rfl
 by_cases h2:k=2
 ·subst h2;simp;cases A <;> cases B <;> cases C <;> cases D <;> cases E <;> cases F <;> cases G <;> cases H <;> rfl
 by_cases h3:k=3
 ·subst h3;simp;cases A <;> cases B <;> cases C <;> cases D <;> cases E <;> cases F <;> cases G <;> cases H <;> rfl
 by_cases h4:k=4
 ·subst h4;simp;cases A <;> cases B <;> cases C <;> cases D <;> cases E <;> cases F <;> cases G <;> cases H <;> rfl
 by_cases h5:k=5
 ·subst h5;simp;cases A <;> cases B <;> cases C <;> cases D <;> cases E <;> cases F <;> cases G <;> cases H <;> rfl
 by_cases h6:k=6
 ·subst h6;simp;cases A <;> cases B <;> cases C <;> cases D <;> cases E <;> cases F <;> cases G <;> cases H <;> rfl
 by_cases h7:k=7
 ·subst h7;simp;cases A <;> cases B <;> cases C <;> cases D <;> cases E <;> cases F <;> cases G <;> cases H <;> rfl
 simp [h1,h2,h3,h4,h5,h6,h7]
theorem aL {t:ES} {i n:Int} (h:EB t i n=true) (hk:t.1=4\/t.1=7):0<=t.2.1/\t.2.1 < n:=by
 unfold EB at h
 rw [AX (by omega),AY hk] at h
 simp only [AP] at h
 exact Uq.1 h.1
theorem Qv {t:ES} {i n:Int} (h:EB t i n=true) (hk:t.1=6):0<=t.2.1/\t.2.1 < i/\1<=t.2.2.1/\t.2.2.1<=16:=by
 unfold EB at h
 rw [AX (by omega),AX (by omega),AY hk] at h
 simp only [AP,AZ] at h
 have:=Uq.1 h.1
 exact ⟨this.1,this.2,h.2.1⟩
theorem Oe {t:ES} {i n:Int} (h:EB t i n=true) (hk:t.1=5):(1<=t.2.2.2.1.length/\t.2.2.2.1.length<=8)/\∀ f∈t.2.2.2.1,0<=f.2.1/\f.2.1 < i:=by
 unfold EB at h
 rw [AX (by omega),AX (by omega),AX (by omega),AY hk] at h
 simp only [AP,AZ,qY,List.all_eq_true] at h
 exact ⟨h.2.2.1,λf hf=>Uq.1 (h.2.2.2.2.2 f hf)⟩
theorem dZ {t:ES} {i n:Int} (h:EB t i n=true) (hk:t.1≠5):t.2.2.2.1=[]:=by
 unfold EB at h
 have e:∀ {l:List Qo},decide (l.length=0)=true->l=[]:=λh=>Ar (of_decide_eq_true h)
 split at h
 ·simp only [AP] at h;exact e h.2.2
 split at h
 ·simp only [AP] at h;exact e h.2.2
 split at h
 ·simp only [AP] at h;exact e h.2.2
 ·simp [hk] at h
theorem QDT {t:ES} {i n:Int} (h:EB t i n=true):1<=t.1/\t.1<=7:=by
 unfold EB at h
 split at h
 ·omega
 split at h
 ·omega
 split at h
 ·omega
 split at h
 ·omega
 ·cases h
def Dj (t:ES):List Int:=if t.1=6 then [t.2.1] else if t.1=5 then t.2.2.2.1.map (·.2.1) else []
def QRH (t:ES):List Int:=if t.1=4\/t.1=7 then [t.2.1] else Dj t
def cap (w:Int):Int:=if 5001 < w then 5001 else w
def Yy (acc:List Int) (fs:List Qo):Int:=(fs.map λf=>acc.getD f.2.1.toNat 0).sum
def Oo (less acc:List Int) (t:ES):Int:=
 if t.1=4 then 1+less.getD t.2.1.toNat 0
 else if t.1=7 then 1+16 * less.getD t.2.1.toNat 0
 else if t.1=6 then 1+t.2.2.1 * acc.getD t.2.1.toNat 0
 else if t.1=5 then 1+Yy acc t.2.2.2.1
 else 1
def Ws (less:List Int):List ES->List Int->List Int
 | [],acc=>acc
 | t::r,acc=>Ws less r (acc++[cap (Oo less acc t)])
def yO (l:List Int):Prop:=∀ x∈l,0<=x/\x<=5001
theorem yO.getD {l:List Int} (h:yO l) (i:Nat):0<=l.getD i 0/\l.getD i 0<=5001:=by
 by_cases hi:i < l.length
 ·rw [Ad,AU hi]
  exact h _ (Ae hi)
 ·rw [Ad,Aw (by omega)]
  simp
theorem QBT {w:Int} (h:0<=w):0<=cap w/\cap w<=5001:=by unfold cap;split <;> omega
theorem Yd {acc:List Int} (h:yO acc):∀ fs:List Qo,0<=Yy acc fs/\Yy acc fs<=5001 * fs.length
 | []=>by simp [Yy]
 | f::r=>by
  have h1:=Yd h r
  have h2:=h.getD f.2.1.toNat
  simp only [Yy,List.map_cons,List.sum_cons,Af] at h1 ⊢
  omega
theorem QHi (acc:List Int) (fs:List Qo) (f:Qo):Yy acc (fs++[f])=Yy acc fs+acc.getD f.2.1.toNat 0:=by simp [Yy]
theorem QFk {a b:Int} (h0:1<=a) (h1:a<=16) (h2:0<=b) (h3:b<=5001):0<=a * b/\a * b<=80016:=by
 constructor
 ·exact Int.mul_nonneg (by omega) h2
 ·have:=Int.mul_le_mul h1 h3 h2 (by omega:(0:Int)<=16)
  omega
theorem uo {less acc:List Int} {t:ES} {i n:Int} (hl:yO less) (ha:yO acc) (h:EB t i n=true):0<=Oo less acc t/\Oo less acc t<=100000:=by
 unfold Oo
 have h1:=hl.getD t.2.1.toNat
 have h2:=ha.getD t.2.1.toNat
 split
 ·omega
 split
 ·omega
 split
 ·rename_i h6
  have h3:=Qv h h6
  have:=QFk h3.2.2.1 h3.2.2.2 h2.1 h2.2
  omega
 split
 ·rename_i h5
  have h3:=Oe h h5
  have:=Yd ha t.2.2.2.1
  omega
 ·omega
theorem aG (less:List Int):∀ (l:List ES) (t:ES) (acc:List Int),Ws less (l++[t]) acc=Ws less l acc++[cap (Oo less (Ws less l acc) t)]
 | [],t,acc=>rfl
 | u::r,t,acc=>aG less r t _
theorem jP (less:List Int):∀ (l:List ES) (acc:List Int),(Ws less l acc).length=acc.length+l.length
 | [],acc=>rfl
 | u::r,acc=>by rw [Ws,jP];simp;omega
def Built (l:List ES):Prop:=∀ i (h:i < l.length),EB l[i] (i:Int) (l.length:Int)=true
theorem jQ {l:List ES} (hb:Built l) {less:List Int} (hl:yO less):∀ i,i<=l.length->yO (Ws less (l.take i) [])
 | 0,_=>by intro x hx;simp [Ws] at hx
 | i+1,hi=>by
  have ih:=jQ hb hl i (by omega)
  rw [Ah (by omega),aG]
  intro x hx
  rcases List.mem_append.1 hx with hx | hx
  ·exact ih x hx
  ·simp at hx
   subst hx
   exact QBT (uo hl ih (hb i (by omega))).1
theorem rR {a b:List Int} {e:Int} (h0:0<=e) (h:e < (a.length:Int)):(a++b).getD e.toNat 0=a.getD e.toNat 0:=by
 rw [Ad,Ad,Ao (by omega)]
theorem wV {a:List Int} {e:Int} (h0:0<=e) (h:e < (a.length:Int)):BX a e=some (a.getD e.toNat 0):=by
 obtain ⟨k,rfl⟩:=BL h0
 have hk:k < a.length:=by omega
 rw [CV hk]
 simp [hk]
theorem Zk {a:List Int} {e:Int} (h0:0<=e) (h:e < (a.length:Int)):nth a (Int.toNat e)=some (a.getD e.toNat 0):=by
 obtain ⟨k,rfl⟩:=BL h0
 have hk:k < a.length:=by omega
 show a[k]? = _
 simp [hk]
theorem QBD {a b:Int} (h0 : -9223372036854775808<=a+b) (h1:a+b<=9223372036854775807):IntKind.i64.wrap (a+b)=a+b:=wrap_i64 h0 h1
theorem yt (w:Int):(if (5001:Int) < w then (5001:Int) else w)=cap w:=rfl
theorem QEf {l:List ES} (hlen:l.length<=40) (hb:Built l) {less:List Int} (hl:yO less) (hll:less.length=l.length):UZ (l,less)=some (Ws less l []):=by
 show QL _ (BP (Ms _ big) big) (l,less)=_
 unfold QL
 dsimp only
 rw [AB (by omega),AB (by omega),AB (by omega)]
 simp only [Bool.and_true,AL]
 refine Bg (g:=Ms (λ_=>List.replicate) big) (n:=l.length) (λ(r:List Int) (i:Nat)=>(less,l,(l.length:Int),(i:Int),r)) (λi r=>r=Ws less (l.take i) []++List.replicate (l.length - i) 0) (λr=>r=some (Ws less l [])) ?_ ?_
  l.length 0 big (by simp) (by unfold big;omega) _ (by simp [Ws])
 ·rintro self s rfl
  show GL _ _ self _=_
  unfold GL
  dsimp only
  rw [AF (by omega),AJ]
  simp
 ·rintro self s i hi rfl
  left
  refine ⟨_,rfl,?_⟩
  have hw:=jQ hb hl i (by omega)
  have hwl:(Ws less (l.take i) []).length=i:=by rw [jP];simp;omega
  have hsl:(Ws less (l.take i) []++List.replicate (l.length - i) 0).length=l.length:=by simp [hwl];omega
  have hbd:=uo hl hw (hb i hi)
  have hset:∀ v:Int,(Ws less (l.take i) []++List.replicate (l.length - i) 0).set i v=Ws less (l.take i) []++[v]++List.replicate (l.length - (i+1)) 0:=by
   intro v
   rw [show l.length - i=(l.length - (i+1))+1 by omega,List.replicate_succ,List.set_append_right _ _ (by omega),hwl,Nat.sub_self,List.set_cons_zero,Ab]
   rfl
  have hgo:Ws less (l.take (i+1)) []=Ws less (l.take i) []++[cap (Oo less (Ws less (l.take i) []) l[i])]:=by
   rw [Ah hi,aG]
  have hbi:=hb i hi
  rw [hgo]
  show GL _ _ self _=_
  unfold GL
  dsimp only
  rw [AB (by omega),AL,CV hi,AA]
  have hin:(decide (0<=(i:Int))&&decide ((i:Int) < ((Ws less (l.take i) []++List.replicate (l.length - i) 0).length:Int)))=true:=by
   rw [AB (by omega),AB (by omega)];rfl
  have hsucc:=CY hi (by have:=Bw;omega:l.length<=maxLen)
  simp only [hin,AL,Aj,hset,hsucc]
  generalize hacc:Ws less (l.take i) []=acc at *
  generalize htt:l[i]=t at *
  have hlw:=hl.getD t.2.1.toNat
  have haw:=hw.getD t.2.1.toNat
  by_cases h4:t.1=4
  ·have hp:=aL hbi (.inl h4)
   rw [h4,show ((4:Int)==4)=true from rfl,AL,wV hp.1 (by omega),AA]
   rw [QBD (by omega) (by omega),yt]
   unfold Oo
   rw [AY h4]
  have e4:(t.1==4)=false:=AF h4
  rw [e4,AJ]
  by_cases h7:t.1=7
  ·have hp:=aL hbi (.inr h7)
   rw [h7,show ((7:Int)==7)=true from rfl,AL,wV hp.1 (by omega),AA]
   rw [wrap_i64 (n:=16 * _) (by omega) (by omega),QBD (by omega) (by omega),yt]
   unfold Oo
   rw [AX h4,AY h7]
  have e7:(t.1==7)=false:=AF h7
  rw [e7,AJ]
  by_cases h6:t.1=6
  ·have hp:=Qv hbi h6
   rw [h6,show ((6:Int)==6)=true from rfl,AL]
   rw [AB (by omega),AB (by omega),Ai,AL,Zk hp.1 (by omega),AA,rR hp.1 (by omega)]
   have hm:=QFk hp.2.2.1 hp.2.2.2 haw.1 haw.2
   rw [wrap_i64 (n:=t.2.2.1 * _) (by omega) (by omega),QBD (by omega) (by omega),yt]
   unfold Oo
   rw [AX h4,AX h7,AY h6]
  have e6:(t.1==6)=false:=AF h6
  rw [e6,AJ]
  by_cases h5:t.1=5
  ·have hp:=Oe hbi h5
   rw [h5,show ((5:Int)==5)=true from rfl,AL]
   refine Bg (g:=Q5 (λ_=>List.replicate) big self) (n:=t.2.2.2.1.length) (λ(w:Int) (j:Nat)=>(less,(i:Int),w,l,(l.length:Int),(i:Int),t.2.2.2.1,(t.2.2.2.1.length:Int),(j:Int),acc++List.replicate (l.length - i) 0)) (λj w=>w=1+Yy acc (t.2.2.2.1.take j)) (λr=>r=self (less,l,(l.length:Int),((i+1:Nat):Int),acc++[cap (Oo less acc t)]++List.replicate (l.length - (i+1)) 0)) ?_ ?_
    t.2.2.2.1.length 0 big (by simp) (by unfold big;omega) _ (by simp [Yy])
   ·rintro BQ s rfl
    show JM _ self BQ _=_
    unfold JM
    dsimp only
    rw [AF (by omega),AJ]
    simp only [hin,AL,Aj,hset,hsucc,yt]
    rw [List.take_length]
    unfold Oo
    rw [AX h4,AX h7,AX h6,AY h5]
   ·rintro BQ s j hj rfl
    left
    refine ⟨_,rfl,?_⟩
    have hf:=hp.2 t.2.2.2.1[j] (Ae hj)
    have hs:=Yd hw (t.2.2.2.1.take j)
    have hfw:=hw.getD t.2.2.2.1[j].2.1.toNat
    have htl:(t.2.2.2.1.take j).length<=8:=by simp;omega
    show JM _ self BQ _=_
    unfold JM
    dsimp only
    rw [AB (by omega),AL,CV hj,AA]
    rw [AB (by omega),AB (by omega),Ai,AL,Zk hf.1 (by omega),AA,rR hf.1 (by omega),CY hj (by have:=Bw;omega),QBD (by omega) (by omega)]
    rw [Ah hj,QHi,Int.add_assoc]
  ·have e5:(t.1==5)=false:=AF h5
   rw [e5,AJ]
   show self (less,l,(l.length:Int),((i+1:Nat):Int),acc++[_]++_)=_
   unfold Oo
   rw [AX h4,AX h7,AX h6,AX h5]
   rfl
def wN (l:List ES):Nat->List Int
 | 0=>List.replicate l.length 0
 | n+1=>Ws (wN l n) l []
theorem jR {l:List ES} (hb:Built l):∀ n,yO (wN l n)/\(wN l n).length=l.length
 | 0=>⟨λx hx=>by simp [wN] at hx;omega,by simp [wN]⟩
 | n+1=>by
  have ih:=jR hb n
  have:=jQ hb ih.1 l.length (Nat.le_refl _)
  rw [List.take_length] at this
  exact ⟨this,by rw [wN,jP];simp⟩
theorem QHq {l:List ES} (hlen:l.length<=40) (hb:Built l):WG l=some (wN l 4):=by
 show Rv _ (BP (OL _ big) big) l=_
 unfold Rv
 rw [AB (by omega),AB (by omega),AB (by omega)]
 simp only [Bool.and_true,AL]
 refine Bg (g:=OL (λ_=>List.replicate) big) (n:=4) (λ(r:List Int) (i:Nat)=>(l,(i:Int),r)) (λi r=>r=wN l i) (λr=>r=some (wN l 4)) ?_ ?_
  4 0 big (by simp) (by unfold big;omega) _ (by simp [wN])
 ·rintro self s rfl
  rfl
 ·rintro self s i hi rfl
  left
  refine ⟨_,rfl,?_⟩
  show TA _ self _=_
  unfold TA
  dsimp only
  rw [AB (by omega),AL,QEf hlen hb (jR hb i).1 (jR hb i).2,AA,CY hi (by have:=Bw;omega)]
  rfl
theorem QJP (l:List Int) (y:Int) (hl:l.length<=1000):∃ j,Kr (l,y)=some j/\(0<=j↔y∈l):=by
 show ∃ j,FB (BP (EL big) big) (l,y)=some j/\_
 unfold FB
 refine Bg (g:=EL big) (n:=l.length) (λ(_:Unit) (i:Nat)=>(l,y,(l.length:Int),(i:Int))) (λi _=>y ∉ l.take i) (λr=>∃ j,r=some j/\(0<=j↔y∈l)) ?_ ?_
  l.length 0 big (by simp) (by unfold big;omega) () (by simp)
 ·intro self s h
  refine ⟨-1,?_,?_⟩
  ·show Cr self _=_
   unfold Cr
   dsimp only
   rw [AF (by omega),AJ]
  ·rw [List.take_length] at h
   simp [h]
 ·intro self s i hi h
  by_cases e:y=l[i]
  ·right
   refine ⟨i,?_,by simp only [Int.natCast_nonneg,true_iff];rw [e];exact Ae hi⟩
   show Cr self _=_
   unfold Cr
   dsimp only
   rw [AB (by omega),AL,CV hi,AA,show (y==l[i])=true from AB e,AL]
  ·left
   refine ⟨(),?_,?_⟩
   ·rw [Ah hi]
    intro hm
    rcases List.mem_append.1 hm with hm | hm
    ·exact h hm
    ·exact e (List.mem_singleton.1 hm)
   ·show Cr self _=_
    unfold Cr
    dsimp only
    rw [AB (by omega),AL,CV hi,AA,show (y==l[i])=false from AF e,AJ,CY hi (by have:=Bw;omega)]
theorem lV (l:List Int) (y:Int) (hl:l.length<=1000):Dz (l,y)=some (decide (y∈l)):=by
 show Ie (l,y)=_
 unfold Ie
 obtain ⟨j,h1,h2⟩:=QJP l y hl
 rw [h1,AA]
 congr 1
 rw [Bool.eq_iff_iff,AZ,AZ]
 exact h2
def Valid (l:List ES):Prop:=l.length<=32/\Built l/\(5001:Int) ∉ wN l 4
instance (l:List ES):Decidable (Built l):=by unfold Built;infer_instance
instance (l:List ES):Decidable (Valid l):=by unfold Valid;infer_instance
theorem Wv (l:List ES):Xt l=some (if Valid l then 0 else 8):=by
 show QJ (BP (Lg big) big) l=_
 unfold QJ
 by_cases h:l.length<=32
 ·rw [AF (by omega),AJ]
  refine Bg (g:=Lg big) (n:=l.length) (λ(_:Unit) (i:Nat)=>(l,l,(l.length:Int),(i:Int))) (λi _=>∀ j (h:j < l.length),j < i->EB l[j] j l.length=true) (λr=>r=some (if Valid l then 0 else 8)) ?_ ?_
   l.length 0 big (by simp) (by unfold big;omega) () (by intro j _ h;omega)
  ·intro self s hb
   have hb':Built l:=λi hi=>hb i hi hi
   show Gg self _=_
   unfold Gg
   dsimp only
   rw [AF (by omega),AJ,QHq (by omega) hb',AA,lV _ _ (by rw [(jR hb' 4).2];omega),AA]
   by_cases hm:(5001:Int)∈wN l 4
   ·rw [AB hm,AL,AX λhv=>hv.2.2 hm]
   ·rw [AF hm,AJ,AY ⟨h,hb',hm⟩]
  ·intro self s i hi hb
   cases hbi:EB l[i] (i:Int) (l.length:Int) with
   | false=>
    right
    show Gg self _=_
    unfold Gg
    dsimp only
    rw [AB (by omega),AL,CV hi,AA,rZ,AA,hbi,A9,AL,AX λhv=>by rw [hv.2.1 i hi] at hbi;cases hbi]
   | true=>
    left
    refine ⟨(),λj hj hji=>?_,?_⟩
    ·by_cases e:j=i
     ·subst e;exact hbi
     ·exact hb j hj (by omega)
    ·show Gg self _=_
     unfold Gg
     dsimp only
     rw [AB (by omega),AL,CV hi,AA,rZ,AA,hbi,A8,AJ,CY hi (by have:=Bw;omega)]
 ·rw [AB (by omega),AL,AX λhv=>h hv.1]
def Ixs (n:Int) (l:List Int):Prop:=∀ x∈l,0<=x/\x < n
theorem tV {l:List ES} (hb:Built l) {i:Nat} (hi:i < l.length):Ixs i (Dj l[i]):=by
 intro x hx
 have h:=hb i hi
 unfold Dj at hx
 split at hx
 ·rename_i h6
  have:=Qv h h6
  simp at hx
  subst hx
  exact ⟨this.1,this.2.1⟩
 split at hx
 ·rename_i h5
  obtain ⟨f,hf,rfl⟩:=List.mem_map.1 hx
  exact (Oe h h5).2 f hf
 ·simp at hx
theorem ql {t:ES} {i n:Int} (h:EB t i n=true):t.2.2.2.1.length<=8:=by
 by_cases h5:t.1=5
 ·exact (Oe h h5).1.2
 ·rw [dZ h h5];simp
theorem QHM {t:ES} {i n:Int} (h:EB t i n=true):(Dj t).length<=8:=by
 have:=ql h
 unfold Dj
 split
 ·simp
 split
 ·simpa using this
 ·simp
def Deep (n:Int) (l:List Int):Prop:=∀ x∈l,0<=x/\x<=n
theorem Deep.getD {n:Int} {l:List Int} (hn:0<=n) (h:Deep n l) (i:Nat):0<=l.getD i 0/\l.getD i 0<=n:=by
 by_cases hi:i < l.length
 ·rw [Ad,AU hi]
  exact h _ (Ae hi)
 ·rw [Ad,Aw (by omega)]
  simpa using hn
theorem QLM (a b:Int):(if b > a then b else a)=max a b:=by omega
def un (kt:Ty) (ks:List kt.den) (m:List (kt.den×Bool)):Nat:=(ks.filter λk=>!(@bf kt .bool k false m).1).length
inductive Rch (l:List ES) (ways:ES->List Int) (i:Int):Int->Prop
 | self:Rch l ways i i
 | step {x y:Int} (t:ES):Rch l ways i x->BX l x=some t->y∈ways t->Rch l ways i y
theorem Rch.trans {l:List ES} {ways:ES->List Int} {i j k:Int} (h:Rch l ways i j) (h':Rch l ways j k):Rch l ways i k:=by
 induction h' with
 | self=>exact h
 | step t _ h1 h2 ih=>exact .step t ih h1 h2
theorem UG {α:Type} {l:List α} {x:Int} {t:α} (h:BX l x=some t):0<=x/\x < l.length/\∃ (hx:x.toNat < l.length),t=l[x.toNat]:=by
 unfold BX at h
 by_cases h0:0<=x
 ·rw [AB h0] at h
  simp only [AL] at h
  have h':l[x.toNat]? = some t:=h
  obtain ⟨h1,h2⟩:=Aq.1 h'
  exact ⟨h0,by omega,h1,h2.symm⟩
 ·rw [AF h0] at h
  cases h
theorem FH {l:List ES} {x:Int} (h0:0<=x) (h1:x < l.length):∃ t,BX l x=some t:=by
 obtain ⟨k,rfl⟩:=BL h0
 exact ⟨_,CV (by omega)⟩
theorem QLD:1000000<=lim:=by decide
inductive Pch (l:List ES) (a b:Int):Int->Int->Prop
 | self:Pch l a b a b
 | step {x y x' y':Int} (t u:ES) (j:Nat):Pch l a b x y->BX l x=some t->BX l y=some u->(QRH t)[j]? = some x'->(QRH u)[j]? = some y'->Pch l a b x' y'
theorem Pch.trans {l:List ES} {a b c d e f:Int} (h:Pch l a b c d) (h':Pch l c d e f):Pch l a b e f:=by
 induction h' with
 | self=>exact h
 | step t u j _ h1 h2 h3 h4 ih=>exact .step t u j ih h1 h2 h3 h4
theorem uD (c:Int):Nb c=some (iK c):=by
 show Wd c=_
 unfold Wd iK
 simp only [ge_iff_le]
 cases decide (97<=c) <;> cases decide (c<=122) <;> cases decide (65<=c) <;> cases decide (c<=90) <;> rfl
theorem bS (s:List Int):TY s=some (Ej s):=by
 show QS (BP (Li big) big) s=_
 unfold QS
 cases s with
 | nil=>rfl
 | cons c r=>
  rw [AF (by simp;omega),AJ]
  by_cases h:(c::r).length<=16
  ·rw [AF (by omega),AJ]
   have h0:BX (c::r) (0:Int)=some c:=rfl
   rw [h0,AA,uD,AA]
   simp only [Ej]
   rw [AB h,Ai]
   cases hc:iK c with
   | false=>rfl
   | true=>
    rw [A8,AJ,Ai]
    have:=UM (g:=Li big) (xs:=c::r) (λ(_:Unit) (i:Nat)=>(c::r,(i:Int))) (λx s k=>bif (iK x||QDa x) then k s else some false) (λ_=>some true)
     (λself s=>by
      show ME self _=_
      unfold ME
      dsimp only
      rw [AF (by omega),AJ])
     (λself s i hi=>by
      show ME self _=_
      unfold ME
      dsimp only
      rw [AB (by omega),AL,CV hi,AA,uD,AA,AA,AA]
      rw [CY hi (by have:=Bw;omega)]
      unfold QDa
      by_cases h1:(c::r)[i] < 48
      ·rw [AB h1,AF (by omega:¬ 48<=(c::r)[i])]
       cases iK (c::r)[i] <;> rfl
      ·rw [AF h1,AB (by omega:48<=(c::r)[i])]
       by_cases h2:(c::r)[i] > 57
       ·rw [AB h2,AF (by omega:¬ (c::r)[i]<=57)]
        cases iK (c::r)[i] <;> rfl
       ·rw [AF h2,AB (by omega:(c::r)[i]<=57)]
        cases iK (c::r)[i] <;> rfl)
     (c::r).length 0 big (by simp) (by unfold big;omega) ()
    rw [List.drop_zero,kG] at this
    exact this
  ·rw [AB (by omega),AL]
   simp only [Ej]
   rw [AF h];rfl
theorem VA {l:List (List Int)} {i:Nat} (hi:i < l.length):(l.take (i+1)).Nodup↔(l.take i).Nodup/\∀ k (hk:k < i),l[k]≠l[i]:=by
 rw [Ah hi,List.nodup_append]
 simp only [List.nodup_cons,List.not_mem_nil,not_false_eq_true,List.nodup_nil,and_self,List.mem_singleton,forall_eq,true_and]
 constructor
 ·rintro ⟨h1,h2⟩
  refine ⟨h1,λk hk e=>h2 l[k] ?_ e⟩
  exact List.mem_take_iff_getElem.2 ⟨k,by omega,rfl⟩
 ·rintro ⟨h1,h2⟩
  refine ⟨h1,λa ha e=>?_⟩
  obtain ⟨k,hk,rfl⟩:=List.mem_take_iff_getElem.1 ha
  exact h2 k (by omega) e
theorem QED (fs:List Qo):Na (fs,8)=some (decide (fs.length<=8)&&(fs.all (λf=>Ej f.1)&&decide ((fs.map (·.1)).Nodup))):=by
 show Ic (BP (Db big) big) (fs,8)=_
 unfold Ic
 dsimp only
 by_cases h:fs.length<=8
 ·rw [AF (by omega),AJ,AB h,Ai]
  refine Bg (g:=Db big) (n:=fs.length) (λ(_:Unit) (i:Nat)=>(fs,(i:Int))) (λi _=>(∀ f∈fs.take i,Ej f.1=true)/\((fs.map (·.1)).take i).Nodup) (λr=>r=some (fs.all (λf=>Ej f.1)&&decide ((fs.map (·.1)).Nodup))) ?_ ?_
   fs.length 0 big (by simp) (by unfold big;omega) () (by simp)
  ·rintro self s ⟨h1,h2⟩
   rw [List.take_length] at h1
   rw [BD (by simp)] at h2
   show Dc _ self _=_
   unfold Dc
   dsimp only
   rw [AF (by omega),AJ,AB h2,Bool.and_true,List.all_eq_true.2 h1]
  ·rintro self s i hi ⟨h1,h2⟩
   cases hn:Ej fs[i].1 with
   | false=>
    right
    show Dc _ self _=_
    unfold Dc
    dsimp only
    rw [AB (by omega),AL,CV hi,AA,bS,AA,hn,A9,AL]
    have:fs.all (λf=>Ej f.1)=false:=by
     rw [Bool.eq_false_iff]
     intro hall
     have:=List.all_eq_true.1 hall _ (Ae hi)
     rw [hn] at this
     cases this
    rw [this];rfl
   | true=>
    have inner:∃ b:Bool,BP (D8 big self) big (fs,(i:Int),0)=(bif b then self (fs,((i+1:Nat):Int)) else some false)/\(b=true↔∀ k (hk:k < i),(fs.map (·.1))[k]'(by simp;omega)≠(fs.map (·.1))[i]'(by simpa using hi)):=by
     refine Bg (g:=D8 big self) (n:=i) (λ(_:Unit) (k:Nat)=>(fs,(i:Int),(k:Int))) (λj _=>∀ k (hk:k < j) (hki:k < fs.length),(fs[k]).1≠(fs[i]).1) (λr=>∃ b:Bool,r=(bif b then self (fs,((i+1:Nat):Int)) else some false)/\(b=true↔∀ k (hk:k < i),(fs.map (·.1))[k]'(by simp;omega)≠(fs.map (·.1))[i]'(by simpa using hi))) ?_ ?_
      i 0 big (by simp) (by unfold big;omega) () (by intro k hk;omega)
     ·intro BQ s hs
      refine ⟨true,?_,by simp only [true_iff,List.getElem_map];exact λk hk=>hs k hk (by omega)⟩
      show Fp self BQ _=_
      unfold Fp
      dsimp only
      rw [AF (by omega),AJ,CY hi (by have:=Bw;omega)]
      rfl
     ·intro BQ s j hj hs
      have hj':j < fs.length:=by omega
      have hst:D8 big self BQ (fs,(i:Int),(j:Int))=bif R3 .str (fs[j]).1 (fs[i]).1 then some false else BQ (fs,(i:Int),((j+1:Nat):Int)):=by
       show Fp self BQ _=_
       unfold Fp
       dsimp only
       rw [AB (by omega),AL,CV hj',AA,CV hi,AA,CY hj (by have:=Bw;omega)]
      by_cases e:(fs[j]).1=(fs[i]).1
      ·right
       refine ⟨false,by rw [hst,e,Ud];rfl,?_⟩
       simp only [Bool.false_eq_true,false_iff,List.getElem_map]
       exact λhh=>hh j hj e
      ·left
       refine ⟨(),λk hk hki=>?_,by rw [hst,Oh e];rfl⟩
       by_cases hkj:k=j
       ·subst hkj;exact e
       ·exact hs k (by omega) hki
    obtain ⟨b,hb1,hb2⟩:=inner
    have hst:Db big self (fs,(i:Int))=(bif b then self (fs,((i+1:Nat):Int)) else some false):=by
     show Dc _ self _=_
     unfold Dc
     dsimp only
     rw [AB (by omega),AL,CV hi,AA,bS,AA,hn,A8,AJ]
     exact hb1
    cases b with
    | true=>
     left
     refine ⟨(),⟨?_,(VA (by simpa using hi)).2 ⟨h2,hb2.1 rfl⟩⟩,hst⟩
     rw [Ah hi]
     intro f hf
     rcases List.mem_append.1 hf with hf | hf
     ·exact h1 f hf
     ·rw [List.mem_singleton.1 hf];exact hn
    | false=>
     right
     rw [hst,AJ]
     congr 1
     symm
     have:¬ (fs.map (·.1)).Nodup:=by
      intro hnd
      have Qcy:((fs.map (·.1)).take (i+1)).Nodup:=(List.take_sublist _ _).nodup hnd
      have:=hb2.2 ((VA (by simpa using hi)).1 Qcy).2
      cases this
     rw [AF this,Bool.and_false]
 ·rw [AB (by omega),AL,AF h];rfl
theorem QHX (t:ES) (i:Int) (hl:t.2.2.2.1.length<=1000):BP (IJ big) big (i,0,t)=some (decide (t.2.1=0)&&(decide (t.2.2.1=0)&&qY t.2.2.2.1 i)):=by
 have spec:∀ b:Bool,(b=true↔(∀ f∈t.2.2.2.1,Fq f.2.1 i=true))->(decide (t.2.1=0)&&(decide (t.2.2.1=0)&&qY t.2.2.2.1 i))=(b&&(decide (t.2.1=0)&&(decide (t.2.2.1=0)&&(decide (0 < t.2.2.2.1.length)&&(decide (t.2.2.2.1.length<=8)&&(t.2.2.2.1.all (λf=>Ej f.1)&&decide ((t.2.2.2.1.map (·.1)).Nodup))))))):=by
  intro b hb
  rw [Bool.eq_iff_iff]
  simp only [qY,AP,AZ,List.all_eq_true,hb]
  constructor
  ·rintro ⟨h1,h2,h3,h4,h5,h6⟩
   exact ⟨h6,h1,h2,by omega,h3.2,h4,h5⟩
  ·rintro ⟨h6,h1,h2,h3,h3',h4,h5⟩
   exact ⟨h1,h2,⟨by omega,h3'⟩,h4,h5,h6⟩
 refine Bg (g:=IJ big) (n:=t.2.2.2.1.length) (λ(_:Unit) (k:Nat)=>(i,(k:Int),t)) (λk _=>∀ f∈t.2.2.2.1.take k,Fq f.2.1 i=true) (λr=>r=some (decide (t.2.1=0)&&(decide (t.2.2.1=0)&&qY t.2.2.2.1 i))) ?_ ?_
  t.2.2.2.1.length 0 big (by simp) (by unfold big;omega) () (by simp)
 ·intro self s h
  rw [List.take_length] at h
  rw [spec true (by simpa using h)]
  show Nu self _=_
  unfold Nu
  dsimp only
  rw [AF (by omega),AJ,QED,AA,Ai]
  simp only [VY,gt_iff_lt]
  have e:decide ((0:Int) < (t.2.2.2.1.length:Int))=decide (0 < t.2.2.2.1.length):=by
   by_cases h:0 < t.2.2.2.1.length
   ·rw [AB h,AB (by omega)]
   ·rw [AF h,AF (by omega)]
  rw [e]
  cases decide (t.2.1=0) <;> cases decide (t.2.2.1=0) <;> cases decide (0 < t.2.2.2.1.length) <;> rfl
 ·intro self s k hk h
  have hst:IJ big self (i,(k:Int),t)=bif Fq (t.2.2.2.1[k]).2.1 i then self (i,((k+1:Nat):Int),t) else some false:=by
   show Nu self _=_
   unfold Nu Fq
   dsimp only
   rw [AB (by omega),AL,CV hk,AA,AA,CY hk (by have:=Bw;omega)]
   by_cases h1:(t.2.2.2.1[k]).2.1 < 0
   ·rw [AB h1,AF (by omega:¬ 0<=(t.2.2.2.1[k]).2.1)];rfl
   ·rw [AF h1,AB (by omega:0<=(t.2.2.2.1[k]).2.1)]
    by_cases h2:(t.2.2.2.1[k]).2.1>=i
    ·rw [AB h2,AF (by omega:¬ (t.2.2.2.1[k]).2.1 < i)];rfl
    ·rw [AF h2,AB (by omega:(t.2.2.2.1[k]).2.1 < i)];rfl
  cases hx:Fq (t.2.2.2.1[k]).2.1 i with
  | true=>
   left
   refine ⟨(),?_,by rw [hst,hx];rfl⟩
   rw [Ah hk]
   intro f hf
   rcases List.mem_append.1 hf with hf | hf
   ·exact h f hf
   ·rw [List.mem_singleton.1 hf];exact hx
  | false=>
   right
   rw [hst,hx,AJ,spec false (by
    simp only [Bool.false_eq_true,false_iff]
    intro hall
    have:=hall _ (Ae hk)
    rw [hx] at this
    cases this)]
   rfl
theorem QLf {l:List ES} {i:Nat} (hi:i < l.length) (hl:(l[i]).2.2.2.1.length<=1000):ZP (l,(i:Int))=some (EB l[i] i l.length):=by
 show SE (BP (IJ big) big) (l,(i:Int))=_
 unfold SE
 dsimp only
 rw [CV hi,AA]
 generalize l[i]=t at *
 simp only [QHX t i hl]
 unfold EB
 simp only [QZU]
 obtain ⟨k,e,n,fs,u⟩:=t
 dsimp only
 simp only [VY,ge_iff_le,Fq]
 generalize qY fs i=A
 generalize decide (fs.length=0)=D
 generalize decide (e=0)=E
 generalize decide (n=0)=F
 have hG:decide (1<=n/\n<=16)=(decide (1<=n)&&decide (n<=16)):=by by_cases h:1<=n <;> by_cases h':n<=16 <;> simp [h,h']
 rw [hG]
 generalize decide (1<=n)=G
 generalize decide (n<=16)=H
 generalize decide (0<=e)=I
 generalize decide (e < (l.length:Int))=J
 generalize decide (e < (i:Int))=K
 by_cases h1:k=1
 ·subst h1;simp;cases E <;> cases F <;> cases D <;> rfl
 by_cases h2:k=2
 ·subst h2;simp;cases E <;> cases F <;> cases D <;> rfl
 by_cases h3:k=3
 ·subst h3;simp;cases E <;> cases F <;> cases D <;> rfl
 by_cases h4:k=4
 ·subst h4;simp;cases I <;> cases J <;> cases F <;> cases D <;> rfl
 by_cases h5:k=5
 ·subst h5;simp
 by_cases h6:k=6
 ·subst h6;simp;cases I <;> cases K <;> cases G <;> cases H <;> cases D <;> rfl
 by_cases h7:k=7
 ·subst h7;simp;cases I <;> cases J <;> cases F <;> cases D <;> rfl
 simp [h1,h2,h3,h4,h5,h6,h7]
theorem yX {n:Nat} (h:n<=10000):(Nat.ble 1 1&&Nat.ble (n+1) lim)=true:=by
 rw [AP]
 exact ⟨rfl,Nat.ble_eq_true_of_le (by have:=QLD;omega)⟩
theorem QHU (t:ES) (hf:t.2.2.2.1.length<=1000):Ta t=some ((if t.1=6 then [t.2.1] else [])++t.2.2.2.1.map (·.2.1)):=by
 have run:∀ a:List Int,a.length<=1->BP (I9 big) big (0,t,a)=some (a++t.2.2.2.1.map (·.2.1)):=by
  intro a ha
  refine Bg (g:=I9 big) (n:=t.2.2.2.1.length) (λ(r:List Int) (k:Nat)=>((k:Int),t,r)) (λk r=>r=a++(t.2.2.2.1.map (·.2.1)).take k) (λr=>r=some (a++t.2.2.2.1.map (·.2.1))) ?_ ?_
   t.2.2.2.1.length 0 big (by simp) (by unfold big;omega) _ (by simp)
  ·rintro self s rfl
   rw [BD (by simp)]
   show MF self _=_
   unfold MF
   dsimp only
   rw [AF (by omega),AJ]
  ·rintro self s k hk rfl
   left
   refine ⟨_,rfl,?_⟩
   have hlen:(a++(t.2.2.2.1.map (·.2.1)).take k).length<=1001:=by simp;omega
   show MF self _=_
   unfold MF
   dsimp only
   rw [AB (by omega),AL,CV hk,AA]
   rw [show [(t.2.2.2.1[k]).2.1].length=1 from rfl,yX (by omega),AL,CY hk (by have:=Bw;omega),Ah (by simpa using hk)]
   simp
 show QT (BP (I9 big) big) t=_
 unfold QT
 by_cases h6:t.1=6
 ·rw [h6,show ((6:Int)==6)=true from rfl,AL]
  rw [show (List.length ([]:List Int)+[t.2.1].length)=0+1 from rfl,yX (by omega),AL]
  exact run [t.2.1] (by simp)
 ·rw [show (t.1==6)=false from AF h6,AJ,AX h6]
  exact run [] (by simp)
theorem QE8 {t:ES} {i n:Int} (h:EB t i n=true):(if t.1=6 then [t.2.1] else [])++t.2.2.2.1.map (·.2.1)=Dj t:=by
 unfold Dj
 by_cases h6:t.1=6
 ·rw [AY h6,AY h6,dZ h (by omega)];rfl
 rw [AX h6,AX h6]
 by_cases h5:t.1=5
 ·rw [AY h5];rfl
 ·rw [AX h5,dZ h h5];rfl
theorem QHV {t:ES} {i n:Int} (h:EB t i n=true):Ta t=some (Dj t):=by
 rw [QHU t (by have:=ql h;omega),QE8 h]
theorem QOF {a b:Int} (hb:0<=b):cap (cap a+b)=cap (a+b):=by
 by_cases h1:5001 < a <;> by_cases h2:5001 < a+b <;> simp [cap,h1,h2] <;> omega
theorem QGD (l:List ES) (x:Nat):(wN l 0).getD x 0=0:=by
 show (List.replicate l.length (0:Int)).getD x 0=0
 rw [Ad]
 by_cases hx:x < l.length
 ·simp [hx]
 ·rw [Aw (by simpa using hx)];rfl
theorem QOG:cap 1=1:=rfl
theorem jB {l:List ES} (hlen:l.length<=40) (hb:Built l) (me:List ES×Int->Option (List Int)) (d:Nat) (hd:d<=3) (below:List Int) (hbel:0 < d->below=wN l d) :
  BP (KE me big) big (l,(d:Int),0,below,[])=some (wN l (d+1)):=by
 have hwd:=jR hb d
 refine Bg (g:=KE me big) (n:=l.length) (λ(out:List Int) (i:Nat)=>(l,(d:Int),(i:Int),below,out)) (λi out=>out=Ws (wN l d) (l.take i) []) (λr=>r=some (wN l (d+1))) ?_ ?_
  l.length 0 big (by simp) (by unfold big;omega) _ (by simp [Ws])
 ·rintro self s rfl
  rw [List.take_length]
  show G6 _ _ self _=_
  unfold G6
  dsimp only
  rw [AF (by omega),AJ]
  rfl
 ·rintro self s i hi rfl
  left
  refine ⟨_,rfl,?_⟩
  have hw:=jQ hb hwd.1 i (by omega)
  have hwl:(Ws (wN l d) (l.take i) []).length=i:=by rw [jP];simp;omega
  have hbi:=hb i hi
  have hpl:=QHM hbi
  have hpi:=tV hb hi
  rw [show Ws (wN l d) (l.take (i+1)) []=Ws (wN l d) (l.take i) []++[cap (Oo (wN l d) (Ws (wN l d) (l.take i) []) l[i])] by rw [Ah hi,aG]]
  show G6 _ _ self _=_
  unfold G6
  dsimp only
  rw [AB (by omega),AL,CV hi,AA,QHV hbi,AA]
  have hget:=CV hi
  generalize hacc:Ws (wN l d) (l.take i) []=acc at *
  generalize htt:l[i]=t at *
  have hby:∀ p:Int,0<=acc.getD p.toNat 0/\acc.getD p.toNat 0<=5001:=λp=>hw.getD p.toNat
  let by':Int:=if t.1=6 then t.2.2.1 else 1
  have QZE:1<=by'/\by'<=16:=by
   show 1<=(if t.1=6 then t.2.2.1 else 1)/\(if t.1=6 then t.2.2.1 else 1)<=16
   split
   ·rename_i h6;have:=Qv hbi h6;omega
   ·omega
  let S (j:Nat):Int:=(((Dj t).take j).map λp=>by' * acc.getD p.toNat 0).sum
  have hS:∀ j (hj:j < (Dj t).length),S (j+1)=S j+by' * acc.getD ((Dj t)[j]).toNat 0:=by
   intro j hj
   show (((Dj t).take (j+1)).map λp=>by' * acc.getD p.toNat 0).sum=_
   rw [Ah hj,List.map_append,List.sum_append,List.map_singleton,List.sum_singleton]
  have hmul:∀ p:Int,0<=by' * acc.getD p.toNat 0/\by' * acc.getD p.toNat 0<=80016:=λp=>QFk QZE.1 QZE.2 (hby p).1 (hby p).2
  have hlim:(Nat.ble 1 1&&Nat.ble (acc.length+1) lim)=true:=yX (by omega)
  have hsucc:=CY hi (by have:=Bw;omega:l.length<=maxLen)
  refine Bg (g:=Sz me big self) (n:=(Dj t).length) (λ(w:Int) (j:Nat)=>(l,(d:Int),(i:Int),w,(j:Int),below,acc,Dj t)) (λj w=>w=cap (1+S j)) (λr=>r=self (l,(d:Int),((i+1:Nat):Int),below,acc++[cap (Oo (wN l d) acc t)])) ?_ ?_
   (Dj t).length 0 big (by simp) (by unfold big;omega) _ (by simp [S,QOG])
  ·rintro BQ w rfl
   have QZC:S (Dj t).length=if t.1=6 then t.2.2.1 * acc.getD t.2.1.toNat 0 else if t.1=5 then Yy acc t.2.2.2.1 else 0:=by
    show (((Dj t).take (Dj t).length).map λp=>by' * acc.getD p.toNat 0).sum=_
    rw [List.take_length]
    unfold Dj
    by_cases h6:t.1=6
    ·rw [AY h6,AY h6]
     simp [by',h6]
    rw [AX h6,AX h6]
    by_cases h5:t.1=5
    ·rw [AY h5,AY h5]
     simp [by',h6,Yy,Function.comp_def]
    ·rw [AX h5,AX h5];rfl
   rw [QZC]
   have hone:∀ x:Int,[x].length=1:=λ_=>rfl
   show KH _ self BQ _=_
   unfold KH
   dsimp only
   rw [AF (by omega),AJ]
   simp only [hget,AA,hone,hlim,AL,hsucc]
   by_cases h4:t.1=4
   ·have h6:¬ t.1=6:=by omega
    have h5:¬ t.1=5:=by omega
    have h7:¬ t.1=7:=by omega
    have hp:=aL hbi (.inl h4)
    have hlw:=hwd.1.getD t.2.1.toNat
    rw [AX h6,AX h5,show (t.1==4)=true from AB h4,show (t.1==7)=false from AF h7]
    unfold Oo
    rw [AY h4]
    by_cases hd0:d=0
    ·rw [AF (by omega),AJ,AJ]
     have:(wN l d).getD t.2.1.toNat 0=0:=by rw [hd0];exact QGD l _
     rw [this]
     rfl
    ·rw [AB (by omega),AL,AL,hbel (by omega),AB hp.1,AB (by rw [hwd.2];omega),Ai,AL,Zk hp.1 (by rw [hwd.2];omega),AA,show cap (1+0)=1 from rfl,AL,AJ,QBD (by omega) (by omega)]
     rfl
   rw [show (t.1==4)=false from AF h4]
   by_cases h7:t.1=7
   ·have h6:¬ t.1=6:=by omega
    have h5:¬ t.1=5:=by omega
    have hp:=aL hbi (.inr h7)
    have hlw:=hwd.1.getD t.2.1.toNat
    rw [AX h6,AX h5,show (t.1==7)=true from AB h7]
    unfold Oo
    rw [AX h4,AY h7]
    by_cases hd0:d=0
    ·rw [AF (by omega),AJ,AJ]
     have:(wN l d).getD t.2.1.toNat 0=0:=by rw [hd0];exact QGD l _
     rw [this]
     rfl
    ·rw [AB (by omega),AL,AJ,AL,AL,hbel (by omega),AB hp.1,AB (by rw [hwd.2];omega),Ai,AL,Zk hp.1 (by rw [hwd.2];omega),AA,show cap (1+0)=1 from rfl,wrap_i64 (n:=16 * _) (by omega) (by omega),QBD (by omega) (by omega)]
     rfl
   rw [show (t.1==7)=false from AF h7]
   unfold Oo
   rw [AX h4,AX h7]
   have hfin:(1:Int)+(if t.1=6 then t.2.2.1 * acc.getD t.2.1.toNat 0 else if t.1=5 then Yy acc t.2.2.2.1 else 0)=(if t.1=6 then 1+t.2.2.1 * acc.getD t.2.1.toNat 0 else if t.1=5 then 1+Yy acc t.2.2.2.1 else 1):=by
    split
    ·rfl
    split
    ·rfl
    ·rfl
   rw [hfin]
   cases decide ((d:Int) > 0) <;> rfl
  ·rintro BQ w j hj rfl
   left
   refine ⟨_,rfl,?_⟩
   have hx:=hpi _ (Ae hj)
   have hm:=hmul (Dj t)[j]
   have hcw:0<=cap (1+S j)/\cap (1+S j)<=5001:=by
    apply QBT
    have:0<=S j:=by
     show 0<=(((Dj t).take j).map λp=>by' * acc.getD p.toNat 0).sum
     have:∀ q:List Int,0<=(q.map λp=>by' * acc.getD p.toNat 0).sum:=by
      intro q
      induction q with
      | nil=>simp
      | cons a q ih=>rw [List.map_cons,List.sum_cons];have:=hmul a;omega
     exact this _
    omega
   rw [hS j hj,<- Int.add_assoc,<- QOF hm.1]
   show KH _ self BQ _=_
   unfold KH
   dsimp only
   rw [AB (by omega),AL,hget,AA]
   have e1:nth (Dj t) (Int.toNat (j:Int))=some (Dj t)[j]:=AU hj
   have d1:decide (0<=(j:Int))=true:=AB (by omega)
   have d2:decide ((j:Int) < ((Dj t).length:Int))=true:=AB (by omega)
   have d3:decide (0<=(Dj t)[j])=true:=AB hx.1
   have d4:decide ((Dj t)[j] < (acc.length:Int))=true:=AB (by omega)
   simp only [e1,AA,d1,d2,d3,d4,Bool.and_self,AL,Zk hx.1 (show (Dj t)[j] < (acc.length:Int) by omega)]
   rw [CY hj (by have:=Bw;omega)]
   by_cases h6:t.1=6
   ·rw [show (t.1==6)=true from AB h6,AL]
    have QTg:by'=t.2.2.1:=AY h6
    rw [QTg] at hm ⊢
    rw [wrap_i64 (n:=t.2.2.1 * _) (by omega) (by omega),QBD (by omega) (by omega)]
    rfl
   ·rw [show (t.1==6)=false from AF h6,AJ]
    have QTg:by'=1:=AX h6
    rw [QTg] at hm ⊢
    rw [wrap_i64 (n:=1 * _) (by omega) (by omega),QBD (by omega) (by omega)]
    rfl
theorem QFv (k x):FI (k+1) x=Nz (FI k) (BP (KE (FI k) big) big) x:=rfl
theorem mW {l:List ES} (hlen:l.length<=40) (hb:Built l):∀ (d k:Nat),d<=3->d < k->FI k (l,(d:Int))=some (wN l (d+1))
 | d,0,_,h=>by omega
 | 0,k+1,_,_=>by
  rw [QFv]
  unfold Nz
  dsimp only
  rw [AF (by omega),AJ]
  exact jB hlen hb _ 0 (by omega) [] (by omega)
 | d+1,k+1,hd,hk=>by
  rw [QFv]
  unfold Nz
  dsimp only
  rw [AB (by omega),AL,wrap_i64 (by omega) (by omega),show ((d+1:Nat):Int) - 1=(d:Int) by omega,mW hlen hb d k (by omega) (by omega),AA]
  exact jB hlen hb _ (d+1) hd _ (λ_=>rfl)
theorem QEI {l:List ES} (hlen:l.length<=40) (hb:Built l):WH (l,3)=some (wN l 4):=
 mW hlen hb 3 big (by omega) (by unfold big;omega)
theorem QHR (l:List ES) (hf:∀ t∈l,t.2.2.2.1.length<=1000):Xv l=some (if Valid l then 0 else 8):=by
 show QN (BP (I7 big) big) l=_
 unfold QN
 by_cases h:l.length<=32
 ·rw [AF (by omega),AJ]
  refine Bg (g:=I7 big) (n:=l.length) (λ(_:Unit) (i:Nat)=>(l,(i:Int))) (λi _=>∀ j (h:j < l.length),j < i->EB l[j] j l.length=true) (λr=>r=some (if Valid l then 0 else 8)) ?_ ?_
   l.length 0 big (by simp) (by unfold big;omega) () (by intro j _ h;omega)
  ·intro self s hb
   have hb':Built l:=λi hi=>hb i hi hi
   have hw:=jR hb' 4
   show JN _ self _=_
   unfold JN
   dsimp only
   rw [AF (by omega),AJ,QEI (by omega) hb',AA]
   refine Bg (g:=Pg big self) (n:=l.length) (λ(_:Unit) (i:Nat)=>(l,(i:Int),wN l 4)) (λi _=>(5001:Int) ∉ (wN l 4).take i) (λr=>r=some (if Valid l then 0 else 8)) ?_ ?_
    l.length 0 big (by simp) (by unfold big;omega) () (by simp)
   ·intro BQ s hm
    rw [BD (by omega)] at hm
    show MB self BQ _=_
    unfold MB
    dsimp only
    rw [AF (by omega),AJ,AY ⟨h,hb',hm⟩]
   ·intro BQ s i hi hm
    have hi':i < (wN l 4).length:=by omega
    have hx:=hw.1 _ (Ae hi')
    have hst:Pg big self BQ (l,(i:Int),wN l 4)=bif decide ((wN l 4)[i] > 5000) then some 8 else BQ (l,((i+1:Nat):Int),wN l 4):=by
     show MB self BQ _=_
     unfold MB
     dsimp only
     rw [AB (by omega),AL,AB (by omega),AB (by omega),Ai,AL,show nth (wN l 4) (Int.toNat (i:Int))=some (wN l 4)[i] from AU hi',AA,CY hi (by have:=Bw;omega)]
    by_cases hg:(wN l 4)[i] > 5000
    ·right
     rw [hst,AB hg,AL,AX]
     rintro ⟨_,_,hn⟩
     exact hn (by rw [show (5001:Int)=(wN l 4)[i] by omega];exact Ae hi')
    ·left
     refine ⟨(),?_,by rw [hst,AF hg];rfl⟩
     rw [Ah hi']
     intro hmm
     rcases List.mem_append.1 hmm with hmm | hmm
     ·exact hm hmm
     ·have:=List.mem_singleton.1 hmm
      omega
  ·intro self s i hi hb
   have hst:I7 big self (l,(i:Int))=bif !(EB l[i] i l.length) then some 8 else self (l,((i+1:Nat):Int)):=by
    show JN _ self _=_
    unfold JN
    dsimp only
    rw [AB (by omega),AL,QLf hi (hf _ (Ae hi)),AA,CY hi (by have:=Bw;omega)]
   cases hbi:EB l[i] (i:Int) (l.length:Int) with
   | false=>
    right
    rw [hst,hbi,A9,AL,AX λhv=>by rw [hv.2.1 i hi] at hbi;cases hbi]
   | true=>
    left
    refine ⟨(),λj hj hji=>?_,by rw [hst,hbi];rfl⟩
    by_cases e:j=i
    ·subst e;exact hbi
    ·exact hb j hj (by omega)
 ·rw [AB (by omega),AL,AX λhv=>h hv.1]
theorem QHT (l:List ES):∃ b,Xw l=some b/\(b=false->l.length<=40/\∀ t∈l,t.2.2.2.1.length<=20):=by
 show ∃ b,QO (BP (I8 big) big) l=some b/\_
 unfold QO
 by_cases h:l.length<=40
 ·rw [AF (by omega),AJ]
  refine Bg (g:=I8 big) (n:=l.length) (λ(_:Unit) (i:Nat)=>(l,(i:Int))) (λi _=>∀ t∈l.take i,t.2.2.2.1.length<=20) (λr=>∃ b,r=some b/\(b=false->l.length<=40/\∀ t∈l,t.2.2.2.1.length<=20)) ?_ ?_
   l.length 0 big (by simp) (by unfold big;omega) () (by simp)
  ·intro self s hb
   rw [List.take_length] at hb
   refine ⟨false,?_,λ_=>⟨h,hb⟩⟩
   show FN _ self _=_
   unfold FN
   dsimp only
   rw [AF (by omega),AJ]
  ·intro self s i hi hb
   by_cases hg:(l[i]).2.2.2.1.length<=20
   ·have inner:BP (GX big self) big (l,(i:Int),0)=self (l,((i+1:Nat):Int))\/BP (GX big self) big (l,(i:Int),0)=some true:=by
     refine Bg (g:=GX big self) (n:=(l[i]).2.2.2.1.length) (λ(_:Unit) (k:Nat)=>(l,(i:Int),(k:Int))) (λ_ _=>True) (λr=>r=self (l,((i+1:Nat):Int))\/r=some true) ?_ ?_
      (l[i]).2.2.2.1.length 0 big (by simp) (by unfold big;omega) () trivial
     ·intro BQ s _
      left
      show MC self BQ _=_
      unfold MC
      dsimp only
      rw [CV hi,AA,AF (by omega),AJ,CY hi (by have:=Bw;omega)]
     ·intro BQ s k hk _
      have hst:GX big self BQ (l,(i:Int),(k:Int))=bif decide ((((l[i]).2.2.2.1[k]).1.length:Int) > 100) then some true else BQ (l,(i:Int),((k+1:Nat):Int)):=by
       show MC self BQ _=_
       unfold MC
       dsimp only
       rw [CV hi,AA,AB (by omega),AL,AA,CV hk,AA,CY hk (by have:=Bw;omega)]
      rw [hst]
      cases decide ((((l[i]).2.2.2.1[k]).1.length:Int) > 100) with
      | true=>right;right;rfl
      | false=>left;exact ⟨(),trivial,rfl⟩
    have hst:I8 big self (l,(i:Int))=BP (GX big self) big (l,(i:Int),0):=by
     show FN _ self _=_
     unfold FN
     dsimp only
     rw [AB (by omega),AL,CV hi,AA,AF (by omega),AJ]
    rcases inner with e | e
    ·left
     refine ⟨(),?_,hst.trans e⟩
     rw [Ah hi]
     intro t ht
     rcases List.mem_append.1 ht with ht | ht
     ·exact hb t ht
     ·rw [List.mem_singleton.1 ht];exact hg
    ·right
     exact ⟨true,hst.trans e,λh=>by cases h⟩
   ·right
    refine ⟨true,?_,λh=>by cases h⟩
    show FN _ self _=_
    unfold FN
    dsimp only
    rw [AB (by omega),AL,CV hi,AA,AB (by omega),AL]
 ·refine ⟨true,?_,λh=>by cases h⟩
  rw [AB (by omega),AL]
theorem UA (a b:List Int) (h:a.length<=1000):Gz (a,b)=some (decide (a=b)):=by
 show KU (BP (FW big) big) _=_
 unfold KU
 dsimp only
 by_cases hl:a.length=b.length
 ·rw [show ((a.length:Int) != (b.length:Int))=false by rw [hl];simp,AJ]
  refine Bg (g:=FW big) (n:=a.length) (λ(_:Unit) (i:Nat)=>(a,b,(i:Int))) (λi _=>a.take i=b.take i) (λr=>r=some (decide (a=b))) ?_ ?_
   a.length 0 big (by simp) (by unfold big;omega) () (by simp)
  ·intro self s h
   rw [List.take_length,BD (by omega)] at h
   show Hw self _=_
   unfold Hw
   dsimp only
   rw [AF (by omega),AJ,AB h]
  ·intro self s i hi h
   have hi':i < b.length:=by omega
   have hst:FW big self (a,b,(i:Int))=bif (a[i] != b[i]) then some false else self (a,b,((i+1:Nat):Int)):=by
    show Hw self _=_
    unfold Hw
    dsimp only
    rw [AB (by omega),AL,CV hi,AA,CV hi',AA,CY hi (by have:=Bw;omega)]
   by_cases e:a[i]=b[i]
   ·left
    refine ⟨(),?_,by rw [hst,show (a[i] != b[i])=false by rw [e];simp];rfl⟩
    rw [Ah hi,Ah hi',h,e]
   ·right
    rw [hst,show (a[i] != b[i])=true by simpa using e,AL]
    congr 1
    symm
    apply AF
    intro hh
    subst hh
    exact e rfl
 ·rw [show ((a.length:Int) != (b.length:Int))=true by simp;omega,AL,AF (λe=>hl (by rw [e]))]
theorem um (less:List Int):∀ (a b:List ES) (acc:List Int),Ws less (a++b) acc=Ws less b (Ws less a acc)
 | [],_,_=>rfl
 | t::r,b,acc=>um less r b _
theorem QGE (less:List Int):∀ (b:List ES) (acc:List Int),∃ s,Ws less b acc=acc++s
 | [],acc=>⟨[],by simp [Ws]⟩
 | t::r,acc=>by
  obtain ⟨s,h⟩:=QGE less r (acc++[cap (Oo less acc t)])
  exact ⟨[cap (Oo less acc t)]++s,by rw [Ws,h,Ab]⟩
theorem uY (acc:List Int) (t:ES) (h:t.1=5):Yy acc t.2.2.2.1=((Dj t).map λp=>acc.getD p.toNat 0).sum:=by
 unfold Yy Dj
 rw [AX (by omega),AY h,List.map_map]
 rfl
theorem QEe {less a b:List Int} {t:ES} (h:∀ p∈Dj t,a.getD p.toNat 0=b.getD p.toNat 0):Oo less a t=Oo less b t:=by
 unfold Oo
 split
 ·rfl
 split
 ·rfl
 split
 ·rename_i h6
  rw [h t.2.1 (by unfold Dj;rw [AY h6];simp)]
 split
 ·rename_i h5
  rw [uY _ _ h5,uY _ _ h5]
  congr 2
  exact List.map_congr_left h
 ·rfl
theorem QZv {l:List ES} (hb:Built l) (n:Nat) {i:Nat} (hi:i < l.length):(wN l (n+1)).getD i 0=cap (Oo (wN l n) (wN l (n+1)) l[i]):=by
 have hpre:∃ s,wN l (n+1)=Ws (wN l n) (l.take (i+1)) []++s:=by
  have:wN l (n+1)=Ws (wN l n) (l.drop (i+1)) (Ws (wN l n) (l.take (i+1)) []):=by
   show Ws (wN l n) l []=_
   rw [<- um,List.take_append_drop]
  rw [this]
  exact QGE _ _ _
 obtain ⟨s,hs⟩:=hpre
 rw [Ah hi,aG] at hs
 have hl:(Ws (wN l n) (l.take i) []).length=i:=by rw [jP];simp;omega
 have h1:(wN l (n+1)).getD i 0=cap (Oo (wN l n) (Ws (wN l n) (l.take i) []) l[i]):=by
  rw [hs,Ab,Ad,Ap (by omega),hl,Nat.sub_self]
  rfl
 rw [h1]
 congr 1
 apply QEe
 intro p hp
 have:=tV hb hi p hp
 rw [hs,Ab,rR this.1 (by omega)]
theorem vv {k n:Nat} (hk:Nat.ble 1 k=true) (h:n<=10000):(Nat.ble 1 k&&Nat.ble n lim)=true:=by
 rw [AP]
 exact ⟨hk,Nat.ble_eq_true_of_le (by have:=QLD;omega)⟩
theorem QCO (l:List ES) (hl:l.length<=1000) (hf:∀ t∈l,t.2.2.2.1.length<=1000):Vd l=some l:=by
 show SC (BP (Nn big) big) l=_
 unfold SC
 refine Bg (g:=Nn big) (n:=l.length) (λ(r:List ES) (i:Nat)=>(l,(i:Int),r)) (λi r=>r=l.take i) (λq=>q=some l) ?_ ?_
  l.length 0 big (by simp) (by unfold big;omega) _ (by simp)
 ·rintro self r rfl
  rw [List.take_length]
  show Nt self _=_
  unfold Nt
  dsimp only
  rw [AF (by omega),AJ]
 ·rintro self r i hi rfl
  left
  refine ⟨_,rfl,?_⟩
  have h1:=hf _ (Ae hi)
  have hle:(l.take i).length<=1000:=by simp;omega
  show Nt self _=_
  unfold Nt
  dsimp only
  rw [AB (by omega),AL,CV hi,AA,AA]
  rw [vv rfl (by simp;omega),AL,vv rfl (by simp only [List.length_singleton];omega),AL,CY hi (by have:=Bw;omega),Ah hi]
  rfl
abbrev Ext:=Int×(Int×Unit)
def Al (a:Int):Prop:=a=1\/a=8
def jX (n a:Int):Int:=if a=1 then n else (n+7) / 8 * 8
theorem uh {n a:Int} (h:Al a):n<=jX n a/\jX n a<=n+7/\a ∣ jX n a:=by
 unfold jX
 rcases h with rfl | rfl
 ·rw [AY rfl];exact ⟨by omega,by omega,Int.one_dvd n⟩
 ·rw [AX (by decide)];exact ⟨by omega,by omega,Int.dvd_mul_left _ _⟩
theorem QGA {n a:Int} (ha:Al a) (h0:0<=n) (h1:n<=1000000000000):(bif (a==0) then none else some (IntKind.i64.wrap (IntKind.i64.wrap ((IntKind.i64.wrap (IntKind.i64.wrap (n+a) - 1)).tdiv a) * a)))=some (jX n a):=by
 unfold jX
 rcases ha with rfl | rfl
 ·rw [show ((1:Int)==0)=false from rfl,AJ,AY rfl,wrap_i64 (n:=n+1) (by omega) (by omega),wrap_i64 (n:=n+1 - 1) (by omega) (by omega),Int.tdiv_one,wrap_i64 (n:=n+1 - 1) (by omega) (by omega),Int.mul_one,wrap_i64 (n:=n+1 - 1) (by omega) (by omega)]
  congr 1
  omega
 ·rw [show ((8:Int)==0)=false from rfl,AJ,AX (by decide),wrap_i64 (n:=n+8) (by omega) (by omega),wrap_i64 (n:=n+8 - 1) (by omega) (by omega),Int.tdiv_eq_ediv_of_nonneg (by omega),wrap_i64 (n:=(n+8 - 1) / 8) (by omega) (by omega),wrap_i64 (n:=(n+8 - 1) / 8 * 8) (by omega) (by omega)]
  congr 1
  omega
theorem Zf {n a:Int} (ha:Al a) (h0:0<=n) (h1:n<=1000000000000):GD (n,a)=some (jX n a):=by
 show RL (n,a)=_
 unfold RL
 exact QGA ha h0 h1
theorem QEP {n a:Int} (ha:Al a) (h0:0<=n) (h1:n<=1000000000000):UF (n,a)=some (jX n a):=by
 show kV (n,a)=_
 unfold kV
 exact QGA ha h0 h1
def ext (all:List Ext) (i:Int):Ext:=all.getD i.toNat (1,(1,()))
abbrev sz (all:List Ext) (i:Int):Int:=(ext all i).1
abbrev al (all:List Ext) (i:Int):Int:=(ext all i).2.1
theorem rT {a:List Ext} {e:Int} (h0:0<=e) (h:e < (a.length:Int)):BX a e=some (ext a e):=by
 obtain ⟨k,rfl⟩:=BL h0
 have hk:k < a.length:=by omega
 rw [CV hk]
 simp [hk,ext]
theorem QFm {a:List Ext} {e:Int} (h0:0<=e) (h:e < (a.length:Int)):nth a (Int.toNat e)=some (ext a e):=by
 obtain ⟨k,rfl⟩:=BL h0
 have hk:k < a.length:=by omega
 show a[k]? = _
 simp [hk,ext]
theorem QFQ {a b:List Ext} {e:Int} (h0:0<=e) (h:e < (a.length:Int)):ext (a++b) e=ext a e:=by
 unfold ext
 rw [Ad,Ad,Ao (by omega)]
def Qk (all:List Ext) (s:List Int×(Int×Int)) (f:Qo):List Int×(Int×Int):=(s.1++[jX s.2.1 (al all f.2.1)],(jX s.2.1 (al all f.2.1)+sz all f.2.1,max s.2.2 (al all f.2.1)))
def Ep (all:List Ext) (fs:List Qo):List Int×(Int×Int):=fs.foldl (Qk all) ([],(0,1))
theorem QHk (all:List Ext) (fs:List Qo) (f:Qo):Ep all (fs++[f])=Qk all (Ep all fs) f:=by simp [Ep]
theorem lS (all:List Ext) {fs:List Qo} {k:Nat} (h:k < fs.length):Ep all (fs.take (k+1))=Qk all (Ep all (fs.take k)) fs[k]:=by rw [Ah h,QHk]
theorem QEZ {a b:List Ext}:∀ (fs:List Qo),(∀ f∈fs,ext a f.2.1=ext b f.2.1)->Ep a fs=Ep b fs:=by
 intro fs h
 unfold Ep
 generalize (([],(0,1)):List Int×(Int×Int))=s
 induction fs generalizing s with
 | nil=>rfl
 | cons f r ih=>
  rw [List.foldl_cons,List.foldl_cons]
  have:Qk a s f=Qk b s f:=by unfold Qk al sz;rw [h f (by simp)]
  rw [this]
  exact ih (λg hg=>h g (by simp [hg])) _
theorem QCq (all:List Ext) (fs:List Qo):(Ep all fs).1.length=fs.length:=by
 have:∀ (fs:List Qo) (s:List Int×(Int×Int)),(fs.foldl (Qk all) s).1.length=s.1.length+fs.length:=by
  intro fs
  induction fs with
  | nil=>intro s;rfl
  | cons f r ih=>intro s;rw [List.foldl_cons,ih];simp [Qk];omega
 unfold Ep
 rw [this]
 simp
def Fits (all:List Ext) (g:Int->Int) (fs:List Qo):Prop:=∀ f∈fs,1<=sz all f.2.1/\sz all f.2.1+7<=g f.2.1/\Al (al all f.2.1)
def cO (g:Int->Int) (fs:List Qo):Int:=(fs.map λf=>g f.2.1).sum
theorem QHh (g:Int->Int) (fs:List Qo) (f:Qo):cO g (fs++[f])=cO g fs+g f.2.1:=by simp [cO]
theorem fO {all:List Ext} {g:Int->Int} {fs:List Qo} (h:Fits all g fs):∀ k,k<=fs.length->0<=(Ep all (fs.take k)).2.1/\(Ep all (fs.take k)).2.1<=cO g (fs.take k)/\Al (Ep all (fs.take k)).2.2/\(0 < k->1<=(Ep all (fs.take k)).2.1)
 | 0,_=>by simp [Ep,cO,Al]
 | k+1,hk=>by
  have ih:=fO h k (by omega)
  have hf:=h _ (Ae (show k < fs.length by omega))
  rw [lS all (by omega),Ah (by omega),QHh]
  have hu:=uh (n:=(Ep all (fs.take k)).2.1) hf.2.2
  unfold Qk
  dsimp only
  refine ⟨by omega,by omega,?_,by omega⟩
  have h1:=ih.2.2.1
  have h2:=hf.2.2
  unfold Al at h1 h2 ⊢
  omega
theorem lN {g:Int->Int}:∀ (fs:List Qo) (k:Nat),(∀ f∈fs,0<=g f.2.1)->cO g (fs.take k)<=cO g fs
 | [],k,_=>by simp [cO]
 | f::r,0,h=>by
  have h1:=lN r 0 λx hx=>h x (by simp [hx])
  have h2:=h f (by simp)
  simp only [cO,List.take_zero,List.map_nil,List.sum_nil,List.map_cons,List.sum_cons] at h1 ⊢
  omega
 | f::r,k+1,h=>by
  have h1:=lN r k λx hx=>h x (by simp [hx])
  simp only [cO,List.take_succ_cons,List.map_cons,List.sum_cons] at h1 ⊢
  omega
theorem QKo {all:List Ext} {g:Int->Int} {fs:List Qo} (h:Fits all g fs):∀ f∈fs,0<=g f.2.1:=λf hf=>by have:=h f hf;omega
theorem bY {all:List Ext} {g:Int->Int} {fs:List Qo} (h:Fits all g fs) (hs:cO g fs<=900000) {k:Nat} (hk:k<=fs.length):0<=(Ep all (fs.take k)).2.1/\(Ep all (fs.take k)).2.1<=900000/\Al (Ep all (fs.take k)).2.2:=by
 have h1:=fO h k hk
 have h2:=lN fs k (QKo h)
 exact ⟨h1.1,by omega,h1.2.2.1⟩
theorem QCr {all:List Ext} {g:Int->Int} {fs:List Qo} (hf:Fits all g fs) (hs:cO g fs<=900000) (hi:∀ f∈fs,0<=f.2.1/\f.2.1 < all.length) (hl:fs.length<=1000) :
  Iy (all,fs)=some ((Ep all fs).1,(jX (Ep all fs).2.1 (Ep all fs).2.2,((Ep all fs).2.2,()))):=by
 show M7 _ (BP (Js _ big) big) (all,fs)=_
 unfold M7
 dsimp only
 rw [AB (by omega),AB (by omega),AB (by omega)]
 simp only [Bool.and_true,AL,Aj]
 refine Bg (g:=Js (λ_=>List.replicate) big) (n:=fs.length) (λ(s:List Int×(Int×Int)) (i:Nat)=>(all,fs,(fs.length:Int),(i:Int),((0:Int),((0:Int),())),s.1,(s.2.1,(s.2.2,())))) (λi s=>s=((Ep all (fs.take i)).1++List.replicate (fs.length - i) 0,(Ep all (fs.take i)).2)) (λr=>r=some ((Ep all fs).1,(jX (Ep all fs).2.1 (Ep all fs).2.2,((Ep all fs).2.2,())))) ?_ ?_
  fs.length 0 big (by simp) (by unfold big;omega) (List.replicate fs.length 0,(0,1)) (by simp [Ep])
 ·rintro self s rfl
  have hb:=bY hf hs (Nat.le_refl _)
  rw [List.take_length] at hb ⊢
  show Gh _ self _=_
  unfold Gh
  dsimp only
  rw [AF (by omega),AJ,Zf hb.2.2 hb.1 (by omega),AA]
  simp
 ·rintro self s i hlt rfl
  left
  refine ⟨_,rfl,?_⟩
  have hb:=bY hf hs (Nat.le_of_lt hlt)
  have hfi:=hf _ (Ae hlt)
  have hix:=hi _ (Ae hlt)
  have hu:=uh (n:=(Ep all (fs.take i)).2.1) hfi.2.2
  have hb1:=bY hf hs (show i+1<=fs.length by omega)
  have hlen:=QCq all (fs.take i)
  rw [BK,Nat.min_eq_left (by omega)] at hlen
  rw [lS all hlt] at hb1 ⊢
  unfold Qk at hb1 ⊢
  dsimp only at hb1 ⊢
  generalize Ep all (fs.take i)=T at *
  have hset:∀ v:Int,(T.1++List.replicate (fs.length - i) 0).set i v=T.1++[v]++List.replicate (fs.length - (i+1)) 0:=by
   intro v
   rw [show fs.length - i=(fs.length - (i+1))+1 by omega,List.replicate_succ,List.set_append_right _ _ (by omega),hlen,Nat.sub_self,List.set_cons_zero,Ab]
   rfl
  have hsl:(T.1++List.replicate (fs.length - i) (0:Int)).length=fs.length:=by simp [hlen];omega
  have hsl2:∀ v:Int,(T.1++[v]++List.replicate (fs.length - (i+1)) (0:Int)).length=fs.length:=by intro v;simp [hlen];omega
  have Qcz:∀ v:Int,nth (T.1++[v]++List.replicate (fs.length - (i+1)) (0:Int)) i=some v:=by
   intro v
   show (T.1++[v]++List.replicate (fs.length - (i+1)) (0:Int))[i]? = some v
   rw [Ab,Ap (by omega),hlen,Nat.sub_self]
   rfl
  show Gh _ self _=_
  unfold Gh
  dsimp only
  have d1:decide ((i:Int) < (fs.length:Int))=true:=AB (by omega)
  have d2:decide (0<=(i:Int))=true:=AB (by omega)
  simp only [d1,d2,AL,CV hlt,AA,rT hix.1 hix.2,Zf hfi.2.2 hb.1 (by omega),hsl,Aj,hset,hsl2,Bool.and_self,Qcz]
  rw [CY hlt (by have:=Bw;omega),wrap_i64 (n:=jX T.2.1 (al all fs[i].2.1)+sz all fs[i].2.1) (by omega) (by omega),QLM]
def Fb (acc:List Ext) (t:ES):Ext:=
 if t.1=2\/t.1=4 then (8,(8,()))
 else if t.1=3 then (16,(8,()))
 else if t.1=7 then (24,(8,()))
 else if t.1=6 then (t.2.2.1 * sz acc t.2.1,(al acc t.2.1,()))
 else if t.1=5 then (jX (Ep acc t.2.2.2.1).2.1 (Ep acc t.2.2.2.1).2.2,((Ep acc t.2.2.2.1).2.2,()))
 else (1,(1,()))
def GH:List ES->List Ext->List Ext
 | [],acc=>acc
 | t::r,acc=>GH r (acc++[Fb acc t])
theorem XA:∀ (l:List ES) (t:ES) (acc:List Ext),GH (l++[t]) acc=GH l acc++[Fb (GH l acc) t]
 | [],t,acc=>rfl
 | u::r,t,acc=>XA r t _
theorem rE:∀ (l:List ES) (acc:List Ext),(GH l acc).length=acc.length+l.length
 | [],acc=>rfl
 | u::r,acc=>by rw [GH,rE];simp;omega
theorem mI:∀ (a b:List ES) (acc:List Ext),GH (a++b) acc=GH b (GH a acc)
 | [],_,_=>rfl
 | t::r,b,acc=>mI r b _
theorem QBc:∀ (b:List ES) (acc:List Ext),∃ s,GH b acc=acc++s
 | [],acc=>⟨[],by simp [GH]⟩
 | t::r,acc=>by
  obtain ⟨s,h⟩:=QBc r (acc++[Fb acc t])
  exact ⟨[Fb acc t]++s,by rw [GH,h,Ab]⟩
def exS (l:List ES):List Ext:=GH l []
theorem Tm (l:List ES):(exS l).length=l.length:=by unfold exS;rw [rE];simp
theorem gu {l:List ES} {i:Nat} (hi:i<=l.length):(GH (l.take i) []).length=i:=by rw [rE];simp;omega
theorem QFP (l:List ES) (i:Nat):∃ s,exS l=GH (l.take i) []++s:=by
 have:exS l=GH (l.drop i) (GH (l.take i) []):=by
  unfold exS
  rw [<- mI,List.take_append_drop]
 rw [this]
 exact QBc _ _
theorem QBe {l:List ES} {i:Nat} (hi:i<=l.length) {p:Int} (h0:0<=p) (h1:p < i):ext (GH (l.take i) []) p=ext (exS l) p:=by
 obtain ⟨s,hs⟩:=QFP l i
 rw [hs,QFQ h0 (by rw [gu hi];exact h1)]
theorem y9 {a b:List Ext} {t:ES} (h:∀ p∈Dj t,ext a p=ext b p):Fb a t=Fb b t:=by
 unfold Fb
 split
 ·rfl
 split
 ·rfl
 split
 ·rfl
 split
 ·rename_i h6
  have e:=h t.2.1 (by unfold Dj;rw [AY h6];simp)
  unfold sz al
  rw [e]
 split
 ·rename_i h6 h5
  have e:Ep a t.2.2.2.1=Ep b t.2.2.2.1:=QEZ _ λf hf=>h f.2.1 (by unfold Dj;rw [AX h6,AY h5];exact List.mem_map.2 ⟨f,hf,rfl⟩)
  rw [e]
 ·rfl
theorem QTY {l:List ES} (hb:Built l) {i:Int} {t:ES} (ht:BX l i=some t):ext (exS l) i=Fb (exS l) t:=by
 obtain ⟨h0,h1,hx,rfl⟩:=UG ht
 obtain ⟨s,hs⟩:=QFP l (i.toNat+1)
 rw [Ah hx,XA] at hs
 have hl:=gu (l:=l) (i:=i.toNat) (by omega)
 have e1:ext (exS l) i=Fb (GH (l.take i.toNat) []) l[i.toNat]:=by
  rw [hs,ext]
  rw [Ab,Ad,Ap (by omega),hl,Nat.sub_self]
  rfl
 rw [e1]
 exact y9 λp hp=>by
  have:=tV hb hx p hp
  exact QBe (by omega) this.1 this.2
def wS (l:List ES) (i:Int):Int:=(wN l 4).getD i.toNat 0
theorem QPB {l:List ES} (hv:Valid l) {j:Nat} (hj:j < l.length):wS l j=Oo (wN l 3) (wN l 4) l[j]/\wS l j<=5000:=by
 have h:=QZv hv.2.1 3 hj
 have hlen:=(jR hv.2.1 4).2
 have hne:wS l j≠5001:=by
  intro e
  apply hv.2.2
  rw [<- e]
  unfold wS
  rw [Aj,Ad,AU (by omega)]
  exact Ae _
 have e:wS l j=cap (Oo (wN l 3) (wN l 4) l[j]):=by unfold wS;rw [Aj];exact h
 rw [e] at hne ⊢
 unfold cap at hne ⊢
 split at hne
 ·exact absurd rfl hne
 ·rename_i h1
  rw [AX h1]
  omega
def Gd (w:Int) (x:Ext):Prop:=1<=x.1/\x.1+7<=32 * w/\Al x.2.1/\x.2.1 ∣ x.1
theorem QCn (l:List ES) (fs:List Qo):cO (λp=>32 * wS l p) fs=32 * Yy (wN l 4) fs:=by
 induction fs with
 | nil=>rfl
 | cons f r ih=>
  simp only [cO,Yy,List.map_cons,List.sum_cons] at ih ⊢
  rw [ih,Int.mul_add]
  rfl
theorem QUE {l:List ES} (hv:Valid l) {j:Nat} (hj:j < l.length):1<=wS l j:=by
 rw [(QPB hv hj).1]
 have h3:=(jR hv.2.1 3).1
 have h4:=(jR hv.2.1 4).1
 have hbt:=hv.2.1 j hj
 generalize l[j]=t at *
 have h5:=h3.getD t.2.1.toNat
 have h6:=h4.getD t.2.1.toNat
 unfold Oo
 split
 ·omega
 split
 ·omega
 split
 ·rename_i hk
  have h7:=Qv hbt hk
  have:=QFk h7.2.2.1 h7.2.2.2 h6.1 h6.2
  omega
 split
 ·have:=Yd h4 t.2.2.2.1
  omega
 ·omega
theorem y8 {l:List ES} (hv:Valid l):∀ i,i<=l.length->∀ j:Nat,j < i->Gd (wS l j) (ext (GH (l.take i) []) j)
 | 0,_,j,hj=>by omega
 | i+1,hi,j,hj=>by
  have ih:=y8 hv i (by omega)
  have hl:=gu (l:=l) (i:=i) (by omega)
  rw [Ah (by omega),XA]
  by_cases hji:j < i
  ·rw [QFQ (by omega) (by omega)]
   exact ih j hji
  ·have:j=i:=by omega
   subst this
   have e1:ext (GH (l.take j) []++[Fb (GH (l.take j) []) l[j]]) j=Fb (GH (l.take j) []) l[j]:=by
    unfold ext
    rw [Aj,Ad,Ap (by omega),hl,Nat.sub_self]
    rfl
   rw [e1]
   have hjl:j < l.length:=hi
   have hw:=(QPB hv hjl).1
   have hp:=QUE hv hjl
   have hbt:=hv.2.1 j hjl
   have hih:∀ p:Int,0<=p->p < j->Gd (wS l p) (ext (GH (l.take j) []) p):=by
    intro p h0 h1
    have:=ih p.toNat (by omega)
    rwa [Int.toNat_of_nonneg h0] at this
   clear e1 ih hl
   generalize GH (l.take j) []=acc at *
   generalize l[j]=t at *
   unfold Fb
   split
   ·exact ⟨by decide,by show (8:Int)+7<=_;omega,.inr rfl,⟨1,rfl⟩⟩
   rename_i h24
   split
   ·exact ⟨by decide,by show (16:Int)+7<=_;omega,.inr rfl,⟨2,rfl⟩⟩
   split
   ·exact ⟨by decide,by show (24:Int)+7<=_;omega,.inr rfl,⟨3,rfl⟩⟩
   rename_i h7
   split
   ·rename_i h6
    have hx:=Qv hbt h6
    obtain ⟨g1,g2,g3,g4⟩:=hih t.2.1 hx.1 hx.2.1
    unfold Oo at hw
    rw [AX (by omega),AX h7,AY h6] at hw
    have hw:wS l j=1+t.2.2.1 * wS l t.2.1:=hw
    have m1:=Int.mul_le_mul_of_nonneg_left g2 (show 0<=t.2.2.1 by omega)
    rw [Int.mul_add,Int.mul_left_comm] at m1
    have m2:=Int.mul_le_mul hx.2.2.1 g1 (by omega) (by omega)
    refine ⟨?_,?_,g3,Int.dvd_mul_of_dvd_right g4⟩
    ·show 1<=t.2.2.1 * (ext acc t.2.1).1
     omega
    ·show t.2.2.1 * (ext acc t.2.1).1+7<=_
     omega
   rename_i h6
   split
   ·rename_i h5
    have hx:=Oe hbt h5
    have hfits:Fits acc (λp=>32 * wS l p) t.2.2.2.1:=by
     intro f hf
     have:=hx.2 f hf
     obtain ⟨g1,g2,g3,g4⟩:=hih f.2.1 this.1 this.2
     exact ⟨g1,g2,g3⟩
    have hb:=fO hfits _ (Nat.le_refl _)
    rw [List.take_length,QCn] at hb
    unfold Oo at hw
    rw [AX (by omega),AX h7,AX h6,AY h5] at hw
    have hu:=uh (n:=(Ep acc t.2.2.2.1).2.1) hb.2.2.1
    refine ⟨?_,?_,hb.2.2.1,hu.2.2⟩
    ·have:=hb.2.2.2 (by omega)
     show 1<=jX _ _
     omega
    ·show jX _ _+7<=_
     omega
   ·exact ⟨by decide,by show (1:Int)+7<=_;omega,.inl rfl,⟨1,rfl⟩⟩
theorem QKm {l:List ES} (hv:Valid l) {i:Int} (h0:0<=i) (h1:i < l.length):Gd (wS l i) (ext (exS l) i):=by
 have:=y8 hv l.length (Nat.le_refl _) i.toNat (by omega)
 rw [List.take_length,Int.toNat_of_nonneg h0] at this
 exact this
theorem zA {l:List ES} (hv:Valid l) {i:Int} (h0:0<=i) (h1:i < l.length):1<=sz (exS l) i/\sz (exS l) i<=160000/\Al (al (exS l) i)/\al (exS l) i ∣ sz (exS l) i:=by
 obtain ⟨g1,g2,g3,g4⟩:=QKm hv h0 h1
 have:=(QPB hv (show i.toNat < l.length by omega)).2
 rw [Int.toNat_of_nonneg h0] at this
 exact ⟨g1,by show (ext (exS l) i).1<=_;omega,g3,g4⟩
theorem QCm {l:List ES} (hv:Valid l) {i:Nat} (hi:i < l.length) (h5:(l[i]).1=5):Fits (GH (l.take i) []) (λp=>32 * wS l p) (l[i]).2.2.2.1/\cO (λp=>32 * wS l p) (l[i]).2.2.2.1<=900000:=by
 have hx:=Oe (hv.2.1 i hi) h5
 constructor
 ·intro f hf
  have:=hx.2 f hf
  obtain ⟨g1,g2,g3,g4⟩:=y8 hv i (by omega) f.2.1.toNat (by omega)
  rw [Int.toNat_of_nonneg this.1] at g1 g2 g3 g4
  exact ⟨g1,g2,g3⟩
 ·have hw:=QPB hv hi
  unfold Oo at hw
  rw [AX (by omega),AX (by omega),AX (by omega),AY h5] at hw
  rw [QCn]
  omega
theorem QBf {acc:List Ext} {t:ES} (h6:t.1=6->0<=t.2.1/\t.2.1 < acc.length/\0<=t.2.2.1 * sz acc t.2.1/\t.2.2.1 * sz acc t.2.1<=900000)
  (h5:t.1=5->Iy (acc,t.2.2.2.1)=some ((Ep acc t.2.2.2.1).1,(jX (Ep acc t.2.2.2.1).2.1 (Ep acc t.2.2.2.1).2.2,((Ep acc t.2.2.2.1).2.2,())))):Mf (t,acc)=some (Fb acc t):=by
 show RI _=_
 unfold RI Fb
 dsimp only
 by_cases k2:t.1=2
 ·rw [AY (.inl k2),k2];rfl
 rw [show (t.1==2)=false from AF k2,AJ]
 by_cases k4:t.1=4
 ·rw [AY (.inr k4),k4];rfl
 rw [AX (by omega),show (t.1==4)=false from AF k4,AJ]
 by_cases k3:t.1=3
 ·rw [AY k3,k3];rfl
 rw [AX k3,show (t.1==3)=false from AF k3,AJ]
 by_cases k7:t.1=7
 ·rw [AY k7,k7];rfl
 rw [AX k7,show (t.1==7)=false from AF k7,AJ]
 by_cases k6:t.1=6
 ·have h:=h6 k6
  rw [AY k6,show (t.1==6)=true from AB k6,AL,rT h.1 h.2.1,AA,wrap_i64 (n:=t.2.2.1 * sz acc t.2.1) (by have:=h.2.2;omega) (by have:=h.2.2;omega)]
 rw [AX k6,show (t.1==6)=false from AF k6,AJ]
 by_cases k5:t.1=5
 ·rw [AY k5,show (t.1==5)=true from AB k5,AL,h5 k5,AA]
 ·rw [AX k5,show (t.1==5)=false from AF k5,AJ]
theorem vo {l:List ES} (hv:Valid l) {i:Nat} (hi:i < l.length) (h6:(l[i]).1=6):(0<=(l[i]).2.1/\(l[i]).2.1 < i)/\0<=(l[i]).2.2.1 * sz (GH (l.take i) []) (l[i]).2.1/\(l[i]).2.2.1 * sz (GH (l.take i) []) (l[i]).2.1<=900000:=by
 have hx:=Qv (hv.2.1 i hi) h6
 have ht:BX l (i:Int)=some l[i]:=CV hi
 have e:=QTY hv.2.1 ht
 have ho:=zA hv (i:=(i:Int)) (by omega) (by omega)
 unfold sz at ho ⊢
 rw [QBe (by omega) hx.1 hx.2.1]
 rw [e] at ho
 unfold Fb at ho
 rw [AX (by omega),AX (by omega),AX (by omega),AY h6] at ho
 have h1:1<=(l[i]).2.2.1 * (ext (exS l) (l[i]).2.1).1:=ho.1
 have h2:(l[i]).2.2.1 * (ext (exS l) (l[i]).2.1).1<=160000:=ho.2.1
 exact ⟨⟨hx.1,hx.2.1⟩,by omega,by omega⟩
theorem QDb {l:List ES} (hv:Valid l):Sr l=some (exS l):=by
 have hlen:=hv.1
 show KT (BP (Hf big) big) l=_
 unfold KT
 refine Bg (g:=Hf big) (n:=l.length) (λ(r:List Ext) (i:Nat)=>(l,(l.length:Int),(i:Int),r)) (λi r=>r=GH (l.take i) []) (λq=>q=some (exS l)) ?_ ?_
  l.length 0 big (by simp) (by unfold big;omega) _ (by simp [GH])
 ·rintro self s rfl
  rw [List.take_length]
  show Hu self _=_
  unfold Hu
  dsimp only
  rw [AF (by omega),AJ]
  rfl
 ·rintro self s i hi rfl
  left
  refine ⟨_,rfl,?_⟩
  have hl:=gu (l:=l) (i:=i) (by omega)
  rw [Ah hi,XA]
  show Hu self _=_
  unfold Hu
  dsimp only
  rw [AB (by omega),AL,CV hi,AA,QBf (λh6=>by have:=vo hv hi h6;exact ⟨this.1.1,by omega,this.2⟩) (λh5=>by
   have hx:=(Oe (hv.2.1 i hi) h5)
   obtain ⟨g1,g2⟩:=QCm hv hi h5
   exact QCr g1 g2 (λf hf=>by have:=hx.2 f hf;omega) (by omega)),AA,vv rfl (by simp [hl];omega),AL,CY hi (by have:=Bw;omega)]
  rfl
theorem QBr (x n:Int):OG (x,n)=some (Fq x n):=by
 show TK (x,n)=_
 unfold TK Fq
 dsimp only
 by_cases h:0<=x
 ·rw [AB (show x>=0 from h)];rfl
 ·rw [AF (show ¬ x>=0 from h)];rfl
def W9 (l:List ES) (i:Int):Int:=if Valid l then (if 0<=i/\i < l.length then (if sz (exS l) i<=256 then 0 else 16) else 2) else 8
theorem y7 {l:List ES} {i:Int} (h:W9 l i=0):Valid l/\0<=i/\i < l.length/\sz (exS l) i<=256:=by
 unfold W9 at h
 split at h
 ·rename_i hv
  split at h
  ·rename_i hi
   split at h
   ·rename_i hs
    exact ⟨hv,hi.1,hi.2,hs⟩
   ·cases h
  ·cases h
 ·cases h
theorem jh {l:List ES} {i:Int} (hv:Valid l) (h0:0<=i) (h1:i < l.length) (hs:sz (exS l) i<=256):W9 l i=0:=by
 unfold W9;rw [AY hv,AY ⟨h0,h1⟩,AY hs]
theorem QC6 (l:List ES) (i:Int):Mg (l,i)=some (if W9 l i=0 then exS l else [],W9 l i):=by
 show RJ _=_
 unfold RJ
 dsimp only
 rw [Wv,AA]
 by_cases hv:Valid l
 ·rw [AY hv,show ((0:Int) != 0)=false from rfl,AJ,QBr,AA]
  by_cases hi:0<=i/\i < l.length
  ·rw [Uq.2 hi,A8,AJ,QDb hv,AA,AB hi.1,AB (by rw [Tm];exact hi.2),Ai,AL,QFm hi.1 (by rw [Tm];exact hi.2),AA]
   by_cases hs:sz (exS l) i<=256
   ·rw [jh hv hi.1 hi.2 hs,AF (by show ¬ sz (exS l) i > 256;omega),AJ,AY rfl]
   ·have:W9 l i=16:=by unfold W9;rw [AY hv,AY hi,AX hs]
    rw [this,AB (by show sz (exS l) i > 256;omega),AL,AX (by decide)]
  ·have hb:Fq i l.length=false:=by
    rw [Bool.eq_false_iff];intro h;exact hi (Uq.1 h)
   have:W9 l i=2:=by unfold W9;rw [AY hv,AX hi]
   rw [hb,A9,AL,this,AX (by decide)]
 ·have:W9 l i=8:=by unfold W9;rw [AX hv]
  rw [AX hv,this,AX (by decide)];rfl
theorem QF1 (l:List ES) (i:Int):O9 (l,i)=some (if W9 l i=0 then (sz (exS l) i,(al (exS l) i,0)) else (0,(0,W9 l i))):=by
 show YI _=_
 unfold YI
 dsimp only
 rw [QC6,AA]
 by_cases h:W9 l i=0
 ·obtain ⟨hv,h0,h1,hs⟩:=y7 h
  simp only [h,if_true]
  rw [show ((0:Int) != 0)=false from rfl,AJ,AB h0,AB (by rw [Tm];exact h1),Ai,AL,QFm h0 (by rw [Tm];exact h1),AA]
  first
   | rfl
   | (rw [rT h0 (by rw [Tm];exact h1)];rfl)
 ·simp only [AX h]
  rw [show (W9 l i != 0)=true by simpa using h,AL]
end Go.Proofs.YtjcnhegjiffgpaaGreatDoor.K
set_option linter.unusedVariables false
set_option linter.unusedSimpArgs false
set_option maxRecDepth 100000
namespace Go.Proofs.YtjcnhegjiffgpaaGreatDoor.K
open Go.Lift
abbrev Cel:=Int×(Int×Unit)
def isC (t:ES):Prop:=t.1=6\/t.1=5
instance (t:ES):Decidable (isC t):=by unfold isC;infer_instance
def fin (S:List Ext) (t:ES) (j:Nat):Int:=if t.1=6 then j * sz S t.2.1 else (Ep S (t.2.2.2.1.take j)).2.1
section
variable {l:List ES} (hv:Valid l) {i:Int} {t:ES} (ht:BX l i=some t) (hk:isC t)
include hv ht hk
end
def nC (S:List Ext):List Cel->Int->Int->Prop
 | [],lo,hi=>lo<=hi
 | c::r,lo,hi=>lo<=c.1/\nC S r (c.1+sz S c.2.1) hi
theorem nC.weak {S:List Ext}:∀ {a:List Cel} {lo lo' hi hi':Int},lo'<=lo->hi<=hi'->nC S a lo hi->nC S a lo' hi'
 | [],lo,lo',hi,hi',h1,h2,h=>by simp only [nC] at h ⊢;omega
 | c::r,lo,lo',hi,hi',h1,h2,h=>⟨by have:=h.1;omega,nC.weak (Int.le_refl _) h2 h.2⟩
theorem nC.append {S:List Ext}:∀ {a b:List Cel} {lo m hi:Int},nC S a lo m->nC S b m hi->nC S (a++b) lo hi
 | [],b,lo,m,hi,h1,h2=>nC.weak h1 (Int.le_refl _) h2
 | c::r,b,lo,m,hi,h1,h2=>⟨h1.1,nC.append h1.2 h2⟩
def mq {α β:Type} (R:α->β->Prop):List α->List β->Prop
 | [],[]=>True
 | a::l,b::m=>R a b/\mq R l m
 | _,_=>False
theorem mq.append {α β:Type} {R:α->β->Prop}:∀ {a:List α} {b:List β} {c:List α} {d:List β},mq R a b->mq R c d->mq R (a++c) (b++d)
 | [],[],_,_,_,h=>h
 | x::a,y::b,c,d,h,h'=>⟨h.1,mq.append h.2 h'⟩
 | [],_::_,_,_,h,_=>h.elim
 | _::_,[],_,_,h,_=>h.elim
theorem mq.len {α β:Type} {R:α->β->Prop}:∀ {a:List α} {b:List β},mq R a b->a.length=b.length
 | [],[],_=>rfl
 | x::a,y::b,h=>by rw [Af,Af,mq.len h.2]
 | [],_::_,h=>h.elim
 | _::_,[],h=>h.elim
theorem mq.at {α β:Type} {R:α->β->Prop}:∀ {a:List α} {b:List β},mq R a b->∀ (j:Nat) (h1:j < a.length) (h2:j < b.length),R a[j] b[j]
 | x::a,y::b,h,0,_,_=>h.1
 | x::a,y::b,h,j+1,h1,h2=>mq.at h.2 j (by simpa using h1) (by simpa using h2)
 | [],_,_,_,h,_=>by simp at h
 | _::_,[],h,_,_,_=>h.elim
section
variable {l:List ES} (hv:Valid l)
include hv
end
end Go.Proofs.YtjcnhegjiffgpaaGreatDoor.K
set_option linter.unusedVariables false
set_option linter.unusedSimpArgs false
set_option maxRecDepth 100000
namespace Go.Proofs.YtjcnhegjiffgpaaGreatDoor.K
open Go.Lift
section
variable {l:List ES} (hv:Valid l) {i:Int} {t:ES} (ht:BX l i=some t) (hk:isC t)
include hv ht hk
end
theorem QJe (n:Int):RY n=some (if n < 0\/n > 1073741824 then (0,2) else (jX n 8,0)):=by
 show WZ n=_
 unfold WZ
 by_cases h1:n < 0
 ·rw [AB h1,AL,AY (.inl h1)]
 rw [AF h1,AJ]
 by_cases h2:n > 1073741824
 ·rw [AB h2,AL,AY (.inr h2)]
 rw [AF h2,AJ,AX (by omega),Zf (.inr rfl) (by omega) (by omega),AA]
end Go.Proofs.YtjcnhegjiffgpaaGreatDoor.K
set_option linter.unusedVariables false
set_option linter.unusedSimpArgs false
set_option maxRecDepth 100000
namespace Go.Proofs.YtjcnhegjiffgpaaGreatDoor.K
open Go.Lift
abbrev szs (S:List Ext):List Int:=S.map (·.1)
abbrev als (S:List Ext):List Int:=S.map (·.2.1)
theorem QBj {S:List Ext} {e:Int} (h0:0<=e) (h:e < (S.length:Int)):BX (szs S) e=some (sz S e):=by
 obtain ⟨k,rfl⟩:=BL h0
 have hk:k < S.length:=by omega
 rw [CV (by simpa using hk)]
 simp [hk,ext,sz,al]
theorem QKu {S:List Ext} {e:Int} (h0:0<=e) (h:e < (S.length:Int)):BX (als S) e=some (al S e):=by
 obtain ⟨k,rfl⟩:=BL h0
 have hk:k < S.length:=by omega
 rw [CV (by simpa using hk)]
 simp [hk,ext,sz,al]
theorem QFn {S:List Ext} {e:Int} (h0:0<=e) (h:e < (S.length:Int)):nth (szs S) (Int.toNat e)=some (sz S e):=by
 obtain ⟨k,rfl⟩:=BL h0
 have hk:k < S.length:=by omega
 show (szs S)[k]? = _
 simp [hk,ext,sz,al]
theorem QOn {S:List Ext} {e:Int} (h0:0<=e) (h:e < (S.length:Int)):nth (als S) (Int.toNat e)=some (al S e):=by
 obtain ⟨k,rfl⟩:=BL h0
 have hk:k < S.length:=by omega
 show (als S)[k]? = _
 simp [hk,ext,sz,al]
theorem QAR {S:List Ext} {g:Int->Int} {fs:List Qo} (hf:Fits S g fs) (hs:cO g fs<=900000) (hi:∀ f∈fs,0<=f.2.1/\f.2.1 < S.length) (hl:fs.length<=1000) :
  Sv (szs S,als S,fs)=some ((Ep S fs).1,(jX (Ep S fs).2.1 (Ep S fs).2.2,(Ep S fs).2.2)):=by
 show KV (BP (Hg big) big) _=_
 unfold KV
 dsimp only
 refine Bg (g:=Hg big) (n:=fs.length) (λ(s:List Int×(Int×Int)) (i:Nat)=>(szs S,als S,fs,s.2.1,s.2.2,(i:Int),s.1)) (λi s=>s=Ep S (fs.take i)) (λr=>r=some ((Ep S fs).1,(jX (Ep S fs).2.1 (Ep S fs).2.2,(Ep S fs).2.2))) ?_ ?_
  fs.length 0 big (by simp) (by unfold big;omega) ([],(0,1)) rfl
 ·rintro self s rfl
  have hb:=bY hf hs (Nat.le_refl _)
  rw [List.take_length] at hb ⊢
  have hu:=uh (n:=(Ep S fs).2.1) hb.2.2
  show Hy self _=_
  unfold Hy
  dsimp only
  rw [AF (by omega),AJ,QEP hb.2.2 hb.1 (by omega),AA,AY (by omega)]
 ·rintro self s i hlt rfl
  left
  refine ⟨_,rfl,?_⟩
  have hb:=bY hf hs (Nat.le_of_lt hlt)
  have hfi:=hf _ (Ae hlt)
  have hix:=hi _ (Ae hlt)
  have hu:=uh (n:=(Ep S (fs.take i)).2.1) hfi.2.2
  have hb1:=bY hf hs (show i+1<=fs.length by omega)
  have hlen:=QCq S (fs.take i)
  rw [BK,Nat.min_eq_left (by omega)] at hlen
  rw [lS S hlt] at hb1 ⊢
  unfold Qk at hb1 ⊢
  dsimp only at hb1 ⊢
  generalize Ep S (fs.take i)=T at *
  show Hy self _=_
  unfold Hy
  dsimp only
  rw [AB (by omega),AL,CV hlt,AA,QKu hix.1 hix.2,AA,QEP hfi.2.2 hb.1 (by omega),AA,vv rfl (by rw [List.length_singleton];omega),AL,QBj hix.1 hix.2,AA,AA]
  rw [CY hlt (by have:=Bw;omega),wrap_i64 (n:=jX T.2.1 (al S fs[i].2.1)+sz S fs[i].2.1) (by omega) (by omega),AY (by omega),QLM]
  rfl
theorem QBd {acc:List Ext} {t:ES} {i n:Int} (h:EB t i n=true) :
  (t.1=1->Fb acc t=(1,(1,())))/\(t.1=3->Fb acc t=(16,(8,())))/\(t.1=7->Fb acc t=(24,(8,())))/\(t.1=6->Fb acc t=(t.2.2.1 * sz acc t.2.1,(al acc t.2.1,())))/\
  (t.1=5->Fb acc t=(jX (Ep acc t.2.2.2.1).2.1 (Ep acc t.2.2.2.1).2.2,((Ep acc t.2.2.2.1).2.2,())))/\(t.1≠1->t.1≠3->t.1≠7->t.1≠6->t.1≠5->Fb acc t=(8,(8,()))):=by
 have hk:=QDT h
 unfold Fb
 refine ⟨λe=>?_,λe=>?_,λe=>?_,λe=>?_,λe=>?_,λe1 e2 e3 e4 e5=>?_⟩
 ·rw [AX (by omega),AX (by omega),AX (by omega),AX (by omega),AX (by omega)]
 ·rw [AX (by omega),AY e]
 ·rw [AX (by omega),AX (by omega),AY e]
 ·rw [AX (by omega),AX (by omega),AX (by omega),AY e]
 ·rw [AX (by omega),AX (by omega),AX (by omega),AX (by omega),AY e]
 ·rw [AY (by omega)]
theorem xW {l:List ES} (hv:Valid l):Td l=some (szs (exS l),als (exS l)):=by
 have hlen:=hv.1
 show QU (BP (Lj big) big) l=_
 unfold QU
 refine Bg (g:=Lj big) (n:=l.length) (λ(r:List Int×List Int) (i:Nat)=>(l,(i:Int),r.1,r.2)) (λi r=>r=(szs (GH (l.take i) []),als (GH (l.take i) []))) (λq=>q=some (szs (exS l),als (exS l))) ?_ ?_
  l.length 0 big (by simp) (by unfold big;omega) ([],[]) (by simp [GH])
 ·rintro self s rfl
  rw [List.take_length]
  show MG self _=_
  unfold MG
  dsimp only
  rw [AF (by omega),AJ]
  rfl
 ·rintro self s i hi rfl
  left
  refine ⟨_,rfl,?_⟩
  have hl:=gu (l:=l) (i:=i) (by omega)
  have hs1:(szs (GH (l.take i) [])).length=i:=by rw [Ay,hl]
  have hs2:(als (GH (l.take i) [])).length=i:=by rw [Ay,hl]
  obtain ⟨k1,k3,k7,k6,k5,k0⟩:=QBd (acc:=GH (l.take i) []) (hv.2.1 i hi)
  have ha6:=λh6=>vo hv hi h6
  have ha5:=λh5=>QCm hv hi h5
  have hx5:=λh5=>(Oe (hv.2.1 i hi) h5)
  have e0:GH (l.take (i+1)) []=GH (l.take i) []++[Fb (GH (l.take i) []) l[i]]:=by rw [Ah hi,XA]
  have e1:szs (GH (l.take (i+1)) [])=szs (GH (l.take i) [])++[(Fb (GH (l.take i) []) l[i]).1]:=by rw [e0];simp
  have e2:als (GH (l.take (i+1)) [])=als (GH (l.take i) [])++[(Fb (GH (l.take i) []) l[i]).2.1]:=by rw [e0];simp
  rw [e1,e2]
  clear e0 e1 e2
  have hget:=CV hi
  have hsucc:=CY hi (by have:=Bw;omega:l.length<=maxLen)
  have hb1:∀ x:Int,(Nat.ble 1 1&&Nat.ble ((szs (GH (l.take i) [])).length+[x].length) lim)=true:=λx=>vv rfl (by rw [List.length_singleton];omega)
  have hb2:∀ x:Int,(Nat.ble 1 1&&Nat.ble ((als (GH (l.take i) [])).length+[x].length) lim)=true:=λx=>vv rfl (by rw [List.length_singleton];omega)
  generalize GH (l.take i) []=acc at *
  generalize l[i]=t at *
  show MG self _=_
  unfold MG
  dsimp only
  rw [AB (by omega),AL,hget,AA]
  simp only [hb1,hb2,AL,hsucc]
  by_cases h1:t.1=1
  ·rw [k1 h1,show (t.1==1)=true from AB h1,AL];rfl
  rw [show (t.1==1)=false from AF h1,AJ]
  by_cases h3:t.1=3
  ·rw [k3 h3,show (t.1==3)=true from AB h3,AL];rfl
  rw [show (t.1==3)=false from AF h3,AJ]
  by_cases h7:t.1=7
  ·rw [k7 h7,show (t.1==7)=true from AB h7,AL];rfl
  rw [show (t.1==7)=false from AF h7,AJ]
  by_cases h6:t.1=6
  ·have hx:=ha6 h6
   rw [k6 h6,show (t.1==6)=true from AB h6,AL,AA,AA,AB hx.1.1,AB (by omega),Ai,AL,QFn hx.1.1 (by omega),AA,AA,AB hx.1.1,AB (show t.2.1 < ((als acc).length:Int) by omega),Ai,AL,QOn hx.1.1 (by omega),AA,wrap_i64 (n:=t.2.2.1 * sz acc t.2.1) (by omega) (by omega),AY (by omega)]
   rfl
  rw [show (t.1==6)=false from AF h6,AJ]
  by_cases h5:t.1=5
  ·obtain ⟨g1,g2⟩:=ha5 h5
   have hx:=hx5 h5
   rw [k5 h5,show (t.1==5)=true from AB h5,AL,AA,QAR g1 g2 (λf hf=>by have:=hx.2 f hf;omega) (by omega),AA]
   rfl
  rw [show (t.1==5)=false from AF h5,AJ,k0 h1 h3 h7 h6 h5]
  rfl
end Go.Proofs.YtjcnhegjiffgpaaGreatDoor.K
