import Derived.Test.YtbgmjjplddddnaaGreatDoorCfT1
set_option linter.unusedVariables false
set_option linter.unusedSimpArgs false
set_option linter.unusedSectionVars false
set_option maxRecDepth 100000
namespace Go.Proofs.YtbgmjjplddddnaaGreatDoor.K
open Go.Lift
abbrev qW:=List Int×(Int×Unit)
abbrev aU:=Int×(Int×(Int×(List qW×Unit)))
theorem QGC {kt vt:Ty} (x y:kt.den) (z v:vt.den):∀ m:List (kt.den×vt.den),Om x z (LH y v m)=bif Ib kt x y then (v,true) else Om x z m
 | []=>rfl
 | p::r=>by
  simp only [LH]
  by_cases h:y=p.1
  ·subst h
   rw [WT,cond_true]
   simp only [Om]
   cases Ib kt x p.1 <;> rfl
  ·rw [Vv h,cond_false]
   simp only [Om]
   rw [QGC x y z v r]
   by_cases h2:x=p.1
   ·subst h2
    rw [WT,cond_true,Vv (fun e=>h e.symm),cond_false,cond_true]
   ·rw [Vv h2,cond_false,cond_false]
def Marks (kt:Ty) (m:List (kt.den×Bool)) (S:kt.den->Prop):Prop:=∀ x,(@Om kt .bool x false m).1=true↔S x
theorem Marks.nil {kt:Ty}:Marks kt [] (fun _=>False):=fun x=>by simp [Om]
theorem Marks.put {kt:Ty} {m:List (kt.den×Bool)} {S:kt.den->Prop} (h:Marks kt m S) (y:kt.den):Marks kt (@LH kt .bool y true m) (fun x=>x=y∨S x):=by
 intro x
 rw [QGC]
 by_cases e:x=y
 ·subst e;rw [WT];simp
 ·rw [Vv e,cond_false,h x];simp [e]
def eP (x n:Int):Bool:=decide (0<=x)&&decide (x < n)
theorem tZ {x n:Int}:eP x n=true↔0<=x/\x < n:=by simp [eP]
def QAV (c:Int):Bool:=(decide (97<=c)&&decide (c<=122))||(decide (65<=c)&&decide (c<=90))
def QHJ (c:Int):Bool:=decide (48<=c)&&decide (c<=57)
def aN (s:List Int):Bool:=match s with
 | []=>false
 | c::_=>decide (s.length<=16)&&(QAV c&&s.all fun c=>QAV c||QHJ c)
theorem xE (x n:Int):ZU (x,n)=some (eP x n):=by
 show og (x,n)=_
 unfold og eP
 dsimp only
 by_cases h:0<=x
 ·rw [decide_eq_true (show x≥0 from h)];rfl
 ·rw [decide_eq_false (show ¬ x≥0 from h)];rfl
theorem QBs (c:Int):lU c=some (QAV c):=by
 show l7 c=_
 unfold l7 QAV
 simp only [ge_iff_le]
 cases decide (97<=c) <;> cases decide (c<=122) <;> cases decide (65<=c) <;> cases decide (c<=90) <;> rfl
theorem QHS (c:Int):tF c=some (QHJ c):=by
 show oZ c=_
 unfold oZ QHJ
 simp only [ge_iff_le]
 cases decide (48<=c) <;> cases decide (c<=57) <;> rfl
theorem QBX {β:Type} (p:β->Bool):∀ l:List β,SA (fun x (s:Unit) k=>bif p x then k s else some false) (fun _=>some true) l ()=some (l.all p)
 | []=>rfl
 | x::r=>by
  simp only [SA,List.all_cons]
  cases p x with
  | true=>exact QBX p r
  | false=>rfl
theorem QCp (s:List Int):nJ s=some (aN s):=by
 show rY (FU (nR big) big) s=_
 unfold rY
 cases s with
 | nil=>rfl
 | cons c r=>
  rw [Vv (by simp),cond_false]
  by_cases h:(c::r).length<=16
  ·rw [decide_eq_false (by omega),cond_false]
   have h0:Mh (c::r) (0:Int)=some c:=rfl
   rw [h0,Option.bind_some,QBs,Option.bind_some]
   simp only [aN]
   rw [decide_eq_true h,Bool.true_and]
   cases hc:QAV c with
   | false=>rfl
   | true=>
    rw [Bool.not_true,cond_false,Bool.true_and]
    have:=Ra (g:=nR big) (xs:=c::r) (fun (_:Unit) (i:Nat)=>(c::r,((c::r).length:Int),(i:Int))) (fun x s k=>bif (QAV x||QHJ x) then k s else some false) (fun _=>some true)
     (fun self s=>by
      show jl self _=_
      unfold jl
      dsimp only
      rw [decide_eq_false (by omega),cond_false])
     (fun self s i hi=>by
      show jl self _=_
      unfold jl
      dsimp only
      rw [decide_eq_true (by omega),cond_true,XU hi,Option.bind_some,QBs,Option.bind_some,Option.bind_some,QHS,Option.bind_some]
      rw [V4 hi (by have:=Vx;omega)]
      cases QAV (c::r)[i] <;> cases QHJ (c::r)[i] <;> rfl)
     (c::r).length 0 big (by simp) (by unfold big;omega) ()
    rw [List.drop_zero,QBX] at this
    exact this
  ·rw [decide_eq_true (by omega),cond_true]
   simp only [aN]
   rw [decide_eq_false h];rfl
def QCt (fs:List qW) (n:Int):Bool:=decide (1<=fs.length/\fs.length<=8)&&(fs.all (fun f=>aN f.1)&&(decide ((fs.map (·.1)).Nodup)&&fs.all fun f=>eP f.2.1 n))
theorem zY (n:Int):∀ (fs:List qW) (m:List (List Int×Bool)) (S:List Int->Prop),Marks .str m S->∃ b,SA (fun (f:qW) m k=>bif aN f.1 then (bif (@Om .str .bool f.1 false m).1 then some false else (bif eP f.2.1 n then k (@LH .str .bool f.1 true m) else some false)) else some false) (fun _=>some true) fs m=some b/\
  (b=true↔(∀ f∈fs,aN f.1=true/\eP f.2.1 n=true/\¬ S f.1)/\(fs.map (·.1)).Nodup)
 | [],m,S,_=>⟨true,rfl,by simp⟩
 | f::r,m,S,h=>by
  simp only [SA]
  cases h1:aN f.1 with
  | false=>exact ⟨false,rfl,by simp [h1]⟩
  | true=>
   rw [cond_true]
   cases h2:(@Om .str .bool f.1 false m).1 with
   | true=>exact ⟨false,rfl,by simp [(h f.1).1 h2]⟩
   | false=>
    rw [cond_false]
    have h2':¬ S f.1:=fun hs=>by rw [(h f.1).2 hs] at h2;cases h2
    cases h3:eP f.2.1 n with
    | false=>exact ⟨false,rfl,by simp [h3]⟩
    | true=>
     rw [cond_true]
     obtain ⟨b,e,hb⟩:=zY n r _ _ (h.put f.1)
     refine ⟨b,e,hb.trans ?_⟩
     simp only [List.mem_cons,forall_eq_or_imp,List.map_cons,List.nodup_cons,List.mem_map,not_exists,not_and,not_or]
     constructor
     ·rintro ⟨g1,g2⟩
      exact ⟨⟨⟨h1,h3,h2'⟩,fun x hx=>⟨(g1 x hx).1,(g1 x hx).2.1,(g1 x hx).2.2.2⟩⟩,fun x hx e=>(g1 x hx).2.2.1 e,g2⟩
     ·rintro ⟨⟨_,g1⟩,g2,g3⟩
      exact ⟨fun x hx=>⟨(g1 x hx).1,(g1 x hx).2.1,fun e=>g2 x hx e,(g1 x hx).2.2⟩,g3⟩
theorem QG7 (fs:List qW) (n:Int):aT (fs,n)=some (QCt fs n):=by
 show l6 (FU (dY big) big) (fs,n)=_
 unfold l6 QCt
 dsimp only
 by_cases h1:fs.length < 1
 ·rw [decide_eq_true (by omega),cond_true,decide_eq_false (by omega)];rfl
 rw [decide_eq_false (by omega),cond_false]
 by_cases h2:fs.length > 8
 ·rw [decide_eq_true (by omega),cond_true,decide_eq_false (by omega)];rfl
 rw [decide_eq_false (by omega),cond_false]
 have:=Ra (g:=dY big) (xs:=fs) (fun (m:List (List Int×Bool)) (i:Nat)=>(n,fs,(fs.length:Int),(i:Int),m)) (fun f m k=>bif aN f.1 then (bif (@Om .str .bool f.1 false m).1 then some false else (bif eP f.2.1 n then k (@LH .str .bool f.1 true m) else some false)) else some false) (fun _=>some true)
  (fun self s=>by
   show dw self _=_
   unfold dw
   dsimp only
   rw [decide_eq_false (by omega),cond_false])
  (fun self s i hi=>by
   show dw self _=_
   unfold dw
   dsimp only
   rw [decide_eq_true (by omega),cond_true,XU hi,Option.bind_some,QCp,Option.bind_some,xE,Option.bind_some]
   rw [V4 hi (by have:=Vx;omega)]
   cases aN fs[i].1 <;> cases (@Om .str .bool fs[i].1 false s).1 <;> cases eP fs[i].2.1 n <;> rfl)
  fs.length 0 big (by simp) (by unfold big;omega) []
 obtain ⟨b,e,hb⟩:=zY n fs [] _ Marks.nil
 rw [List.drop_zero,e] at this
 have this:FU (dY big) big (n,fs,(fs.length:Int),0,[])=some b:=this
 rw [this,decide_eq_true (by omega),Bool.true_and]
 congr 1
 rw [Bool.eq_iff_iff,hb]
 simp only [Bool.and_eq_true,decide_eq_true_eq,List.all_eq_true,not_false_eq_true,and_true]
 exact ⟨fun h=>⟨fun f hf=>(h.1 f hf).1,h.2,fun f hf=>(h.1 f hf).2⟩,fun h=>⟨fun f hf=>⟨h.1 f hf,h.2.2 f hf⟩,h.2.1⟩⟩
def aW (t:aU) (i n:Int):Bool:=
 if t.1=1∨t.1=2∨t.1=3 then decide (t.2.1=0)&&(decide (t.2.2.1=0)&&decide (t.2.2.2.1.length=0))
 else if t.1=4∨t.1=7 then eP t.2.1 n&&(decide (t.2.2.1=0)&&decide (t.2.2.2.1.length=0))
 else if t.1=6 then eP t.2.1 i&&(decide (1<=t.2.2.1/\t.2.2.1<=16)&&decide (t.2.2.2.1.length=0))
 else if t.1=5 then decide (t.2.1=0)&&(decide (t.2.2.1=0)&&QCt t.2.2.2.1 i)
 else false
theorem QVX {α:Type} (l:List α):((l.length:Int)==0)=decide (l.length=0):=by
 by_cases h:l.length=0
 ·rw [h];rfl
 ·rw [decide_eq_false h];simp;intro e;exact h (by rw [e];rfl)
theorem uK (a b:Int):(a==b)=decide (a=b):=rfl
theorem QDC (t:aU) (i n:Int):tC (t,i,n)=some (aW t i n):=by
 show oW (t,i,n)=_
 unfold oW aW
 simp only [xE,QG7,QVX,Option.bind_some]
 obtain ⟨k,e,l,fs,u⟩:=t
 dsimp only
 simp only [uK,ge_iff_le]
 generalize QCt fs i=A
 generalize eP e n=B
 generalize eP e i=C
 generalize decide (fs.length=0)=D
 generalize decide (e=0)=E
 generalize decide (l=0)=F
 have hG:decide (1<=l/\l<=16)=(decide (1<=l)&&decide (l<=16)):=by by_cases h:1<=l <;> by_cases h':l<=16 <;> simp [h,h']
 rw [hG]
 generalize decide (1<=l)=G
 generalize decide (l<=16)=H
 by_cases h1:k=1
 ·subst h1;simp;cases A <;> cases B <;> cases C <;> cases D <;> cases E <;> cases F <;> cases G <;> cases H <;> rfl
 by_cases h2:k=2
 ·subst h2;simp;cases A <;> cases B <;> cases C <;> cases D <;> cases E <;> cases F <;> cases G <;> cases H <;> rfl
 by_cases h3:k=3
 ·subst h3;simp;cases A <;> cases B <;> cases C <;> cases D <;> cases E <;> cases F <;> cases G <;> cases H <;> rfl
 by_cases h4:k=4
 ·subst h4;simp;cases A <;> cases B <;> cases C <;> cases D <;> cases E <;> cases F <;> cases G <;> cases H <;> rfl
 by_cases h5:k=5
 ·subst h5;simp;cases A <;> cases B <;> cases C <;> cases D <;> cases E <;> cases F <;> cases G <;> cases H <;> rfl
 by_cases h6:k=6
 ·subst h6;simp;cases A <;> cases B <;> cases C <;> cases D <;> cases E <;> cases F <;> cases G <;> cases H <;> rfl
 by_cases h7:k=7
 ·subst h7;simp;cases A <;> cases B <;> cases C <;> cases D <;> cases E <;> cases F <;> cases G <;> cases H <;> rfl
 simp [h1,h2,h3,h4,h5,h6,h7]
theorem yx {t:aU} {i n:Int} (h:aW t i n=true) (hk:t.1=4∨t.1=7):0<=t.2.1/\t.2.1 < n:=by
 unfold aW at h
 rw [if_neg (by omega),if_pos hk] at h
 simp only [Bool.and_eq_true] at h
 exact tZ.1 h.1
theorem o7 {t:aU} {i n:Int} (h:aW t i n=true) (hk:t.1=6):0<=t.2.1/\t.2.1 < i/\1<=t.2.2.1/\t.2.2.1<=16:=by
 unfold aW at h
 rw [if_neg (by omega),if_neg (by omega),if_pos hk] at h
 simp only [Bool.and_eq_true,decide_eq_true_eq] at h
 have:=tZ.1 h.1
 exact ⟨this.1,this.2,h.2.1⟩
theorem mQ {t:aU} {i n:Int} (h:aW t i n=true) (hk:t.1=5):(1<=t.2.2.2.1.length/\t.2.2.2.1.length<=8)/\∀ f∈t.2.2.2.1,0<=f.2.1/\f.2.1 < i:=by
 unfold aW at h
 rw [if_neg (by omega),if_neg (by omega),if_neg (by omega),if_pos hk] at h
 simp only [Bool.and_eq_true,decide_eq_true_eq,QCt,List.all_eq_true] at h
 exact ⟨h.2.2.1,fun f hf=>tZ.1 (h.2.2.2.2.2 f hf)⟩
theorem zy {t:aU} {i n:Int} (h:aW t i n=true) (hk:t.1≠5):t.2.2.2.1=[]:=by
 unfold aW at h
 have e:∀ {l:List qW},decide (l.length=0)=true->l=[]:=fun h=>List.eq_nil_of_length_eq_zero (of_decide_eq_true h)
 split at h
 ·simp only [Bool.and_eq_true] at h;exact e h.2.2
 split at h
 ·simp only [Bool.and_eq_true] at h;exact e h.2.2
 split at h
 ·simp only [Bool.and_eq_true] at h;exact e h.2.2
 ·simp [hk] at h
theorem QHE {t:aU} {i n:Int} (h:aW t i n=true):1<=t.1/\t.1<=7:=by
 unfold aW at h
 split at h
 ·omega
 split at h
 ·omega
 split at h
 ·omega
 split at h
 ·omega
 ·cases h
def Zn (t:aU):List Int:=if t.1=6 then [t.2.1] else if t.1=5 then t.2.2.2.1.map (·.2.1) else []
def QPD (t:aU):List Int:=if t.1=4∨t.1=7 then [t.2.1] else Zn t
def cap (w:Int):Int:=if 5001 < w then 5001 else w
def yC (acc:List Int) (fs:List qW):Int:=(fs.map fun f=>acc.getD f.2.1.toNat 0).sum
def mg (less acc:List Int) (t:aU):Int:=
 if t.1=4 then 1+less.getD t.2.1.toNat 0
 else if t.1=7 then 1+16 * less.getD t.2.1.toNat 0
 else if t.1=6 then 1+t.2.2.1 * acc.getD t.2.1.toNat 0
 else if t.1=5 then 1+yC acc t.2.2.2.1
 else 1
def vv (less:List Int):List aU->List Int->List Int
 | [],acc=>acc
 | t::r,acc=>vv less r (acc++[cap (mg less acc t)])
def QEj (l:List Int):Prop:=∀ x∈l,0<=x/\x<=5001
theorem QEj.getD {l:List Int} (h:QEj l) (i:Nat):0<=l.getD i 0/\l.getD i 0<=5001:=by
 by_cases hi:i < l.length
 ·rw [List.getD_eq_getElem?_getD,List.getElem?_eq_getElem hi]
  exact h _ (List.getElem_mem hi)
 ·rw [List.getD_eq_getElem?_getD,List.getElem?_eq_none (by omega)]
  simp
theorem QGG {w:Int} (h:0<=w):0<=cap w/\cap w<=5001:=by unfold cap;split <;> omega
theorem xO {acc:List Int} (h:QEj acc):∀ fs:List qW,0<=yC acc fs/\yC acc fs<=5001 * fs.length
 | []=>by simp [yC]
 | f::r=>by
  have h1:=xO h r
  have h2:=h.getD f.2.1.toNat
  simp only [yC,List.map_cons,List.sum_cons,List.length_cons] at h1 ⊢
  omega
theorem QJk (acc:List Int) (fs:List qW) (f:qW):yC acc (fs++[f])=yC acc fs+acc.getD f.2.1.toNat 0:=by simp [yC]
theorem QIq {a b:Int} (h0:1<=a) (h1:a<=16) (h2:0<=b) (h3:b<=5001):0<=a * b/\a * b<=80016:=by
 constructor
 ·exact Int.mul_nonneg (by omega) h2
 ·have:=Int.mul_le_mul h1 h3 h2 (by omega:(0:Int)<=16)
  omega
theorem QDm {less acc:List Int} {t:aU} {i n:Int} (hl:QEj less) (ha:QEj acc) (h:aW t i n=true):0<=mg less acc t/\mg less acc t<=100000:=by
 unfold mg
 have h1:=hl.getD t.2.1.toNat
 have h2:=ha.getD t.2.1.toNat
 split
 ·omega
 split
 ·omega
 split
 ·rename_i h6
  have h3:=o7 h h6
  have:=QIq h3.2.2.1 h3.2.2.2 h2.1 h2.2
  omega
 split
 ·rename_i h5
  have h3:=mQ h h5
  have:=xO ha t.2.2.2.1
  omega
 ·omega
theorem yu (less:List Int):∀ (l:List aU) (t:aU) (acc:List Int),vv less (l++[t]) acc=vv less l acc++[cap (mg less (vv less l acc) t)]
 | [],t,acc=>rfl
 | u::r,t,acc=>yu less r t _
theorem QBF (less:List Int):∀ (l:List aU) (acc:List Int),(vv less l acc).length=acc.length+l.length
 | [],acc=>rfl
 | u::r,acc=>by rw [vv,QBF];simp;omega
def Built (l:List aU):Prop:=∀ i (h:i < l.length),aW l[i] (i:Int) (l.length:Int)=true
theorem QBG {l:List aU} (hb:Built l) {less:List Int} (hl:QEj less):∀ i,i<=l.length->QEj (vv less (l.take i) [])
 | 0,_=>by intro x hx;simp [vv] at hx
 | i+1,hi=>by
  have ih:=QBG hb hl i (by omega)
  rw [List.take_succ_eq_append_getElem (by omega),yu]
  intro x hx
  rcases List.mem_append.1 hx with hx | hx
  ·exact ih x hx
  ·simp at hx
   subst hx
   exact QGG (QDm hl ih (hb i (by omega))).1
theorem QD7 {a b:List Int} {e:Int} (h0:0<=e) (h:e < (a.length:Int)):(a++b).getD e.toNat 0=a.getD e.toNat 0:=by
 rw [List.getD_eq_getElem?_getD,List.getD_eq_getElem?_getD,List.getElem?_append_left (by omega)]
theorem QEQ {a:List Int} {e:Int} (h0:0<=e) (h:e < (a.length:Int)):Mh a e=some (a.getD e.toNat 0):=by
 obtain ⟨k,rfl⟩:=Int.eq_ofNat_of_zero_le h0
 have hk:k < a.length:=by omega
 rw [XU hk]
 simp [hk]
theorem yZ {a:List Int} {e:Int} (h0:0<=e) (h:e < (a.length:Int)):nth a (Int.toNat e)=some (a.getD e.toNat 0):=by
 obtain ⟨k,rfl⟩:=Int.eq_ofNat_of_zero_le h0
 have hk:k < a.length:=by omega
 show a[k]? = _
 simp [hk]
theorem QG4 {a b:Int} (h0 : -9223372036854775808<=a+b) (h1:a+b<=9223372036854775807):IntKind.i64.wrap (a+b)=a+b:=wrap_i64 h0 h1
theorem QEm (w:Int):(if (5001:Int) < w then (5001:Int) else w)=cap w:=rfl
theorem QHt {l:List aU} (hlen:l.length<=40) (hb:Built l) {less:List Int} (hl:QEj less) (hll:less.length=l.length):tH (l,less)=some (vv less l []):=by
 show oh _ (FU (kK _ big) big) (l,less)=_
 unfold oh
 dsimp only
 rw [decide_eq_true (by omega),decide_eq_true (by omega),decide_eq_true (by omega)]
 simp only [Bool.and_true,cond_true]
 refine Pp (g:=kK (fun _=>List.replicate) big) (n:=l.length) (fun (r:List Int) (i:Nat)=>(less,l,(l.length:Int),(i:Int),r)) (fun i r=>r=vv less (l.take i) []++List.replicate (l.length - i) 0) (fun r=>r=some (vv less l [])) ?_ ?_
  l.length 0 big (by simp) (by unfold big;omega) _ (by simp [vv])
 ·rintro self s rfl
  show dD _ _ self _=_
  unfold dD
  dsimp only
  rw [decide_eq_false (by omega),cond_false]
  simp
 ·rintro self s i hi rfl
  left
  refine ⟨_,rfl,?_⟩
  have hw:=QBG hb hl i (by omega)
  have hwl:(vv less (l.take i) []).length=i:=by rw [QBF];simp;omega
  have hsl:(vv less (l.take i) []++List.replicate (l.length - i) 0).length=l.length:=by simp [hwl];omega
  have hbd:=QDm hl hw (hb i hi)
  have hset:∀ v:Int,(vv less (l.take i) []++List.replicate (l.length - i) 0).set i v=vv less (l.take i) []++[v]++List.replicate (l.length - (i+1)) 0:=by
   intro v
   rw [show l.length - i=(l.length - (i+1))+1 by omega,List.replicate_succ,List.set_append_right _ _ (by omega),hwl,Nat.sub_self,List.set_cons_zero,List.append_assoc]
   rfl
  have hgo:vv less (l.take (i+1)) []=vv less (l.take i) []++[cap (mg less (vv less (l.take i) []) l[i])]:=by
   rw [List.take_succ_eq_append_getElem hi,yu]
  have hbi:=hb i hi
  rw [hgo]
  show dD _ _ self _=_
  unfold dD
  dsimp only
  rw [decide_eq_true (by omega),cond_true,XU hi,Option.bind_some]
  have hin:(decide (0<=(i:Int))&&decide ((i:Int) < ((vv less (l.take i) []++List.replicate (l.length - i) 0).length:Int)))=true:=by
   rw [decide_eq_true (by omega),decide_eq_true (by omega)];rfl
  have hsucc:=V4 hi (by have:=Vx;omega:l.length<=maxLen)
  simp only [hin,cond_true,Int.toNat_natCast,hset,hsucc]
  generalize hacc:vv less (l.take i) []=acc at *
  generalize Yl:l[i]=t at *
  have hlw:=hl.getD t.2.1.toNat
  have haw:=hw.getD t.2.1.toNat
  by_cases h4:t.1=4
  ·have hp:=yx hbi (.inl h4)
   rw [h4,show ((4:Int)==4)=true from rfl,cond_true,QEQ hp.1 (by omega),Option.bind_some]
   rw [QG4 (by omega) (by omega),QEm]
   unfold mg
   rw [if_pos h4]
  have e4:(t.1==4)=false:=decide_eq_false h4
  rw [e4,cond_false]
  by_cases h7:t.1=7
  ·have hp:=yx hbi (.inr h7)
   rw [h7,show ((7:Int)==7)=true from rfl,cond_true,QEQ hp.1 (by omega),Option.bind_some]
   rw [wrap_i64 (n:=16 * _) (by omega) (by omega),QG4 (by omega) (by omega),QEm]
   unfold mg
   rw [if_neg h4,if_pos h7]
  have e7:(t.1==7)=false:=decide_eq_false h7
  rw [e7,cond_false]
  by_cases h6:t.1=6
  ·have hp:=o7 hbi h6
   rw [h6,show ((6:Int)==6)=true from rfl,cond_true]
   rw [decide_eq_true (by omega),decide_eq_true (by omega),Bool.true_and,cond_true,yZ hp.1 (by omega),Option.bind_some,QD7 hp.1 (by omega)]
   have hm:=QIq hp.2.2.1 hp.2.2.2 haw.1 haw.2
   rw [wrap_i64 (n:=t.2.2.1 * _) (by omega) (by omega),QG4 (by omega) (by omega),QEm]
   unfold mg
   rw [if_neg h4,if_neg h7,if_pos h6]
  have e6:(t.1==6)=false:=decide_eq_false h6
  rw [e6,cond_false]
  by_cases h5:t.1=5
  ·have hp:=mQ hbi h5
   rw [h5,show ((5:Int)==5)=true from rfl,cond_true]
   refine Pp (g:=pJ (fun _=>List.replicate) big self) (n:=t.2.2.2.1.length) (fun (w:Int) (j:Nat)=>(less,(i:Int),w,l,(l.length:Int),(i:Int),t.2.2.2.1,(t.2.2.2.1.length:Int),(j:Int),acc++List.replicate (l.length - i) 0)) (fun j w=>w=1+yC acc (t.2.2.2.1.take j)) (fun r=>r=self (less,l,(l.length:Int),((i+1:Nat):Int),acc++[cap (mg less acc t)]++List.replicate (l.length - (i+1)) 0)) ?_ ?_
    t.2.2.2.1.length 0 big (by simp) (by unfold big;omega) _ (by simp [yC])
   ·rintro ZH s rfl
    show gL _ self ZH _=_
    unfold gL
    dsimp only
    rw [decide_eq_false (by omega),cond_false]
    simp only [hin,cond_true,Int.toNat_natCast,hset,hsucc,QEm]
    rw [List.take_length]
    unfold mg
    rw [if_neg h4,if_neg h7,if_neg h6,if_pos h5]
   ·rintro ZH s j hj rfl
    left
    refine ⟨_,rfl,?_⟩
    have hf:=hp.2 t.2.2.2.1[j] (List.getElem_mem hj)
    have hs:=xO hw (t.2.2.2.1.take j)
    have hfw:=hw.getD t.2.2.2.1[j].2.1.toNat
    have htl:(t.2.2.2.1.take j).length<=8:=by simp;omega
    show gL _ self ZH _=_
    unfold gL
    dsimp only
    rw [decide_eq_true (by omega),cond_true,XU hj,Option.bind_some]
    rw [decide_eq_true (by omega),decide_eq_true (by omega),Bool.true_and,cond_true,yZ hf.1 (by omega),Option.bind_some,QD7 hf.1 (by omega),V4 hj (by have:=Vx;omega),QG4 (by omega) (by omega)]
    rw [List.take_succ_eq_append_getElem hj,QJk,Int.add_assoc]
  ·have e5:(t.1==5)=false:=decide_eq_false h5
   rw [e5,cond_false]
   show self (less,l,(l.length:Int),((i+1:Nat):Int),acc++[_]++_)=_
   unfold mg
   rw [if_neg h4,if_neg h7,if_neg h6,if_neg h5]
   rfl
def wN (l:List aU):Nat->List Int
 | 0=>List.replicate l.length 0
 | n+1=>vv (wN l n) l []
theorem QBH {l:List aU} (hb:Built l):∀ n,QEj (wN l n)/\(wN l n).length=l.length
 | 0=>⟨fun x hx=>by simp [wN] at hx;omega,by simp [wN]⟩
 | n+1=>by
  have ih:=QBH hb n
  have:=QBG hb ih.1 l.length (Nat.le_refl _)
  rw [List.take_length] at this
  exact ⟨this,by rw [wN,QBF];simp⟩
theorem QJr {l:List aU} (hlen:l.length<=40) (hb:Built l):vK l=some (wN l 4):=by
 show qK _ (FU (lX _ big) big) l=_
 unfold qK
 rw [decide_eq_true (by omega),decide_eq_true (by omega),decide_eq_true (by omega)]
 simp only [Bool.and_true,cond_true]
 refine Pp (g:=lX (fun _=>List.replicate) big) (n:=4) (fun (r:List Int) (i:Nat)=>(l,(i:Int),r)) (fun i r=>r=wN l i) (fun r=>r=some (wN l 4)) ?_ ?_
  4 0 big (by simp) (by unfold big;omega) _ (by simp [wN])
 ·rintro self s rfl
  rfl
 ·rintro self s i hi rfl
  left
  refine ⟨_,rfl,?_⟩
  show qo _ self _=_
  unfold qo
  dsimp only
  rw [decide_eq_true (by omega),cond_true,QHt hlen hb (QBH hb i).1 (QBH hb i).2,Option.bind_some,V4 hi (by have:=Vx;omega)]
  rfl
theorem QKQ (l:List Int) (y:Int) (hl:l.length<=1000):∃ j,iq (l,y)=some j/\(0<=j↔y∈l):=by
 show ∃ j,dO (FU (bQ big) big) (l,y)=some j/\_
 unfold dO
 refine Pp (g:=bQ big) (n:=l.length) (fun (_:Unit) (i:Nat)=>(l,y,(l.length:Int),(i:Int))) (fun i _=>y ∉ l.take i) (fun r=>∃ j,r=some j/\(0<=j↔y∈l)) ?_ ?_
  l.length 0 big (by simp) (by unfold big;omega) () (by simp)
 ·intro self s h
  refine ⟨-1,?_,?_⟩
  ·show ZX self _=_
   unfold ZX
   dsimp only
   rw [decide_eq_false (by omega),cond_false]
  ·rw [List.take_length] at h
   simp [h]
 ·intro self s i hi h
  by_cases e:y=l[i]
  ·right
   refine ⟨i,?_,by simp only [Int.natCast_nonneg,true_iff];rw [e];exact List.getElem_mem hi⟩
   show ZX self _=_
   unfold ZX
   dsimp only
   rw [decide_eq_true (by omega),cond_true,XU hi,Option.bind_some,show (y==l[i])=true from decide_eq_true e,cond_true]
  ·left
   refine ⟨(),?_,?_⟩
   ·rw [List.take_succ_eq_append_getElem hi]
    intro hm
    rcases List.mem_append.1 hm with hm | hm
    ·exact h hm
    ·exact e (List.mem_singleton.1 hm)
   ·show ZX self _=_
    unfold ZX
    dsimp only
    rw [decide_eq_true (by omega),cond_true,XU hi,Option.bind_some,show (y==l[i])=false from decide_eq_false e,cond_false,V4 hi (by have:=Vx;omega)]
theorem QBl (l:List Int) (y:Int) (hl:l.length<=1000):ay (l,y)=some (decide (y∈l)):=by
 show bC (l,y)=_
 unfold bC
 obtain ⟨j,h1,h2⟩:=QKQ l y hl
 rw [h1,Option.bind_some]
 congr 1
 rw [Bool.eq_iff_iff,decide_eq_true_eq,decide_eq_true_eq]
 exact h2
def Valid (l:List aU):Prop:=l.length<=32/\Built l/\(5001:Int) ∉ wN l 4
instance (l:List aU):Decidable (Built l):=by unfold Built;infer_instance
instance (l:List aU):Decidable (Valid l):=by unfold Valid;infer_instance
theorem wB (l:List aU):wR l=some (if Valid l then 0 else 8):=by
 show rX (FU (nQ big) big) l=_
 unfold rX
 by_cases h:l.length<=32
 ·rw [decide_eq_false (by omega),cond_false]
  refine Pp (g:=nQ big) (n:=l.length) (fun (_:Unit) (i:Nat)=>(l,l,(l.length:Int),(i:Int))) (fun i _=>∀ j (h:j < l.length),j < i->aW l[j] j l.length=true) (fun r=>r=some (if Valid l then 0 else 8)) ?_ ?_
   l.length 0 big (by simp) (by unfold big;omega) () (by intro j _ h;omega)
  ·intro self s hb
   have hb':Built l:=fun i hi=>hb i hi hi
   show dK self _=_
   unfold dK
   dsimp only
   rw [decide_eq_false (by omega),cond_false,QJr (by omega) hb',Option.bind_some,QBl _ _ (by rw [(QBH hb' 4).2];omega),Option.bind_some]
   by_cases hm:(5001:Int)∈wN l 4
   ·rw [decide_eq_true hm,cond_true,if_neg fun hv=>hv.2.2 hm]
   ·rw [decide_eq_false hm,cond_false,if_pos ⟨h,hb',hm⟩]
  ·intro self s i hi hb
   cases hbi:aW l[i] (i:Int) (l.length:Int) with
   | false=>
    right
    show dK self _=_
    unfold dK
    dsimp only
    rw [decide_eq_true (by omega),cond_true,XU hi,Option.bind_some,QDC,Option.bind_some,hbi,Bool.not_false,cond_true,if_neg fun hv=>by rw [hv.2.1 i hi] at hbi;cases hbi]
   | true=>
    left
    refine ⟨(),fun j hj hji=>?_,?_⟩
    ·by_cases e:j=i
     ·subst e;exact hbi
     ·exact hb j hj (by omega)
    ·show dK self _=_
     unfold dK
     dsimp only
     rw [decide_eq_true (by omega),cond_true,XU hi,Option.bind_some,QDC,Option.bind_some,hbi,Bool.not_true,cond_false,V4 hi (by have:=Vx;omega)]
 ·rw [decide_eq_true (by omega),cond_true,if_neg fun hv=>h hv.1]
def Ixs (n:Int) (l:List Int):Prop:=∀ x∈l,0<=x/\x < n
theorem QDc {l:List aU} (hb:Built l) {i:Nat} (hi:i < l.length):Ixs i (Zn l[i]):=by
 intro x hx
 have h:=hb i hi
 unfold Zn at hx
 split at hx
 ·rename_i h6
  have:=o7 h h6
  simp at hx
  subst hx
  exact ⟨this.1,this.2.1⟩
 split at hx
 ·rename_i h5
  obtain ⟨f,hf,rfl⟩:=List.mem_map.1 hx
  exact (mQ h h5).2 f hf
 ·simp at hx
theorem QCw {t:aU} {i n:Int} (h:aW t i n=true):t.2.2.2.1.length<=8:=by
 by_cases h5:t.1=5
 ·exact (mQ h h5).1.2
 ·rw [zy h h5];simp
theorem QJX {t:aU} {i n:Int} (h:aW t i n=true):(Zn t).length<=8:=by
 have:=QCw h
 unfold Zn
 split
 ·simp
 split
 ·simpa using this
 ·simp
def Deep (n:Int) (l:List Int):Prop:=∀ x∈l,0<=x/\x<=n
theorem Deep.getD {n:Int} {l:List Int} (hn:0<=n) (h:Deep n l) (i:Nat):0<=l.getD i 0/\l.getD i 0<=n:=by
 by_cases hi:i < l.length
 ·rw [List.getD_eq_getElem?_getD,List.getElem?_eq_getElem hi]
  exact h _ (List.getElem_mem hi)
 ·rw [List.getD_eq_getElem?_getD,List.getElem?_eq_none (by omega)]
  simpa using hn
theorem QLS (a b:Int):(if b > a then b else a)=max a b:=by omega
def un (kt:Ty) (ks:List kt.den) (m:List (kt.den×Bool)):Nat:=(ks.filter fun k=>!(@Om kt .bool k false m).1).length
inductive Rch (l:List aU) (ways:aU->List Int) (i:Int):Int->Prop
 | self:Rch l ways i i
 | step {x y:Int} (t:aU):Rch l ways i x->Mh l x=some t->y∈ways t->Rch l ways i y
theorem Rch.trans {l:List aU} {ways:aU->List Int} {i j k:Int} (h:Rch l ways i j) (h':Rch l ways j k):Rch l ways i k:=by
 induction h' with
 | self=>exact h
 | step t _ h1 h2 ih=>exact .step t ih h1 h2
theorem Fy {α:Type} {l:List α} {x:Int} {t:α} (h:Mh l x=some t):0<=x/\x < l.length/\∃ (hx:x.toNat < l.length),t=l[x.toNat]:=by
 unfold Mh at h
 by_cases h0:0<=x
 ·rw [decide_eq_true h0] at h
  simp only [cond_true] at h
  have h':l[x.toNat]? = some t:=h
  obtain ⟨h1,h2⟩:=List.getElem?_eq_some_iff.1 h'
  exact ⟨h0,by omega,h1,h2.symm⟩
 ·rw [decide_eq_false h0] at h
  cases h
theorem kF {l:List aU} {x:Int} (h0:0<=x) (h1:x < l.length):∃ t,Mh l x=some t:=by
 obtain ⟨k,rfl⟩:=Int.eq_ofNat_of_zero_le h0
 exact ⟨_,XU (by omega)⟩
theorem QLP:1000000<=lim:=by decide
inductive Pch (l:List aU) (a b:Int):Int->Int->Prop
 | self:Pch l a b a b
 | step {x y x' y':Int} (t u:aU) (j:Nat):Pch l a b x y->Mh l x=some t->Mh l y=some u->(QPD t)[j]? = some x'->(QPD u)[j]? = some y'->Pch l a b x' y'
theorem Pch.trans {l:List aU} {a b c d e f:Int} (h:Pch l a b c d) (h':Pch l c d e f):Pch l a b e f:=by
 induction h' with
 | self=>exact h
 | step t u j _ h1 h2 h3 h4 ih=>exact .step t u j ih h1 h2 h3 h4
theorem QDe (c:Int):pX c=some (QAV c):=by
 show qM c=_
 unfold qM QAV
 simp only [ge_iff_le]
 cases decide (97<=c) <;> cases decide (c<=122) <;> cases decide (65<=c) <;> cases decide (c<=90) <;> rfl
theorem zL (s:List Int):rE s=some (aN s):=by
 show sD (FU (nU big) big) s=_
 unfold sD
 cases s with
 | nil=>rfl
 | cons c r=>
  rw [decide_eq_false (by simp;omega),cond_false]
  by_cases h:(c::r).length<=16
  ·rw [decide_eq_false (by omega),cond_false]
   have h0:Mh (c::r) (0:Int)=some c:=rfl
   rw [h0,Option.bind_some,QDe,Option.bind_some]
   simp only [aN]
   rw [decide_eq_true h,Bool.true_and]
   cases hc:QAV c with
   | false=>rfl
   | true=>
    rw [Bool.not_true,cond_false,Bool.true_and]
    have:=Ra (g:=nU big) (xs:=c::r) (fun (_:Unit) (i:Nat)=>(c::r,(i:Int))) (fun x s k=>bif (QAV x||QHJ x) then k s else some false) (fun _=>some true)
     (fun self s=>by
      show jq self _=_
      unfold jq
      dsimp only
      rw [decide_eq_false (by omega),cond_false])
     (fun self s i hi=>by
      show jq self _=_
      unfold jq
      dsimp only
      rw [decide_eq_true (by omega),cond_true,XU hi,Option.bind_some,QDe,Option.bind_some,Option.bind_some,Option.bind_some]
      rw [V4 hi (by have:=Vx;omega)]
      unfold QHJ
      by_cases h1:(c::r)[i] < 48
      ·rw [decide_eq_true h1,decide_eq_false (by omega:¬ 48<=(c::r)[i])]
       cases QAV (c::r)[i] <;> rfl
      ·rw [decide_eq_false h1,decide_eq_true (by omega:48<=(c::r)[i])]
       by_cases h2:(c::r)[i] > 57
       ·rw [decide_eq_true h2,decide_eq_false (by omega:¬ (c::r)[i]<=57)]
        cases QAV (c::r)[i] <;> rfl
       ·rw [decide_eq_false h2,decide_eq_true (by omega:(c::r)[i]<=57)]
        cases QAV (c::r)[i] <;> rfl)
     (c::r).length 0 big (by simp) (by unfold big;omega) ()
    rw [List.drop_zero,QBX] at this
    exact this
  ·rw [decide_eq_true (by omega),cond_true]
   simp only [aN]
   rw [decide_eq_false h];rfl
theorem uF {l:List (List Int)} {i:Nat} (hi:i < l.length):(l.take (i+1)).Nodup↔(l.take i).Nodup/\∀ k (hk:k < i),l[k]≠l[i]:=by
 rw [List.take_succ_eq_append_getElem hi,List.nodup_append]
 simp only [List.nodup_cons,List.not_mem_nil,not_false_eq_true,List.nodup_nil,and_self,List.mem_singleton,forall_eq,true_and]
 constructor
 ·rintro ⟨h1,h2⟩
  refine ⟨h1,fun k hk e=>h2 l[k] ?_ e⟩
  exact List.mem_take_iff_getElem.2 ⟨k,by omega,rfl⟩
 ·rintro ⟨h1,h2⟩
  refine ⟨h1,fun a ha e=>?_⟩
  obtain ⟨k,hk,rfl⟩:=List.mem_take_iff_getElem.1 ha
  exact h2 k (by omega) e
theorem QHg (fs:List qW):lH (fs,8)=some (decide (fs.length<=8)&&(fs.all (fun f=>aN f.1)&&decide ((fs.map (·.1)).Nodup))):=by
 show ig (FU (aA big) big) (fs,8)=_
 unfold ig
 dsimp only
 by_cases h:fs.length<=8
 ·rw [decide_eq_false (by omega),cond_false,decide_eq_true h,Bool.true_and]
  refine Pp (g:=aA big) (n:=fs.length) (fun (_:Unit) (i:Nat)=>(fs,(i:Int))) (fun i _=>(∀ f∈fs.take i,aN f.1=true)/\((fs.map (·.1)).take i).Nodup) (fun r=>r=some (fs.all (fun f=>aN f.1)&&decide ((fs.map (·.1)).Nodup))) ?_ ?_
   fs.length 0 big (by simp) (by unfold big;omega) () (by simp)
  ·rintro self s ⟨h1,h2⟩
   rw [List.take_length] at h1
   rw [List.take_of_length_le (by simp)] at h2
   show Zm _ self _=_
   unfold Zm
   dsimp only
   rw [decide_eq_false (by omega),cond_false,decide_eq_true h2,Bool.and_true,List.all_eq_true.2 h1]
  ·rintro self s i hi ⟨h1,h2⟩
   cases hn:aN fs[i].1 with
   | false=>
    right
    show Zm _ self _=_
    unfold Zm
    dsimp only
    rw [decide_eq_true (by omega),cond_true,XU hi,Option.bind_some,zL,Option.bind_some,hn,Bool.not_false,cond_true]
    have:fs.all (fun f=>aN f.1)=false:=by
     rw [Bool.eq_false_iff]
     intro hall
     have:=List.all_eq_true.1 hall _ (List.getElem_mem hi)
     rw [hn] at this
     cases this
    rw [this];rfl
   | true=>
    have inner:∃ b:Bool,FU (aB big self) big (fs,(i:Int),0)=(bif b then self (fs,((i+1:Nat):Int)) else some false)/\(b=true↔∀ k (hk:k < i),(fs.map (·.1))[k]'(by simp;omega)≠(fs.map (·.1))[i]'(by simpa using hi)):=by
     refine Pp (g:=aB big self) (n:=i) (fun (_:Unit) (k:Nat)=>(fs,(i:Int),(k:Int))) (fun j _=>∀ k (hk:k < j) (hki:k < fs.length),(fs[k]).1≠(fs[i]).1) (fun r=>∃ b:Bool,r=(bif b then self (fs,((i+1:Nat):Int)) else some false)/\(b=true↔∀ k (hk:k < i),(fs.map (·.1))[k]'(by simp;omega)≠(fs.map (·.1))[i]'(by simpa using hi))) ?_ ?_
      i 0 big (by simp) (by unfold big;omega) () (by intro k hk;omega)
     ·intro ZH s hs
      refine ⟨true,?_,by simp only [true_iff,List.getElem_map];exact fun k hk=>hs k hk (by omega)⟩
      show bV self ZH _=_
      unfold bV
      dsimp only
      rw [decide_eq_false (by omega),cond_false,V4 hi (by have:=Vx;omega)]
      rfl
     ·intro ZH s j hj hs
      have hj':j < fs.length:=by omega
      have hst:aB big self ZH (fs,(i:Int),(j:Int))=bif Ib .str (fs[j]).1 (fs[i]).1 then some false else ZH (fs,(i:Int),((j+1:Nat):Int)):=by
       show bV self ZH _=_
       unfold bV
       dsimp only
       rw [decide_eq_true (by omega),cond_true,XU hj',Option.bind_some,XU hi,Option.bind_some,V4 hj (by have:=Vx;omega)]
      by_cases e:(fs[j]).1=(fs[i]).1
      ·right
       refine ⟨false,by rw [hst,e,WT];rfl,?_⟩
       simp only [Bool.false_eq_true,false_iff,List.getElem_map]
       exact fun hh=>hh j hj e
      ·left
       refine ⟨(),fun k hk hki=>?_,by rw [hst,Vv e];rfl⟩
       by_cases hkj:k=j
       ·subst hkj;exact e
       ·exact hs k (by omega) hki
    obtain ⟨b,hb1,hb2⟩:=inner
    have hst:aA big self (fs,(i:Int))=(bif b then self (fs,((i+1:Nat):Int)) else some false):=by
     show Zm _ self _=_
     unfold Zm
     dsimp only
     rw [decide_eq_true (by omega),cond_true,XU hi,Option.bind_some,zL,Option.bind_some,hn,Bool.not_true,cond_false]
     exact hb1
    cases b with
    | true=>
     left
     refine ⟨(),⟨?_,(uF (by simpa using hi)).2 ⟨h2,hb2.1 rfl⟩⟩,hst⟩
     rw [List.take_succ_eq_append_getElem hi]
     intro f hf
     rcases List.mem_append.1 hf with hf | hf
     ·exact h1 f hf
     ·rw [List.mem_singleton.1 hf];exact hn
    | false=>
     right
     rw [hst,cond_false]
     congr 1
     symm
     have:¬ (fs.map (·.1)).Nodup:=by
      intro hnd
      have QYc:((fs.map (·.1)).take (i+1)).Nodup:=(List.take_sublist _ _).nodup hnd
      have:=hb2.2 ((uF (by simpa using hi)).1 QYc).2
      cases this
     rw [decide_eq_false this,Bool.and_false]
 ·rw [decide_eq_true (by omega),cond_true,decide_eq_false h];rfl
theorem QJf (t:aU) (i:Int) (hl:t.2.2.2.1.length<=1000):FU (iQ big) big (i,0,t)=some (decide (t.2.1=0)&&(decide (t.2.2.1=0)&&QCt t.2.2.2.1 i)):=by
 have spec:∀ b:Bool,(b=true↔(∀ f∈t.2.2.2.1,eP f.2.1 i=true))->(decide (t.2.1=0)&&(decide (t.2.2.1=0)&&QCt t.2.2.2.1 i))=(b&&(decide (t.2.1=0)&&(decide (t.2.2.1=0)&&(decide (0 < t.2.2.2.1.length)&&(decide (t.2.2.2.1.length<=8)&&(t.2.2.2.1.all (fun f=>aN f.1)&&decide ((t.2.2.2.1.map (·.1)).Nodup))))))):=by
  intro b hb
  rw [Bool.eq_iff_iff]
  simp only [QCt,Bool.and_eq_true,decide_eq_true_eq,List.all_eq_true,hb]
  constructor
  ·rintro ⟨h1,h2,h3,h4,h5,h6⟩
   exact ⟨h6,h1,h2,by omega,h3.2,h4,h5⟩
  ·rintro ⟨h6,h1,h2,h3,h3',h4,h5⟩
   exact ⟨h1,h2,⟨by omega,h3'⟩,h4,h5,h6⟩
 refine Pp (g:=iQ big) (n:=t.2.2.2.1.length) (fun (_:Unit) (k:Nat)=>(i,(k:Int),t)) (fun k _=>∀ f∈t.2.2.2.1.take k,eP f.2.1 i=true) (fun r=>r=some (decide (t.2.1=0)&&(decide (t.2.2.1=0)&&QCt t.2.2.2.1 i))) ?_ ?_
  t.2.2.2.1.length 0 big (by simp) (by unfold big;omega) () (by simp)
 ·intro self s h
  rw [List.take_length] at h
  rw [spec true (by simpa using h)]
  show lM self _=_
  unfold lM
  dsimp only
  rw [decide_eq_false (by omega),cond_false,QHg,Option.bind_some,Bool.true_and]
  simp only [uK,gt_iff_lt]
  have e:decide ((0:Int) < (t.2.2.2.1.length:Int))=decide (0 < t.2.2.2.1.length):=by
   by_cases h:0 < t.2.2.2.1.length
   ·rw [decide_eq_true h,decide_eq_true (by omega)]
   ·rw [decide_eq_false h,decide_eq_false (by omega)]
  rw [e]
  cases decide (t.2.1=0) <;> cases decide (t.2.2.1=0) <;> cases decide (0 < t.2.2.2.1.length) <;> rfl
 ·intro self s k hk h
  have hst:iQ big self (i,(k:Int),t)=bif eP (t.2.2.2.1[k]).2.1 i then self (i,((k+1:Nat):Int),t) else some false:=by
   show lM self _=_
   unfold lM eP
   dsimp only
   rw [decide_eq_true (by omega),cond_true,XU hk,Option.bind_some,Option.bind_some,V4 hk (by have:=Vx;omega)]
   by_cases h1:(t.2.2.2.1[k]).2.1 < 0
   ·rw [decide_eq_true h1,decide_eq_false (by omega:¬ 0<=(t.2.2.2.1[k]).2.1)];rfl
   ·rw [decide_eq_false h1,decide_eq_true (by omega:0<=(t.2.2.2.1[k]).2.1)]
    by_cases h2:(t.2.2.2.1[k]).2.1≥i
    ·rw [decide_eq_true h2,decide_eq_false (by omega:¬ (t.2.2.2.1[k]).2.1 < i)];rfl
    ·rw [decide_eq_false h2,decide_eq_true (by omega:(t.2.2.2.1[k]).2.1 < i)];rfl
  cases hx:eP (t.2.2.2.1[k]).2.1 i with
  | true=>
   left
   refine ⟨(),?_,by rw [hst,hx];rfl⟩
   rw [List.take_succ_eq_append_getElem hk]
   intro f hf
   rcases List.mem_append.1 hf with hf | hf
   ·exact h f hf
   ·rw [List.mem_singleton.1 hf];exact hx
  | false=>
   right
   rw [hst,hx,cond_false,spec false (by
    simp only [Bool.false_eq_true,false_iff]
    intro hall
    have:=hall _ (List.getElem_mem hk)
    rw [hx] at this
    cases this)]
   rfl
theorem QLY {l:List aU} {i:Nat} (hi:i < l.length) (hl:(l[i]).2.2.2.1.length<=1000):yI (l,(i:Int))=some (aW l[i] i l.length):=by
 show uw (FU (iQ big) big) (l,(i:Int))=_
 unfold uw
 dsimp only
 rw [XU hi,Option.bind_some]
 generalize l[i]=t at *
 simp only [QJf t i hl]
 unfold aW
 simp only [QVX]
 obtain ⟨k,e,n,fs,u⟩:=t
 dsimp only
 simp only [uK,ge_iff_le,eP]
 generalize QCt fs i=A
 generalize decide (fs.length=0)=D
 generalize decide (e=0)=E
 generalize decide (n=0)=F
 have hG:decide (1<=n/\n<=16)=(decide (1<=n)&&decide (n<=16)):=by by_cases h:1<=n <;> by_cases h':n<=16 <;> simp [h,h']
 rw [hG]
 generalize decide (1<=n)=G
 generalize decide (n<=16)=H
 generalize decide (0<=e)=I
 generalize decide (e < (l.length:Int))=J
 generalize decide (e < (i:Int))=K
 by_cases h1:k=1
 ·subst h1;simp;cases E <;> cases F <;> cases D <;> rfl
 by_cases h2:k=2
 ·subst h2;simp;cases E <;> cases F <;> cases D <;> rfl
 by_cases h3:k=3
 ·subst h3;simp;cases E <;> cases F <;> cases D <;> rfl
 by_cases h4:k=4
 ·subst h4;simp;cases I <;> cases J <;> cases F <;> cases D <;> rfl
 by_cases h5:k=5
 ·subst h5;simp
 by_cases h6:k=6
 ·subst h6;simp;cases I <;> cases K <;> cases G <;> cases H <;> cases D <;> rfl
 by_cases h7:k=7
 ·subst h7;simp;cases I <;> cases J <;> cases F <;> cases D <;> rfl
 simp [h1,h2,h3,h4,h5,h6,h7]
theorem QEl {n:Nat} (h:n<=10000):(Nat.ble 1 1&&Nat.ble (n+1) lim)=true:=by
 rw [Bool.and_eq_true]
 exact ⟨rfl,Nat.ble_eq_true_of_le (by have:=QLP;omega)⟩
theorem QJb (t:aU) (hf:t.2.2.2.1.length<=1000):rF t=some ((if t.1=6 then [t.2.1] else [])++t.2.2.2.1.map (·.2.1)):=by
 have run:∀ a:List Int,a.length<=1->FU (jc big) big (0,t,a)=some (a++t.2.2.2.1.map (·.2.1)):=by
  intro a ha
  refine Pp (g:=jc big) (n:=t.2.2.2.1.length) (fun (r:List Int) (k:Nat)=>((k:Int),t,r)) (fun k r=>r=a++(t.2.2.2.1.map (·.2.1)).take k) (fun r=>r=some (a++t.2.2.2.1.map (·.2.1))) ?_ ?_
   t.2.2.2.1.length 0 big (by simp) (by unfold big;omega) _ (by simp)
  ·rintro self s rfl
   rw [List.take_of_length_le (by simp)]
   show jr self _=_
   unfold jr
   dsimp only
   rw [decide_eq_false (by omega),cond_false]
  ·rintro self s k hk rfl
   left
   refine ⟨_,rfl,?_⟩
   have hlen:(a++(t.2.2.2.1.map (·.2.1)).take k).length<=1001:=by simp;omega
   show jr self _=_
   unfold jr
   dsimp only
   rw [decide_eq_true (by omega),cond_true,XU hk,Option.bind_some]
   rw [show [(t.2.2.2.1[k]).2.1].length=1 from rfl,QEl (by omega),cond_true,V4 hk (by have:=Vx;omega),List.take_succ_eq_append_getElem (by simpa using hk)]
   simp
 show sF (FU (jc big) big) t=_
 unfold sF
 by_cases h6:t.1=6
 ·rw [h6,show ((6:Int)==6)=true from rfl,cond_true]
  rw [show (List.length ([]:List Int)+[t.2.1].length)=0+1 from rfl,QEl (by omega),cond_true]
  exact run [t.2.1] (by simp)
 ·rw [show (t.1==6)=false from decide_eq_false h6,cond_false,if_neg h6]
  exact run [] (by simp)
theorem QHd {t:aU} {i n:Int} (h:aW t i n=true):(if t.1=6 then [t.2.1] else [])++t.2.2.2.1.map (·.2.1)=Zn t:=by
 unfold Zn
 by_cases h6:t.1=6
 ·rw [if_pos h6,if_pos h6,zy h (by omega)];rfl
 rw [if_neg h6,if_neg h6]
 by_cases h5:t.1=5
 ·rw [if_pos h5];rfl
 ·rw [if_neg h5,zy h h5];rfl
theorem QJc {t:aU} {i n:Int} (h:aW t i n=true):rF t=some (Zn t):=by
 rw [QJb t (by have:=QCw h;omega),QHd h]
theorem QNA {a b:Int} (hb:0<=b):cap (cap a+b)=cap (a+b):=by
 by_cases h1:5001 < a <;> by_cases h2:5001 < a+b <;> simp [cap,h1,h2] <;> omega
theorem QIz (l:List aU) (x:Nat):(wN l 0).getD x 0=0:=by
 show (List.replicate l.length (0:Int)).getD x 0=0
 rw [List.getD_eq_getElem?_getD]
 by_cases hx:x < l.length
 ·simp [hx]
 ·rw [List.getElem?_eq_none (by simpa using hx)];rfl
theorem QNB:cap 1=1:=rfl
theorem QBA {l:List aU} (hlen:l.length<=40) (hb:Built l) (me:List aU×Int->Option (List Int)) (d:Nat) (hd:d<=3) (below:List Int) (hbel:0 < d->below=wN l d) :
  FU (iK me big) big (l,(d:Int),0,below,[])=some (wN l (d+1)):=by
 have hwd:=QBH hb d
 refine Pp (g:=iK me big) (n:=l.length) (fun (out:List Int) (i:Nat)=>(l,(d:Int),(i:Int),below,out)) (fun i out=>out=vv (wN l d) (l.take i) []) (fun r=>r=some (wN l (d+1))) ?_ ?_
  l.length 0 big (by simp) (by unfold big;omega) _ (by simp [vv])
 ·rintro self s rfl
  rw [List.take_length]
  show dV _ _ self _=_
  unfold dV
  dsimp only
  rw [decide_eq_false (by omega),cond_false]
  rfl
 ·rintro self s i hi rfl
  left
  refine ⟨_,rfl,?_⟩
  have hw:=QBG hb hwd.1 i (by omega)
  have hwl:(vv (wN l d) (l.take i) []).length=i:=by rw [QBF];simp;omega
  have hbi:=hb i hi
  have hpl:=QJX hbi
  have hpi:=QDc hb hi
  rw [show vv (wN l d) (l.take (i+1)) []=vv (wN l d) (l.take i) []++[cap (mg (wN l d) (vv (wN l d) (l.take i) []) l[i])] by rw [List.take_succ_eq_append_getElem hi,yu]]
  show dV _ _ self _=_
  unfold dV
  dsimp only
  rw [decide_eq_true (by omega),cond_true,XU hi,Option.bind_some,QJc hbi,Option.bind_some]
  have hget:=XU hi
  generalize hacc:vv (wN l d) (l.take i) []=acc at *
  generalize Yl:l[i]=t at *
  have hby:∀ p:Int,0<=acc.getD p.toNat 0/\acc.getD p.toNat 0<=5001:=fun p=>hw.getD p.toNat
  let by':Int:=if t.1=6 then t.2.2.1 else 1
  have QVU:1<=by'/\by'<=16:=by
   show 1<=(if t.1=6 then t.2.2.1 else 1)/\(if t.1=6 then t.2.2.1 else 1)<=16
   split
   ·rename_i h6;have:=o7 hbi h6;omega
   ·omega
  let S (j:Nat):Int:=(((Zn t).take j).map fun p=>by' * acc.getD p.toNat 0).sum
  have hS:∀ j (hj:j < (Zn t).length),S (j+1)=S j+by' * acc.getD ((Zn t)[j]).toNat 0:=by
   intro j hj
   show (((Zn t).take (j+1)).map fun p=>by' * acc.getD p.toNat 0).sum=_
   rw [List.take_succ_eq_append_getElem hj,List.map_append,List.sum_append,List.map_singleton,List.sum_singleton]
  have hmul:∀ p:Int,0<=by' * acc.getD p.toNat 0/\by' * acc.getD p.toNat 0<=80016:=fun p=>QIq QVU.1 QVU.2 (hby p).1 (hby p).2
  have hlim:(Nat.ble 1 1&&Nat.ble (acc.length+1) lim)=true:=QEl (by omega)
  have hsucc:=V4 hi (by have:=Vx;omega:l.length<=maxLen)
  refine Pp (g:=ql me big self) (n:=(Zn t).length) (fun (w:Int) (j:Nat)=>(l,(d:Int),(i:Int),w,(j:Int),below,acc,Zn t)) (fun j w=>w=cap (1+S j)) (fun r=>r=self (l,(d:Int),((i+1:Nat):Int),below,acc++[cap (mg (wN l d) acc t)])) ?_ ?_
   (Zn t).length 0 big (by simp) (by unfold big;omega) _ (by simp [S,QNB])
  ·rintro ZH w rfl
   have QVT:S (Zn t).length=if t.1=6 then t.2.2.1 * acc.getD t.2.1.toNat 0 else if t.1=5 then yC acc t.2.2.2.1 else 0:=by
    show (((Zn t).take (Zn t).length).map fun p=>by' * acc.getD p.toNat 0).sum=_
    rw [List.take_length]
    unfold Zn
    by_cases h6:t.1=6
    ·rw [if_pos h6,if_pos h6]
     simp [by',h6]
    rw [if_neg h6,if_neg h6]
    by_cases h5:t.1=5
    ·rw [if_pos h5,if_pos h5]
     simp [by',h6,yC,Function.comp_def]
    ·rw [if_neg h5,if_neg h5];rfl
   rw [QVT]
   have hone:∀ x:Int,[x].length=1:=fun _=>rfl
   show iL _ self ZH _=_
   unfold iL
   dsimp only
   rw [decide_eq_false (by omega),cond_false]
   simp only [hget,Option.bind_some,hone,hlim,cond_true,hsucc]
   by_cases h4:t.1=4
   ·have h6:¬ t.1=6:=by omega
    have h5:¬ t.1=5:=by omega
    have h7:¬ t.1=7:=by omega
    have hp:=yx hbi (.inl h4)
    have hlw:=hwd.1.getD t.2.1.toNat
    rw [if_neg h6,if_neg h5,show (t.1==4)=true from decide_eq_true h4,show (t.1==7)=false from decide_eq_false h7]
    unfold mg
    rw [if_pos h4]
    by_cases hd0:d=0
    ·rw [decide_eq_false (by omega),cond_false,cond_false]
     have:(wN l d).getD t.2.1.toNat 0=0:=by rw [hd0];exact QIz l _
     rw [this]
     rfl
    ·rw [decide_eq_true (by omega),cond_true,cond_true,hbel (by omega),decide_eq_true hp.1,decide_eq_true (by rw [hwd.2];omega),Bool.true_and,cond_true,yZ hp.1 (by rw [hwd.2];omega),Option.bind_some,show cap (1+0)=1 from rfl,cond_true,cond_false,QG4 (by omega) (by omega)]
     rfl
   rw [show (t.1==4)=false from decide_eq_false h4]
   by_cases h7:t.1=7
   ·have h6:¬ t.1=6:=by omega
    have h5:¬ t.1=5:=by omega
    have hp:=yx hbi (.inr h7)
    have hlw:=hwd.1.getD t.2.1.toNat
    rw [if_neg h6,if_neg h5,show (t.1==7)=true from decide_eq_true h7]
    unfold mg
    rw [if_neg h4,if_pos h7]
    by_cases hd0:d=0
    ·rw [decide_eq_false (by omega),cond_false,cond_false]
     have:(wN l d).getD t.2.1.toNat 0=0:=by rw [hd0];exact QIz l _
     rw [this]
     rfl
    ·rw [decide_eq_true (by omega),cond_true,cond_false,cond_true,cond_true,hbel (by omega),decide_eq_true hp.1,decide_eq_true (by rw [hwd.2];omega),Bool.true_and,cond_true,yZ hp.1 (by rw [hwd.2];omega),Option.bind_some,show cap (1+0)=1 from rfl,wrap_i64 (n:=16 * _) (by omega) (by omega),QG4 (by omega) (by omega)]
     rfl
   rw [show (t.1==7)=false from decide_eq_false h7]
   unfold mg
   rw [if_neg h4,if_neg h7]
   have hfin:(1:Int)+(if t.1=6 then t.2.2.1 * acc.getD t.2.1.toNat 0 else if t.1=5 then yC acc t.2.2.2.1 else 0)=(if t.1=6 then 1+t.2.2.1 * acc.getD t.2.1.toNat 0 else if t.1=5 then 1+yC acc t.2.2.2.1 else 1):=by
    split
    ·rfl
    split
    ·rfl
    ·rfl
   rw [hfin]
   cases decide ((d:Int) > 0) <;> rfl
  ·rintro ZH w j hj rfl
   left
   refine ⟨_,rfl,?_⟩
   have hx:=hpi _ (List.getElem_mem hj)
   have hm:=hmul (Zn t)[j]
   have hcw:0<=cap (1+S j)/\cap (1+S j)<=5001:=by
    apply QGG
    have:0<=S j:=by
     show 0<=(((Zn t).take j).map fun p=>by' * acc.getD p.toNat 0).sum
     have:∀ q:List Int,0<=(q.map fun p=>by' * acc.getD p.toNat 0).sum:=by
      intro q
      induction q with
      | nil=>simp
      | cons a q ih=>rw [List.map_cons,List.sum_cons];have:=hmul a;omega
     exact this _
    omega
   rw [hS j hj,← Int.add_assoc,← QNA hm.1]
   show iL _ self ZH _=_
   unfold iL
   dsimp only
   rw [decide_eq_true (by omega),cond_true,hget,Option.bind_some]
   have e1:nth (Zn t) (Int.toNat (j:Int))=some (Zn t)[j]:=List.getElem?_eq_getElem hj
   have d1:decide (0<=(j:Int))=true:=decide_eq_true (by omega)
   have d2:decide ((j:Int) < ((Zn t).length:Int))=true:=decide_eq_true (by omega)
   have d3:decide (0<=(Zn t)[j])=true:=decide_eq_true hx.1
   have d4:decide ((Zn t)[j] < (acc.length:Int))=true:=decide_eq_true (by omega)
   simp only [e1,Option.bind_some,d1,d2,d3,d4,Bool.and_self,cond_true,yZ hx.1 (show (Zn t)[j] < (acc.length:Int) by omega)]
   rw [V4 hj (by have:=Vx;omega)]
   by_cases h6:t.1=6
   ·rw [show (t.1==6)=true from decide_eq_true h6,cond_true]
    have QR6:by'=t.2.2.1:=if_pos h6
    rw [QR6] at hm ⊢
    rw [wrap_i64 (n:=t.2.2.1 * _) (by omega) (by omega),QG4 (by omega) (by omega)]
    rfl
   ·rw [show (t.1==6)=false from decide_eq_false h6,cond_false]
    have QR6:by'=1:=if_neg h6
    rw [QR6] at hm ⊢
    rw [wrap_i64 (n:=1 * _) (by omega) (by omega),QG4 (by omega) (by omega)]
    rfl
theorem QIt (k x):bD (k+1) x=lS (bD k) (FU (iK (bD k) big) big) x:=rfl
theorem QC4 {l:List aU} (hlen:l.length<=40) (hb:Built l):∀ (d k:Nat),d<=3->d < k->bD k (l,(d:Int))=some (wN l (d+1))
 | d,0,_,h=>by omega
 | 0,k+1,_,_=>by
  rw [QIt]
  unfold lS
  dsimp only
  rw [decide_eq_false (by omega),cond_false]
  exact QBA hlen hb _ 0 (by omega) [] (by omega)
 | d+1,k+1,hd,hk=>by
  rw [QIt]
  unfold lS
  dsimp only
  rw [decide_eq_true (by omega),cond_true,wrap_i64 (by omega) (by omega),show ((d+1:Nat):Int) - 1=(d:Int) by omega,QC4 hlen hb d k (by omega) (by omega),Option.bind_some]
  exact QBA hlen hb _ (d+1) hd _ (fun _=>rfl)
theorem QHj {l:List aU} (hlen:l.length<=40) (hb:Built l):vM (l,3)=some (wN l 4):=
 QC4 hlen hb 3 big (by omega) (by unfold big;omega)
theorem QJY (l:List aU) (hf:∀ t∈l,t.2.2.2.1.length<=1000):wW l=some (if Valid l then 0 else 8):=by
 show ru (FU (jY big) big) l=_
 unfold ru
 by_cases h:l.length<=32
 ·rw [decide_eq_false (by omega),cond_false]
  refine Pp (g:=jY big) (n:=l.length) (fun (_:Unit) (i:Nat)=>(l,(i:Int))) (fun i _=>∀ j (h:j < l.length),j < i->aW l[j] j l.length=true) (fun r=>r=some (if Valid l then 0 else 8)) ?_ ?_
   l.length 0 big (by simp) (by unfold big;omega) () (by intro j _ h;omega)
  ·intro self s hb
   have hb':Built l:=fun i hi=>hb i hi hi
   have hw:=QBH hb' 4
   show gM _ self _=_
   unfold gM
   dsimp only
   rw [decide_eq_false (by omega),cond_false,QHj (by omega) hb',Option.bind_some]
   refine Pp (g:=nT big self) (n:=l.length) (fun (_:Unit) (i:Nat)=>(l,(i:Int),wN l 4)) (fun i _=>(5001:Int) ∉ (wN l 4).take i) (fun r=>r=some (if Valid l then 0 else 8)) ?_ ?_
    l.length 0 big (by simp) (by unfold big;omega) () (by simp)
   ·intro ZH s hm
    rw [List.take_of_length_le (by omega)] at hm
    show jm self ZH _=_
    unfold jm
    dsimp only
    rw [decide_eq_false (by omega),cond_false,if_pos ⟨h,hb',hm⟩]
   ·intro ZH s i hi hm
    have hi':i < (wN l 4).length:=by omega
    have hx:=hw.1 _ (List.getElem_mem hi')
    have hst:nT big self ZH (l,(i:Int),wN l 4)=bif decide ((wN l 4)[i] > 5000) then some 8 else ZH (l,((i+1:Nat):Int),wN l 4):=by
     show jm self ZH _=_
     unfold jm
     dsimp only
     rw [decide_eq_true (by omega),cond_true,decide_eq_true (by omega),decide_eq_true (by omega),Bool.true_and,cond_true,show nth (wN l 4) (Int.toNat (i:Int))=some (wN l 4)[i] from List.getElem?_eq_getElem hi',Option.bind_some,V4 hi (by have:=Vx;omega)]
    by_cases hg:(wN l 4)[i] > 5000
    ·right
     rw [hst,decide_eq_true hg,cond_true,if_neg]
     rintro ⟨_,_,hn⟩
     exact hn (by rw [show (5001:Int)=(wN l 4)[i] by omega];exact List.getElem_mem hi')
    ·left
     refine ⟨(),?_,by rw [hst,decide_eq_false hg];rfl⟩
     rw [List.take_succ_eq_append_getElem hi']
     intro hmm
     rcases List.mem_append.1 hmm with hmm | hmm
     ·exact hm hmm
     ·have:=List.mem_singleton.1 hmm
      omega
  ·intro self s i hi hb
   have hst:jY big self (l,(i:Int))=bif !(aW l[i] i l.length) then some 8 else self (l,((i+1:Nat):Int)):=by
    show gM _ self _=_
    unfold gM
    dsimp only
    rw [decide_eq_true (by omega),cond_true,QLY hi (hf _ (List.getElem_mem hi)),Option.bind_some,V4 hi (by have:=Vx;omega)]
   cases hbi:aW l[i] (i:Int) (l.length:Int) with
   | false=>
    right
    rw [hst,hbi,Bool.not_false,cond_true,if_neg fun hv=>by rw [hv.2.1 i hi] at hbi;cases hbi]
   | true=>
    left
    refine ⟨(),fun j hj hji=>?_,by rw [hst,hbi];rfl⟩
    by_cases e:j=i
    ·subst e;exact hbi
    ·exact hb j hj (by omega)
 ·rw [decide_eq_true (by omega),cond_true,if_neg fun hv=>h hv.1]
theorem QJa (l:List aU):∃ b,wX l=some b/\(b=false->l.length<=40/\∀ t∈l,t.2.2.2.1.length<=20):=by
 show ∃ b,r9 (FU (jZ big) big) l=some b/\_
 unfold r9
 by_cases h:l.length<=40
 ·rw [decide_eq_false (by omega),cond_false]
  refine Pp (g:=jZ big) (n:=l.length) (fun (_:Unit) (i:Nat)=>(l,(i:Int))) (fun i _=>∀ t∈l.take i,t.2.2.2.1.length<=20) (fun r=>∃ b,r=some b/\(b=false->l.length<=40/\∀ t∈l,t.2.2.2.1.length<=20)) ?_ ?_
   l.length 0 big (by simp) (by unfold big;omega) () (by simp)
  ·intro self s hb
   rw [List.take_length] at hb
   refine ⟨false,?_,fun _=>⟨h,hb⟩⟩
   show bF _ self _=_
   unfold bF
   dsimp only
   rw [decide_eq_false (by omega),cond_false]
  ·intro self s i hi hb
   by_cases hg:(l[i]).2.2.2.1.length<=20
   ·have inner:FU (dI big self) big (l,(i:Int),0)=self (l,((i+1:Nat):Int))∨FU (dI big self) big (l,(i:Int),0)=some true:=by
     refine Pp (g:=dI big self) (n:=(l[i]).2.2.2.1.length) (fun (_:Unit) (k:Nat)=>(l,(i:Int),(k:Int))) (fun _ _=>True) (fun r=>r=self (l,((i+1:Nat):Int))∨r=some true) ?_ ?_
      (l[i]).2.2.2.1.length 0 big (by simp) (by unfold big;omega) () trivial
     ·intro ZH s _
      left
      show jo self ZH _=_
      unfold jo
      dsimp only
      rw [XU hi,Option.bind_some,decide_eq_false (by omega),cond_false,V4 hi (by have:=Vx;omega)]
     ·intro ZH s k hk _
      have hst:dI big self ZH (l,(i:Int),(k:Int))=bif decide ((((l[i]).2.2.2.1[k]).1.length:Int) > 100) then some true else ZH (l,(i:Int),((k+1:Nat):Int)):=by
       show jo self ZH _=_
       unfold jo
       dsimp only
       rw [XU hi,Option.bind_some,decide_eq_true (by omega),cond_true,Option.bind_some,XU hk,Option.bind_some,V4 hk (by have:=Vx;omega)]
      rw [hst]
      cases decide ((((l[i]).2.2.2.1[k]).1.length:Int) > 100) with
      | true=>right;right;rfl
      | false=>left;exact ⟨(),trivial,rfl⟩
    have hst:jZ big self (l,(i:Int))=FU (dI big self) big (l,(i:Int),0):=by
     show bF _ self _=_
     unfold bF
     dsimp only
     rw [decide_eq_true (by omega),cond_true,XU hi,Option.bind_some,decide_eq_false (by omega),cond_false]
    rcases inner with e | e
    ·left
     refine ⟨(),?_,hst.trans e⟩
     rw [List.take_succ_eq_append_getElem hi]
     intro t ht
     rcases List.mem_append.1 ht with ht | ht
     ·exact hb t ht
     ·rw [List.mem_singleton.1 ht];exact hg
    ·right
     exact ⟨true,hst.trans e,fun h=>by cases h⟩
   ·right
    refine ⟨true,?_,fun h=>by cases h⟩
    show bF _ self _=_
    unfold bF
    dsimp only
    rw [decide_eq_true (by omega),cond_true,XU hi,Option.bind_some,decide_eq_true (by omega),cond_true]
 ·refine ⟨true,?_,fun h=>by cases h⟩
  rw [decide_eq_true (by omega),cond_true]
theorem QDl (less:List Int):∀ (a b:List aU) (acc:List Int),vv less (a++b) acc=vv less b (vv less a acc)
 | [],_,_=>rfl
 | t::r,b,acc=>QDl less r b _
theorem QJ0 (less:List Int):∀ (b:List aU) (acc:List Int),∃ s,vv less b acc=acc++s
 | [],acc=>⟨[],by simp [vv]⟩
 | t::r,acc=>by
  obtain ⟨s,h⟩:=QJ0 less r (acc++[cap (mg less acc t)])
  exact ⟨[cap (mg less acc t)]++s,by rw [vv,h,List.append_assoc]⟩
theorem QDh (acc:List Int) (t:aU) (h:t.1=5):yC acc t.2.2.2.1=((Zn t).map fun p=>acc.getD p.toNat 0).sum:=by
 unfold yC Zn
 rw [if_neg (by omega),if_pos h,List.map_map]
 rfl
theorem QHs {less a b:List Int} {t:aU} (h:∀ p∈Zn t,a.getD p.toNat 0=b.getD p.toNat 0):mg less a t=mg less b t:=by
 unfold mg
 split
 ·rfl
 split
 ·rfl
 split
 ·rename_i h6
  rw [h t.2.1 (by unfold Zn;rw [if_pos h6];simp)]
 split
 ·rename_i h5
  rw [QDh _ _ h5,QDh _ _ h5]
  congr 2
  exact List.map_congr_left h
 ·rfl
theorem QWX {l:List aU} (hb:Built l) (n:Nat) {i:Nat} (hi:i < l.length):(wN l (n+1)).getD i 0=cap (mg (wN l n) (wN l (n+1)) l[i]):=by
 have hpre:∃ s,wN l (n+1)=vv (wN l n) (l.take (i+1)) []++s:=by
  have:wN l (n+1)=vv (wN l n) (l.drop (i+1)) (vv (wN l n) (l.take (i+1)) []):=by
   show vv (wN l n) l []=_
   rw [← QDl,List.take_append_drop]
  rw [this]
  exact QJ0 _ _ _
 obtain ⟨s,hs⟩:=hpre
 rw [List.take_succ_eq_append_getElem hi,yu] at hs
 have hl:(vv (wN l n) (l.take i) []).length=i:=by rw [QBF];simp;omega
 have h1:(wN l (n+1)).getD i 0=cap (mg (wN l n) (vv (wN l n) (l.take i) []) l[i]):=by
  rw [hs,List.append_assoc,List.getD_eq_getElem?_getD,List.getElem?_append_right (by omega),hl,Nat.sub_self]
  rfl
 rw [h1]
 congr 1
 apply QHs
 intro p hp
 have:=QDc hb hi p hp
 rw [hs,List.append_assoc,QD7 this.1 (by omega)]
theorem QIW {k n:Nat} (hk:Nat.ble 1 k=true) (h:n<=10000):(Nat.ble 1 k&&Nat.ble n lim)=true:=by
 rw [Bool.and_eq_true]
 exact ⟨hk,Nat.ble_eq_true_of_le (by have:=QLP;omega)⟩
abbrev Ext:=Int×(Int×Unit)
def AV (a:Int):Prop:=a=1∨a=8
def upS (n a:Int):Int:=if a=1 then n else (n+7) / 8 * 8
theorem QDk {n a:Int} (h:AV a):n<=upS n a/\upS n a<=n+7/\a ∣ upS n a:=by
 unfold upS
 rcases h with rfl | rfl
 ·rw [if_pos rfl];exact ⟨by omega,by omega,Int.one_dvd n⟩
 ·rw [if_neg (by decide)];exact ⟨by omega,by omega,Int.dvd_mul_left _ _⟩
theorem QIx {n a:Int} (ha:AV a) (h0:0<=n) (h1:n<=1000000000000):(bif (a==0) then none else some (IntKind.i64.wrap (IntKind.i64.wrap ((IntKind.i64.wrap (IntKind.i64.wrap (n+a) - 1)).tdiv a) * a)))=some (upS n a):=by
 unfold upS
 rcases ha with rfl | rfl
 ·rw [show ((1:Int)==0)=false from rfl,cond_false,if_pos rfl,wrap_i64 (n:=n+1) (by omega) (by omega),wrap_i64 (n:=n+1 - 1) (by omega) (by omega),Int.tdiv_one,wrap_i64 (n:=n+1 - 1) (by omega) (by omega),Int.mul_one,wrap_i64 (n:=n+1 - 1) (by omega) (by omega)]
  congr 1
  omega
 ·rw [show ((8:Int)==0)=false from rfl,cond_false,if_neg (by decide),wrap_i64 (n:=n+8) (by omega) (by omega),wrap_i64 (n:=n+8 - 1) (by omega) (by omega),Int.tdiv_eq_ediv_of_nonneg (by omega),wrap_i64 (n:=(n+8 - 1) / 8) (by omega) (by omega),wrap_i64 (n:=(n+8 - 1) / 8 * 8) (by omega) (by omega)]
  congr 1
  omega
theorem yU {n a:Int} (ha:AV a) (h0:0<=n) (h1:n<=1000000000000):fK (n,a)=some (upS n a):=by
 show kT (n,a)=_
 unfold kT
 exact QIx ha h0 h1
theorem QLe {n a:Int} (ha:AV a) (h0:0<=n) (h1:n<=1000000000000):y8 (n,a)=some (upS n a):=by
 show zI (n,a)=_
 unfold zI
 exact QIx ha h0 h1
def ext (all:List Ext) (i:Int):Ext:=all.getD i.toNat (1,(1,()))
abbrev sz (all:List Ext) (i:Int):Int:=(ext all i).1
abbrev al (all:List Ext) (i:Int):Int:=(ext all i).2.1
theorem QDB {a:List Ext} {e:Int} (h0:0<=e) (h:e < (a.length:Int)):Mh a e=some (ext a e):=by
 obtain ⟨k,rfl⟩:=Int.eq_ofNat_of_zero_le h0
 have hk:k < a.length:=by omega
 rw [XU hk]
 simp [hk,ext]
theorem QIr {a:List Ext} {e:Int} (h0:0<=e) (h:e < (a.length:Int)):nth a (Int.toNat e)=some (ext a e):=by
 obtain ⟨k,rfl⟩:=Int.eq_ofNat_of_zero_le h0
 have hk:k < a.length:=by omega
 show a[k]? = _
 simp [hk,ext]
theorem QIc {a b:List Ext} {e:Int} (h0:0<=e) (h:e < (a.length:Int)):ext (a++b) e=ext a e:=by
 unfold ext
 rw [List.getD_eq_getElem?_getD,List.getD_eq_getElem?_getD,List.getElem?_append_left (by omega)]
def oo (all:List Ext) (s:List Int×(Int×Int)) (f:qW):List Int×(Int×Int):=(s.1++[upS s.2.1 (al all f.2.1)],(upS s.2.1 (al all f.2.1)+sz all f.2.1,max s.2.2 (al all f.2.1)))
def aS (all:List Ext) (fs:List qW):List Int×(Int×Int):=fs.foldl (oo all) ([],(0,1))
theorem QJn (all:List Ext) (fs:List qW) (f:qW):aS all (fs++[f])=oo all (aS all fs) f:=by simp [aS]
theorem QBj (all:List Ext) {fs:List qW} {k:Nat} (h:k < fs.length):aS all (fs.take (k+1))=oo all (aS all (fs.take k)) fs[k]:=by rw [List.take_succ_eq_append_getElem h,QJn]
theorem QHo {a b:List Ext}:∀ (fs:List qW),(∀ f∈fs,ext a f.2.1=ext b f.2.1)->aS a fs=aS b fs:=by
 intro fs h
 unfold aS
 generalize (([],(0,1)):List Int×(Int×Int))=s
 induction fs generalizing s with
 | nil=>rfl
 | cons f r ih=>
  rw [List.foldl_cons,List.foldl_cons]
  have:oo a s f=oo b s f:=by unfold oo al sz;rw [h f (by simp)]
  rw [this]
  exact ih (fun g hg=>h g (by simp [hg])) _
theorem QGv (all:List Ext) (fs:List qW):(aS all fs).1.length=fs.length:=by
 have:∀ (fs:List qW) (s:List Int×(Int×Int)),(fs.foldl (oo all) s).1.length=s.1.length+fs.length:=by
  intro fs
  induction fs with
  | nil=>intro s;rfl
  | cons f r ih=>intro s;rw [List.foldl_cons,ih];simp [oo];omega
 unfold aS
 rw [this]
 simp
def Fits (all:List Ext) (g:Int->Int) (fs:List qW):Prop:=∀ f∈fs,1<=sz all f.2.1/\sz all f.2.1+7<=g f.2.1/\AV (al all f.2.1)
def zV (g:Int->Int) (fs:List qW):Int:=(fs.map fun f=>g f.2.1).sum
theorem QJj (g:Int->Int) (fs:List qW) (f:qW):zV g (fs++[f])=zV g fs+g f.2.1:=by simp [zV]
theorem QAE {all:List Ext} {g:Int->Int} {fs:List qW} (h:Fits all g fs):∀ k,k<=fs.length->0<=(aS all (fs.take k)).2.1/\(aS all (fs.take k)).2.1<=zV g (fs.take k)/\AV (aS all (fs.take k)).2.2/\(0 < k->1<=(aS all (fs.take k)).2.1)
 | 0,_=>by simp [aS,zV,AV]
 | k+1,hk=>by
  have ih:=QAE h k (by omega)
  have hf:=h _ (List.getElem_mem (show k < fs.length by omega))
  rw [QBj all (by omega),List.take_succ_eq_append_getElem (by omega),QJj]
  have hu:=QDk (n:=(aS all (fs.take k)).2.1) hf.2.2
  unfold oo
  dsimp only
  refine ⟨by omega,by omega,?_,by omega⟩
  have h1:=ih.2.2.1
  have h2:=hf.2.2
  unfold AV at h1 h2 ⊢
  omega
theorem QBi {g:Int->Int}:∀ (fs:List qW) (k:Nat),(∀ f∈fs,0<=g f.2.1)->zV g (fs.take k)<=zV g fs
 | [],k,_=>by simp [zV]
 | f::r,0,h=>by
  have h1:=QBi r 0 fun x hx=>h x (by simp [hx])
  have h2:=h f (by simp)
  simp only [zV,List.take_zero,List.map_nil,List.sum_nil,List.map_cons,List.sum_cons] at h1 ⊢
  omega
 | f::r,k+1,h=>by
  have h1:=QBi r k fun x hx=>h x (by simp [hx])
  simp only [zV,List.take_succ_cons,List.map_cons,List.sum_cons] at h1 ⊢
  omega
theorem QLB {all:List Ext} {g:Int->Int} {fs:List qW} (h:Fits all g fs):∀ f∈fs,0<=g f.2.1:=fun f hf=>by have:=h f hf;omega
theorem zN {all:List Ext} {g:Int->Int} {fs:List qW} (h:Fits all g fs) (hs:zV g fs<=900000) {k:Nat} (hk:k<=fs.length):0<=(aS all (fs.take k)).2.1/\(aS all (fs.take k)).2.1<=900000/\AV (aS all (fs.take k)).2.2:=by
 have h1:=QAE h k hk
 have h2:=QBi fs k (QLB h)
 exact ⟨h1.1,by omega,h1.2.2.1⟩
theorem QGw {all:List Ext} {g:Int->Int} {fs:List qW} (hf:Fits all g fs) (hs:zV g fs<=900000) (hi:∀ f∈fs,0<=f.2.1/\f.2.1 < all.length) (hl:fs.length<=1000) :
  fM (all,fs)=some ((aS all fs).1,(upS (aS all fs).2.1 (aS all fs).2.2,((aS all fs).2.2,()))):=by
 show kU _ (FU (gZ _ big) big) (all,fs)=_
 unfold kU
 dsimp only
 rw [decide_eq_true (by omega),decide_eq_true (by omega),decide_eq_true (by omega)]
 simp only [Bool.and_true,cond_true,Int.toNat_natCast]
 refine Pp (g:=gZ (fun _=>List.replicate) big) (n:=fs.length) (fun (s:List Int×(Int×Int)) (i:Nat)=>(all,fs,(fs.length:Int),(i:Int),((0:Int),((0:Int),())),s.1,(s.2.1,(s.2.2,())))) (fun i s=>s=((aS all (fs.take i)).1++List.replicate (fs.length - i) 0,(aS all (fs.take i)).2)) (fun r=>r=some ((aS all fs).1,(upS (aS all fs).2.1 (aS all fs).2.2,((aS all fs).2.2,())))) ?_ ?_
  fs.length 0 big (by simp) (by unfold big;omega) (List.replicate fs.length 0,(0,1)) (by simp [aS])
 ·rintro self s rfl
  have hb:=zN hf hs (Nat.le_refl _)
  rw [List.take_length] at hb ⊢
  show dL _ self _=_
  unfold dL
  dsimp only
  rw [decide_eq_false (by omega),cond_false,yU hb.2.2 hb.1 (by omega),Option.bind_some]
  simp
 ·rintro self s i hlt rfl
  left
  refine ⟨_,rfl,?_⟩
  have hb:=zN hf hs (Nat.le_of_lt hlt)
  have hfi:=hf _ (List.getElem_mem hlt)
  have hix:=hi _ (List.getElem_mem hlt)
  have hu:=QDk (n:=(aS all (fs.take i)).2.1) hfi.2.2
  have hb1:=zN hf hs (show i+1<=fs.length by omega)
  have hlen:=QGv all (fs.take i)
  rw [List.length_take,Nat.min_eq_left (by omega)] at hlen
  rw [QBj all hlt] at hb1 ⊢
  unfold oo at hb1 ⊢
  dsimp only at hb1 ⊢
  generalize aS all (fs.take i)=T at *
  have hset:∀ v:Int,(T.1++List.replicate (fs.length - i) 0).set i v=T.1++[v]++List.replicate (fs.length - (i+1)) 0:=by
   intro v
   rw [show fs.length - i=(fs.length - (i+1))+1 by omega,List.replicate_succ,List.set_append_right _ _ (by omega),hlen,Nat.sub_self,List.set_cons_zero,List.append_assoc]
   rfl
  have hsl:(T.1++List.replicate (fs.length - i) (0:Int)).length=fs.length:=by simp [hlen];omega
  have hsl2:∀ v:Int,(T.1++[v]++List.replicate (fs.length - (i+1)) (0:Int)).length=fs.length:=by intro v;simp [hlen];omega
  have QYd:∀ v:Int,nth (T.1++[v]++List.replicate (fs.length - (i+1)) (0:Int)) i=some v:=by
   intro v
   show (T.1++[v]++List.replicate (fs.length - (i+1)) (0:Int))[i]? = some v
   rw [List.append_assoc,List.getElem?_append_right (by omega),hlen,Nat.sub_self]
   rfl
  show dL _ self _=_
  unfold dL
  dsimp only
  have d1:decide ((i:Int) < (fs.length:Int))=true:=decide_eq_true (by omega)
  have d2:decide (0<=(i:Int))=true:=decide_eq_true (by omega)
  simp only [d1,d2,cond_true,XU hlt,Option.bind_some,QDB hix.1 hix.2,yU hfi.2.2 hb.1 (by omega),hsl,Int.toNat_natCast,hset,hsl2,Bool.and_self,QYd]
  rw [V4 hlt (by have:=Vx;omega),wrap_i64 (n:=upS T.2.1 (al all fs[i].2.1)+sz all fs[i].2.1) (by omega) (by omega),QLS]
def bU (acc:List Ext) (t:aU):Ext:=
 if t.1=2∨t.1=4 then (8,(8,()))
 else if t.1=3 then (16,(8,()))
 else if t.1=7 then (24,(8,()))
 else if t.1=6 then (t.2.2.1 * sz acc t.2.1,(al acc t.2.1,()))
 else if t.1=5 then (upS (aS acc t.2.2.2.1).2.1 (aS acc t.2.2.2.1).2.2,((aS acc t.2.2.2.1).2.2,()))
 else (1,(1,()))
def cu:List aU->List Ext->List Ext
 | [],acc=>acc
 | t::r,acc=>cu r (acc++[bU acc t])
theorem wD:∀ (l:List aU) (t:aU) (acc:List Ext),cu (l++[t]) acc=cu l acc++[bU (cu l acc) t]
 | [],t,acc=>rfl
 | u::r,t,acc=>wD r t _
theorem QD5:∀ (l:List aU) (acc:List Ext),(cu l acc).length=acc.length+l.length
 | [],acc=>rfl
 | u::r,acc=>by rw [cu,QD5];simp;omega
theorem QBp:∀ (a b:List aU) (acc:List Ext),cu (a++b) acc=cu b (cu a acc)
 | [],_,_=>rfl
 | t::r,b,acc=>QBp r b _
theorem QGK:∀ (b:List aU) (acc:List Ext),∃ s,cu b acc=acc++s
 | [],acc=>⟨[],by simp [cu]⟩
 | t::r,acc=>by
  obtain ⟨s,h⟩:=QGK r (acc++[bU acc t])
  exact ⟨[bU acc t]++s,by rw [cu,h,List.append_assoc]⟩
def exS (l:List aU):List Ext:=cu l []
theorem xB (l:List aU):(exS l).length=l.length:=by unfold exS;rw [QD5];simp
theorem QAP {l:List aU} {i:Nat} (hi:i<=l.length):(cu (l.take i) []).length=i:=by rw [QD5];simp;omega
theorem QIb (l:List aU) (i:Nat):∃ s,exS l=cu (l.take i) []++s:=by
 have:exS l=cu (l.drop i) (cu (l.take i) []):=by
  unfold exS
  rw [← QBp,List.take_append_drop]
 rw [this]
 exact QGK _ _
theorem QGM {l:List aU} {i:Nat} (hi:i<=l.length) {p:Int} (h0:0<=p) (h1:p < i):ext (cu (l.take i) []) p=ext (exS l) p:=by
 obtain ⟨s,hs⟩:=QIb l i
 rw [hs,QIc h0 (by rw [QAP hi];exact h1)]
theorem QEr {a b:List Ext} {t:aU} (h:∀ p∈Zn t,ext a p=ext b p):bU a t=bU b t:=by
 unfold bU
 split
 ·rfl
 split
 ·rfl
 split
 ·rfl
 split
 ·rename_i h6
  have e:=h t.2.1 (by unfold Zn;rw [if_pos h6];simp)
  unfold sz al
  rw [e]
 split
 ·rename_i h6 h5
  have e:aS a t.2.2.2.1=aS b t.2.2.2.1:=QHo _ fun f hf=>h f.2.1 (by unfold Zn;rw [if_neg h6,if_pos h5];exact List.mem_map.2 ⟨f,hf,rfl⟩)
  rw [e]
 ·rfl
theorem QR3 {l:List aU} (hb:Built l) {i:Int} {t:aU} (ht:Mh l i=some t):ext (exS l) i=bU (exS l) t:=by
 obtain ⟨h0,h1,hx,rfl⟩:=Fy ht
 obtain ⟨s,hs⟩:=QIb l (i.toNat+1)
 rw [List.take_succ_eq_append_getElem hx,wD] at hs
 have hl:=QAP (l:=l) (i:=i.toNat) (by omega)
 have e1:ext (exS l) i=bU (cu (l.take i.toNat) []) l[i.toNat]:=by
  rw [hs,ext]
  rw [List.append_assoc,List.getD_eq_getElem?_getD,List.getElem?_append_right (by omega),hl,Nat.sub_self]
  rfl
 rw [e1]
 exact QEr fun p hp=>by
  have:=QDc hb hx p hp
  exact QGM (by omega) this.1 this.2
def wS (l:List aU) (i:Int):Int:=(wN l 4).getD i.toNat 0
theorem QNU {l:List aU} (hv:Valid l) {j:Nat} (hj:j < l.length):wS l j=mg (wN l 3) (wN l 4) l[j]/\wS l j<=5000:=by
 have h:=QWX hv.2.1 3 hj
 have hlen:=(QBH hv.2.1 4).2
 have hne:wS l j≠5001:=by
  intro e
  apply hv.2.2
  rw [← e]
  unfold wS
  rw [Int.toNat_natCast,List.getD_eq_getElem?_getD,List.getElem?_eq_getElem (by omega)]
  exact List.getElem_mem _
 have e:wS l j=cap (mg (wN l 3) (wN l 4) l[j]):=by unfold wS;rw [Int.toNat_natCast];exact h
 rw [e] at hne ⊢
 unfold cap at hne ⊢
 split at hne
 ·exact absurd rfl hne
 ·rename_i h1
  rw [if_neg h1]
  omega
def Ob (w:Int) (x:Ext):Prop:=1<=x.1/\x.1+7<=32 * w/\AV x.2.1/\x.2.1 ∣ x.1
theorem QGr (l:List aU) (fs:List qW):zV (fun p=>32 * wS l p) fs=32 * yC (wN l 4) fs:=by
 induction fs with
 | nil=>rfl
 | cons f r ih=>
  simp only [zV,yC,List.map_cons,List.sum_cons] at ih ⊢
  rw [ih,Int.mul_add]
  rfl
theorem QRG {l:List aU} (hv:Valid l) {j:Nat} (hj:j < l.length):1<=wS l j:=by
 rw [(QNU hv hj).1]
 have h3:=(QBH hv.2.1 3).1
 have h4:=(QBH hv.2.1 4).1
 have hbt:=hv.2.1 j hj
 generalize l[j]=t at *
 have h5:=h3.getD t.2.1.toNat
 have h6:=h4.getD t.2.1.toNat
 unfold mg
 split
 ·omega
 split
 ·omega
 split
 ·rename_i hk
  have h7:=o7 hbt hk
  have:=QIq h7.2.2.1 h7.2.2.2 h6.1 h6.2
  omega
 split
 ·have:=xO h4 t.2.2.2.1
  omega
 ·omega
theorem QEq {l:List aU} (hv:Valid l):∀ i,i<=l.length->∀ j:Nat,j < i->Ob (wS l j) (ext (cu (l.take i) []) j)
 | 0,_,j,hj=>by omega
 | i+1,hi,j,hj=>by
  have ih:=QEq hv i (by omega)
  have hl:=QAP (l:=l) (i:=i) (by omega)
  rw [List.take_succ_eq_append_getElem (by omega),wD]
  by_cases hji:j < i
  ·rw [QIc (by omega) (by omega)]
   exact ih j hji
  ·have:j=i:=by omega
   subst this
   have e1:ext (cu (l.take j) []++[bU (cu (l.take j) []) l[j]]) j=bU (cu (l.take j) []) l[j]:=by
    unfold ext
    rw [Int.toNat_natCast,List.getD_eq_getElem?_getD,List.getElem?_append_right (by omega),hl,Nat.sub_self]
    rfl
   rw [e1]
   have hjl:j < l.length:=hi
   have hw:=(QNU hv hjl).1
   have hp:=QRG hv hjl
   have hbt:=hv.2.1 j hjl
   have hih:∀ p:Int,0<=p->p < j->Ob (wS l p) (ext (cu (l.take j) []) p):=by
    intro p h0 h1
    have:=ih p.toNat (by omega)
    rwa [Int.toNat_of_nonneg h0] at this
   clear e1 ih hl
   generalize cu (l.take j) []=acc at *
   generalize l[j]=t at *
   unfold bU
   split
   ·exact ⟨by decide,by show (8:Int)+7<=_;omega,.inr rfl,⟨1,rfl⟩⟩
   rename_i h24
   split
   ·exact ⟨by decide,by show (16:Int)+7<=_;omega,.inr rfl,⟨2,rfl⟩⟩
   split
   ·exact ⟨by decide,by show (24:Int)+7<=_;omega,.inr rfl,⟨3,rfl⟩⟩
   rename_i h7
   split
   ·rename_i h6
    have hx:=o7 hbt h6
    obtain ⟨g1,g2,g3,g4⟩:=hih t.2.1 hx.1 hx.2.1
    unfold mg at hw
    rw [if_neg (by omega),if_neg h7,if_pos h6] at hw
    have hw:wS l j=1+t.2.2.1 * wS l t.2.1:=hw
    have m1:=Int.mul_le_mul_of_nonneg_left g2 (show 0<=t.2.2.1 by omega)
    rw [Int.mul_add,Int.mul_left_comm] at m1
    have m2:=Int.mul_le_mul hx.2.2.1 g1 (by omega) (by omega)
    refine ⟨?_,?_,g3,Int.dvd_mul_of_dvd_right g4⟩
    ·show 1<=t.2.2.1 * (ext acc t.2.1).1
     omega
    ·show t.2.2.1 * (ext acc t.2.1).1+7<=_
     omega
   rename_i h6
   split
   ·rename_i h5
    have hx:=mQ hbt h5
    have hfits:Fits acc (fun p=>32 * wS l p) t.2.2.2.1:=by
     intro f hf
     have:=hx.2 f hf
     obtain ⟨g1,g2,g3,g4⟩:=hih f.2.1 this.1 this.2
     exact ⟨g1,g2,g3⟩
    have hb:=QAE hfits _ (Nat.le_refl _)
    rw [List.take_length,QGr] at hb
    unfold mg at hw
    rw [if_neg (by omega),if_neg h7,if_neg h6,if_pos h5] at hw
    have hu:=QDk (n:=(aS acc t.2.2.2.1).2.1) hb.2.2.1
    refine ⟨?_,?_,hb.2.2.1,hu.2.2⟩
    ·have:=hb.2.2.2 (by omega)
     show 1<=upS _ _
     omega
    ·show upS _ _+7<=_
     omega
   ·exact ⟨by decide,by show (1:Int)+7<=_;omega,.inl rfl,⟨1,rfl⟩⟩
theorem QLA {l:List aU} (hv:Valid l) {i:Int} (h0:0<=i) (h1:i < l.length):Ob (wS l i) (ext (exS l) i):=by
 have:=QEq hv l.length (Nat.le_refl _) i.toNat (by omega)
 rw [List.take_length,Int.toNat_of_nonneg h0] at this
 exact this
theorem QHL {l:List aU} (hv:Valid l) {i:Int} (h0:0<=i) (h1:i < l.length):1<=sz (exS l) i/\sz (exS l) i<=160000/\AV (al (exS l) i)/\al (exS l) i ∣ sz (exS l) i:=by
 obtain ⟨g1,g2,g3,g4⟩:=QLA hv h0 h1
 have:=(QNU hv (show i.toNat < l.length by omega)).2
 rw [Int.toNat_of_nonneg h0] at this
 exact ⟨g1,by show (ext (exS l) i).1<=_;omega,g3,g4⟩
theorem QGq {l:List aU} (hv:Valid l) {i:Nat} (hi:i < l.length) (h5:(l[i]).1=5):Fits (cu (l.take i) []) (fun p=>32 * wS l p) (l[i]).2.2.2.1/\zV (fun p=>32 * wS l p) (l[i]).2.2.2.1<=900000:=by
 have hx:=mQ (hv.2.1 i hi) h5
 constructor
 ·intro f hf
  have:=hx.2 f hf
  obtain ⟨g1,g2,g3,g4⟩:=QEq hv i (by omega) f.2.1.toNat (by omega)
  rw [Int.toNat_of_nonneg this.1] at g1 g2 g3 g4
  exact ⟨g1,g2,g3⟩
 ·have hw:=QNU hv hi
  unfold mg at hw
  rw [if_neg (by omega),if_neg (by omega),if_neg (by omega),if_pos h5] at hw
  rw [QGr]
  omega
theorem QGN {acc:List Ext} {t:aU} (h6:t.1=6->0<=t.2.1/\t.2.1 < acc.length/\0<=t.2.2.1 * sz acc t.2.1/\t.2.2.1 * sz acc t.2.1<=900000)
  (h5:t.1=5->fM (acc,t.2.2.2.1)=some ((aS acc t.2.2.2.1).1,(upS (aS acc t.2.2.2.1).2.1 (aS acc t.2.2.2.1).2.2,((aS acc t.2.2.2.1).2.2,())))):o8 (t,acc)=some (bU acc t):=by
 show kR _=_
 unfold kR bU
 dsimp only
 by_cases k2:t.1=2
 ·rw [if_pos (.inl k2),k2];rfl
 rw [show (t.1==2)=false from decide_eq_false k2,cond_false]
 by_cases k4:t.1=4
 ·rw [if_pos (.inr k4),k4];rfl
 rw [if_neg (by omega),show (t.1==4)=false from decide_eq_false k4,cond_false]
 by_cases k3:t.1=3
 ·rw [if_pos k3,k3];rfl
 rw [if_neg k3,show (t.1==3)=false from decide_eq_false k3,cond_false]
 by_cases k7:t.1=7
 ·rw [if_pos k7,k7];rfl
 rw [if_neg k7,show (t.1==7)=false from decide_eq_false k7,cond_false]
 by_cases k6:t.1=6
 ·have h:=h6 k6
  rw [if_pos k6,show (t.1==6)=true from decide_eq_true k6,cond_true,QDB h.1 h.2.1,Option.bind_some,wrap_i64 (n:=t.2.2.1 * sz acc t.2.1) (by have:=h.2.2;omega) (by have:=h.2.2;omega)]
 rw [if_neg k6,show (t.1==6)=false from decide_eq_false k6,cond_false]
 by_cases k5:t.1=5
 ·rw [if_pos k5,show (t.1==5)=true from decide_eq_true k5,cond_true,h5 k5,Option.bind_some]
 ·rw [if_neg k5,show (t.1==5)=false from decide_eq_false k5,cond_false]
theorem QEB {l:List aU} (hv:Valid l) {i:Nat} (hi:i < l.length) (h6:(l[i]).1=6):(0<=(l[i]).2.1/\(l[i]).2.1 < i)/\0<=(l[i]).2.2.1 * sz (cu (l.take i) []) (l[i]).2.1/\(l[i]).2.2.1 * sz (cu (l.take i) []) (l[i]).2.1<=900000:=by
 have hx:=o7 (hv.2.1 i hi) h6
 have ht:Mh l (i:Int)=some l[i]:=XU hi
 have e:=QR3 hv.2.1 ht
 have ho:=QHL hv (i:=(i:Int)) (by omega) (by omega)
 unfold sz at ho ⊢
 rw [QGM (by omega) hx.1 hx.2.1]
 rw [e] at ho
 unfold bU at ho
 rw [if_neg (by omega),if_neg (by omega),if_neg (by omega),if_pos h6] at ho
 have h1:1<=(l[i]).2.2.1 * (ext (exS l) (l[i]).2.1).1:=ho.1
 have h2:(l[i]).2.2.1 * (ext (exS l) (l[i]).2.1).1<=160000:=ho.2.1
 exact ⟨⟨hx.1,hx.2.1⟩,by omega,by omega⟩
theorem QHM {l:List aU} (hv:Valid l):qd l=some (exS l):=by
 have hlen:=hv.1
 show l8 (FU (jG big) big) l=_
 unfold l8
 refine Pp (g:=jG big) (n:=l.length) (fun (r:List Ext) (i:Nat)=>(l,(l.length:Int),(i:Int),r)) (fun i r=>r=cu (l.take i) []) (fun q=>q=some (exS l)) ?_ ?_
  l.length 0 big (by simp) (by unfold big;omega) _ (by simp [cu])
 ·rintro self s rfl
  rw [List.take_length]
  show dx self _=_
  unfold dx
  dsimp only
  rw [decide_eq_false (by omega),cond_false]
  rfl
 ·rintro self s i hi rfl
  left
  refine ⟨_,rfl,?_⟩
  have hl:=QAP (l:=l) (i:=i) (by omega)
  rw [List.take_succ_eq_append_getElem hi,wD]
  show dx self _=_
  unfold dx
  dsimp only
  rw [decide_eq_true (by omega),cond_true,XU hi,Option.bind_some,QGN (fun h6=>by have:=QEB hv hi h6;exact ⟨this.1.1,by omega,this.2⟩) (fun h5=>by
   have hx:=(mQ (hv.2.1 i hi) h5)
   obtain ⟨g1,g2⟩:=QGq hv hi h5
   exact QGw g1 g2 (fun f hf=>by have:=hx.2 f hf;omega) (by omega)),Option.bind_some,QIW rfl (by simp [hl];omega),cond_true,V4 hi (by have:=Vx;omega)]
  rfl
theorem QGW (x n:Int):qg (x,n)=some (eP x n):=by
 show l9 (x,n)=_
 unfold l9 eP
 dsimp only
 by_cases h:0<=x
 ·rw [decide_eq_true (show x≥0 from h)];rfl
 ·rw [decide_eq_false (show ¬ x≥0 from h)];rfl
def wC (l:List aU) (i:Int):Int:=if Valid l then (if 0<=i/\i < l.length then (if sz (exS l) i<=256 then 0 else 16) else 2) else 8
theorem QEp {l:List aU} {i:Int} (h:wC l i=0):Valid l/\0<=i/\i < l.length/\sz (exS l) i<=256:=by
 unfold wC at h
 split at h
 ·rename_i hv
  split at h
  ·rename_i hi
   split at h
   ·rename_i hs
    exact ⟨hv,hi.1,hi.2,hs⟩
   ·cases h
  ·cases h
 ·cases h
theorem QBL {l:List aU} {i:Int} (hv:Valid l) (h0:0<=i) (h1:i < l.length) (hs:sz (exS l) i<=256):wC l i=0:=by
 unfold wC;rw [if_pos hv,if_pos ⟨h0,h1⟩,if_pos hs]
theorem QGd (l:List aU) (i:Int):o9 (l,i)=some (if wC l i=0 then exS l else [],wC l i):=by
 show kS _=_
 unfold kS
 dsimp only
 rw [wB,Option.bind_some]
 by_cases hv:Valid l
 ·rw [if_pos hv,show ((0:Int) != 0)=false from rfl,cond_false,QGW,Option.bind_some]
  by_cases hi:0<=i/\i < l.length
  ·rw [tZ.2 hi,Bool.not_true,cond_false,QHM hv,Option.bind_some,decide_eq_true hi.1,decide_eq_true (by rw [xB];exact hi.2),Bool.true_and,cond_true,QIr hi.1 (by rw [xB];exact hi.2),Option.bind_some]
   by_cases hs:sz (exS l) i<=256
   ·rw [QBL hv hi.1 hi.2 hs,decide_eq_false (by show ¬ sz (exS l) i > 256;omega),cond_false,if_pos rfl]
   ·have:wC l i=16:=by unfold wC;rw [if_pos hv,if_pos hi,if_neg hs]
    rw [this,decide_eq_true (by show sz (exS l) i > 256;omega),cond_true,if_neg (by decide)]
  ·have hb:eP i l.length=false:=by
    rw [Bool.eq_false_iff];intro h;exact hi (tZ.1 h)
   have:wC l i=2:=by unfold wC;rw [if_pos hv,if_neg hi]
   rw [hb,Bool.not_false,cond_true,this,if_neg (by decide)]
 ·have:wC l i=8:=by unfold wC;rw [if_neg hv]
  rw [if_neg hv,this,if_neg (by decide)];rfl
theorem QIN (l:List aU) (i:Int):rD (l,i)=some (if wC l i=0 then (sz (exS l) i,(al (exS l) i,0)) else (0,(0,wC l i))):=by
 show rZ _=_
 unfold rZ
 dsimp only
 rw [QGd,Option.bind_some]
 by_cases h:wC l i=0
 ·obtain ⟨hv,h0,h1,hs⟩:=QEp h
  simp only [h,if_true]
  rw [show ((0:Int) != 0)=false from rfl,cond_false,decide_eq_true h0,decide_eq_true (by rw [xB];exact h1),Bool.true_and,cond_true,QIr h0 (by rw [xB];exact h1),Option.bind_some]
  first
   | rfl
   | (rw [QDB h0 (by rw [xB];exact h1)];rfl)
 ·simp only [if_neg h]
  rw [show (wC l i != 0)=true by simpa using h,cond_true]
end Go.Proofs.YtbgmjjplddddnaaGreatDoor.K
set_option linter.unusedVariables false
set_option linter.unusedSimpArgs false
set_option maxRecDepth 100000
namespace Go.Proofs.YtbgmjjplddddnaaGreatDoor.K
open Go.Lift
abbrev Cel:=Int×(Int×Unit)
def isC (t:aU):Prop:=t.1=6∨t.1=5
instance (t:aU):Decidable (isC t):=by unfold isC;infer_instance
def fin (S:List Ext) (t:aU) (j:Nat):Int:=if t.1=6 then j * sz S t.2.1 else (aS S (t.2.2.2.1.take j)).2.1
section
variable {l:List aU} (hv:Valid l) {i:Int} {t:aU} (ht:Mh l i=some t) (hk:isC t)
include hv ht hk
end
def QC7 (S:List Ext):List Cel->Int->Int->Prop
 | [],lo,hi=>lo<=hi
 | c::r,lo,hi=>lo<=c.1/\QC7 S r (c.1+sz S c.2.1) hi
theorem QC7.weak {S:List Ext}:∀ {a:List Cel} {lo lo' hi hi':Int},lo'<=lo->hi<=hi'->QC7 S a lo hi->QC7 S a lo' hi'
 | [],lo,lo',hi,hi',h1,h2,h=>by simp only [QC7] at h ⊢;omega
 | c::r,lo,lo',hi,hi',h1,h2,h=>⟨by have:=h.1;omega,QC7.weak (Int.le_refl _) h2 h.2⟩
theorem QC7.append {S:List Ext}:∀ {a b:List Cel} {lo m hi:Int},QC7 S a lo m->QC7 S b m hi->QC7 S (a++b) lo hi
 | [],b,lo,m,hi,h1,h2=>QC7.weak h1 (Int.le_refl _) h2
 | c::r,b,lo,m,hi,h1,h2=>⟨h1.1,QC7.append h1.2 h2⟩
def QC6 {α β:Type} (R:α->β->Prop):List α->List β->Prop
 | [],[]=>True
 | a::l,b::m=>R a b/\QC6 R l m
 | _,_=>False
theorem QC6.append {α β:Type} {R:α->β->Prop}:∀ {a:List α} {b:List β} {c:List α} {d:List β},QC6 R a b->QC6 R c d->QC6 R (a++c) (b++d)
 | [],[],_,_,_,h=>h
 | x::a,y::b,c,d,h,h'=>⟨h.1,QC6.append h.2 h'⟩
 | [],_::_,_,_,h,_=>h.elim
 | _::_,[],_,_,h,_=>h.elim
theorem QC6.len {α β:Type} {R:α->β->Prop}:∀ {a:List α} {b:List β},QC6 R a b->a.length=b.length
 | [],[],_=>rfl
 | x::a,y::b,h=>by rw [List.length_cons,List.length_cons,QC6.len h.2]
 | [],_::_,h=>h.elim
 | _::_,[],h=>h.elim
theorem QC6.at {α β:Type} {R:α->β->Prop}:∀ {a:List α} {b:List β},QC6 R a b->∀ (j:Nat) (h1:j < a.length) (h2:j < b.length),R a[j] b[j]
 | x::a,y::b,h,0,_,_=>h.1
 | x::a,y::b,h,j+1,h1,h2=>QC6.at h.2 j (by simpa using h1) (by simpa using h2)
 | [],_,_,_,h,_=>by simp at h
 | _::_,[],h,_,_,_=>h.elim
section
variable {l:List aU} (hv:Valid l)
include hv
end
end Go.Proofs.YtbgmjjplddddnaaGreatDoor.K
set_option linter.unusedVariables false
set_option linter.unusedSimpArgs false
set_option maxRecDepth 100000
namespace Go.Proofs.YtbgmjjplddddnaaGreatDoor.K
open Go.Lift
section
variable {l:List aU} (hv:Valid l) {i:Int} {t:aU} (ht:Mh l i=some t) (hk:isC t)
include hv ht hk
end
theorem QKa (n:Int):vL n=some (if n < 0∨n > 1073741824 then (0,2) else (upS n 8,0)):=by
 show qL n=_
 unfold qL
 by_cases h1:n < 0
 ·rw [decide_eq_true h1,cond_true,if_pos (.inl h1)]
 rw [decide_eq_false h1,cond_false]
 by_cases h2:n > 1073741824
 ·rw [decide_eq_true h2,cond_true,if_pos (.inr h2)]
 rw [decide_eq_false h2,cond_false,if_neg (by omega),yU (.inr rfl) (by omega) (by omega),Option.bind_some]
end Go.Proofs.YtbgmjjplddddnaaGreatDoor.K
set_option linter.unusedVariables false
set_option linter.unusedSimpArgs false
set_option maxRecDepth 100000
namespace Go.Proofs.YtbgmjjplddddnaaGreatDoor.K
open Go.Lift
abbrev szs (S:List Ext):List Int:=S.map (·.1)
abbrev als (S:List Ext):List Int:=S.map (·.2.1)
theorem QLD {S:List Ext} {e:Int} (h0:0<=e) (h:e < (S.length:Int)):Mh (szs S) e=some (sz S e):=by
 obtain ⟨k,rfl⟩:=Int.eq_ofNat_of_zero_le h0
 have hk:k < S.length:=by omega
 rw [XU (by simpa using hk)]
 simp [hk,ext,sz,al]
theorem QLC {S:List Ext} {e:Int} (h0:0<=e) (h:e < (S.length:Int)):Mh (als S) e=some (al S e):=by
 obtain ⟨k,rfl⟩:=Int.eq_ofNat_of_zero_le h0
 have hk:k < S.length:=by omega
 rw [XU (by simpa using hk)]
 simp [hk,ext,sz,al]
theorem QIs {S:List Ext} {e:Int} (h0:0<=e) (h:e < (S.length:Int)):nth (szs S) (Int.toNat e)=some (sz S e):=by
 obtain ⟨k,rfl⟩:=Int.eq_ofNat_of_zero_le h0
 have hk:k < S.length:=by omega
 show (szs S)[k]? = _
 simp [hk,ext,sz,al]
theorem QNM {S:List Ext} {e:Int} (h0:0<=e) (h:e < (S.length:Int)):nth (als S) (Int.toNat e)=some (al S e):=by
 obtain ⟨k,rfl⟩:=Int.eq_ofNat_of_zero_le h0
 have hk:k < S.length:=by omega
 show (als S)[k]? = _
 simp [hk,ext,sz,al]
theorem QFm {S:List Ext} {g:Int->Int} {fs:List qW} (hf:Fits S g fs) (hs:zV g fs<=900000) (hi:∀ f∈fs,0<=f.2.1/\f.2.1 < S.length) (hl:fs.length<=1000) :
  qh (szs S,als S,fs)=some ((aS S fs).1,(upS (aS S fs).2.1 (aS S fs).2.2,(aS S fs).2.2)):=by
 show mD (FU (jH big) big) _=_
 unfold mD
 dsimp only
 refine Pp (g:=jH big) (n:=fs.length) (fun (s:List Int×(Int×Int)) (i:Nat)=>(szs S,als S,fs,s.2.1,s.2.2,(i:Int),s.1)) (fun i s=>s=aS S (fs.take i)) (fun r=>r=some ((aS S fs).1,(upS (aS S fs).2.1 (aS S fs).2.2,(aS S fs).2.2))) ?_ ?_
  fs.length 0 big (by simp) (by unfold big;omega) ([],(0,1)) rfl
 ·rintro self s rfl
  have hb:=zN hf hs (Nat.le_refl _)
  rw [List.take_length] at hb ⊢
  have hu:=QDk (n:=(aS S fs).2.1) hb.2.2
  show dz self _=_
  unfold dz
  dsimp only
  rw [decide_eq_false (by omega),cond_false,QLe hb.2.2 hb.1 (by omega),Option.bind_some,if_pos (by omega)]
 ·rintro self s i hlt rfl
  left
  refine ⟨_,rfl,?_⟩
  have hb:=zN hf hs (Nat.le_of_lt hlt)
  have hfi:=hf _ (List.getElem_mem hlt)
  have hix:=hi _ (List.getElem_mem hlt)
  have hu:=QDk (n:=(aS S (fs.take i)).2.1) hfi.2.2
  have hb1:=zN hf hs (show i+1<=fs.length by omega)
  have hlen:=QGv S (fs.take i)
  rw [List.length_take,Nat.min_eq_left (by omega)] at hlen
  rw [QBj S hlt] at hb1 ⊢
  unfold oo at hb1 ⊢
  dsimp only at hb1 ⊢
  generalize aS S (fs.take i)=T at *
  show dz self _=_
  unfold dz
  dsimp only
  rw [decide_eq_true (by omega),cond_true,XU hlt,Option.bind_some,QLC hix.1 hix.2,Option.bind_some,QLe hfi.2.2 hb.1 (by omega),Option.bind_some,QIW rfl (by rw [List.length_singleton];omega),cond_true,QLD hix.1 hix.2,Option.bind_some,Option.bind_some]
  rw [V4 hlt (by have:=Vx;omega),wrap_i64 (n:=upS T.2.1 (al S fs[i].2.1)+sz S fs[i].2.1) (by omega) (by omega),if_pos (by omega),QLS]
  rfl
theorem QGL {acc:List Ext} {t:aU} {i n:Int} (h:aW t i n=true) :
  (t.1=1->bU acc t=(1,(1,())))/\(t.1=3->bU acc t=(16,(8,())))/\(t.1=7->bU acc t=(24,(8,())))/\(t.1=6->bU acc t=(t.2.2.1 * sz acc t.2.1,(al acc t.2.1,())))/\
  (t.1=5->bU acc t=(upS (aS acc t.2.2.2.1).2.1 (aS acc t.2.2.2.1).2.2,((aS acc t.2.2.2.1).2.2,())))/\(t.1≠1->t.1≠3->t.1≠7->t.1≠6->t.1≠5->bU acc t=(8,(8,()))):=by
 have hk:=QHE h
 unfold bU
 refine ⟨fun e=>?_,fun e=>?_,fun e=>?_,fun e=>?_,fun e=>?_,fun e1 e2 e3 e4 e5=>?_⟩
 ·rw [if_neg (by omega),if_neg (by omega),if_neg (by omega),if_neg (by omega),if_neg (by omega)]
 ·rw [if_neg (by omega),if_pos e]
 ·rw [if_neg (by omega),if_neg (by omega),if_pos e]
 ·rw [if_neg (by omega),if_neg (by omega),if_neg (by omega),if_pos e]
 ·rw [if_neg (by omega),if_neg (by omega),if_neg (by omega),if_neg (by omega),if_pos e]
 ·rw [if_pos (by omega)]
theorem QJd {l:List aU} (hv:Valid l):wY l=some (szs (exS l),als (exS l)):=by
 have hlen:=hv.1
 show sG (FU (nV big) big) l=_
 unfold sG
 refine Pp (g:=nV big) (n:=l.length) (fun (r:List Int×List Int) (i:Nat)=>(l,(i:Int),r.1,r.2)) (fun i r=>r=(szs (cu (l.take i) []),als (cu (l.take i) []))) (fun q=>q=some (szs (exS l),als (exS l))) ?_ ?_
  l.length 0 big (by simp) (by unfold big;omega) ([],[]) (by simp [cu])
 ·rintro self s rfl
  rw [List.take_length]
  show jv self _=_
  unfold jv
  dsimp only
  rw [decide_eq_false (by omega),cond_false]
  rfl
 ·rintro self s i hi rfl
  left
  refine ⟨_,rfl,?_⟩
  have hl:=QAP (l:=l) (i:=i) (by omega)
  have hs1:(szs (cu (l.take i) [])).length=i:=by rw [List.length_map,hl]
  have hs2:(als (cu (l.take i) [])).length=i:=by rw [List.length_map,hl]
  obtain ⟨k1,k3,k7,k6,k5,k0⟩:=QGL (acc:=cu (l.take i) []) (hv.2.1 i hi)
  have ha6:=fun h6=>QEB hv hi h6
  have ha5:=fun h5=>QGq hv hi h5
  have hx5:=fun h5=>(mQ (hv.2.1 i hi) h5)
  have e0:cu (l.take (i+1)) []=cu (l.take i) []++[bU (cu (l.take i) []) l[i]]:=by rw [List.take_succ_eq_append_getElem hi,wD]
  have e1:szs (cu (l.take (i+1)) [])=szs (cu (l.take i) [])++[(bU (cu (l.take i) []) l[i]).1]:=by rw [e0];simp
  have e2:als (cu (l.take (i+1)) [])=als (cu (l.take i) [])++[(bU (cu (l.take i) []) l[i]).2.1]:=by rw [e0];simp
  rw [e1,e2]
  clear e0 e1 e2
  have hget:=XU hi
  have hsucc:=V4 hi (by have:=Vx;omega:l.length<=maxLen)
  have hb1:∀ x:Int,(Nat.ble 1 1&&Nat.ble ((szs (cu (l.take i) [])).length+[x].length) lim)=true:=fun x=>QIW rfl (by rw [List.length_singleton];omega)
  have hb2:∀ x:Int,(Nat.ble 1 1&&Nat.ble ((als (cu (l.take i) [])).length+[x].length) lim)=true:=fun x=>QIW rfl (by rw [List.length_singleton];omega)
  generalize cu (l.take i) []=acc at *
  generalize l[i]=t at *
  show jv self _=_
  unfold jv
  dsimp only
  rw [decide_eq_true (by omega),cond_true,hget,Option.bind_some]
  simp only [hb1,hb2,cond_true,hsucc]
  by_cases h1:t.1=1
  ·rw [k1 h1,show (t.1==1)=true from decide_eq_true h1,cond_true];rfl
  rw [show (t.1==1)=false from decide_eq_false h1,cond_false]
  by_cases h3:t.1=3
  ·rw [k3 h3,show (t.1==3)=true from decide_eq_true h3,cond_true];rfl
  rw [show (t.1==3)=false from decide_eq_false h3,cond_false]
  by_cases h7:t.1=7
  ·rw [k7 h7,show (t.1==7)=true from decide_eq_true h7,cond_true];rfl
  rw [show (t.1==7)=false from decide_eq_false h7,cond_false]
  by_cases h6:t.1=6
  ·have hx:=ha6 h6
   rw [k6 h6,show (t.1==6)=true from decide_eq_true h6,cond_true,Option.bind_some,Option.bind_some,decide_eq_true hx.1.1,decide_eq_true (by omega),Bool.true_and,cond_true,QIs hx.1.1 (by omega),Option.bind_some,Option.bind_some,decide_eq_true hx.1.1,decide_eq_true (show t.2.1 < ((als acc).length:Int) by omega),Bool.true_and,cond_true,QNM hx.1.1 (by omega),Option.bind_some,wrap_i64 (n:=t.2.2.1 * sz acc t.2.1) (by omega) (by omega),if_pos (by omega)]
   rfl
  rw [show (t.1==6)=false from decide_eq_false h6,cond_false]
  by_cases h5:t.1=5
  ·obtain ⟨g1,g2⟩:=ha5 h5
   have hx:=hx5 h5
   rw [k5 h5,show (t.1==5)=true from decide_eq_true h5,cond_true,Option.bind_some,QFm g1 g2 (fun f hf=>by have:=hx.2 f hf;omega) (by omega),Option.bind_some]
   rfl
  rw [show (t.1==5)=false from decide_eq_false h5,cond_false,k0 h1 h3 h7 h6 h5]
  rfl
end Go.Proofs.YtbgmjjplddddnaaGreatDoor.K
