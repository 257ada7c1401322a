import Derived.Test.YtlhnlcbcikbokaaGreatDoorIfT1
set_option linter.unusedVariables false
set_option linter.unusedSimpArgs false
set_option linter.unusedSectionVars false
set_option maxRecDepth 100000
namespace Go.Proofs.YtlhnlcbcikbokaaGreatDoor.K
open Go.Lift
abbrev Fld:=List Int×(Int×Unit)
abbrev Typ:=Int×(Int×(Int×(List Fld×Unit)))
theorem atK_putK {kt vt:Ty} (x y:kt.den) (z v:vt.den):∀ m:List (kt.den×vt.den),atK x z (putK y v m)=bif eqD kt x y then (v,true) else atK x z m
 | []=>rfl
 | p::r=>by
  simp only [putK]
  by_cases h:y=p.1
  ·subst h
   rw [eqD_self,cond_true]
   simp only [atK]
   cases eqD kt x p.1 <;> rfl
  ·rw [eqD_false h,cond_false]
   simp only [atK]
   rw [atK_putK x y z v r]
   by_cases h2:x=p.1
   ·subst h2
    rw [eqD_self,cond_true,eqD_false (fun e=>h e.symm),cond_false,cond_true]
   ·rw [eqD_false h2,cond_false,cond_false]
def Marks (kt:Ty) (m:List (kt.den×Bool)) (S:kt.den→Prop):Prop:=∀ x,(@atK kt .bool x false m).1=true↔S x
theorem Marks.nil {kt:Ty}:Marks kt [] (fun _=>False):=fun x=>by simp [atK]
theorem Marks.put {kt:Ty} {m:List (kt.den×Bool)} {S:kt.den→Prop} (h:Marks kt m S) (y:kt.den):Marks kt (@putK kt .bool y true m) (fun x=>x=y∨S x):=by
 intro x
 rw [atK_putK]
 by_cases e:x=y
 ·subst e;rw [eqD_self];simp
 ·rw [eqD_false e,cond_false,h x];simp [e]
def idxB (x n:Int):Bool:=decide (0≤x)&&decide (x < n)
theorem idxB_iff {x n:Int}:idxB x n=true↔0≤x∧x < n:=by simp [idxB]
def letB (c:Int):Bool:=(decide (97≤c)&&decide (c≤122))||(decide (65≤c)&&decide (c≤90))
def digB (c:Int):Bool:=decide (48≤c)&&decide (c≤57)
def namedB (s:List Int):Bool:=match s with
 | []=>false
 | c::_=>decide (s.length≤16)&&(letB c&&s.all fun c=>letB c||digB c)
theorem isIndex_eq (x n:Int):ckinds_isIndex (x,n)=some (idxB x n):=by
 show nkinds_isIndex (x,n)=_
 unfold nkinds_isIndex idxB
 dsimp only
 by_cases h:0≤x
 ·rw [decide_eq_true (show x≥0 from h)];rfl
 ·rw [decide_eq_false (show ¬ x≥0 from h)];rfl
theorem isLetter_eq (c:Int):ckinds_isLetter c=some (letB c):=by
 show nkinds_isLetter c=_
 unfold nkinds_isLetter letB
 simp only [ge_iff_le]
 cases decide (97≤c) <;> cases decide (c≤122) <;> cases decide (65≤c) <;> cases decide (c≤90) <;> rfl
theorem isDigit_eq (c:Int):ckinds_isDigit c=some (digB c):=by
 show nkinds_isDigit c=_
 unfold nkinds_isDigit digB
 simp only [ge_iff_le]
 cases decide (48≤c) <;> cases decide (c≤57) <;> rfl
theorem foldC_all {β:Type} (p:β→Bool):∀ l:List β,foldC (fun x (s:Unit) k=>bif p x then k s else some false) (fun _=>some true) l ()=some (l.all p)
 | []=>rfl
 | x::r=>by
  simp only [foldC,List.all_cons]
  cases p x with
  | true=>exact foldC_all p r
  | false=>rfl
theorem Named_eq (s:List Int):ckinds_Named s=some (namedB s):=by
 show nkinds_Named (iterV (gkinds_Named_0 big) big) s=_
 unfold nkinds_Named
 cases s with
 | nil=>rfl
 | cons c r=>
  rw [eqD_false (by simp),cond_false]
  by_cases h:(c::r).length≤16
  ·rw [decide_eq_false (by omega),cond_false]
   have h0:getI (c::r) (0:Int)=some c:=rfl
   rw [h0,Option.bind_some,isLetter_eq,Option.bind_some]
   simp only [namedB]
   rw [decide_eq_true h,Bool.true_and]
   cases hc:letB c with
   | false=>rfl
   | true=>
    rw [Bool.not_true,cond_false,Bool.true_and]
    have:=range_run (g:=gkinds_Named_0 big) (xs:=c::r) (fun (_:Unit) (i:Nat)=>(c::r,((c::r).length:Int),(i:Int))) (fun x s k=>bif (letB x||digB x) then k s else some false) (fun _=>some true)
     (fun self s=>by
      show hkinds_Named_0 self _=_
      unfold hkinds_Named_0
      dsimp only
      rw [decide_eq_false (by omega),cond_false])
     (fun self s i hi=>by
      show hkinds_Named_0 self _=_
      unfold hkinds_Named_0
      dsimp only
      rw [decide_eq_true (by omega),cond_true,getI_at hi,Option.bind_some,isLetter_eq,Option.bind_some,Option.bind_some,isDigit_eq,Option.bind_some]
      rw [wrap_succ hi (by have:=maxLen_ge;omega)]
      cases letB (c::r)[i] <;> cases digB (c::r)[i] <;> rfl)
     (c::r).length 0 big (by simp) (by unfold big;omega) ()
    rw [List.drop_zero,foldC_all] at this
    exact this
  ·rw [decide_eq_true (by omega),cond_true]
   simp only [namedB]
   rw [decide_eq_false h];rfl
def areB (fs:List Fld) (n:Int):Bool:=decide (1≤fs.length∧fs.length≤8)&&(fs.all (fun f=>namedB f.1)&&(decide ((fs.map (·.1)).Nodup)&&fs.all fun f=>idxB f.2.1 n))
theorem areBuilt_fold (n:Int):∀ (fs:List Fld) (m:List (List Int×Bool)) (S:List Int→Prop),Marks .str m S→∃ b,foldC (fun (f:Fld) m k=>bif namedB f.1 then (bif (@atK .str .bool f.1 false m).1 then some false else (bif idxB f.2.1 n then k (@putK .str .bool f.1 true m) else some false)) else some false) (fun _=>some true) fs m=some b∧
  (b=true↔(∀ f∈fs,namedB f.1=true∧idxB f.2.1 n=true∧¬ S f.1)∧(fs.map (·.1)).Nodup)
 | [],m,S,_=>⟨true,rfl,by simp⟩
 | f::r,m,S,h=>by
  simp only [foldC]
  cases h1:namedB f.1 with
  | false=>exact ⟨false,rfl,by simp [h1]⟩
  | true=>
   rw [cond_true]
   cases h2:(@atK .str .bool f.1 false m).1 with
   | true=>exact ⟨false,rfl,by simp [(h f.1).1 h2]⟩
   | false=>
    rw [cond_false]
    have h2':¬ S f.1:=fun hs=>by rw [(h f.1).2 hs] at h2;cases h2
    cases h3:idxB f.2.1 n with
    | false=>exact ⟨false,rfl,by simp [h3]⟩
    | true=>
     rw [cond_true]
     obtain ⟨b,e,hb⟩:=areBuilt_fold n r _ _ (h.put f.1)
     refine ⟨b,e,hb.trans ?_⟩
     simp only [List.mem_cons,forall_eq_or_imp,List.map_cons,List.nodup_cons,List.mem_map,not_exists,not_and,not_or]
     constructor
     ·rintro ⟨g1,g2⟩
      exact ⟨⟨⟨h1,h3,h2'⟩,fun x hx=>⟨(g1 x hx).1,(g1 x hx).2.1,(g1 x hx).2.2.2⟩⟩,fun x hx e=>(g1 x hx).2.2.1 e,g2⟩
     ·rintro ⟨⟨_,g1⟩,g2,g3⟩
      exact ⟨fun x hx=>⟨(g1 x hx).1,(g1 x hx).2.1,fun e=>g2 x hx e,(g1 x hx).2.2⟩,g3⟩
theorem areBuilt_eq (fs:List Fld) (n:Int):ckinds_areBuilt (fs,n)=some (areB fs n):=by
 show nkinds_areBuilt (iterV (gkinds_areBuilt_0 big) big) (fs,n)=_
 unfold nkinds_areBuilt areB
 dsimp only
 by_cases h1:fs.length < 1
 ·rw [decide_eq_true (by omega),cond_true,decide_eq_false (by omega)];rfl
 rw [decide_eq_false (by omega),cond_false]
 by_cases h2:fs.length > 8
 ·rw [decide_eq_true (by omega),cond_true,decide_eq_false (by omega)];rfl
 rw [decide_eq_false (by omega),cond_false]
 have:=range_run (g:=gkinds_areBuilt_0 big) (xs:=fs) (fun (m:List (List Int×Bool)) (i:Nat)=>(n,fs,(fs.length:Int),(i:Int),m)) (fun f m k=>bif namedB f.1 then (bif (@atK .str .bool f.1 false m).1 then some false else (bif idxB f.2.1 n then k (@putK .str .bool f.1 true m) else some false)) else some false) (fun _=>some true)
  (fun self s=>by
   show hkinds_areBuilt_0 self _=_
   unfold hkinds_areBuilt_0
   dsimp only
   rw [decide_eq_false (by omega),cond_false])
  (fun self s i hi=>by
   show hkinds_areBuilt_0 self _=_
   unfold hkinds_areBuilt_0
   dsimp only
   rw [decide_eq_true (by omega),cond_true,getI_at hi,Option.bind_some,Named_eq,Option.bind_some,isIndex_eq,Option.bind_some]
   rw [wrap_succ hi (by have:=maxLen_ge;omega)]
   cases namedB fs[i].1 <;> cases (@atK .str .bool fs[i].1 false s).1 <;> cases idxB fs[i].2.1 n <;> rfl)
  fs.length 0 big (by simp) (by unfold big;omega) []
 obtain ⟨b,e,hb⟩:=areBuilt_fold n fs [] _ Marks.nil
 rw [List.drop_zero,e] at this
 have this:iterV (gkinds_areBuilt_0 big) big (n,fs,(fs.length:Int),0,[])=some b:=this
 rw [this,decide_eq_true (by omega),Bool.true_and]
 congr 1
 rw [Bool.eq_iff_iff,hb]
 simp only [Bool.and_eq_true,decide_eq_true_eq,List.all_eq_true,not_false_eq_true,and_true]
 exact ⟨fun h=>⟨fun f hf=>(h.1 f hf).1,h.2,fun f hf=>(h.1 f hf).2⟩,fun h=>⟨fun f hf=>⟨h.1 f hf,h.2.2 f hf⟩,h.2.1⟩⟩
def builtB (t:Typ) (i n:Int):Bool:=
 if t.1=1∨t.1=2∨t.1=3 then decide (t.2.1=0)&&(decide (t.2.2.1=0)&&decide (t.2.2.2.1.length=0))
 else if t.1=4∨t.1=7 then idxB t.2.1 n&&(decide (t.2.2.1=0)&&decide (t.2.2.2.1.length=0))
 else if t.1=6 then idxB t.2.1 i&&(decide (1≤t.2.2.1∧t.2.2.1≤16)&&decide (t.2.2.2.1.length=0))
 else if t.1=5 then decide (t.2.1=0)&&(decide (t.2.2.1=0)&&areB t.2.2.2.1 i)
 else false
theorem len0 {α:Type} (l:List α):((l.length:Int)==0)=decide (l.length=0):=by
 by_cases h:l.length=0
 ·rw [h];rfl
 ·rw [decide_eq_false h];simp;intro e;exact h (by rw [e];rfl)
theorem beq_dec (a b:Int):(a==b)=decide (a=b):=rfl
theorem isBuilt_eq (t:Typ) (i n:Int):ckinds_isBuilt (t,i,n)=some (builtB t i n):=by
 show nkinds_isBuilt (t,i,n)=_
 unfold nkinds_isBuilt builtB
 simp only [isIndex_eq,areBuilt_eq,len0,Option.bind_some]
 obtain ⟨k,e,l,fs,u⟩:=t
 dsimp only
 simp only [beq_dec,ge_iff_le]
 generalize areB fs i=A
 generalize idxB e n=B
 generalize idxB e i=C
 generalize decide (fs.length=0)=D
 generalize decide (e=0)=E
 generalize decide (l=0)=F
 have hG:decide (1≤l∧l≤16)=(decide (1≤l)&&decide (l≤16)):=by by_cases h:1≤l <;> by_cases h':l≤16 <;> simp [h,h']
 rw [hG]
 generalize decide (1≤l)=G
 generalize decide (l≤16)=H
 by_cases h1:k=1
 ·subst h1;simp;cases A <;> cases B <;> cases C <;> cases D <;> cases E <;> cases F <;> cases G <;> cases H <;> rfl
 by_cases h2:k=2
 ·subst h2;simp;cases A <;> cases B <;> cases C <;> cases D <;> cases E <;> cases F <;> cases G <;> cases H <;> rfl
 by_cases h3:k=3
 ·subst h3;simp;cases A <;> cases B <;> cases C <;> cases D <;> cases E <;> cases F <;> cases G <;> cases H <;> rfl
 by_cases h4:k=4
 ·subst h4;simp;cases A <;> cases B <;> cases C <;> cases D <;> cases E <;> cases F <;> cases G <;> cases H <;> rfl
 by_cases h5:k=5
 ·subst h5;simp;cases A <;> cases B <;> cases C <;> cases D <;> cases E <;> cases F <;> cases G <;> cases H <;> rfl
 by_cases h6:k=6
 ·subst h6;simp;cases A <;> cases B <;> cases C <;> cases D <;> cases E <;> cases F <;> cases G <;> cases H <;> rfl
 by_cases h7:k=7
 ·subst h7;simp;cases A <;> cases B <;> cases C <;> cases D <;> cases E <;> cases F <;> cases G <;> cases H <;> rfl
 simp [h1,h2,h3,h4,h5,h6,h7]
theorem built_ptr {t:Typ} {i n:Int} (h:builtB t i n=true) (hk:t.1=4∨t.1=7):0≤t.2.1∧t.2.1 < n:=by
 unfold builtB at h
 rw [if_neg (by omega),if_pos hk] at h
 simp only [Bool.and_eq_true] at h
 exact idxB_iff.1 h.1
theorem built_arr {t:Typ} {i n:Int} (h:builtB t i n=true) (hk:t.1=6):0≤t.2.1∧t.2.1 < i∧1≤t.2.2.1∧t.2.2.1≤16:=by
 unfold builtB at h
 rw [if_neg (by omega),if_neg (by omega),if_pos hk] at h
 simp only [Bool.and_eq_true,decide_eq_true_eq] at h
 have:=idxB_iff.1 h.1
 exact ⟨this.1,this.2,h.2.1⟩
theorem built_str {t:Typ} {i n:Int} (h:builtB t i n=true) (hk:t.1=5):(1≤t.2.2.2.1.length∧t.2.2.2.1.length≤8)∧∀ f∈t.2.2.2.1,0≤f.2.1∧f.2.1 < i:=by
 unfold builtB at h
 rw [if_neg (by omega),if_neg (by omega),if_neg (by omega),if_pos hk] at h
 simp only [Bool.and_eq_true,decide_eq_true_eq,areB,List.all_eq_true] at h
 exact ⟨h.2.2.1,fun f hf=>idxB_iff.1 (h.2.2.2.2.2 f hf)⟩
def partsS (t:Typ):List Int:=if t.1=6 then [t.2.1] else if t.1=5 then t.2.2.2.1.map (·.2.1) else []
def nextS (t:Typ):List Int:=if t.1=4∨t.1=7 then [t.2.1] else partsS t
def cap (w:Int):Int:=if 5001 < w then 5001 else w
def sumT (acc:List Int) (fs:List Fld):Int:=(fs.map fun f=>acc.getD f.2.1.toNat 0).sum
def wOne (less acc:List Int) (t:Typ):Int:=
 if t.1=4 then 1+less.getD t.2.1.toNat 0
 else if t.1=7 then 1+16 * less.getD t.2.1.toNat 0
 else if t.1=6 then 1+t.2.2.1 * acc.getD t.2.1.toNat 0
 else if t.1=5 then 1+sumT acc t.2.2.2.1
 else 1
def wGo (less:List Int):List Typ→List Int→List Int
 | [],acc=>acc
 | t::r,acc=>wGo less r (acc++[cap (wOne less acc t)])
def Wide (l:List Int):Prop:=∀ x∈l,0≤x∧x≤5001
theorem Wide.getD {l:List Int} (h:Wide l) (i:Nat):0≤l.getD i 0∧l.getD i 0≤5001:=by
 by_cases hi:i < l.length
 ·rw [List.getD_eq_getElem?_getD,List.getElem?_eq_getElem hi]
  exact h _ (List.getElem_mem hi)
 ·rw [List.getD_eq_getElem?_getD,List.getElem?_eq_none (by omega)]
  simp
theorem cap_wide {w:Int} (h:0≤w):0≤cap w∧cap w≤5001:=by unfold cap;split <;> omega
theorem sumT_bound {acc:List Int} (h:Wide acc):∀ fs:List Fld,0≤sumT acc fs∧sumT acc fs≤5001 * fs.length
 | []=>by simp [sumT]
 | f::r=>by
  have h1:=sumT_bound h r
  have h2:=h.getD f.2.1.toNat
  simp only [sumT,List.map_cons,List.sum_cons,List.length_cons] at h1 ⊢
  omega
theorem sumT_snoc (acc:List Int) (fs:List Fld) (f:Fld):sumT acc (fs++[f])=sumT acc fs+acc.getD f.2.1.toNat 0:=by simp [sumT]
theorem mul16 {a b:Int} (h0:1≤a) (h1:a≤16) (h2:0≤b) (h3:b≤5001):0≤a * b∧a * b≤80016:=by
 constructor
 ·exact Int.mul_nonneg (by omega) h2
 ·have:=Int.mul_le_mul h1 h3 h2 (by omega:(0:Int)≤16)
  omega
theorem wOne_bound {less acc:List Int} {t:Typ} {i n:Int} (hl:Wide less) (ha:Wide acc) (h:builtB t i n=true):0≤wOne less acc t∧wOne less acc t≤100000:=by
 unfold wOne
 have h1:=hl.getD t.2.1.toNat
 have h2:=ha.getD t.2.1.toNat
 split
 ·omega
 split
 ·omega
 split
 ·rename_i h6
  have h3:=built_arr h h6
  have:=mul16 h3.2.2.1 h3.2.2.2 h2.1 h2.2
  omega
 split
 ·rename_i h5
  have h3:=built_str h h5
  have:=sumT_bound ha t.2.2.2.1
  omega
 ·omega
theorem wGo_snoc (less:List Int):∀ (l:List Typ) (t:Typ) (acc:List Int),wGo less (l++[t]) acc=wGo less l acc++[cap (wOne less (wGo less l acc) t)]
 | [],t,acc=>rfl
 | u::r,t,acc=>wGo_snoc less r t _
theorem wGo_len (less:List Int):∀ (l:List Typ) (acc:List Int),(wGo less l acc).length=acc.length+l.length
 | [],acc=>rfl
 | u::r,acc=>by rw [wGo,wGo_len];simp;omega
def Built (l:List Typ):Prop:=∀ i (h:i < l.length),builtB l[i] (i:Int) (l.length:Int)=true
theorem wGo_wide {l:List Typ} (hb:Built l) {less:List Int} (hl:Wide less):∀ i,i≤l.length→Wide (wGo less (l.take i) [])
 | 0,_=>by intro x hx;simp [wGo] at hx
 | i+1,hi=>by
  have ih:=wGo_wide hb hl i (by omega)
  rw [List.take_succ_eq_append_getElem (by omega),wGo_snoc]
  intro x hx
  rcases List.mem_append.1 hx with hx | hx
  ·exact ih x hx
  ·simp at hx
   subst hx
   exact cap_wide (wOne_bound hl ih (hb i (by omega))).1
theorem getD_app {a b:List Int} {e:Int} (h0:0≤e) (h:e < (a.length:Int)):(a++b).getD e.toNat 0=a.getD e.toNat 0:=by
 rw [List.getD_eq_getElem?_getD,List.getD_eq_getElem?_getD,List.getElem?_append_left (by omega)]
theorem getI_getD {a:List Int} {e:Int} (h0:0≤e) (h:e < (a.length:Int)):getI a e=some (a.getD e.toNat 0):=by
 obtain ⟨k,rfl⟩:=Int.eq_ofNat_of_zero_le h0
 have hk:k < a.length:=by omega
 rw [getI_at hk]
 simp [hk]
theorem nth_getD {a:List Int} {e:Int} (h0:0≤e) (h:e < (a.length:Int)):nth a (Int.toNat e)=some (a.getD e.toNat 0):=by
 obtain ⟨k,rfl⟩:=Int.eq_ofNat_of_zero_le h0
 have hk:k < a.length:=by omega
 show a[k]? = _
 simp [hk]
theorem addw {a b:Int} (h0 : -9223372036854775808≤a+b) (h1:a+b≤9223372036854775807):IntKind.i64.wrap (a+b)=a+b:=wrap_i64 h0 h1
theorem cap_eq (w:Int):(if (5001:Int) < w then (5001:Int) else w)=cap w:=rfl
theorem widened_eq {l:List Typ} (hlen:l.length≤40) (hb:Built l) {less:List Int} (hl:Wide less) (hll:less.length=l.length):ckinds_widened (l,less)=some (wGo less l []):=by
 show nkinds_widened _ (iterV (gkinds_widened_0 _ big) big) (l,less)=_
 unfold nkinds_widened
 dsimp only
 rw [decide_eq_true (by omega),decide_eq_true (by omega),decide_eq_true (by omega)]
 simp only [Bool.and_true,cond_true]
 refine range_post (g:=gkinds_widened_0 (fun _=>List.replicate) big) (n:=l.length) (fun (r:List Int) (i:Nat)=>(less,l,(l.length:Int),(i:Int),r)) (fun i r=>r=wGo less (l.take i) []++List.replicate (l.length - i) 0) (fun r=>r=some (wGo less l [])) ?_ ?_
  l.length 0 big (by simp) (by unfold big;omega) _ (by simp [wGo])
 ·rintro self s rfl
  show hkinds_widened_0 _ _ self _=_
  unfold hkinds_widened_0
  dsimp only
  rw [decide_eq_false (by omega),cond_false]
  simp
 ·rintro self s i hi rfl
  left
  refine ⟨_,rfl,?_⟩
  have hw:=wGo_wide hb hl i (by omega)
  have hwl:(wGo less (l.take i) []).length=i:=by rw [wGo_len];simp;omega
  have hsl:(wGo less (l.take i) []++List.replicate (l.length - i) 0).length=l.length:=by simp [hwl];omega
  have hbd:=wOne_bound hl hw (hb i hi)
  have hset:∀ v:Int,(wGo less (l.take i) []++List.replicate (l.length - i) 0).set i v=wGo less (l.take i) []++[v]++List.replicate (l.length - (i+1)) 0:=by
   intro v
   rw [show l.length - i=(l.length - (i+1))+1 by omega,List.replicate_succ,List.set_append_right _ _ (by omega),hwl,Nat.sub_self,List.set_cons_zero,List.append_assoc]
   rfl
  have hgo:wGo less (l.take (i+1)) []=wGo less (l.take i) []++[cap (wOne less (wGo less (l.take i) []) l[i])]:=by
   rw [List.take_succ_eq_append_getElem hi,wGo_snoc]
  have hbi:=hb i hi
  rw [hgo]
  show hkinds_widened_0 _ _ self _=_
  unfold hkinds_widened_0
  dsimp only
  rw [decide_eq_true (by omega),cond_true,getI_at hi,Option.bind_some]
  have hin:(decide (0≤(i:Int))&&decide ((i:Int) < ((wGo less (l.take i) []++List.replicate (l.length - i) 0).length:Int)))=true:=by
   rw [decide_eq_true (by omega),decide_eq_true (by omega)];rfl
  have hsucc:=wrap_succ hi (by have:=maxLen_ge;omega:l.length≤maxLen)
  simp only [hin,cond_true,Int.toNat_natCast,hset,hsucc]
  generalize hacc:wGo less (l.take i) []=acc at *
  generalize htt:l[i]=t at *
  have hlw:=hl.getD t.2.1.toNat
  have haw:=hw.getD t.2.1.toNat
  by_cases h4:t.1=4
  ·have hp:=built_ptr hbi (.inl h4)
   rw [h4,show ((4:Int)==4)=true from rfl,cond_true,getI_getD hp.1 (by omega),Option.bind_some]
   rw [addw (by omega) (by omega),cap_eq]
   unfold wOne
   rw [if_pos h4]
  have e4:(t.1==4)=false:=decide_eq_false h4
  rw [e4,cond_false]
  by_cases h7:t.1=7
  ·have hp:=built_ptr hbi (.inr h7)
   rw [h7,show ((7:Int)==7)=true from rfl,cond_true,getI_getD hp.1 (by omega),Option.bind_some]
   rw [wrap_i64 (n:=16 * _) (by omega) (by omega),addw (by omega) (by omega),cap_eq]
   unfold wOne
   rw [if_neg h4,if_pos h7]
  have e7:(t.1==7)=false:=decide_eq_false h7
  rw [e7,cond_false]
  by_cases h6:t.1=6
  ·have hp:=built_arr hbi h6
   rw [h6,show ((6:Int)==6)=true from rfl,cond_true]
   rw [decide_eq_true (by omega),decide_eq_true (by omega),Bool.true_and,cond_true,nth_getD hp.1 (by omega),Option.bind_some,getD_app hp.1 (by omega)]
   have hm:=mul16 hp.2.2.1 hp.2.2.2 haw.1 haw.2
   rw [wrap_i64 (n:=t.2.2.1 * _) (by omega) (by omega),addw (by omega) (by omega),cap_eq]
   unfold wOne
   rw [if_neg h4,if_neg h7,if_pos h6]
  have e6:(t.1==6)=false:=decide_eq_false h6
  rw [e6,cond_false]
  by_cases h5:t.1=5
  ·have hp:=built_str hbi h5
   rw [h5,show ((5:Int)==5)=true from rfl,cond_true]
   refine range_post (g:=gkinds_widened_1 (fun _=>List.replicate) big self) (n:=t.2.2.2.1.length) (fun (w:Int) (j:Nat)=>(less,(i:Int),w,l,(l.length:Int),(i:Int),t.2.2.2.1,(t.2.2.2.1.length:Int),(j:Int),acc++List.replicate (l.length - i) 0)) (fun j w=>w=1+sumT acc (t.2.2.2.1.take j)) (fun r=>r=self (less,l,(l.length:Int),((i+1:Nat):Int),acc++[cap (wOne less acc t)]++List.replicate (l.length - (i+1)) 0)) ?_ ?_
    t.2.2.2.1.length 0 big (by simp) (by unfold big;omega) _ (by simp [sumT])
   ·rintro self1 s rfl
    show hkinds_widened_1 _ self self1 _=_
    unfold hkinds_widened_1
    dsimp only
    rw [decide_eq_false (by omega),cond_false]
    simp only [hin,cond_true,Int.toNat_natCast,hset,hsucc,cap_eq]
    rw [List.take_length]
    unfold wOne
    rw [if_neg h4,if_neg h7,if_neg h6,if_pos h5]
   ·rintro self1 s j hj rfl
    left
    refine ⟨_,rfl,?_⟩
    have hf:=hp.2 t.2.2.2.1[j] (List.getElem_mem hj)
    have hs:=sumT_bound hw (t.2.2.2.1.take j)
    have hfw:=hw.getD t.2.2.2.1[j].2.1.toNat
    have htl:(t.2.2.2.1.take j).length≤8:=by simp;omega
    show hkinds_widened_1 _ self self1 _=_
    unfold hkinds_widened_1
    dsimp only
    rw [decide_eq_true (by omega),cond_true,getI_at hj,Option.bind_some]
    rw [decide_eq_true (by omega),decide_eq_true (by omega),Bool.true_and,cond_true,nth_getD hf.1 (by omega),Option.bind_some,getD_app hf.1 (by omega),wrap_succ hj (by have:=maxLen_ge;omega),addw (by omega) (by omega)]
    rw [List.take_succ_eq_append_getElem hj,sumT_snoc,Int.add_assoc]
  ·have e5:(t.1==5)=false:=decide_eq_false h5
   rw [e5,cond_false]
   show self (less,l,(l.length:Int),((i+1:Nat):Int),acc++[_]++_)=_
   unfold wOne
   rw [if_neg h4,if_neg h7,if_neg h6,if_neg h5]
   rfl
def wN (l:List Typ):Nat→List Int
 | 0=>List.replicate l.length 0
 | n+1=>wGo (wN l n) l []
theorem wN_ok {l:List Typ} (hb:Built l):∀ n,Wide (wN l n)∧(wN l n).length=l.length
 | 0=>⟨fun x hx=>by simp [wN] at hx;omega,by simp [wN]⟩
 | n+1=>by
  have ih:=wN_ok hb n
  have:=wGo_wide hb ih.1 l.length (Nat.le_refl _)
  rw [List.take_length] at this
  exact ⟨this,by rw [wN,wGo_len];simp⟩
theorem widths_eq {l:List Typ} (hlen:l.length≤40) (hb:Built l):ckinds_widths l=some (wN l 4):=by
 show nkinds_widths _ (iterV (gkinds_widths_0 _ big) big) l=_
 unfold nkinds_widths
 rw [decide_eq_true (by omega),decide_eq_true (by omega),decide_eq_true (by omega)]
 simp only [Bool.and_true,cond_true]
 refine range_post (g:=gkinds_widths_0 (fun _=>List.replicate) big) (n:=4) (fun (r:List Int) (i:Nat)=>(l,(i:Int),r)) (fun i r=>r=wN l i) (fun r=>r=some (wN l 4)) ?_ ?_
  4 0 big (by simp) (by unfold big;omega) _ (by simp [wN])
 ·rintro self s rfl
  rfl
 ·rintro self s i hi rfl
  left
  refine ⟨_,rfl,?_⟩
  show hkinds_widths_0 _ self _=_
  unfold hkinds_widths_0
  dsimp only
  rw [decide_eq_true (by omega),cond_true,widened_eq hlen hb (wN_ok hb i).1 (wN_ok hb i).2,Option.bind_some,wrap_succ hi (by have:=maxLen_ge;omega)]
  rfl
theorem Index_eq (l:List Int) (y:Int) (hl:l.length≤1000):∃ j,cslices_Index_int_int (l,y)=some j∧(0≤j↔y∈l):=by
 show ∃ j,nslices_Index_int_int (iterV (gslices_Index_int_int_0 big) big) (l,y)=some j∧_
 unfold nslices_Index_int_int
 refine range_post (g:=gslices_Index_int_int_0 big) (n:=l.length) (fun (_:Unit) (i:Nat)=>(l,y,(l.length:Int),(i:Int))) (fun i _=>y ∉ l.take i) (fun r=>∃ j,r=some j∧(0≤j↔y∈l)) ?_ ?_
  l.length 0 big (by simp) (by unfold big;omega) () (by simp)
 ·intro self s h
  refine ⟨-1,?_,?_⟩
  ·show hslices_Index_int_int_0 self _=_
   unfold hslices_Index_int_int_0
   dsimp only
   rw [decide_eq_false (by omega),cond_false]
  ·rw [List.take_length] at h
   simp [h]
 ·intro self s i hi h
  by_cases e:y=l[i]
  ·right
   refine ⟨i,?_,by simp only [Int.natCast_nonneg,true_iff];rw [e];exact List.getElem_mem hi⟩
   show hslices_Index_int_int_0 self _=_
   unfold hslices_Index_int_int_0
   dsimp only
   rw [decide_eq_true (by omega),cond_true,getI_at hi,Option.bind_some,show (y==l[i])=true from decide_eq_true e,cond_true]
  ·left
   refine ⟨(),?_,?_⟩
   ·rw [List.take_succ_eq_append_getElem hi]
    intro hm
    rcases List.mem_append.1 hm with hm | hm
    ·exact h hm
    ·exact e (List.mem_singleton.1 hm)
   ·show hslices_Index_int_int_0 self _=_
    unfold hslices_Index_int_int_0
    dsimp only
    rw [decide_eq_true (by omega),cond_true,getI_at hi,Option.bind_some,show (y==l[i])=false from decide_eq_false e,cond_false,wrap_succ hi (by have:=maxLen_ge;omega)]
theorem Contains_eq (l:List Int) (y:Int) (hl:l.length≤1000):cslices_Contains_int_int (l,y)=some (decide (y∈l)):=by
 show nslices_Contains_int_int (l,y)=_
 unfold nslices_Contains_int_int
 obtain ⟨j,h1,h2⟩:=Index_eq l y hl
 rw [h1,Option.bind_some]
 congr 1
 rw [Bool.eq_iff_iff,decide_eq_true_eq,decide_eq_true_eq]
 exact h2
def Valid (l:List Typ):Prop:=l.length≤32∧Built l∧(5001:Int) ∉ wN l 4
instance (l:List Typ):Decidable (Built l):=by unfold Built;infer_instance
instance (l:List Typ):Decidable (Valid l):=by unfold Valid;infer_instance
theorem Check_eq (l:List Typ):ckinds_Check l=some (if Valid l then 0 else 8):=by
 show nkinds_Check (iterV (gkinds_Check_0 big) big) l=_
 unfold nkinds_Check
 by_cases h:l.length≤32
 ·rw [decide_eq_false (by omega),cond_false]
  refine range_post (g:=gkinds_Check_0 big) (n:=l.length) (fun (_:Unit) (i:Nat)=>(l,l,(l.length:Int),(i:Int))) (fun i _=>∀ j (h:j < l.length),j < i→builtB l[j] j l.length=true) (fun r=>r=some (if Valid l then 0 else 8)) ?_ ?_
   l.length 0 big (by simp) (by unfold big;omega) () (by intro j _ h;omega)
  ·intro self s hb
   have hb':Built l:=fun i hi=>hb i hi hi
   show hkinds_Check_0 self _=_
   unfold hkinds_Check_0
   dsimp only
   rw [decide_eq_false (by omega),cond_false,widths_eq (by omega) hb',Option.bind_some,Contains_eq _ _ (by rw [(wN_ok hb' 4).2];omega),Option.bind_some]
   by_cases hm:(5001:Int)∈wN l 4
   ·rw [decide_eq_true hm,cond_true,if_neg fun hv=>hv.2.2 hm]
   ·rw [decide_eq_false hm,cond_false,if_pos ⟨h,hb',hm⟩]
  ·intro self s i hi hb
   cases hbi:builtB l[i] (i:Int) (l.length:Int) with
   | false=>
    right
    show hkinds_Check_0 self _=_
    unfold hkinds_Check_0
    dsimp only
    rw [decide_eq_true (by omega),cond_true,getI_at hi,Option.bind_some,isBuilt_eq,Option.bind_some,hbi,Bool.not_false,cond_true,if_neg fun hv=>by rw [hv.2.1 i hi] at hbi;cases hbi]
   | true=>
    left
    refine ⟨(),fun j hj hji=>?_,?_⟩
    ·by_cases e:j=i
     ·subst e;exact hbi
     ·exact hb j hj (by omega)
    ·show hkinds_Check_0 self _=_
     unfold hkinds_Check_0
     dsimp only
     rw [decide_eq_true (by omega),cond_true,getI_at hi,Option.bind_some,isBuilt_eq,Option.bind_some,hbi,Bool.not_true,cond_false,wrap_succ hi (by have:=maxLen_ge;omega)]
 ·rw [decide_eq_true (by omega),cond_true,if_neg fun hv=>h hv.1]
def Ixs (n:Int) (l:List Int):Prop:=∀ x∈l,0≤x∧x < n
theorem parts_ix {l:List Typ} (hb:Built l) {i:Nat} (hi:i < l.length):Ixs i (partsS l[i]):=by
 intro x hx
 have h:=hb i hi
 unfold partsS at hx
 split at hx
 ·rename_i h6
  have:=built_arr h h6
  simp at hx
  subst hx
  exact ⟨this.1,this.2.1⟩
 split at hx
 ·rename_i h5
  obtain ⟨f,hf,rfl⟩:=List.mem_map.1 hx
  exact (built_str h h5).2 f hf
 ·simp at hx
def Deep (n:Int) (l:List Int):Prop:=∀ x∈l,0≤x∧x≤n
theorem Deep.getD {n:Int} {l:List Int} (hn:0≤n) (h:Deep n l) (i:Nat):0≤l.getD i 0∧l.getD i 0≤n:=by
 by_cases hi:i < l.length
 ·rw [List.getD_eq_getElem?_getD,List.getElem?_eq_getElem hi]
  exact h _ (List.getElem_mem hi)
 ·rw [List.getD_eq_getElem?_getD,List.getElem?_eq_none (by omega)]
  simpa using hn
theorem max_if (a b:Int):(if b > a then b else a)=max a b:=by omega
inductive Rch (l:List Typ) (ways:Typ→List Int) (i:Int):Int→Prop
 | self:Rch l ways i i
 | step {x y:Int} (t:Typ):Rch l ways i x→getI l x=some t→y∈ways t→Rch l ways i y
theorem Rch.trans {l:List Typ} {ways:Typ→List Int} {i j k:Int} (h:Rch l ways i j) (h':Rch l ways j k):Rch l ways i k:=by
 induction h' with
 | self=>exact h
 | step t _ h1 h2 ih=>exact .step t ih h1 h2
theorem getI_some {α:Type} {l:List α} {x:Int} {t:α} (h:getI l x=some t):0≤x∧x < l.length∧∃ (hx:x.toNat < l.length),t=l[x.toNat]:=by
 unfold getI at h
 by_cases h0:0≤x
 ·rw [decide_eq_true h0] at h
  simp only [cond_true] at h
  have h':l[x.toNat]? = some t:=h
  obtain ⟨h1,h2⟩:=List.getElem?_eq_some_iff.1 h'
  exact ⟨h0,by omega,h1,h2.symm⟩
 ·rw [decide_eq_false h0] at h
  cases h
theorem lim_ge:1000000≤lim:=by decide
inductive Pch (l:List Typ) (a b:Int):Int→Int→Prop
 | self:Pch l a b a b
 | step {x y x' y':Int} (t u:Typ) (j:Nat):Pch l a b x y→getI l x=some t→getI l y=some u→(nextS t)[j]? = some x'→(nextS u)[j]? = some y'→Pch l a b x' y'
theorem Pch.trans {l:List Typ} {a b c d e f:Int} (h:Pch l a b c d) (h':Pch l c d e f):Pch l a b e f:=by
 induction h' with
 | self=>exact h
 | step t u j _ h1 h2 h3 h4 ih=>exact .step t u j ih h1 h2 h3 h4
theorem nodup_take {l:List (List Int)} {i:Nat} (hi:i < l.length):(l.take (i+1)).Nodup↔(l.take i).Nodup∧∀ k (hk:k < i),l[k]≠l[i]:=by
 rw [List.take_succ_eq_append_getElem hi,List.nodup_append]
 simp only [List.nodup_cons,List.not_mem_nil,not_false_eq_true,List.nodup_nil,and_self,List.mem_singleton,forall_eq,true_and]
 constructor
 ·rintro ⟨h1,h2⟩
  refine ⟨h1,fun k hk e=>h2 l[k] ?_ e⟩
  exact List.mem_take_iff_getElem.2 ⟨k,by omega,rfl⟩
 ·rintro ⟨h1,h2⟩
  refine ⟨h1,fun a ha e=>?_⟩
  obtain ⟨k,hk,rfl⟩:=List.mem_take_iff_getElem.1 ha
  exact h2 k (by omega) e
theorem rGreat_eq (l:List Typ):∃ b,cref04_Great l=some b∧(b=false→l.length≤40∧∀ t∈l,t.2.2.2.1.length≤20):=by
 show ∃ b,nref04_Great (iterV (gref04_Great_0 big) big) l=some b∧_
 unfold nref04_Great
 by_cases h:l.length≤40
 ·rw [decide_eq_false (by omega),cond_false]
  refine range_post (g:=gref04_Great_0 big) (n:=l.length) (fun (_:Unit) (i:Nat)=>(l,(i:Int))) (fun i _=>∀ t∈l.take i,t.2.2.2.1.length≤20) (fun r=>∃ b,r=some b∧(b=false→l.length≤40∧∀ t∈l,t.2.2.2.1.length≤20)) ?_ ?_
   l.length 0 big (by simp) (by unfold big;omega) () (by simp)
  ·intro self s hb
   rw [List.take_length] at hb
   refine ⟨false,?_,fun _=>⟨h,hb⟩⟩
   show href04_Great_0 _ self _=_
   unfold href04_Great_0
   dsimp only
   rw [decide_eq_false (by omega),cond_false]
  ·intro self s i hi hb
   by_cases hg:(l[i]).2.2.2.1.length≤20
   ·have inner:iterV (gref04_Great_1 big self) big (l,(i:Int),0)=self (l,((i+1:Nat):Int))∨iterV (gref04_Great_1 big self) big (l,(i:Int),0)=some true:=by
     refine range_post (g:=gref04_Great_1 big self) (n:=(l[i]).2.2.2.1.length) (fun (_:Unit) (k:Nat)=>(l,(i:Int),(k:Int))) (fun _ _=>True) (fun r=>r=self (l,((i+1:Nat):Int))∨r=some true) ?_ ?_
      (l[i]).2.2.2.1.length 0 big (by simp) (by unfold big;omega) () trivial
     ·intro self1 s _
      left
      show href04_Great_1 self self1 _=_
      unfold href04_Great_1
      dsimp only
      rw [getI_at hi,Option.bind_some,decide_eq_false (by omega),cond_false,wrap_succ hi (by have:=maxLen_ge;omega)]
     ·intro self1 s k hk _
      have hst:gref04_Great_1 big self self1 (l,(i:Int),(k:Int))=bif decide ((((l[i]).2.2.2.1[k]).1.length:Int) > 100) then some true else self1 (l,(i:Int),((k+1:Nat):Int)):=by
       show href04_Great_1 self self1 _=_
       unfold href04_Great_1
       dsimp only
       rw [getI_at hi,Option.bind_some,decide_eq_true (by omega),cond_true,Option.bind_some,getI_at hk,Option.bind_some,wrap_succ hk (by have:=maxLen_ge;omega)]
      rw [hst]
      cases decide ((((l[i]).2.2.2.1[k]).1.length:Int) > 100) with
      | true=>right;right;rfl
      | false=>left;exact ⟨(),trivial,rfl⟩
    have hst:gref04_Great_0 big self (l,(i:Int))=iterV (gref04_Great_1 big self) big (l,(i:Int),0):=by
     show href04_Great_0 _ self _=_
     unfold href04_Great_0
     dsimp only
     rw [decide_eq_true (by omega),cond_true,getI_at hi,Option.bind_some,decide_eq_false (by omega),cond_false]
    rcases inner with e | e
    ·left
     refine ⟨(),?_,hst.trans e⟩
     rw [List.take_succ_eq_append_getElem hi]
     intro t ht
     rcases List.mem_append.1 ht with ht | ht
     ·exact hb t ht
     ·rw [List.mem_singleton.1 ht];exact hg
    ·right
     exact ⟨true,hst.trans e,fun h=>by cases h⟩
   ·right
    refine ⟨true,?_,fun h=>by cases h⟩
    show href04_Great_0 _ self _=_
    unfold href04_Great_0
    dsimp only
    rw [decide_eq_true (by omega),cond_true,getI_at hi,Option.bind_some,decide_eq_true (by omega),cond_true]
 ·refine ⟨true,?_,fun h=>by cases h⟩
  rw [decide_eq_true (by omega),cond_true]
theorem wGo_append (less:List Int):∀ (a b:List Typ) (acc:List Int),wGo less (a++b) acc=wGo less b (wGo less a acc)
 | [],_,_=>rfl
 | t::r,b,acc=>wGo_append less r b _
theorem wGo_pre (less:List Int):∀ (b:List Typ) (acc:List Int),∃ s,wGo less b acc=acc++s
 | [],acc=>⟨[],by simp [wGo]⟩
 | t::r,acc=>by
  obtain ⟨s,h⟩:=wGo_pre less r (acc++[cap (wOne less acc t)])
  exact ⟨[cap (wOne less acc t)]++s,by rw [wGo,h,List.append_assoc]⟩
theorem sumT_parts (acc:List Int) (t:Typ) (h:t.1=5):sumT acc t.2.2.2.1=((partsS t).map fun p=>acc.getD p.toNat 0).sum:=by
 unfold sumT partsS
 rw [if_neg (by omega),if_pos h,List.map_map]
 rfl
theorem wOne_congr {less a b:List Int} {t:Typ} (h:∀ p∈partsS t,a.getD p.toNat 0=b.getD p.toNat 0):wOne less a t=wOne less b t:=by
 unfold wOne
 split
 ·rfl
 split
 ·rfl
 split
 ·rename_i h6
  rw [h t.2.1 (by unfold partsS;rw [if_pos h6];simp)]
 split
 ·rename_i h5
  rw [sumT_parts _ _ h5,sumT_parts _ _ h5]
  congr 2
  exact List.map_congr_left h
 ·rfl
theorem wN_at {l:List Typ} (hb:Built l) (n:Nat) {i:Nat} (hi:i < l.length):(wN l (n+1)).getD i 0=cap (wOne (wN l n) (wN l (n+1)) l[i]):=by
 have hpre:∃ s,wN l (n+1)=wGo (wN l n) (l.take (i+1)) []++s:=by
  have:wN l (n+1)=wGo (wN l n) (l.drop (i+1)) (wGo (wN l n) (l.take (i+1)) []):=by
   show wGo (wN l n) l []=_
   rw [← wGo_append,List.take_append_drop]
  rw [this]
  exact wGo_pre _ _ _
 obtain ⟨s,hs⟩:=hpre
 rw [List.take_succ_eq_append_getElem hi,wGo_snoc] at hs
 have hl:(wGo (wN l n) (l.take i) []).length=i:=by rw [wGo_len];simp;omega
 have h1:(wN l (n+1)).getD i 0=cap (wOne (wN l n) (wGo (wN l n) (l.take i) []) l[i]):=by
  rw [hs,List.append_assoc,List.getD_eq_getElem?_getD,List.getElem?_append_right (by omega),hl,Nat.sub_self]
  rfl
 rw [h1]
 congr 1
 apply wOne_congr
 intro p hp
 have:=parts_ix hb hi p hp
 rw [hs,List.append_assoc,getD_app this.1 (by omega)]
theorem ble_k {k n:Nat} (hk:Nat.ble 1 k=true) (h:n≤10000):(Nat.ble 1 k&&Nat.ble n lim)=true:=by
 rw [Bool.and_eq_true]
 exact ⟨hk,Nat.ble_eq_true_of_le (by have:=lim_ge;omega)⟩
abbrev Ext:=Int×(Int×Unit)
def Al (a:Int):Prop:=a=1∨a=8
def upS (n a:Int):Int:=if a=1 then n else (n+7) / 8 * 8
theorem upS_ge {n a:Int} (h:Al a):n≤upS n a∧upS n a≤n+7∧a ∣ upS n a:=by
 unfold upS
 rcases h with rfl | rfl
 ·rw [if_pos rfl];exact ⟨by omega,by omega,Int.one_dvd n⟩
 ·rw [if_neg (by decide)];exact ⟨by omega,by omega,Int.dvd_mul_left _ _⟩
theorem up_form {n a:Int} (ha:Al a) (h0:0≤n) (h1:n≤1000000000000):(bif (a==0) then none else some (IntKind.i64.wrap (IntKind.i64.wrap ((IntKind.i64.wrap (IntKind.i64.wrap (n+a) - 1)).tdiv a) * a)))=some (upS n a):=by
 unfold upS
 rcases ha with rfl | rfl
 ·rw [show ((1:Int)==0)=false from rfl,cond_false,if_pos rfl,wrap_i64 (n:=n+1) (by omega) (by omega),wrap_i64 (n:=n+1 - 1) (by omega) (by omega),Int.tdiv_one,wrap_i64 (n:=n+1 - 1) (by omega) (by omega),Int.mul_one,wrap_i64 (n:=n+1 - 1) (by omega) (by omega)]
  congr 1
  omega
 ·rw [show ((8:Int)==0)=false from rfl,cond_false,if_neg (by decide),wrap_i64 (n:=n+8) (by omega) (by omega),wrap_i64 (n:=n+8 - 1) (by omega) (by omega),Int.tdiv_eq_ediv_of_nonneg (by omega),wrap_i64 (n:=(n+8 - 1) / 8) (by omega) (by omega),wrap_i64 (n:=(n+8 - 1) / 8 * 8) (by omega) (by omega)]
  congr 1
  omega
theorem multiple_eq {n a:Int} (ha:Al a) (h0:0≤n) (h1:n≤1000000000000):clayout_multiple (n,a)=some (upS n a):=by
 show nlayout_multiple (n,a)=_
 unfold nlayout_multiple
 exact up_form ha h0 h1
def ext (all:List Ext) (i:Int):Ext:=all.getD i.toNat (1,(1,()))
abbrev sz (all:List Ext) (i:Int):Int:=(ext all i).1
abbrev al (all:List Ext) (i:Int):Int:=(ext all i).2.1
theorem getI_ext {a:List Ext} {e:Int} (h0:0≤e) (h:e < (a.length:Int)):getI a e=some (ext a e):=by
 obtain ⟨k,rfl⟩:=Int.eq_ofNat_of_zero_le h0
 have hk:k < a.length:=by omega
 rw [getI_at hk]
 simp [hk,ext]
theorem nth_ext {a:List Ext} {e:Int} (h0:0≤e) (h:e < (a.length:Int)):nth a (Int.toNat e)=some (ext a e):=by
 obtain ⟨k,rfl⟩:=Int.eq_ofNat_of_zero_le h0
 have hk:k < a.length:=by omega
 show a[k]? = _
 simp [hk,ext]
theorem ext_app {a b:List Ext} {e:Int} (h0:0≤e) (h:e < (a.length:Int)):ext (a++b) e=ext a e:=by
 unfold ext
 rw [List.getD_eq_getElem?_getD,List.getD_eq_getElem?_getD,List.getElem?_append_left (by omega)]
def togStep (all:List Ext) (s:List Int×(Int×Int)) (f:Fld):List Int×(Int×Int):=(s.1++[upS s.2.1 (al all f.2.1)],(upS s.2.1 (al all f.2.1)+sz all f.2.1,max s.2.2 (al all f.2.1)))
def togS (all:List Ext) (fs:List Fld):List Int×(Int×Int):=fs.foldl (togStep all) ([],(0,1))
theorem togS_snoc (all:List Ext) (fs:List Fld) (f:Fld):togS all (fs++[f])=togStep all (togS all fs) f:=by simp [togS]
theorem togS_take (all:List Ext) {fs:List Fld} {k:Nat} (h:k < fs.length):togS all (fs.take (k+1))=togStep all (togS all (fs.take k)) fs[k]:=by rw [List.take_succ_eq_append_getElem h,togS_snoc]
theorem togS_congr {a b:List Ext}:∀ (fs:List Fld),(∀ f∈fs,ext a f.2.1=ext b f.2.1)→togS a fs=togS b fs:=by
 intro fs h
 unfold togS
 generalize (([],(0,1)):List Int×(Int×Int))=s
 induction fs generalizing s with
 | nil=>rfl
 | cons f r ih=>
  rw [List.foldl_cons,List.foldl_cons]
  have:togStep a s f=togStep b s f:=by unfold togStep al sz;rw [h f (by simp)]
  rw [this]
  exact ih (fun g hg=>h g (by simp [hg])) _
theorem togS_len (all:List Ext) (fs:List Fld):(togS all fs).1.length=fs.length:=by
 have:∀ (fs:List Fld) (s:List Int×(Int×Int)),(fs.foldl (togStep all) s).1.length=s.1.length+fs.length:=by
  intro fs
  induction fs with
  | nil=>intro s;rfl
  | cons f r ih=>intro s;rw [List.foldl_cons,ih];simp [togStep];omega
 unfold togS
 rw [this]
 simp
def Fits (all:List Ext) (g:Int→Int) (fs:List Fld):Prop:=∀ f∈fs,1≤sz all f.2.1∧sz all f.2.1+7≤g f.2.1∧Al (al all f.2.1)
def sumG (g:Int→Int) (fs:List Fld):Int:=(fs.map fun f=>g f.2.1).sum
theorem sumG_snoc (g:Int→Int) (fs:List Fld) (f:Fld):sumG g (fs++[f])=sumG g fs+g f.2.1:=by simp [sumG]
theorem togS_bound {all:List Ext} {g:Int→Int} {fs:List Fld} (h:Fits all g fs):∀ k,k≤fs.length→0≤(togS all (fs.take k)).2.1∧(togS all (fs.take k)).2.1≤sumG g (fs.take k)∧Al (togS all (fs.take k)).2.2∧(0 < k→1≤(togS all (fs.take k)).2.1)
 | 0,_=>by simp [togS,sumG,Al]
 | k+1,hk=>by
  have ih:=togS_bound h k (by omega)
  have hf:=h _ (List.getElem_mem (show k < fs.length by omega))
  rw [togS_take all (by omega),List.take_succ_eq_append_getElem (by omega),sumG_snoc]
  have hu:=upS_ge (n:=(togS all (fs.take k)).2.1) hf.2.2
  unfold togStep
  dsimp only
  refine ⟨by omega,by omega,?_,by omega⟩
  have h1:=ih.2.2.1
  have h2:=hf.2.2
  unfold Al at h1 h2 ⊢
  omega
theorem sumG_take {g:Int→Int}:∀ (fs:List Fld) (k:Nat),(∀ f∈fs,0≤g f.2.1)→sumG g (fs.take k)≤sumG g fs
 | [],k,_=>by simp [sumG]
 | f::r,0,h=>by
  have h1:=sumG_take r 0 fun x hx=>h x (by simp [hx])
  have h2:=h f (by simp)
  simp only [sumG,List.take_zero,List.map_nil,List.sum_nil,List.map_cons,List.sum_cons] at h1 ⊢
  omega
 | f::r,k+1,h=>by
  have h1:=sumG_take r k fun x hx=>h x (by simp [hx])
  simp only [sumG,List.take_succ_cons,List.map_cons,List.sum_cons] at h1 ⊢
  omega
theorem fits_pos {all:List Ext} {g:Int→Int} {fs:List Fld} (h:Fits all g fs):∀ f∈fs,0≤g f.2.1:=fun f hf=>by have:=h f hf;omega
theorem togS_le {all:List Ext} {g:Int→Int} {fs:List Fld} (h:Fits all g fs) (hs:sumG g fs≤900000) {k:Nat} (hk:k≤fs.length):0≤(togS all (fs.take k)).2.1∧(togS all (fs.take k)).2.1≤900000∧Al (togS all (fs.take k)).2.2:=by
 have h1:=togS_bound h k hk
 have h2:=sumG_take fs k (fits_pos h)
 exact ⟨h1.1,by omega,h1.2.2.1⟩
theorem together_eq {all:List Ext} {g:Int→Int} {fs:List Fld} (hf:Fits all g fs) (hs:sumG g fs≤900000) (hi:∀ f∈fs,0≤f.2.1∧f.2.1 < all.length) (hl:fs.length≤1000) :
  clayout_together (all,fs)=some ((togS all fs).1,(upS (togS all fs).2.1 (togS all fs).2.2,((togS all fs).2.2,()))):=by
 show nlayout_together _ (iterV (glayout_together_0 _ big) big) (all,fs)=_
 unfold nlayout_together
 dsimp only
 rw [decide_eq_true (by omega),decide_eq_true (by omega),decide_eq_true (by omega)]
 simp only [Bool.and_true,cond_true,Int.toNat_natCast]
 refine range_post (g:=glayout_together_0 (fun _=>List.replicate) big) (n:=fs.length) (fun (s:List Int×(Int×Int)) (i:Nat)=>(all,fs,(fs.length:Int),(i:Int),((0:Int),((0:Int),())),s.1,(s.2.1,(s.2.2,())))) (fun i s=>s=((togS all (fs.take i)).1++List.replicate (fs.length - i) 0,(togS all (fs.take i)).2)) (fun r=>r=some ((togS all fs).1,(upS (togS all fs).2.1 (togS all fs).2.2,((togS all fs).2.2,())))) ?_ ?_
  fs.length 0 big (by simp) (by unfold big;omega) (List.replicate fs.length 0,(0,1)) (by simp [togS])
 ·rintro self s rfl
  have hb:=togS_le hf hs (Nat.le_refl _)
  rw [List.take_length] at hb ⊢
  show hlayout_together_0 _ self _=_
  unfold hlayout_together_0
  dsimp only
  rw [decide_eq_false (by omega),cond_false,multiple_eq hb.2.2 hb.1 (by omega),Option.bind_some]
  simp
 ·rintro self s i hlt rfl
  left
  refine ⟨_,rfl,?_⟩
  have hb:=togS_le hf hs (Nat.le_of_lt hlt)
  have hfi:=hf _ (List.getElem_mem hlt)
  have hix:=hi _ (List.getElem_mem hlt)
  have hu:=upS_ge (n:=(togS all (fs.take i)).2.1) hfi.2.2
  have hb1:=togS_le hf hs (show i+1≤fs.length by omega)
  have hlen:=togS_len all (fs.take i)
  rw [List.length_take,Nat.min_eq_left (by omega)] at hlen
  rw [togS_take all hlt] at hb1 ⊢
  unfold togStep at hb1 ⊢
  dsimp only at hb1 ⊢
  generalize togS all (fs.take i)=T at *
  have hset:∀ v:Int,(T.1++List.replicate (fs.length - i) 0).set i v=T.1++[v]++List.replicate (fs.length - (i+1)) 0:=by
   intro v
   rw [show fs.length - i=(fs.length - (i+1))+1 by omega,List.replicate_succ,List.set_append_right _ _ (by omega),hlen,Nat.sub_self,List.set_cons_zero,List.append_assoc]
   rfl
  have hsl:(T.1++List.replicate (fs.length - i) (0:Int)).length=fs.length:=by simp [hlen];omega
  have hsl2:∀ v:Int,(T.1++[v]++List.replicate (fs.length - (i+1)) (0:Int)).length=fs.length:=by intro v;simp [hlen];omega
  have hnth:∀ v:Int,nth (T.1++[v]++List.replicate (fs.length - (i+1)) (0:Int)) i=some v:=by
   intro v
   show (T.1++[v]++List.replicate (fs.length - (i+1)) (0:Int))[i]? = some v
   rw [List.append_assoc,List.getElem?_append_right (by omega),hlen,Nat.sub_self]
   rfl
  show hlayout_together_0 _ self _=_
  unfold hlayout_together_0
  dsimp only
  have d1:decide ((i:Int) < (fs.length:Int))=true:=decide_eq_true (by omega)
  have d2:decide (0≤(i:Int))=true:=decide_eq_true (by omega)
  simp only [d1,d2,cond_true,getI_at hlt,Option.bind_some,getI_ext hix.1 hix.2,multiple_eq hfi.2.2 hb.1 (by omega),hsl,Int.toNat_natCast,hset,hsl2,Bool.and_self,hnth]
  rw [wrap_succ hlt (by have:=maxLen_ge;omega),wrap_i64 (n:=upS T.2.1 (al all fs[i].2.1)+sz all fs[i].2.1) (by omega) (by omega),max_if]
def extOne (acc:List Ext) (t:Typ):Ext:=
 if t.1=2∨t.1=4 then (8,(8,()))
 else if t.1=3 then (16,(8,()))
 else if t.1=7 then (24,(8,()))
 else if t.1=6 then (t.2.2.1 * sz acc t.2.1,(al acc t.2.1,()))
 else if t.1=5 then (upS (togS acc t.2.2.2.1).2.1 (togS acc t.2.2.2.1).2.2,((togS acc t.2.2.2.1).2.2,()))
 else (1,(1,()))
def exGo:List Typ→List Ext→List Ext
 | [],acc=>acc
 | t::r,acc=>exGo r (acc++[extOne acc t])
theorem exGo_snoc:∀ (l:List Typ) (t:Typ) (acc:List Ext),exGo (l++[t]) acc=exGo l acc++[extOne (exGo l acc) t]
 | [],t,acc=>rfl
 | u::r,t,acc=>exGo_snoc r t _
theorem exGo_len:∀ (l:List Typ) (acc:List Ext),(exGo l acc).length=acc.length+l.length
 | [],acc=>rfl
 | u::r,acc=>by rw [exGo,exGo_len];simp;omega
theorem exGo_append:∀ (a b:List Typ) (acc:List Ext),exGo (a++b) acc=exGo b (exGo a acc)
 | [],_,_=>rfl
 | t::r,b,acc=>exGo_append r b _
theorem exGo_pre:∀ (b:List Typ) (acc:List Ext),∃ s,exGo b acc=acc++s
 | [],acc=>⟨[],by simp [exGo]⟩
 | t::r,acc=>by
  obtain ⟨s,h⟩:=exGo_pre r (acc++[extOne acc t])
  exact ⟨[extOne acc t]++s,by rw [exGo,h,List.append_assoc]⟩
def exS (l:List Typ):List Ext:=exGo l []
theorem exS_len (l:List Typ):(exS l).length=l.length:=by unfold exS;rw [exGo_len];simp
theorem exT_len {l:List Typ} {i:Nat} (hi:i≤l.length):(exGo (l.take i) []).length=i:=by rw [exGo_len];simp;omega
theorem exS_pre (l:List Typ) (i:Nat):∃ s,exS l=exGo (l.take i) []++s:=by
 have:exS l=exGo (l.drop i) (exGo (l.take i) []):=by
  unfold exS
  rw [← exGo_append,List.take_append_drop]
 rw [this]
 exact exGo_pre _ _
theorem ext_take {l:List Typ} {i:Nat} (hi:i≤l.length) {p:Int} (h0:0≤p) (h1:p < i):ext (exGo (l.take i) []) p=ext (exS l) p:=by
 obtain ⟨s,hs⟩:=exS_pre l i
 rw [hs,ext_app h0 (by rw [exT_len hi];exact h1)]
theorem extOne_congr {a b:List Ext} {t:Typ} (h:∀ p∈partsS t,ext a p=ext b p):extOne a t=extOne b t:=by
 unfold extOne
 split
 ·rfl
 split
 ·rfl
 split
 ·rfl
 split
 ·rename_i h6
  have e:=h t.2.1 (by unfold partsS;rw [if_pos h6];simp)
  unfold sz al
  rw [e]
 split
 ·rename_i h6 h5
  have e:togS a t.2.2.2.1=togS b t.2.2.2.1:=togS_congr _ fun f hf=>h f.2.1 (by unfold partsS;rw [if_neg h6,if_pos h5];exact List.mem_map.2 ⟨f,hf,rfl⟩)
  rw [e]
 ·rfl
theorem ext_at {l:List Typ} (hb:Built l) {i:Int} {t:Typ} (ht:getI l i=some t):ext (exS l) i=extOne (exS l) t:=by
 obtain ⟨h0,h1,hx,rfl⟩:=getI_some ht
 obtain ⟨s,hs⟩:=exS_pre l (i.toNat+1)
 rw [List.take_succ_eq_append_getElem hx,exGo_snoc] at hs
 have hl:=exT_len (l:=l) (i:=i.toNat) (by omega)
 have e1:ext (exS l) i=extOne (exGo (l.take i.toNat) []) l[i.toNat]:=by
  rw [hs,ext]
  rw [List.append_assoc,List.getD_eq_getElem?_getD,List.getElem?_append_right (by omega),hl,Nat.sub_self]
  rfl
 rw [e1]
 exact extOne_congr fun p hp=>by
  have:=parts_ix hb hx p hp
  exact ext_take (by omega) this.1 this.2
def wS (l:List Typ) (i:Int):Int:=(wN l 4).getD i.toNat 0
theorem w_at {l:List Typ} (hv:Valid l) {j:Nat} (hj:j < l.length):wS l j=wOne (wN l 3) (wN l 4) l[j]∧wS l j≤5000:=by
 have h:=wN_at hv.2.1 3 hj
 have hlen:=(wN_ok hv.2.1 4).2
 have hne:wS l j≠5001:=by
  intro e
  apply hv.2.2
  rw [← e]
  unfold wS
  rw [Int.toNat_natCast,List.getD_eq_getElem?_getD,List.getElem?_eq_getElem (by omega)]
  exact List.getElem_mem _
 have e:wS l j=cap (wOne (wN l 3) (wN l 4) l[j]):=by unfold wS;rw [Int.toNat_natCast];exact h
 rw [e] at hne ⊢
 unfold cap at hne ⊢
 split at hne
 ·exact absurd rfl hne
 ·rename_i h1
  rw [if_neg h1]
  omega
def Gd (w:Int) (x:Ext):Prop:=1≤x.1∧x.1+7≤32 * w∧Al x.2.1∧x.2.1 ∣ x.1
theorem sumG_mul (l:List Typ) (fs:List Fld):sumG (fun p=>32 * wS l p) fs=32 * sumT (wN l 4) fs:=by
 induction fs with
 | nil=>rfl
 | cons f r ih=>
  simp only [sumG,sumT,List.map_cons,List.sum_cons] at ih ⊢
  rw [ih,Int.mul_add]
  rfl
theorem wS_pos {l:List Typ} (hv:Valid l) {j:Nat} (hj:j < l.length):1≤wS l j:=by
 rw [(w_at hv hj).1]
 have h3:=(wN_ok hv.2.1 3).1
 have h4:=(wN_ok hv.2.1 4).1
 have hbt:=hv.2.1 j hj
 generalize l[j]=t at *
 have h5:=h3.getD t.2.1.toNat
 have h6:=h4.getD t.2.1.toNat
 unfold wOne
 split
 ·omega
 split
 ·omega
 split
 ·rename_i hk
  have h7:=built_arr hbt hk
  have:=mul16 h7.2.2.1 h7.2.2.2 h6.1 h6.2
  omega
 split
 ·have:=sumT_bound h4 t.2.2.2.1
  omega
 ·omega
theorem ex_good {l:List Typ} (hv:Valid l):∀ i,i≤l.length→∀ j:Nat,j < i→Gd (wS l j) (ext (exGo (l.take i) []) j)
 | 0,_,j,hj=>by omega
 | i+1,hi,j,hj=>by
  have ih:=ex_good hv i (by omega)
  have hl:=exT_len (l:=l) (i:=i) (by omega)
  rw [List.take_succ_eq_append_getElem (by omega),exGo_snoc]
  by_cases hji:j < i
  ·rw [ext_app (by omega) (by omega)]
   exact ih j hji
  ·have:j=i:=by omega
   subst this
   have e1:ext (exGo (l.take j) []++[extOne (exGo (l.take j) []) l[j]]) j=extOne (exGo (l.take j) []) l[j]:=by
    unfold ext
    rw [Int.toNat_natCast,List.getD_eq_getElem?_getD,List.getElem?_append_right (by omega),hl,Nat.sub_self]
    rfl
   rw [e1]
   have hjl:j < l.length:=hi
   have hw:=(w_at hv hjl).1
   have hp:=wS_pos hv hjl
   have hbt:=hv.2.1 j hjl
   have hih:∀ p:Int,0≤p→p < j→Gd (wS l p) (ext (exGo (l.take j) []) p):=by
    intro p h0 h1
    have:=ih p.toNat (by omega)
    rwa [Int.toNat_of_nonneg h0] at this
   clear e1 ih hl
   generalize exGo (l.take j) []=acc at *
   generalize l[j]=t at *
   unfold extOne
   split
   ·exact ⟨by decide,by show (8:Int)+7≤_;omega,.inr rfl,⟨1,rfl⟩⟩
   rename_i h24
   split
   ·exact ⟨by decide,by show (16:Int)+7≤_;omega,.inr rfl,⟨2,rfl⟩⟩
   split
   ·exact ⟨by decide,by show (24:Int)+7≤_;omega,.inr rfl,⟨3,rfl⟩⟩
   rename_i h7
   split
   ·rename_i h6
    have hx:=built_arr hbt h6
    obtain ⟨g1,g2,g3,g4⟩:=hih t.2.1 hx.1 hx.2.1
    unfold wOne at hw
    rw [if_neg (by omega),if_neg h7,if_pos h6] at hw
    have hw:wS l j=1+t.2.2.1 * wS l t.2.1:=hw
    have m1:=Int.mul_le_mul_of_nonneg_left g2 (show 0≤t.2.2.1 by omega)
    rw [Int.mul_add,Int.mul_left_comm] at m1
    have m2:=Int.mul_le_mul hx.2.2.1 g1 (by omega) (by omega)
    refine ⟨?_,?_,g3,Int.dvd_mul_of_dvd_right g4⟩
    ·show 1≤t.2.2.1 * (ext acc t.2.1).1
     omega
    ·show t.2.2.1 * (ext acc t.2.1).1+7≤_
     omega
   rename_i h6
   split
   ·rename_i h5
    have hx:=built_str hbt h5
    have hfits:Fits acc (fun p=>32 * wS l p) t.2.2.2.1:=by
     intro f hf
     have:=hx.2 f hf
     obtain ⟨g1,g2,g3,g4⟩:=hih f.2.1 this.1 this.2
     exact ⟨g1,g2,g3⟩
    have hb:=togS_bound hfits _ (Nat.le_refl _)
    rw [List.take_length,sumG_mul] at hb
    unfold wOne at hw
    rw [if_neg (by omega),if_neg h7,if_neg h6,if_pos h5] at hw
    have hu:=upS_ge (n:=(togS acc t.2.2.2.1).2.1) hb.2.2.1
    refine ⟨?_,?_,hb.2.2.1,hu.2.2⟩
    ·have:=hb.2.2.2 (by omega)
     show 1≤upS _ _
     omega
    ·show upS _ _+7≤_
     omega
   ·exact ⟨by decide,by show (1:Int)+7≤_;omega,.inl rfl,⟨1,rfl⟩⟩
theorem ext_good {l:List Typ} (hv:Valid l) {i:Int} (h0:0≤i) (h1:i < l.length):Gd (wS l i) (ext (exS l) i):=by
 have:=ex_good hv l.length (Nat.le_refl _) i.toNat (by omega)
 rw [List.take_length,Int.toNat_of_nonneg h0] at this
 exact this
theorem ext_ok {l:List Typ} (hv:Valid l) {i:Int} (h0:0≤i) (h1:i < l.length):1≤sz (exS l) i∧sz (exS l) i≤160000∧Al (al (exS l) i)∧al (exS l) i ∣ sz (exS l) i:=by
 obtain ⟨g1,g2,g3,g4⟩:=ext_good hv h0 h1
 have:=(w_at hv (show i.toNat < l.length by omega)).2
 rw [Int.toNat_of_nonneg h0] at this
 exact ⟨g1,by show (ext (exS l) i).1≤_;omega,g3,g4⟩
theorem str_fits {l:List Typ} (hv:Valid l) {i:Nat} (hi:i < l.length) (h5:(l[i]).1=5):Fits (exGo (l.take i) []) (fun p=>32 * wS l p) (l[i]).2.2.2.1∧sumG (fun p=>32 * wS l p) (l[i]).2.2.2.1≤900000:=by
 have hx:=built_str (hv.2.1 i hi) h5
 constructor
 ·intro f hf
  have:=hx.2 f hf
  obtain ⟨g1,g2,g3,g4⟩:=ex_good hv i (by omega) f.2.1.toNat (by omega)
  rw [Int.toNat_of_nonneg this.1] at g1 g2 g3 g4
  exact ⟨g1,g2,g3⟩
 ·have hw:=w_at hv hi
  unfold wOne at hw
  rw [if_neg (by omega),if_neg (by omega),if_neg (by omega),if_pos h5] at hw
  rw [sumG_mul]
  omega
theorem extentOf_eq {acc:List Ext} {t:Typ} (h6:t.1=6→0≤t.2.1∧t.2.1 < acc.length∧0≤t.2.2.1 * sz acc t.2.1∧t.2.2.1 * sz acc t.2.1≤900000)
  (h5:t.1=5→clayout_together (acc,t.2.2.2.1)=some ((togS acc t.2.2.2.1).1,(upS (togS acc t.2.2.2.1).2.1 (togS acc t.2.2.2.1).2.2,((togS acc t.2.2.2.1).2.2,())))):clayout_extentOf (t,acc)=some (extOne acc t):=by
 show nlayout_extentOf _=_
 unfold nlayout_extentOf extOne
 dsimp only
 by_cases k2:t.1=2
 ·rw [if_pos (.inl k2),k2];rfl
 rw [show (t.1==2)=false from decide_eq_false k2,cond_false]
 by_cases k4:t.1=4
 ·rw [if_pos (.inr k4),k4];rfl
 rw [if_neg (by omega),show (t.1==4)=false from decide_eq_false k4,cond_false]
 by_cases k3:t.1=3
 ·rw [if_pos k3,k3];rfl
 rw [if_neg k3,show (t.1==3)=false from decide_eq_false k3,cond_false]
 by_cases k7:t.1=7
 ·rw [if_pos k7,k7];rfl
 rw [if_neg k7,show (t.1==7)=false from decide_eq_false k7,cond_false]
 by_cases k6:t.1=6
 ·have h:=h6 k6
  rw [if_pos k6,show (t.1==6)=true from decide_eq_true k6,cond_true,getI_ext h.1 h.2.1,Option.bind_some,wrap_i64 (n:=t.2.2.1 * sz acc t.2.1) (by have:=h.2.2;omega) (by have:=h.2.2;omega)]
 rw [if_neg k6,show (t.1==6)=false from decide_eq_false k6,cond_false]
 by_cases k5:t.1=5
 ·rw [if_pos k5,show (t.1==5)=true from decide_eq_true k5,cond_true,h5 k5,Option.bind_some]
 ·rw [if_neg k5,show (t.1==5)=false from decide_eq_false k5,cond_false]
theorem arr_bound {l:List Typ} (hv:Valid l) {i:Nat} (hi:i < l.length) (h6:(l[i]).1=6):(0≤(l[i]).2.1∧(l[i]).2.1 < i)∧0≤(l[i]).2.2.1 * sz (exGo (l.take i) []) (l[i]).2.1∧(l[i]).2.2.1 * sz (exGo (l.take i) []) (l[i]).2.1≤900000:=by
 have hx:=built_arr (hv.2.1 i hi) h6
 have ht:getI l (i:Int)=some l[i]:=getI_at hi
 have e:=ext_at hv.2.1 ht
 have ho:=ext_ok hv (i:=(i:Int)) (by omega) (by omega)
 unfold sz at ho ⊢
 rw [ext_take (by omega) hx.1 hx.2.1]
 rw [e] at ho
 unfold extOne at ho
 rw [if_neg (by omega),if_neg (by omega),if_neg (by omega),if_pos h6] at ho
 have h1:1≤(l[i]).2.2.1 * (ext (exS l) (l[i]).2.1).1:=ho.1
 have h2:(l[i]).2.2.1 * (ext (exS l) (l[i]).2.1).1≤160000:=ho.2.1
 exact ⟨⟨hx.1,hx.2.1⟩,by omega,by omega⟩
theorem extents_eq {l:List Typ} (hv:Valid l):clayout_extents l=some (exS l):=by
 have hlen:=hv.1
 show nlayout_extents (iterV (glayout_extents_0 big) big) l=_
 unfold nlayout_extents
 refine range_post (g:=glayout_extents_0 big) (n:=l.length) (fun (r:List Ext) (i:Nat)=>(l,(l.length:Int),(i:Int),r)) (fun i r=>r=exGo (l.take i) []) (fun q=>q=some (exS l)) ?_ ?_
  l.length 0 big (by simp) (by unfold big;omega) _ (by simp [exGo])
 ·rintro self s rfl
  rw [List.take_length]
  show hlayout_extents_0 self _=_
  unfold hlayout_extents_0
  dsimp only
  rw [decide_eq_false (by omega),cond_false]
  rfl
 ·rintro self s i hi rfl
  left
  refine ⟨_,rfl,?_⟩
  have hl:=exT_len (l:=l) (i:=i) (by omega)
  rw [List.take_succ_eq_append_getElem hi,exGo_snoc]
  show hlayout_extents_0 self _=_
  unfold hlayout_extents_0
  dsimp only
  rw [decide_eq_true (by omega),cond_true,getI_at hi,Option.bind_some,extentOf_eq (fun h6=>by have:=arr_bound hv hi h6;exact ⟨this.1.1,by omega,this.2⟩) (fun h5=>by
   have hx:=(built_str (hv.2.1 i hi) h5)
   obtain ⟨g1,g2⟩:=str_fits hv hi h5
   exact together_eq g1 g2 (fun f hf=>by have:=hx.2 f hf;omega) (by omega)),Option.bind_some,ble_k rfl (by simp [hl];omega),cond_true,wrap_succ hi (by have:=maxLen_ge;omega)]
  rfl
theorem isIndexL_eq (x n:Int):clayout_isIndex (x,n)=some (idxB x n):=by
 show nlayout_isIndex (x,n)=_
 unfold nlayout_isIndex idxB
 dsimp only
 by_cases h:0≤x
 ·rw [decide_eq_true (show x≥0 from h)];rfl
 ·rw [decide_eq_false (show ¬ x≥0 from h)];rfl
def errS (l:List Typ) (i:Int):Int:=if Valid l then (if 0≤i∧i < l.length then (if sz (exS l) i≤256 then 0 else 16) else 2) else 8
theorem errS_ok {l:List Typ} {i:Int} (h:errS l i=0):Valid l∧0≤i∧i < l.length∧sz (exS l) i≤256:=by
 unfold errS at h
 split at h
 ·rename_i hv
  split at h
  ·rename_i hi
   split at h
   ·rename_i hs
    exact ⟨hv,hi.1,hi.2,hs⟩
   ·cases h
  ·cases h
 ·cases h
theorem errS_zero {l:List Typ} {i:Int} (hv:Valid l) (h0:0≤i) (h1:i < l.length) (hs:sz (exS l) i≤256):errS l i=0:=by
 unfold errS;rw [if_pos hv,if_pos ⟨h0,h1⟩,if_pos hs]
theorem measured_eq (l:List Typ) (i:Int):clayout_measured (l,i)=some (if errS l i=0 then exS l else [],errS l i):=by
 show nlayout_measured _=_
 unfold nlayout_measured
 dsimp only
 rw [Check_eq,Option.bind_some]
 by_cases hv:Valid l
 ·rw [if_pos hv,show ((0:Int) != 0)=false from rfl,cond_false,isIndexL_eq,Option.bind_some]
  by_cases hi:0≤i∧i < l.length
  ·rw [idxB_iff.2 hi,Bool.not_true,cond_false,extents_eq hv,Option.bind_some,decide_eq_true hi.1,decide_eq_true (by rw [exS_len];exact hi.2),Bool.true_and,cond_true,nth_ext hi.1 (by rw [exS_len];exact hi.2),Option.bind_some]
   by_cases hs:sz (exS l) i≤256
   ·rw [errS_zero hv hi.1 hi.2 hs,decide_eq_false (by show ¬ sz (exS l) i > 256;omega),cond_false,if_pos rfl]
   ·have:errS l i=16:=by unfold errS;rw [if_pos hv,if_pos hi,if_neg hs]
    rw [this,decide_eq_true (by show sz (exS l) i > 256;omega),cond_true,if_neg (by decide)]
  ·have hb:idxB i l.length=false:=by
    rw [Bool.eq_false_iff];intro h;exact hi (idxB_iff.1 h)
   have:errS l i=2:=by unfold errS;rw [if_pos hv,if_neg hi]
   rw [hb,Bool.not_false,cond_true,this,if_neg (by decide)]
 ·have:errS l i=8:=by unfold errS;rw [if_neg hv]
  rw [if_neg hv,this,if_neg (by decide)];rfl
theorem Size_eq (l:List Typ) (i:Int):clayout_Size (l,i)=some (if errS l i=0 then (sz (exS l) i,(al (exS l) i,0)) else (0,(0,errS l i))):=by
 show nlayout_Size _=_
 unfold nlayout_Size
 dsimp only
 rw [measured_eq,Option.bind_some]
 by_cases h:errS l i=0
 ·obtain ⟨hv,h0,h1,hs⟩:=errS_ok h
  simp only [h,if_true]
  rw [show ((0:Int) != 0)=false from rfl,cond_false,decide_eq_true h0,decide_eq_true (by rw [exS_len];exact h1),Bool.true_and,cond_true,nth_ext h0 (by rw [exS_len];exact h1),Option.bind_some]
  first
   | rfl
   | (rw [getI_ext h0 (by rw [exS_len];exact h1)];rfl)
 ·simp only [if_neg h]
  rw [show (errS l i != 0)=true by simpa using h,cond_true]
end Go.Proofs.YtlhnlcbcikbokaaGreatDoor.K
set_option linter.unusedVariables false
set_option linter.unusedSimpArgs false
set_option maxRecDepth 100000
namespace Go.Proofs.YtlhnlcbcikbokaaGreatDoor.K
open Go.Lift
abbrev Cel:=Int×(Int×Unit)
def isC (t:Typ):Prop:=t.1=6∨t.1=5
instance (t:Typ):Decidable (isC t):=by unfold isC;infer_instance
section
variable {l:List Typ} (hv:Valid l) {i:Int} {t:Typ} (ht:getI l i=some t) (hk:isC t)
include hv ht hk
end
def Tile (S:List Ext):List Cel→Int→Int→Prop
 | [],lo,hi=>lo≤hi
 | c::r,lo,hi=>lo≤c.1∧Tile S r (c.1+sz S c.2.1) hi
theorem Tile.weak {S:List Ext}:∀ {a:List Cel} {lo lo' hi hi':Int},lo'≤lo→hi≤hi'→Tile S a lo hi→Tile S a lo' hi'
 | [],lo,lo',hi,hi',h1,h2,h=>by simp only [Tile] at h ⊢;omega
 | c::r,lo,lo',hi,hi',h1,h2,h=>⟨by have:=h.1;omega,Tile.weak (Int.le_refl _) h2 h.2⟩
theorem Tile.append {S:List Ext}:∀ {a b:List Cel} {lo m hi:Int},Tile S a lo m→Tile S b m hi→Tile S (a++b) lo hi
 | [],b,lo,m,hi,h1,h2=>Tile.weak h1 (Int.le_refl _) h2
 | c::r,b,lo,m,hi,h1,h2=>⟨h1.1,Tile.append h1.2 h2⟩
def All2 {α β:Type} (R:α→β→Prop):List α→List β→Prop
 | [],[]=>True
 | a::l,b::m=>R a b∧All2 R l m
 | _,_=>False
theorem All2.append {α β:Type} {R:α→β→Prop}:∀ {a:List α} {b:List β} {c:List α} {d:List β},All2 R a b→All2 R c d→All2 R (a++c) (b++d)
 | [],[],_,_,_,h=>h
 | x::a,y::b,c,d,h,h'=>⟨h.1,All2.append h.2 h'⟩
 | [],_::_,_,_,h,_=>h.elim
 | _::_,[],_,_,h,_=>h.elim
theorem All2.len {α β:Type} {R:α→β→Prop}:∀ {a:List α} {b:List β},All2 R a b→a.length=b.length
 | [],[],_=>rfl
 | x::a,y::b,h=>by rw [List.length_cons,List.length_cons,All2.len h.2]
 | [],_::_,h=>h.elim
 | _::_,[],h=>h.elim
theorem All2.at {α β:Type} {R:α→β→Prop}:∀ {a:List α} {b:List β},All2 R a b→∀ (j:Nat) (h1:j < a.length) (h2:j < b.length),R a[j] b[j]
 | x::a,y::b,h,0,_,_=>h.1
 | x::a,y::b,h,j+1,h1,h2=>All2.at h.2 j (by simpa using h1) (by simpa using h2)
 | [],_,_,_,h,_=>by simp at h
 | _::_,[],h,_,_,_=>h.elim
section
variable {l:List Typ} (hv:Valid l)
include hv
end
end Go.Proofs.YtlhnlcbcikbokaaGreatDoor.K
set_option linter.unusedVariables false
set_option linter.unusedSimpArgs false
set_option maxRecDepth 100000
namespace Go.Proofs.YtlhnlcbcikbokaaGreatDoor.K
open Go.Lift
section
variable {l:List Typ} (hv:Valid l) {i:Int} {t:Typ} (ht:getI l i=some t) (hk:isC t)
include hv ht hk
end
end Go.Proofs.YtlhnlcbcikbokaaGreatDoor.K
set_option linter.unusedVariables false
set_option linter.unusedSimpArgs false
set_option maxRecDepth 100000
namespace Go.Proofs.YtlhnlcbcikbokaaGreatDoor.K
open Go.Lift
end Go.Proofs.YtlhnlcbcikbokaaGreatDoor.K
