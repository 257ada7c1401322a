import Derived.Test.YtlhnlcbcikbokaaDoorInM0
set_option linter.unusedVariables false
set_option linter.unusedSimpArgs false
set_option linter.unusedSectionVars false
set_option maxRecDepth 100000
namespace Go.Proofs.YtlhnlcbcikbokaaDoor.T
open Go.Lift
abbrev Rn:=Int×Int×Unit
def inc:Int→Int→List Rn→Int→Bool
 | _,_,[],_=>true
 | f,v,r::l,n=>(decide (r.1 < n)&&(decide (f < r.1)&&decide (v≠r.2.1)))&&inc r.1 r.2.1 l n
def fineR:List Rn→Int→Bool
 | [],_=>false
 | r::l,n=>(decide (r.1=0)&&decide (0 < n))&&inc 0 r.2.1 l n
theorem inc_cons {f v n:Int} {r:Rn} {l:List Rn}:inc f v (r::l) n=true↔(r.1 < n∧f < r.1∧v≠r.2.1)∧inc r.1 r.2.1 l n=true:=by
 simp only [inc,Bool.and_eq_true,decide_eq_true_eq]
theorem inc_from:∀ {l:List Rn} {f v n:Int},inc f v l n=true→∀ r∈l,f < r.1∧r.1 < n
 | [],_,_,_,_,r,hr=>by cases hr
 | a::l,f,v,n,h,r,hr=>by
  obtain ⟨⟨h1,h2,_⟩,h4⟩:=inc_cons.1 h
  rcases List.mem_cons.1 hr with rfl | hr
  ·exact ⟨h2,h1⟩
  ·have:=inc_from h4 r hr;omega
theorem fineR_len {l:List Rn} {n:Nat} (h:fineR l n=true):l.length≤n:=by
 have key:∀ {t:List Rn} {f v:Int},inc f v t n=true→(t.length:Int)+f < n∨t=[]:=by
  intro t
  induction t with
  | nil=>intro f v _;exact .inr rfl
  | cons r t ih=>
   intro f v h
   obtain ⟨⟨h1,h2,_⟩,h4⟩:=inc_cons.1 h
   left
   rcases ih h4 with h5 | rfl
   ·simp only [List.length_cons];omega
   ·simp only [List.length_cons,List.length_nil];omega
 cases l with
 | nil=>simp
 | cons r t=>
  simp only [fineR,Bool.and_eq_true,decide_eq_true_eq] at h
  rcases key h.2 with h5 | rfl
  ·simp only [List.length_cons];omega
  ·simp only [List.length_cons,List.length_nil];omega
theorem t64 {z:Int} (h : -9223372036854775808≤z) (h':z≤9223372036854775807):IntKind.i64.wrap z=z:=wrap_i64 h h'
theorem tbig {n:Nat} (h:n≤1000000):n < big:=by
 have:1000000 < big:=by decide
 omega
theorem tbigm {n:Nat} (h:n≤9223372036854775807):n < big:=by
 have:9223372036854775807 < big:=by decide
 omega
theorem tget {α:Type} {pre t:List α} {a:α} {i:Int} (h:i=(pre.length:Int)):getI (pre++a::t) i=some a:=by
 subst h
 rw [getI_nat]
 simp
theorem tget0 {α:Type} {t:List α} {a:α}:getI (a::t) 0=some a:=tget (pre:=[]) rfl
theorem fine_loop (N:Nat) (n:Int):∀ (t pre:List Rn) (a:Rn) (M:Nat),pre.length+t.length+1≤9223372036854775807→t.length < M→iterV (gref08_Fine_0 N) M (pre++a::t,n,((pre.length+1:Nat):Int))=some (inc a.1 a.2.1 t n)
 | [],pre,a,M+1,hl,hM=>by
  rw [iterV_succ]
  show href08_Fine_0 _ _=_
  unfold href08_Fine_0
  dsimp only
  rw [decide_eq_false (by simp),cond_false]
  rfl
 | b::t,pre,a,M+1,hl,hM=>by
  rw [iterV_succ]
  show href08_Fine_0 _ _=_
  unfold href08_Fine_0
  dsimp only
  simp only [List.length_cons] at hl hM
  have e1:getI (pre++a::b::t) ((pre.length+1:Nat):Int)=some b:=by
   rw [show pre++a::b::t=(pre++[a])++b::t by simp]
   exact tget (by simp)
  have e2:getI (pre++a::b::t) ((pre.length:Nat):Int)=some a:=tget rfl
  have e3:IntKind.i64.wrap (((pre.length+1:Nat):Int) - 1)=((pre.length:Nat):Int):=by rw [t64 (by omega) (by omega)];omega
  have e4:IntKind.i64.wrap (((pre.length+1:Nat):Int)+1)=(((pre++[a]).length+1:Nat):Int):=by rw [t64 (by omega) (by omega)];simp
  rw [decide_eq_true (show ((pre.length+1:Nat):Int) < ((pre++a::b::t).length:Int) by simp;omega),cond_true,decide_eq_true (show ((pre.length+1:Nat):Int) > 0 by omega),cond_true]
  simp only [e1,e2,e3,e4,Option.bind_some]
  have ih:=fine_loop N n t (pre++[a]) b M (by simp;omega) (by omega)
  rw [show (pre++[a])++b::t=pre++a::b::t by simp] at ih
  unfold inc
  by_cases h1:b.1 < n
  ·rw [decide_eq_false (show ¬ b.1≥n by omega),cond_false,decide_eq_true h1,Bool.true_and]
   by_cases h2:a.1 < b.1
   ·rw [decide_eq_false (show ¬ a.1≥b.1 by omega),cond_false,decide_eq_true h2,Bool.true_and]
    by_cases h3:a.2.1=b.2.1
    ·rw [show (a.2.1==b.2.1)=true by simp [h3],cond_true,decide_eq_false (not_not_intro h3),Bool.false_and]
    ·rw [show (a.2.1==b.2.1)=false by simpa using h3,cond_false,decide_eq_true h3,Bool.true_and]
     exact ih
   ·rw [decide_eq_true (show a.1≥b.1 by omega),cond_true,decide_eq_false h2]
    rfl
  ·rw [decide_eq_true (show b.1≥n by omega),cond_true,decide_eq_false h1]
   rfl
theorem Fine_eq8 (l:List Rn) (n:Int) (hl:l.length≤9223372036854775807):cref08_Fine (l,n)=some (fineR l n):=by
 show nref08_Fine (iterV (gref08_Fine_0 big) big) (l,n)=_
 unfold nref08_Fine
 dsimp only
 cases l with
 | nil=>rfl
 | cons r t=>
  simp only [List.length_cons] at hl
  rw [decide_eq_false (by simp;omega),cond_false,tget0,Option.bind_some]
  show _=some ((decide (r.1=0)&&decide (0 < n))&&inc 0 r.2.1 t n)
  by_cases h0:r.1=0
  ·rw [show (r.1 != 0)=false by simp [h0],cond_false,decide_eq_true h0,Bool.true_and]
   rw [big_pos,iterV_succ]
   show href08_Fine_0 _ _=_
   unfold href08_Fine_0
   dsimp only
   rw [decide_eq_true (show (0:Int) < ((r::t).length:Int) by simp only [List.length_cons];omega),cond_true,tget0,Option.bind_some,h0]
   by_cases h1:0 < n
   ·rw [decide_eq_false (show ¬ (0:Int)≥n by omega),cond_false,decide_eq_false (show ¬ (0:Int) > 0 by omega),cond_false,decide_eq_true h1,Bool.true_and]
    have:=fine_loop big n t [] r (big - 1) (by simp;omega) (by have:=tbigm (n:=t.length+1) (by omega);omega)
    rw [h0] at this
    exact this
   ·rw [decide_eq_true (show (0:Int)≥n by omega),cond_true,decide_eq_false h1]
    rfl
  ·rw [show (r.1 != 0)=true by simpa using h0,cond_true,decide_eq_false h0]
   rfl
def checkR (l:List Rn) (n:Int):Int:=if n < 1∨n > 200 then 2 else if fineR l n=true then 0 else 8
theorem checkR_zero {l:List Rn} {n:Int}:checkR l n=0↔(1≤n∧n≤200)∧fineR l n=true:=by
 unfold checkR
 split
 ·constructor
  ·intro e;omega
  ·intro e;omega
 ·split
  ·rename_i h1 h2;simp [h2];omega
  ·rename_i h1 h2;simp [h2]
theorem checkR_len {l:List Rn} {n:Int} (h:checkR l n=0):l.length≤200:=by
 obtain ⟨h1,h2⟩:=checkR_zero.1 h
 have:=fineR_len (l:=l) (n:=n.toNat) (by rw [Int.toNat_of_nonneg (by omega)];exact h2)
 omega
def segR:Int→List Rn→List Int
 | _,[]=>[]
 | w,r::l=>vary (r.1 - w).toNat++(vary r.2.1.toNat++segR r.1 l)
def codedR (l:List Rn):List Int:=vary l.length++segR 0 l
def V64 (l:List Rn):Prop:=∀ r∈l,0≤r.2.1∧r.2.1 < 18446744073709551616
theorem coded_loop (N:Nat) {n:Int} (hn:n≤200):∀ (t pre:List Rn) (f v:Int) (out:List Int) (M:Nat),inc f v t n=true→-1≤f→(∀ r∈t,0≤r.2.1∧r.2.1 < 18446744073709551616)→pre.length+t.length≤1000000→out.length+20 * t.length≤1000000→t.length < M→∀ w:Int,(0≤w∧w≤200∧(w≤f+1))→iterV (gref08_Coded_0 N) M (pre++t,w,((pre.length:Nat):Int),out)=some (out++segR w t)
 | [],pre,f,v,out,M+1,hi,hf,hv,hl,ho,hM,w,hw=>by
  rw [iterV_succ]
  show href08_Coded_0 _ _=_
  unfold href08_Coded_0
  dsimp only
  rw [decide_eq_false (by simp),cond_false]
  simp [segR]
 | r::t,pre,f,v,out,M+1,hi,hf,hv,hl,ho,hM,w,hw=>by
  rw [iterV_succ]
  show href08_Coded_0 _ _=_
  unfold href08_Coded_0
  dsimp only
  simp only [List.length_cons] at hl ho hM
  obtain ⟨⟨h1,h2,h3⟩,h4⟩:=inc_cons.1 hi
  have hr:=hv r (by simp)
  have e4:IntKind.i64.wrap (((pre.length:Nat):Int)+1)=(((pre++[r]).length:Nat):Int):=by rw [t64 (by omega) (by omega)];simp
  have ea:IntKind.u64.wrap (IntKind.i64.wrap (r.1 - w))=(((r.1 - w).toNat:Nat):Int):=by rw [t64 (by omega) (by omega),wrap_u64];omega
  have eb:cref02_Minimal r.2.1=some (vary r.2.1.toNat):=by
   have:=minimal_eq r.2.1.toNat (by omega)
   rwa [Int.toNat_of_nonneg hr.1] at this
  have la:=vary_len (r.1 - w).toNat
  have lb:=vary_len r.2.1.toNat
  have ih:=coded_loop N hn t (pre++[r]) r.1 r.2.1 (out++vary (r.1 - w).toNat++vary r.2.1.toNat) M h4 (by omega) (fun x hx=>hv x (by simp [hx])) (by simp;omega) (by simp only [List.length_append];omega) (by omega) r.1 (by omega)
  simp only [List.append_assoc,List.singleton_append] at ih
  rw [decide_eq_true (show ((pre.length:Nat):Int) < ((pre++r::t).length:Int) by simp;omega),cond_true]
  simp only [tget rfl,Option.bind_some,e4,ea,minimal_eq _ (show (r.1 - w).toNat < 18446744073709551616 by omega),eb]
  rw [b11,ble_lim (by omega),Bool.and_self,cond_true,show List.append out (vary (r.1 - w).toNat)=out++vary (r.1 - w).toNat from rfl,ble_lim (by simp only [List.length_append];omega),Bool.and_self,cond_true]
  rw [show List.append (out++vary (r.1 - w).toNat) (vary r.2.1.toNat)=out++(vary (r.1 - w).toNat++vary r.2.1.toNat) by simp]
  rw [ih]
  simp [segR]
theorem Coded_eq8 {l:List Rn} {n:Int} (h:fineR l n=true) (hn:n≤200) (hv:V64 l):cref08_Coded l=some (codedR l):=by
 have hlen:l.length≤200:=by
  have h0:0 < n:=by
   cases l with
   | nil=>cases h
   | cons r t=>simp only [fineR,Bool.and_eq_true,decide_eq_true_eq] at h;exact h.1.2
  have:=fineR_len (l:=l) (n:=n.toNat) (by rw [Int.toNat_of_nonneg (by omega)];exact h)
  omega
 show nref08_Coded (iterV (gref08_Coded_0 big) big) l=_
 unfold nref08_Coded
 dsimp only
 have la:=vary_len l.length
 rw [show IntKind.u64.wrap (l.length:Int)=(l.length:Int) by rw [wrap_u64];omega,minimal_eq _ (by omega),Option.bind_some]
 have hinc:∃ v,inc (-1) v l n=true:=by
  cases l with
  | nil=>exact ⟨0,rfl⟩
  | cons r t=>
   simp only [fineR,Bool.and_eq_true,decide_eq_true_eq] at h
   refine ⟨r.2.1 - 1,inc_cons.2 ⟨⟨by omega,by omega,by omega⟩,by rw [h.1.1];exact h.2⟩⟩
 obtain ⟨v,hinc⟩:=hinc
 exact coded_loop big hn l [] (-1) v (vary l.length) big hinc (by omega) hv (by simp;omega) (by omega) (tbig (by omega)) 0 (by omega)
def encR (l:List Rn) (n:Int):List Int×Int:=if checkR l n≠0 then ([],checkR l n) else (codedR l,0)
theorem fine_inc {l:List Rn} {n:Int} (h:fineR l n=true):∃ v,inc (-1) v l n=true:=by
 cases l with
 | nil=>exact ⟨0,rfl⟩
 | cons r t=>
  simp only [fineR,Bool.and_eq_true,decide_eq_true_eq] at h
  exact ⟨r.2.1 - 1,inc_cons.2 ⟨⟨by omega,by omega,by omega⟩,by rw [h.1.1];exact h.2⟩⟩
theorem tnth {α:Type}:∀ (xs:List α) (i:Nat),nth xs i=xs[i]?
 | [],0=>rfl
 | [],i+1=>rfl
 | _::_,0=>rfl
 | x::xs,i+1=>(tnth xs i).trans List.getElem?_cons_succ.symm
theorem count_eq8 (n:Int):ctables_isCount n=some (decide (1≤n∧n≤200)):=by
 show ntables_isCount n=_
 unfold ntables_isCount
 by_cases h:1≤n
 ·rw [decide_eq_true (show n≥1 by omega),cond_true]
  congr 1
  by_cases h2:n≤200 <;> simp [h,h2]
 ·rw [decide_eq_false (show ¬ n≥1 by omega),cond_false]
  simp [h]
theorem same_eq8 (a b:Rn):ctables_sameValue (a,b)=some (decide (a.2.1=b.2.1)):=by
 show some (eqD (.pair (.int .i64) (.pair (.int .u64) .unit)) (b.1,a.2) b)=_
 congr 1
 obtain ⟨a1,a2,a3⟩:=a
 obtain ⟨b1,b2,b3⟩:=b
 by_cases h:a2=b2
 ·subst h
  rw [decide_eq_true rfl]
  exact eqD_self _ _
 ·rw [decide_eq_false h]
  refine eqD_false fun e=>h ?_
  have:=congrArg (fun z:Rn=>z.2.1) e
  exact this
def incP:Int→Int→List Rn→Bool
 | _,_,[]=>true
 | f,v,r::l=>(decide (f < r.1)&&decide (v≠r.2.1))&&incP r.1 r.2.1 l
def lastF:Int→List Rn→Int
 | f,[]=>f
 | _,r::l=>lastF r.1 l
theorem lastF_ge:∀ {l:List Rn} {f v:Int},incP f v l=true→f≤lastF f l
 | [],f,v,_=>Int.le_refl _
 | r::l,f,v,h=>by
  simp only [incP,Bool.and_eq_true,decide_eq_true_eq] at h
  have:=lastF_ge h.2
  simp only [lastF]
  omega
theorem inc_split:∀ {l:List Rn} {f v n:Int},f < n→(inc f v l n=true↔incP f v l=true∧lastF f l < n)
 | [],f,v,n,hf=>by simp [inc,incP,lastF,hf]
 | r::l,f,v,n,hf=>by
  rw [inc_cons]
  simp only [incP,lastF,Bool.and_eq_true,decide_eq_true_eq]
  constructor
  ·rintro ⟨⟨h1,h2,h3⟩,h4⟩
   have:=(inc_split h1).1 h4
   exact ⟨⟨⟨h2,h3⟩,this.1⟩,this.2⟩
  ·rintro ⟨⟨⟨h2,h3⟩,h4⟩,h5⟩
   have:=lastF_ge h4
   have h1:r.1 < n:=by omega
   exact ⟨⟨h1,h2,h3⟩,(inc_split h1).2 ⟨h4,h5⟩⟩
theorem lastF_at:∀ (r:Rn) (t:List Rn),∃ z,(r::t)[t.length]? = some z∧z.1=lastF r.1 t
 | r,[]=>⟨r,rfl,rfl⟩
 | r,b::t=>by
  obtain ⟨z,h1,h2⟩:=lastF_at b t
  exact ⟨z,by simpa using h1,h2⟩
theorem chk_loop8 (N:Nat):∀ (t pre:List Rn) (a:Rn) (M:Nat),pre.length+t.length+1≤9223372036854775807→t.length < M→
  iterV (gtables_Check_0 N) M (pre++a::t,((pre.length+t.length:Nat):Int),((pre.length:Nat):Int))=some (if incP a.1 a.2.1 t=true then 0 else 8)
 | [],pre,a,M+1,hl,hM=>by
  rw [iterV_succ]
  show htables_Check_0 _ _=_
  unfold htables_Check_0
  dsimp only
  rw [decide_eq_false (by simp),cond_false]
  rfl
 | b::t,pre,a,M+1,hl,hM=>by
  rw [iterV_succ]
  show htables_Check_0 _ _=_
  unfold htables_Check_0
  dsimp only
  simp only [List.length_cons] at hl hM
  have e1:getI (pre++a::b::t) ((pre.length+1:Nat):Int)=some b:=by
   rw [show pre++a::b::t=(pre++[a])++b::t by simp]
   exact tget (by simp)
  have e2:getI (pre++a::b::t) ((pre.length:Nat):Int)=some a:=tget rfl
  have e4:IntKind.i64.wrap (((pre.length:Nat):Int)+1)=((pre.length+1:Nat):Int):=by rw [t64 (by omega) (by omega)];simp
  rw [decide_eq_true (show ((pre.length:Nat):Int) < ((pre.length+(b::t).length:Nat):Int) by simp only [List.length_cons];omega),cond_true]
  simp only [e1,e2,e4,Option.bind_some,same_eq8]
  have ih:=chk_loop8 N t (pre++[a]) b M (by simp;omega) (by omega)
  rw [show (pre++[a])++b::t=pre++a::b::t by simp,show (pre++[a]).length+t.length=pre.length+(b::t).length by simp;omega,show (pre++[a]).length=pre.length+1 by simp] at ih
  unfold incP
  by_cases h1:a.1 < b.1
  ·rw [decide_eq_false (show ¬ a.1≥b.1 by omega),cond_false,decide_eq_true h1,Bool.true_and]
   by_cases h2:a.2.1=b.2.1
   ·rw [decide_eq_true h2,cond_true,decide_eq_false (not_not_intro h2),Bool.false_and]
    rfl
   ·rw [decide_eq_false h2,cond_false,decide_eq_true h2,Bool.true_and]
    exact ih
  ·rw [decide_eq_true (show a.1≥b.1 by omega),cond_true,decide_eq_false h1]
   rfl
theorem pCheck_eq (l:List Rn) (n:Int) (hl:l.length≤9223372036854775807):ctables_Check (l,n)=some (checkR l n):=by
 show ntables_Check (iterV (gtables_Check_0 big) big) (l,n)=_
 unfold ntables_Check checkR
 dsimp only
 rw [count_eq8,Option.bind_some]
 by_cases hn:1≤n∧n≤200
 ·rw [decide_eq_true hn,Bool.not_true,cond_false,if_neg (by omega)]
  cases l with
  | nil=>rfl
  | cons r t=>
   simp only [List.length_cons] at hl
   rw [show (((r::t).length:Int)==0)=false by simp;omega,cond_false,tget0,Option.bind_some]
   have hx:IntKind.i64.wrap (((r::t).length:Int) - 1)=((t.length:Nat):Int):=by
    simp only [List.length_cons]
    rw [t64 (by omega) (by omega)]
    omega
   obtain ⟨z,hz1,hz2⟩:=lastF_at r t
   simp only [hx,getI_nat,hz1,Option.bind_some]
   show _=some (if ((decide (r.1=0)&&decide (0 < n))&&inc 0 r.2.1 t n)=true then 0 else 8)
   by_cases h0:r.1=0
   ·rw [show (r.1 != 0)=false by simp [h0],cond_false,decide_eq_true h0,decide_eq_true (show 0 < n by omega),Bool.true_and,Bool.true_and]
    have hs:=inc_split (l:=t) (f:=r.1) (v:=r.2.1) (n:=n) (by omega)
    rw [h0] at hs hz2
    by_cases hlast:z.1≥n
    ·rw [decide_eq_true hlast,cond_true,if_neg (fun h=>by have:=(hs.1 h).2;omega)]
    ·rw [decide_eq_false hlast,cond_false]
     have:=chk_loop8 big t [] r big (by simp;omega) (tbigm (by omega))
     simp only [List.nil_append,List.length_nil,Nat.zero_add,h0] at this
     refine this.trans ?_
     congr 1
     by_cases hp:incP 0 r.2.1 t=true
     ·rw [if_pos hp,if_pos (hs.2 ⟨hp,by omega⟩)]
     ·rw [if_neg hp,if_neg (fun h=>hp (hs.1 h).1)]
   ·rw [show (r.1 != 0)=true by simp [h0],cond_true,decide_eq_false h0]
    rfl
 ·rw [decide_eq_false hn,Bool.not_false,cond_true,if_pos (by omega)]
theorem fine_range {l:List Rn} {n:Int} (h:fineR l n=true) {x:Rn} (hx:x∈l):0≤x.1∧x.1 < n:=by
 obtain ⟨v,hv⟩:=fine_inc h
 have:=inc_from hv x hx
 omega
theorem fine_first {l:List Rn} {n:Int} (h:fineR l n=true):∃ r t,l=r::t∧r.1=0:=by
 cases l with
 | nil=>cases h
 | cons r t=>simp only [fineR,Bool.and_eq_true,decide_eq_true_eq] at h;exact ⟨r,t,rfl,h.1.1⟩
theorem enc_loop8 (N:Nat) {n:Int} (hn:n≤200):∀ (t pre:List Rn) (f v:Int) (out:List Int) (M:Nat),inc f v t n=true→-1≤f→(∀ r∈t,0≤r.2.1∧r.2.1 < 18446744073709551616)→pre.length+t.length≤1000000→out.length+20 * t.length≤1000000→t.length < M→∀ w:Int,(0≤w∧w≤200∧(w≤f+1))→
  iterV (gtables_Encode_0 N) M (w,pre++t,((pre++t).length:Int),((pre.length:Nat):Int),out)=some (out++segR w t,0)
 | [],pre,f,v,out,M+1,hi,hf,hv,hl,ho,hM,w,hw=>by
  rw [iterV_succ]
  show htables_Encode_0 _ _=_
  unfold htables_Encode_0
  dsimp only
  rw [decide_eq_false (by simp),cond_false]
  simp [segR]
 | r::t,pre,f,v,out,M+1,hi,hf,hv,hl,ho,hM,w,hw=>by
  rw [iterV_succ]
  show htables_Encode_0 _ _=_
  unfold htables_Encode_0
  dsimp only
  simp only [List.length_cons] at hl ho hM
  obtain ⟨⟨h1,h2,h3⟩,h4⟩:=inc_cons.1 hi
  have hr:=hv r (by simp)
  have e4:IntKind.i64.wrap (((pre.length:Nat):Int)+1)=(((pre++[r]).length:Nat):Int):=by rw [t64 (by omega) (by omega)];simp
  have ea:IntKind.u64.wrap (IntKind.i64.wrap (r.1 - w))=(((r.1 - w).toNat:Nat):Int):=by rw [t64 (by omega) (by omega),wrap_u64];omega
  have eb:cwire_Vary r.2.1=some (vary r.2.1.toNat):=by
   have:=vary_eq r.2.1.toNat (by omega)
   rwa [Int.toNat_of_nonneg hr.1] at this
  have la:=vary_len (r.1 - w).toNat
  have lb:=vary_len r.2.1.toNat
  have ih:=enc_loop8 N hn t (pre++[r]) r.1 r.2.1 (out++vary (r.1 - w).toNat++vary r.2.1.toNat) M h4 (by omega) (fun x hx=>hv x (by simp [hx])) (by simp;omega) (by simp only [List.length_append];omega) (by omega) r.1 (by omega)
  simp only [List.append_assoc,List.singleton_append] at ih
  rw [decide_eq_true (show ((pre.length:Nat):Int) < ((pre++r::t).length:Int) by simp;omega),cond_true]
  simp only [tget rfl,Option.bind_some,e4,ea,vary_eq _ (show (r.1 - w).toNat < 18446744073709551616 by omega),eb]
  rw [b11,ble_lim (by omega),Bool.and_self,cond_true,show List.append out (vary (r.1 - w).toNat)=out++vary (r.1 - w).toNat from rfl,ble_lim (by simp only [List.length_append];omega),Bool.and_self,cond_true]
  rw [show List.append (out++vary (r.1 - w).toNat) (vary r.2.1.toNat)=out++(vary (r.1 - w).toNat++vary r.2.1.toNat) by simp]
  rw [ih]
  simp [segR]
theorem pEncode_eq (l:List Rn) (n:Int) (hl:l.length≤9223372036854775807) (hv:V64 l):ctables_Encode (l,n)=some (encR l n):=by
 show ntables_Encode (iterV (gtables_Encode_0 big) big) (l,n)=_
 unfold ntables_Encode encR
 dsimp only
 rw [pCheck_eq l n hl,Option.bind_some]
 by_cases h:checkR l n=0
 ·obtain ⟨hn,hf⟩:=checkR_zero.1 h
  have hlen:=checkR_len h
  have la:=vary_len l.length
  rw [h,show ((0:Int) != 0)=false from rfl,cond_false,if_neg (by simp),show IntKind.u64.wrap (l.length:Int)=(l.length:Int) by rw [wrap_u64];omega,vary_eq _ (by omega),Option.bind_some]
  obtain ⟨r,t,rfl,hr0⟩:=fine_first hf
  have hinc:inc (-1) (r.2.1 - 1) (r::t) n=true:=by
   simp only [fineR,Bool.and_eq_true,decide_eq_true_eq] at hf
   exact inc_cons.2 ⟨⟨by omega,by omega,by omega⟩,by rw [hf.1.1];exact hf.2⟩
  exact enc_loop8 big hn.2 (r::t) [] (-1) _ (vary (r::t).length) big hinc (by omega) hv (by simp only [List.length_nil];omega) (by omega) (tbig (by omega)) 0 (by omega)
 ·rw [show (checkR l n != 0)=true by simpa using h,cond_true,if_pos h]
end Go.Proofs.YtlhnlcbcikbokaaDoor.T
