import Derived.Test.YtbgmjjplddddnaaGreatDoorCfM0
set_option linter.unusedVariables false
set_option linter.unusedSimpArgs false
set_option linter.unusedSectionVars false
set_option maxRecDepth 100000
namespace Go.Proofs.YtbgmjjplddddnaaGreatDoor.T
open Go.Lift
abbrev Sz:=Int×Int×Unit
def inc:Int->Int->List Sz->Int->Bool
 | _,_,[],_=>true
 | f,v,r::l,n=>(decide (r.1 < n)&&(decide (f < r.1)&&decide (v≠r.2.1)))&&inc r.1 r.2.1 l n
def lI:List Sz->Int->Bool
 | [],_=>false
 | r::l,n=>(decide (r.1=0)&&decide (0 < n))&&inc 0 r.2.1 l n
def mkR:Nat->Int->List Int->List Sz
 | _,_,[]=>[]
 | k,p,x::v=>if x=p then mkR (k+1) p v else ((k:Int),x,())::mkR (k+1) x v
def lQ:List Int->List Sz
 | []=>[]
 | x::v=>(0,x,())::mkR 1 x v
theorem tq {f v n:Int} {r:Sz} {l:List Sz}:inc f v (r::l) n=true↔(r.1 < n/\f < r.1/\v≠r.2.1)/\inc r.1 r.2.1 l n=true:=by
 simp only [inc,Bool.and_eq_true,decide_eq_true_eq]
theorem QFd:∀ {v:List Int} {k:Nat} {p f n:Int},f < k->(k:Int)+v.length<=n->inc f p (mkR k p v) n=true
 | [],_,_,_,_,_,_=>rfl
 | x::v,k,p,f,n,hf,hn=>by
  simp only [List.length_cons] at hn
  unfold mkR
  split
  ·exact QFd (by omega) (by omega)
  ·rename_i e
   exact tq.2 ⟨⟨by omega,hf,fun h=>e h.symm⟩,QFd (by omega) (by omega)⟩
theorem QHX {v:List Int} (h:v≠[]):lI (lQ v) v.length=true:=by
 cases v with
 | nil=>exact absurd rfl h
 | cons x v=>
  simp only [lQ,lI,Bool.and_eq_true,decide_eq_true_eq,List.length_cons]
  exact ⟨⟨trivial,by omega⟩,QFd (by omega) (by omega)⟩
theorem QBW {l:List Sz} {n:Nat} (h:lI l n=true):l.length<=n:=by
 have key:∀ {t:List Sz} {f v:Int},inc f v t n=true->(t.length:Int)+f < n∨t=[]:=by
  intro t
  induction t with
  | nil=>intro f v _;exact .inr rfl
  | cons r t ih=>
   intro f v h
   obtain ⟨⟨h1,h2,_⟩,h4⟩:=tq.1 h
   left
   rcases ih h4 with h5 | rfl
   ·simp only [List.length_cons];omega
   ·simp only [List.length_cons,List.length_nil];omega
 cases l with
 | nil=>simp
 | cons r t=>
  simp only [lI,Bool.and_eq_true,decide_eq_true_eq] at h
  rcases key h.2 with h5 | rfl
  ·simp only [List.length_cons];omega
  ·simp only [List.length_cons,List.length_nil];omega
theorem t64 {z:Int} (h : -9223372036854775808<=z) (h':z<=9223372036854775807):IntKind.i64.wrap z=z:=wrap_i64 h h'
theorem QRD {n:Nat} (h:n<=1000000):n < big:=by
 have:1000000 < big:=by decide
 omega
theorem QPE {n:Nat} (h:n<=9223372036854775807):n < big:=by
 have:9223372036854775807 < big:=by decide
 omega
theorem QGu {α:Type} {pre t:List α} {a:α} {i:Int} (h:i=(pre.length:Int)):Mh (pre++a::t) i=some a:=by
 subst h
 rw [SC]
 simp
theorem QIv {α:Type} {t:List α} {a:α}:Mh (a::t) 0=some a:=QGu (pre:=[]) rfl
theorem QEO (N:Nat) (n:Int):∀ (t pre:List Sz) (a:Sz) (M:Nat),pre.length+t.length+1<=9223372036854775807->t.length < M->FU (p9 N) M (pre++a::t,n,((pre.length+1:Nat):Int))=some (inc a.1 a.2.1 t n)
 | [],pre,a,M+1,hl,hM=>by
  rw [Vh]
  show eH _ _=_
  unfold eH
  dsimp only
  rw [decide_eq_false (by simp),cond_false]
  rfl
 | b::t,pre,a,M+1,hl,hM=>by
  rw [Vh]
  show eH _ _=_
  unfold eH
  dsimp only
  simp only [List.length_cons] at hl hM
  have e1:Mh (pre++a::b::t) ((pre.length+1:Nat):Int)=some b:=by
   rw [show pre++a::b::t=(pre++[a])++b::t by simp]
   exact QGu (by simp)
  have e2:Mh (pre++a::b::t) ((pre.length:Nat):Int)=some a:=QGu rfl
  have e3:IntKind.i64.wrap (((pre.length+1:Nat):Int) - 1)=((pre.length:Nat):Int):=by rw [t64 (by omega) (by omega)];omega
  have e4:IntKind.i64.wrap (((pre.length+1:Nat):Int)+1)=(((pre++[a]).length+1:Nat):Int):=by rw [t64 (by omega) (by omega)];simp
  rw [decide_eq_true (show ((pre.length+1:Nat):Int) < ((pre++a::b::t).length:Int) by simp;omega),cond_true,decide_eq_true (show ((pre.length+1:Nat):Int) > 0 by omega),cond_true]
  simp only [e1,e2,e3,e4,Option.bind_some]
  have ih:=QEO N n t (pre++[a]) b M (by simp;omega) (by omega)
  rw [show (pre++[a])++b::t=pre++a::b::t by simp] at ih
  unfold inc
  by_cases h1:b.1 < n
  ·rw [decide_eq_false (show ¬ b.1≥n by omega),cond_false,decide_eq_true h1,Bool.true_and]
   by_cases h2:a.1 < b.1
   ·rw [decide_eq_false (show ¬ a.1≥b.1 by omega),cond_false,decide_eq_true h2,Bool.true_and]
    by_cases h3:a.2.1=b.2.1
    ·rw [show (a.2.1==b.2.1)=true by simp [h3],cond_true,decide_eq_false (not_not_intro h3),Bool.false_and]
    ·rw [show (a.2.1==b.2.1)=false by simpa using h3,cond_false,decide_eq_true h3,Bool.true_and]
     exact ih
   ·rw [decide_eq_true (show a.1≥b.1 by omega),cond_true,decide_eq_false h2]
    rfl
  ·rw [decide_eq_true (show b.1≥n by omega),cond_true,decide_eq_false h1]
   rfl
theorem QFw (l:List Sz) (n:Int) (hl:l.length<=9223372036854775807):uQ (l,n)=some (lI l n):=by
 show uz (FU (p9 big) big) (l,n)=_
 unfold uz
 dsimp only
 cases l with
 | nil=>rfl
 | cons r t=>
  simp only [List.length_cons] at hl
  rw [decide_eq_false (by simp;omega),cond_false,QIv,Option.bind_some]
  show _=some ((decide (r.1=0)&&decide (0 < n))&&inc 0 r.2.1 t n)
  by_cases h0:r.1=0
  ·rw [show (r.1 != 0)=false by simp [h0],cond_false,decide_eq_true h0,Bool.true_and]
   rw [XO,Vh]
   show eH _ _=_
   unfold eH
   dsimp only
   rw [decide_eq_true (show (0:Int) < ((r::t).length:Int) by simp only [List.length_cons];omega),cond_true,QIv,Option.bind_some,h0]
   by_cases h1:0 < n
   ·rw [decide_eq_false (show ¬ (0:Int)≥n by omega),cond_false,decide_eq_false (show ¬ (0:Int) > 0 by omega),cond_false,decide_eq_true h1,Bool.true_and]
    have:=QEO big n t [] r (big - 1) (by simp;omega) (by have:=QPE (n:=t.length+1) (by omega);omega)
    rw [h0] at this
    exact this
   ·rw [decide_eq_true (show (0:Int)≥n by omega),cond_true,decide_eq_false h1]
    rfl
  ·rw [show (r.1 != 0)=true by simpa using h0,cond_true,decide_eq_false h0]
   rfl
def eD (l:List Sz) (n:Int):Int:=if n < 1∨n > 200 then 2 else if lI l n=true then 0 else 8
theorem qQ {l:List Sz} {n:Int}:eD l n=0↔(1<=n/\n<=200)/\lI l n=true:=by
 unfold eD
 split
 ·constructor
  ·intro e;omega
  ·intro e;omega
 ·split
  ·rename_i h1 h2;simp [h2];omega
  ·rename_i h1 h2;simp [h2]
theorem wQ {l:List Sz} {n:Int} (h:eD l n=0):l.length<=200:=by
 obtain ⟨h1,h2⟩:=qQ.1 h
 have:=QBW (l:=l) (n:=n.toNat) (by rw [Int.toNat_of_nonneg (by omega)];exact h2)
 omega
def QIp (v:List Int):List Sz×Int:=if v.length < 1∨v.length > 200 then ([],2) else (lQ v,0)
def QDg:Int->List Sz->List Int
 | _,[]=>[]
 | w,r::l=>vary (r.1 - w).toNat++(vary r.2.1.toNat++QDg r.1 l)
def aX (l:List Sz):List Int:=vary l.length++QDg 0 l
def V64 (l:List Sz):Prop:=∀ r∈l,0<=r.2.1/\r.2.1 < 18446744073709551616
theorem QD0 (N:Nat) {n:Int} (hn:n<=200):∀ (t pre:List Sz) (f v:Int) (out:List Int) (M:Nat),inc f v t n=true->-1<=f->(∀ r∈t,0<=r.2.1/\r.2.1 < 18446744073709551616)->pre.length+t.length<=1000000->out.length+20 * t.length<=1000000->t.length < M->∀ w:Int,(0<=w/\w<=200/\(w<=f+1))->FU (nX N) M (pre++t,w,((pre.length:Nat):Int),out)=some (out++QDg w t)
 | [],pre,f,v,out,M+1,hi,hf,hv,hl,ho,hM,w,hw=>by
  rw [Vh]
  show jw _ _=_
  unfold jw
  dsimp only
  rw [decide_eq_false (by simp),cond_false]
  simp [QDg]
 | r::t,pre,f,v,out,M+1,hi,hf,hv,hl,ho,hM,w,hw=>by
  rw [Vh]
  show jw _ _=_
  unfold jw
  dsimp only
  simp only [List.length_cons] at hl ho hM
  obtain ⟨⟨h1,h2,h3⟩,h4⟩:=tq.1 hi
  have hr:=hv r (by simp)
  have e4:IntKind.i64.wrap (((pre.length:Nat):Int)+1)=(((pre++[r]).length:Nat):Int):=by rw [t64 (by omega) (by omega)];simp
  have ea:IntKind.u64.wrap (IntKind.i64.wrap (r.1 - w))=(((r.1 - w).toNat:Nat):Int):=by rw [t64 (by omega) (by omega),wrap_u64];omega
  have eb:Zl r.2.1=some (vary r.2.1.toNat):=by
   have:=j3 r.2.1.toNat (by omega)
   rwa [Int.toNat_of_nonneg hr.1] at this
  have la:=ZY (r.1 - w).toNat
  have lb:=ZY r.2.1.toNat
  have ih:=QD0 N hn t (pre++[r]) r.1 r.2.1 (out++vary (r.1 - w).toNat++vary r.2.1.toNat) M h4 (by omega) (fun x hx=>hv x (by simp [hx])) (by simp;omega) (by simp only [List.length_append];omega) (by omega) r.1 (by omega)
  simp only [List.append_assoc,List.singleton_append] at ih
  rw [decide_eq_true (show ((pre.length:Nat):Int) < ((pre++r::t).length:Int) by simp;omega),cond_true]
  simp only [QGu rfl,Option.bind_some,e4,ea,j3 _ (show (r.1 - w).toNat < 18446744073709551616 by omega),eb]
  rw [b11,bg (by omega),Bool.and_self,cond_true,show List.append out (vary (r.1 - w).toNat)=out++vary (r.1 - w).toNat from rfl,bg (by simp only [List.length_append];omega),Bool.and_self,cond_true]
  rw [show List.append (out++vary (r.1 - w).toNat) (vary r.2.1.toNat)=out++(vary (r.1 - w).toNat++vary r.2.1.toNat) by simp]
  rw [ih]
  simp [QDg]
theorem QE4 {l:List Sz} {n:Int} (h:lI l n=true) (hn:n<=200) (hv:V64 l):rG l=some (aX l):=by
 have hlen:l.length<=200:=by
  have h0:0 < n:=by
   cases l with
   | nil=>cases h
   | cons r t=>simp only [lI,Bool.and_eq_true,decide_eq_true_eq] at h;exact h.1.2
  have:=QBW (l:=l) (n:=n.toNat) (by rw [Int.toNat_of_nonneg (by omega)];exact h)
  omega
 show sJ (FU (nX big) big) l=_
 unfold sJ
 dsimp only
 have la:=ZY l.length
 rw [show IntKind.u64.wrap (l.length:Int)=(l.length:Int) by rw [wrap_u64];omega,j3 _ (by omega),Option.bind_some]
 have hinc:∃ v,inc (-1) v l n=true:=by
  cases l with
  | nil=>exact ⟨0,rfl⟩
  | cons r t=>
   simp only [lI,Bool.and_eq_true,decide_eq_true_eq] at h
   refine ⟨r.2.1 - 1,tq.2 ⟨⟨by omega,by omega,by omega⟩,by rw [h.1.1];exact h.2⟩⟩
 obtain ⟨v,hinc⟩:=hinc
 exact QD0 big hn l [] (-1) v (vary l.length) big hinc (by omega) hv (by simp;omega) (by omega) (QRD (by omega)) 0 (by omega)
def encR (l:List Sz) (n:Int):List Int×Int:=if eD l n≠0 then ([],eD l n) else (aX l,0)
theorem QRE {α:Type}:∀ (xs:List α) (i:Nat),nth xs i=xs[i]?
 | [],0=>rfl
 | [],i+1=>rfl
 | _::_,0=>rfl
 | x::xs,i+1=>(QRE xs i).trans List.getElem?_cons_succ.symm
theorem QEE (n:Int):lW n=some (decide (1<=n/\n<=200)):=by
 show mG n=_
 unfold mG
 by_cases h:1<=n
 ·rw [decide_eq_true (show n≥1 by omega),cond_true]
  congr 1
  by_cases h2:n<=200 <;> simp [h,h2]
 ·rw [decide_eq_false (show ¬ n≥1 by omega),cond_false]
  simp [h]
theorem QGm (a b:Sz):jF (a,b)=some (decide (a.2.1=b.2.1)):=by
 show some (Ib (.pair (.int .i64) (.pair (.int .u64) .unit)) (b.1,a.2) b)=_
 congr 1
 obtain ⟨a1,a2,a3⟩:=a
 obtain ⟨b1,b2,b3⟩:=b
 by_cases h:a2=b2
 ·subst h
  rw [decide_eq_true rfl]
  exact WT _ _
 ·rw [decide_eq_false h]
  refine Vv fun e=>h ?_
  have:=congrArg (fun z:Sz=>z.2.1) e
  exact this
def QFV:Int->Int->List Sz->Bool
 | _,_,[]=>true
 | f,v,r::l=>(decide (f < r.1)&&decide (v≠r.2.1))&&QFV r.1 r.2.1 l
def QDI:Int->List Sz->Int
 | f,[]=>f
 | _,r::l=>QDI r.1 l
theorem QGb:∀ {l:List Sz} {f v:Int},QFV f v l=true->f<=QDI f l
 | [],f,v,_=>Int.le_refl _
 | r::l,f,v,h=>by
  simp only [QFV,Bool.and_eq_true,decide_eq_true_eq] at h
  have:=QGb h.2
  simp only [QDI]
  omega
theorem QBY:∀ {l:List Sz} {f v n:Int},f < n->(inc f v l n=true↔QFV f v l=true/\QDI f l < n)
 | [],f,v,n,hf=>by simp [inc,QFV,QDI,hf]
 | r::l,f,v,n,hf=>by
  rw [tq]
  simp only [QFV,QDI,Bool.and_eq_true,decide_eq_true_eq]
  constructor
  ·rintro ⟨⟨h1,h2,h3⟩,h4⟩
   have:=(QBY h1).1 h4
   exact ⟨⟨⟨h2,h3⟩,this.1⟩,this.2⟩
  ·rintro ⟨⟨⟨h2,h3⟩,h4⟩,h5⟩
   have:=QGb h4
   have h1:r.1 < n:=by omega
   exact ⟨⟨h1,h2,h3⟩,(QBY h1).2 ⟨h4,h5⟩⟩
theorem QGa:∀ (r:Sz) (t:List Sz),∃ z,(r::t)[t.length]? = some z/\z.1=QDI r.1 t
 | r,[]=>⟨r,rfl,rfl⟩
 | r,b::t=>by
  obtain ⟨z,h1,h2⟩:=QGa b t
  exact ⟨z,by simpa using h1,h2⟩
theorem QED (N:Nat):∀ (t pre:List Sz) (a:Sz) (M:Nat),pre.length+t.length+1<=9223372036854775807->t.length < M->
  FU (lY N) M (pre++a::t,((pre.length+t.length:Nat):Int),((pre.length:Nat):Int))=some (if QFV a.1 a.2.1 t=true then 0 else 8)
 | [],pre,a,M+1,hl,hM=>by
  rw [Vh]
  show iM _ _=_
  unfold iM
  dsimp only
  rw [decide_eq_false (by simp),cond_false]
  rfl
 | b::t,pre,a,M+1,hl,hM=>by
  rw [Vh]
  show iM _ _=_
  unfold iM
  dsimp only
  simp only [List.length_cons] at hl hM
  have e1:Mh (pre++a::b::t) ((pre.length+1:Nat):Int)=some b:=by
   rw [show pre++a::b::t=(pre++[a])++b::t by simp]
   exact QGu (by simp)
  have e2:Mh (pre++a::b::t) ((pre.length:Nat):Int)=some a:=QGu rfl
  have e4:IntKind.i64.wrap (((pre.length:Nat):Int)+1)=((pre.length+1:Nat):Int):=by rw [t64 (by omega) (by omega)];simp
  rw [decide_eq_true (show ((pre.length:Nat):Int) < ((pre.length+(b::t).length:Nat):Int) by simp only [List.length_cons];omega),cond_true]
  simp only [e1,e2,e4,Option.bind_some,QGm]
  have ih:=QED N t (pre++[a]) b M (by simp;omega) (by omega)
  rw [show (pre++[a])++b::t=pre++a::b::t by simp,show (pre++[a]).length+t.length=pre.length+(b::t).length by simp;omega,show (pre++[a]).length=pre.length+1 by simp] at ih
  unfold QFV
  by_cases h1:a.1 < b.1
  ·rw [decide_eq_false (show ¬ a.1≥b.1 by omega),cond_false,decide_eq_true h1,Bool.true_and]
   by_cases h2:a.2.1=b.2.1
   ·rw [decide_eq_true h2,cond_true,decide_eq_false (not_not_intro h2),Bool.false_and]
    rfl
   ·rw [decide_eq_false h2,cond_false,decide_eq_true h2,Bool.true_and]
    exact ih
  ·rw [decide_eq_true (show a.1≥b.1 by omega),cond_true,decide_eq_false h1]
   rfl
theorem QBg (l:List Sz) (n:Int) (hl:l.length<=9223372036854775807):eF (l,n)=some (eD l n):=by
 show qP (FU (lY big) big) (l,n)=_
 unfold qP eD
 dsimp only
 rw [QEE,Option.bind_some]
 by_cases hn:1<=n/\n<=200
 ·rw [decide_eq_true hn,Bool.not_true,cond_false,if_neg (by omega)]
  cases l with
  | nil=>rfl
  | cons r t=>
   simp only [List.length_cons] at hl
   rw [show (((r::t).length:Int)==0)=false by simp;omega,cond_false,QIv,Option.bind_some]
   have hx:IntKind.i64.wrap (((r::t).length:Int) - 1)=((t.length:Nat):Int):=by
    simp only [List.length_cons]
    rw [t64 (by omega) (by omega)]
    omega
   obtain ⟨z,hz1,hz2⟩:=QGa r t
   simp only [hx,SC,hz1,Option.bind_some]
   show _=some (if ((decide (r.1=0)&&decide (0 < n))&&inc 0 r.2.1 t n)=true then 0 else 8)
   by_cases h0:r.1=0
   ·rw [show (r.1 != 0)=false by simp [h0],cond_false,decide_eq_true h0,decide_eq_true (show 0 < n by omega),Bool.true_and,Bool.true_and]
    have hs:=QBY (l:=t) (f:=r.1) (v:=r.2.1) (n:=n) (by omega)
    rw [h0] at hs hz2
    by_cases hlast:z.1≥n
    ·rw [decide_eq_true hlast,cond_true,if_neg (fun h=>by have:=(hs.1 h).2;omega)]
    ·rw [decide_eq_false hlast,cond_false]
     have:=QED big t [] r big (by simp;omega) (QPE (by omega))
     simp only [List.nil_append,List.length_nil,Nat.zero_add,h0] at this
     refine this.trans ?_
     congr 1
     by_cases hp:QFV 0 r.2.1 t=true
     ·rw [if_pos hp,if_pos (hs.2 ⟨hp,by omega⟩)]
     ·rw [if_neg hp,if_neg (fun h=>hp (hs.1 h).1)]
   ·rw [show (r.1 != 0)=true by simp [h0],cond_true,decide_eq_false h0]
    rfl
 ·rw [decide_eq_false hn,Bool.not_false,cond_true,if_pos (by omega)]
theorem QHN {l:List Sz} {n:Int} (h:lI l n=true):∃ r t,l=r::t/\r.1=0:=by
 cases l with
 | nil=>cases h
 | cons r t=>simp only [lI,Bool.and_eq_true,decide_eq_true_eq] at h;exact ⟨r,t,rfl,h.1.1⟩
theorem QA5 (N:Nat):∀ (t pre:List Int) (q p:Int) (out:List Sz) (M:Nat),pre.length+t.length<=1000000->out.length+t.length+1<=1000000->t.length < M->
  FU (nY N) M (pre++t,((pre++t).length:Int),((pre.length:Nat):Int),out++[(q,p,())])=some (out++((q,p,())::mkR pre.length p t),0)
 | [],pre,q,p,out,M+1,hl,ho,hM=>by
  rw [Vh]
  show jy _ _=_
  unfold jy
  dsimp only
  rw [decide_eq_false (by simp),cond_false]
  rfl
 | x::t,pre,q,p,out,M+1,hl,ho,hM=>by
  rw [Vh]
  show jy _ _=_
  unfold jy
  dsimp only
  simp only [List.length_cons] at hl ho hM
  have e1:Mh (pre++x::t) ((pre.length:Nat):Int)=some x:=QGu rfl
  have e2:IntKind.i64.wrap (((out++[(q,p,())]).length:Int) - 1)=((out.length:Nat):Int):=by
   simp only [List.length_append,List.length_cons,List.length_nil]
   rw [t64 (by omega) (by omega)]
   omega
  have e3:nth (out++[(q,p,())]) out.length=some (q,p,()):=by
   rw [QRE]
   simp
  have e4:IntKind.i64.wrap (((pre.length:Nat):Int)+1)=(((pre++[x]).length:Nat):Int):=by rw [t64 (by omega) (by omega)];simp
  rw [decide_eq_true (show ((pre.length:Nat):Int) < ((pre++x::t).length:Int) by simp;omega),cond_true]
  simp only [e1,e2,Option.bind_some]
  rw [decide_eq_true (show (0:Int)<=((out.length:Nat):Int) by omega),decide_eq_true (show ((out.length:Nat):Int) < (((out++[(q,p,())]).length:Nat):Int) by simp;omega),Bool.and_self,cond_true,Int.toNat_natCast,e3,Option.bind_some,QGm,Option.bind_some]
  unfold mkR
  by_cases h:p=x
  ·rw [decide_eq_true h,Bool.not_true,cond_false,if_pos h.symm,e4]
   have ih:=QA5 N t (pre++[x]) q p out M (by simp;omega) (by omega) (by omega)
   rw [show (pre++[x])++t=pre++x::t by simp] at ih
   rw [ih]
   simp
  ·rw [decide_eq_false h,Bool.not_false,cond_true,if_neg (Ne.symm h),show Nat.ble 1 2=true from rfl,bg (by simp;omega),Bool.and_self,cond_true,e4]
   have ih:=QA5 N t (pre++[x]) ((pre.length:Nat):Int) x (out++[(q,p,())]) M (by simp;omega) (by simp;omega) (by omega)
   rw [show (pre++[x])++t=pre++x::t by simp] at ih
   refine ih.trans ?_
   simp
theorem QGj (v:List Int):rH v=some (QIp v):=by
 show sO (FU (nY big) big) v=_
 unfold sO QIp
 dsimp only
 rw [QEE,Option.bind_some]
 by_cases h:v.length < 1∨v.length > 200
 ·rw [decide_eq_false (by omega),Bool.not_false,cond_true,if_pos h]
 ·rw [decide_eq_true (by omega),Bool.not_true,cond_false,if_neg h]
  cases v with
  | nil=>simp at h
  | cons x t=>
   simp only [List.length_cons] at h
   rw [QIv,Option.bind_some]
   rw [XO,Vh]
   have:=QA5 big (x::t) [] 0 x [] big (by simp;omega) (by simp;omega) (QRD (by simp only [List.length_cons];omega))
   rw [XO,Vh] at this
   refine this.trans ?_
   simp [mkR,lQ]
theorem QEI (N:Nat) {n:Int} (hn:n<=200):∀ (t pre:List Sz) (f v:Int) (out:List Int) (M:Nat),inc f v t n=true->-1<=f->(∀ r∈t,0<=r.2.1/\r.2.1 < 18446744073709551616)->pre.length+t.length<=1000000->out.length+20 * t.length<=1000000->t.length < M->∀ w:Int,(0<=w/\w<=200/\(w<=f+1))->
  FU (kL N) M (w,pre++t,((pre++t).length:Int),((pre.length:Nat):Int),out)=some (out++QDg w t,0)
 | [],pre,f,v,out,M+1,hi,hf,hv,hl,ho,hM,w,hw=>by
  rw [Vh]
  show gP _ _=_
  unfold gP
  dsimp only
  rw [decide_eq_false (by simp),cond_false]
  simp [QDg]
 | r::t,pre,f,v,out,M+1,hi,hf,hv,hl,ho,hM,w,hw=>by
  rw [Vh]
  show gP _ _=_
  unfold gP
  dsimp only
  simp only [List.length_cons] at hl ho hM
  obtain ⟨⟨h1,h2,h3⟩,h4⟩:=tq.1 hi
  have hr:=hv r (by simp)
  have e4:IntKind.i64.wrap (((pre.length:Nat):Int)+1)=(((pre++[r]).length:Nat):Int):=by rw [t64 (by omega) (by omega)];simp
  have ea:IntKind.u64.wrap (IntKind.i64.wrap (r.1 - w))=(((r.1 - w).toNat:Nat):Int):=by rw [t64 (by omega) (by omega),wrap_u64];omega
  have eb:dH r.2.1=some (vary r.2.1.toNat):=by
   have:=vE r.2.1.toNat (by omega)
   rwa [Int.toNat_of_nonneg hr.1] at this
  have la:=ZY (r.1 - w).toNat
  have lb:=ZY r.2.1.toNat
  have ih:=QEI N hn t (pre++[r]) r.1 r.2.1 (out++vary (r.1 - w).toNat++vary r.2.1.toNat) M h4 (by omega) (fun x hx=>hv x (by simp [hx])) (by simp;omega) (by simp only [List.length_append];omega) (by omega) r.1 (by omega)
  simp only [List.append_assoc,List.singleton_append] at ih
  rw [decide_eq_true (show ((pre.length:Nat):Int) < ((pre++r::t).length:Int) by simp;omega),cond_true]
  simp only [QGu rfl,Option.bind_some,e4,ea,vE _ (show (r.1 - w).toNat < 18446744073709551616 by omega),eb]
  rw [b11,bg (by omega),Bool.and_self,cond_true,show List.append out (vary (r.1 - w).toNat)=out++vary (r.1 - w).toNat from rfl,bg (by simp only [List.length_append];omega),Bool.and_self,cond_true]
  rw [show List.append (out++vary (r.1 - w).toNat) (vary r.2.1.toNat)=out++(vary (r.1 - w).toNat++vary r.2.1.toNat) by simp]
  rw [ih]
  simp [QDg]
theorem QHc (l:List Sz) (n:Int) (hl:l.length<=9223372036854775807) (hv:V64 l):tJ (l,n)=some (encR l n):=by
 show om (FU (kL big) big) (l,n)=_
 unfold om encR
 dsimp only
 rw [QBg l n hl,Option.bind_some]
 by_cases h:eD l n=0
 ·obtain ⟨hn,hf⟩:=qQ.1 h
  have hlen:=wQ h
  have la:=ZY l.length
  rw [h,show ((0:Int) != 0)=false from rfl,cond_false,if_neg (by simp),show IntKind.u64.wrap (l.length:Int)=(l.length:Int) by rw [wrap_u64];omega,vE _ (by omega),Option.bind_some]
  obtain ⟨r,t,rfl,hr0⟩:=QHN hf
  have hinc:inc (-1) (r.2.1 - 1) (r::t) n=true:=by
   simp only [lI,Bool.and_eq_true,decide_eq_true_eq] at hf
   exact tq.2 ⟨⟨by omega,by omega,by omega⟩,by rw [hf.1.1];exact hf.2⟩
  exact QEI big hn.2 (r::t) [] (-1) _ (vary (r::t).length) big hinc (by omega) hv (by simp only [List.length_nil];omega) (by omega) (QRD (by omega)) 0 (by omega)
 ·rw [show (eD l n != 0)=true by simpa using h,cond_true,if_pos h]
end Go.Proofs.YtbgmjjplddddnaaGreatDoor.T
