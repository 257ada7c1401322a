import Derived.Test.YtjcnhegjiffgpaaGreatDoorRiT
set_option linter.unusedSimpArgs false
namespace Go.Lift
open Go.RowKit
section
variable {V:Type} {sel KY:Nat->Bool} {f:Nat->Option V}
def QA (sel:Nat->Bool) (f:Nat->Option V):Nat->Option V
 | 0=>none
 | n+1=>if sel n=true/\(f n).isSome=true then f n else QA sel f n
theorem MN:∀ {n:Nat},(∀ j,j < n->(f j).isSome=true->sel j=KY j)->QA sel f n=QA KY f n
 | 0,_=>rfl
 | n+1,h=>by
  simp only [QA]
  rw [MN λj hj=>h j (by omega)]
  cases hf:(f n).isSome with
  | false=>simp
  | true=>rw [h n (by omega) hf]
theorem bH {v:V} {i:Nat}:∀ {n:Nat},i < n->sel i=true->f i=some v->(∀ j,i < j->j < n->sel j=true->f j=none)->QA sel f n=some v
 | 0,h,_,_,_=>by omega
 | n+1,h,hs,hv,hn=>by
  simp only [QA]
  by_cases hi:i=n
  ·subst hi
   rw [AY ⟨hs,by rw [hv];rfl⟩]
   exact hv
  ·rw [AX,bH (by omega) hs hv λj h1 h2=>hn j h1 (by omega)]
   rintro ⟨h1,h2⟩
   rw [hn n (by omega) (by omega) h1] at h2
   cases h2
end
section
variable {V:Type} {f:Nat->Option V}
theorem eP {sel:Nat->Bool}:∀ {n:Nat},(∀ j,j < n->sel j=false)->QA sel f n=none
 | 0,_=>rfl
 | n+1,h=>by
  simp only [QA]
  rw [AX (by rw [h n (by omega)];simp),eP λj hj=>h j (by omega)]
theorem kQ {sel:Nat->Bool}:∀ {n:Nat},((∀ j,j < n->sel j=true->f j=none)/\QA sel f n=none)\/∃ w,w < n/\sel w=true/\QA sel f n=f w/\(f w).isSome=true/\∀ j,w < j->j < n->sel j=true->f j=none
 | 0=>.inl ⟨λj hj=>by omega,rfl⟩
 | n+1=>by
  simp only [QA]
  by_cases h:sel n=true/\(f n).isSome=true
  ·exact .inr ⟨n,by omega,h.1,by rw [AY h],h.2,λj h1 h2=>by omega⟩
  ·rw [AX h]
   have hn:sel n=true->f n=none:=λhs=>by
    cases hf:f n with
    | none=>rfl
    | some v=>exact absurd ⟨hs,by rw [hf];rfl⟩ h
   rcases kQ (sel:=sel) (n:=n) with ⟨h1,h2⟩ | ⟨w,h1,h2,h3,h4,h5⟩
   ·refine .inl ⟨λj hj hs=>?_,h2⟩
    rcases Nat.lt_or_ge j n with hlt | hge
    ·exact h1 j hlt hs
    ·have:j=n:=by omega
     subst this;exact hn hs
   ·refine .inr ⟨w,by omega,h2,h3,h4,λj hj1 hj2 hs=>?_⟩
    rcases Nat.lt_or_ge j n with hlt | hge
    ·exact h5 j hj1 hlt hs
    ·have:j=n:=by omega
     subst this;exact hn hs
theorem sJ {base:Option V} {v:V} {i j n:Nat} (hji:j<=i) (_:i<=n) (h:(QA (λm=>decide (m < i)) f n).or base=some v) (hl:∀ w,j<=w->w < i->f w=some v->False):(QA (λm=>decide (m < j)) f n).or base=some v:=by
 rcases kQ (sel:=λm=>decide (m < i)) (f:=f) (n:=n) with ⟨h1,h2⟩ | ⟨w,h1,h2,h3,h4,h5⟩
 ·rw [h2] at h
  rcases kQ (sel:=λm=>decide (m < j)) (f:=f) (n:=n) with ⟨_,g2⟩ | ⟨w,g1,g2,g3,g4,_⟩
  ·rw [g2];exact h
  ·rw [h1 w g1 (by simp at g2 ⊢;omega)] at g4;cases g4
 ·rw [h3] at h
  have hw:w < i:=by simpa using h2
  cases hf:f w with
  | none=>rw [hf] at h4;cases h4
  | some u=>
   rw [hf] at h
   have hu:u=v:=by simpa using h
   subst hu
   have hwj:w < j:=by
    rcases Nat.lt_or_ge w j with hlt | hge
    ·exact hlt
    ·exact (hl w hge hw hf).elim
   rw [bH (sel:=λm=>decide (m < j)) h1 (by simpa using hwj) hf λm hm1 hm2 hm3=>h5 m hm1 hm2 (by simp at hm3 ⊢;omega)]
   rfl
end
def eS (e:D9) (s:Nat):Option RV:=if e.d=some s then some e.rv else none
def eO (e:D9) (id:Nat):Option Ob:=match e.o with
 | some p=>if p.1=id then some p.2 else none
 | none=>none
def RB:Option Nat->Nat->Option Nat
 | some d=>R5 d
 | none=>some
theorem QOb (kl:Option Nat) (st:St) (x:Nat):lk x (JV kl st).s=(lk x st.s).map (Ce (RB kl)):=by
 cases kl with
 | none=>cases h:lk x st.s <;> simp [JV,RB,RD,h]
 | some d=>simp only [JV,OX,RB,Ym,bJ]
theorem z8 (kl:Option Nat) (st:St) (i:Nat):lk i (JV kl st).l=if kl=some i then none else (lk i st.l).map (Ei (RB kl)):=by
 cases kl with
 | none=>cases h:lk i st.l <;> simp [JV,RB,Gi,h]
 | some d=>
  simp only [JV,RB,bF,Ac]
  by_cases h:i=d
  ·subst h;simp
  ·rw [AX h,AX (λe=>h e.symm)]
theorem QOa (kl:Option Nat) (st:St):(JV kl st).k=Uw (RB kl) st.k:=by
 cases kl with
 | none=>simp [JV,RB,Uw,Ym,RD]
 | some d=>rfl
theorem QOZ (kl:Option Nat) (st:St):(JV kl st).b=st.b:=by cases kl <;> rfl
theorem QYi (e:D9) (st:St) (s:Nat):lk s (nD e st).s=(eS e s).or ((lk s st.s).map (Ce (RB e.kl))):=by
 rw [<- QOb]
 unfold nD eS
 cases h:e.d with
 | none=>simp
 | some d=>
  simp only [Bl,Ac]
  by_cases hd:s=d
  ·subst hd;simp
  ·rw [AX hd,AX (λh=>hd h.symm)];rfl
theorem QYh (e:D9) (st:St) (i:Nat):lk i (nD e st).l=(eO e i).or (if e.kl=some i then none else (lk i st.l).map (Ei (RB e.kl))):=by
 rw [<- z8]
 unfold nD eO
 cases h:e.o with
 | none=>simp
 | some p=>
  obtain ⟨j,ob⟩:=p
  simp only [Bl]
  by_cases hd:i=j
  ·subst hd;simp
  ·rw [AX hd,AX (λh=>hd h.symm)];rfl
theorem QYg (e:D9) (st:St):(nD e st).k=Uw (RB e.kl) st.k:=QOa e.kl st
theorem QYf (e:D9) (st:St):(nD e st).b=st.b:=QOZ e.kl st
theorem bK (f g:Nat->Option Nat):∀ rv,Ce f (Ce g rv)=Ce (λi=>(g i).bind f) rv:=by
 intro rv
 induction rv with
 | row i=>simp only [Ce];cases g i <;> rfl
 | sub i lo hi=>simp only [Ce];cases g i <;> rfl
 | loc i p=>simp only [Ce];cases g i <;> rfl
 | mp i=>simp only [Ce];cases g i <;> rfl
 | yl i=>simp only [Ce];cases g i <;> rfl
 | OH h c ih=>simp only [Ce,ih]
 | pair a b iha ihb=>simp only [Ce,iha,ihb]
 | agg t r ih=>simp only [Ce,ih]
 | Oj r ih=>simp only [Ce,ih]
 | _=>rfl
theorem YC {f g:Nat->Option Nat}:∀ rv,(∀ i,Ho i rv=true->f i=g i)->Ce f rv=Ce g rv:=by
 intro rv
 induction rv with
 | row i=>intro h;simp only [Ce,h i (by simp [Ho])]
 | sub i lo hi=>intro h;simp only [Ce,h i (by simp [Ho])]
 | loc i p=>intro h;simp only [Ce,h i (by simp [Ho])]
 | mp i=>intro h;simp only [Ce,h i (by simp [Ho])]
 | yl i=>intro h;simp only [Ce,h i (by simp [Ho])]
 | OH _ c ih=>intro h;simp only [Ce,ih h]
 | pair a b iha ihb=>intro h;simp only [Ce,iha λi hi=>h i (by simp [Ho,hi]),ihb λi hi=>h i (by simp [Ho,hi])]
 | agg t r ih=>intro h;simp only [Ce,ih h]
 | Oj r ih=>intro h;simp only [Ce,ih h]
 | _=>intro _;rfl
theorem xC {f:Nat->Option Nat} {rv:RV} (h:∀ i,Ho i rv=true->f i=some i):Ce f rv=rv:=(YC rv h).trans (RD rv)
theorem XE {C:List Nat} {id:Nat}:∀ {rv:RV},Xb C rv=true->Ho id rv=true->id∈C:=by
 intro rv
 induction rv with
 | row i=>intro h h';have:=Aa h';subst this;exact CW.1 h
 | sub i lo hi=>intro h h';have:=Aa h';subst this;exact CW.1 h
 | loc i p=>intro h h';have:=Aa h';subst this;exact CW.1 h
 | mp i=>intro h h';have:=Aa h';subst this;exact CW.1 h
 | yl i=>intro h h';have:=Aa h';subst this;exact CW.1 h
 | OH _ c ih=>intro h h';exact ih h h'
 | pair a b iha ihb=>
  intro h h'
  simp only [Xb,AP] at h
  simp only [Ho,Bool.or_eq_true] at h'
  exact h'.elim (iha h.1) (ihb h.2)
 | agg t r ih=>intro h h';exact ih h h'
 | Oj r ih=>intro h h';exact ih h h'
 | _=>intro _ h';cases h'
theorem UH {f:Nat->Option Nat} {id:Nat} (hf:f id=some id):∀ {rv:RV},Ho id rv=true->Ho id (Ce f rv)=true:=by
 intro rv
 induction rv with
 | row i=>intro h;have:=Aa h;subst this;simp only [Ce,hf];exact h
 | sub i lo hi=>intro h;have:=Aa h;subst this;simp only [Ce,hf];exact h
 | loc i p=>intro h;have:=Aa h;subst this;simp only [Ce,hf];exact h
 | mp i=>intro h;have:=Aa h;subst this;simp only [Ce,hf];exact h
 | yl i=>intro h;have:=Aa h;subst this;simp only [Ce,hf];exact h
 | OH _ c ih=>intro h;exact ih h
 | pair a b iha ihb=>
  intro h
  simp only [Ho,Bool.or_eq_true] at h
  simp only [Ce,Ho,Bool.or_eq_true]
  exact h.imp iha ihb
 | agg t r ih=>intro h;exact ih h
 | Oj r ih=>intro h;exact ih h
 | _=>intro h;cases h
theorem QDx (f g:Nat->Option Nat) (o:Ob):Ei f (Ei g o)=Ei (λi=>(g i).bind f) o:=by
 cases o with
 | var t c=>simp only [Ei,bK]
 | row t xs=>rfl
 | mp kt vt es=>rfl
 | lp c q=>simp only [Ei,bK]
theorem mP {f g:Nat->Option Nat} (o:Ob) (h:∀ i,ZW i o=true->f i=g i):Ei f o=Ei g o:=by
 cases o with
 | var t c=>simp only [Ei,YC c h]
 | row t xs=>rfl
 | mp kt vt es=>rfl
 | lp c q=>simp only [Ei,YC c h]
theorem sZ {f:Nat->Option Nat} {o:Ob} (h:∀ i,ZW i o=true->f i=some i):Ei f o=o:=(mP o h).trans (Gi o)
theorem QGs {f:Nat->Option Nat} {id:Nat} (hf:f id=some id) {o:Ob} (h:ZW id o=true):ZW id (Ei f o)=true:=by
 cases o with
 | var t c=>exact UH hf h
 | row t xs=>cases h
 | mp kt vt es=>cases h
 | lp c q=>exact UH hf h
theorem QDw (f g:Nat->Option Nat) (k:List (Nat×List (Nat×RV))):Uw f (Uw g k)=Uw (λi=>(g i).bind f) k:=by
 simp only [Uw,Ym,List.map_map]
 refine List.map_congr_left λp _=>?_
 simp only [Function.comp,List.map_map]
 congr 1
 refine List.map_congr_left λq _=>?_
 simp only [Function.comp,bK]
def Kd (sel:Nat->Bool) (kf:Nat->Option Nat) (n id:Nat):Bool:=(List.range n).any λj=>sel j&&decide (kf j=some id)
theorem Kq {sel:Nat->Bool} {kf:Nat->Option Nat} {n id:Nat}:Kd sel kf n id=true↔∃ j,j < n/\sel j=true/\kf j=some id:=by
 simp only [Kd,List.any_eq_true,List.mem_range,AP,AZ]
def Kf (sel:Nat->Bool) (kf:Nat->Option Nat) (n id:Nat):Option Nat:=if Kd sel kf n id=true then none else some id
theorem QEy {sel KY:Nat->Bool} {kf:Nat->Option Nat} {n i:Nat} (hi:i < n) (hsel:∀ j,KY j=if j=i then true else sel j) (id:Nat):Kd KY kf n id=true↔Kd sel kf n id=true\/kf i=some id:=by
 rw [Kq,Kq]
 constructor
 ·rintro ⟨j,h1,h2,h3⟩
  rw [hsel] at h2
  by_cases hj:j=i
  ·subst hj;exact .inr h3
  ·rw [AX hj] at h2;exact .inl ⟨j,h1,h2,h3⟩
 ·rintro (⟨j,h1,h2,h3⟩ | h)
  ·exact ⟨j,h1,by rw [hsel,h2];simp,h3⟩
  ·exact ⟨i,hi,by rw [hsel];simp,h⟩
theorem yM {sel KY:Nat->Bool} {kf:Nat->Option Nat} {n i:Nat} (hi:i < n) (hsel:∀ j,KY j=if j=i then true else sel j) (id:Nat):(Kf sel kf n id).bind (RB (kf i))=Kf KY kf n id:=by
 have h:=QEy (kf:=kf) hi hsel id
 unfold Kf
 by_cases h1:Kd sel kf n id=true
 ·rw [AY h1,AY (h.2 (.inl h1))];rfl
 ·rw [AX h1,AA]
  by_cases h2:kf i=some id
  ·rw [AY (h.2 (.inr h2)),h2]
   simp [RB,R5]
  ·rw [AX (λh3=>(h.1 h3).elim h1 h2)]
   cases hk:kf i with
   | none=>rfl
   | some d=>exact sG λe=>h2 (by rw [hk,e])
theorem nR {sel:Nat->Bool} {kf:Nat->Option Nat} {n:Nat} (h:∀ j,j < n->sel j=false) (id:Nat):Kd sel kf n id=false:=by
 cases hb:Kd sel kf n id with
 | false=>rfl
 | true=>
  obtain ⟨j,h1,h2,_⟩:=Kq.1 hb
  rw [h j h1] at h2
  cases h2
theorem VW {sel:Nat->Bool} {kf:Nat->Option Nat} {n id:Nat} (h:Kd sel kf n id=false):Kf sel kf n id=some id:=by
 unfold Kf
 rw [AX (by rw [h];simp)]
theorem qN {sel KY:Nat->Bool} {kf:Nat->Option Nat} {n id:Nat} (h:Kd sel kf n id=Kd KY kf n id):Kf sel kf n id=Kf KY kf n id:=by
 unfold Kf
 rw [h]
structure ZG (sel:Nat->Bool) (n:Nat) (ef:Nat->D9) (st0 X:St):Prop where
 s:∀ s,lk s X.s=((QA sel (λj=>eS (ef j) s) n).or (lk s st0.s)).map (Ce (Kf sel (λj=>(ef j).kl) n))
 l:∀ i,lk i X.l=if Kd sel (λj=>(ef j).kl) n i=true then none else ((QA sel (λj=>eO (ef j) i) n).or (lk i st0.l)).map (Ei (Kf sel (λj=>(ef j).kl) n))
 k:X.k=Uw (Kf sel (λj=>(ef j).kl) n) st0.k
 b:X.b=st0.b
theorem ZG.init {sel:Nat->Bool} {n:Nat} {ef:Nat->D9} {st0:St} (h:∀ j,j < n->sel j=false):ZG sel n ef st0 st0 where
 s:=λs=>by
  rw [eP h]
  show lk s st0.s=Option.map _ (lk s st0.s)
  cases lk s st0.s with
  | none=>rfl
  | some v=>exact congrArg some (xC λi _=>VW (nR h i)).symm
 l:=λs=>by
  rw [eP h,AX (by rw [nR h];simp)]
  show lk s st0.l=Option.map _ (lk s st0.l)
  cases lk s st0.l with
  | none=>rfl
  | some v=>exact congrArg some (sZ λi _=>VW (nR h i)).symm
 k:=by
  have:Kf sel (λj=>(ef j).kl) n=some:=funext λi=>VW (nR h i)
  rw [this]
  simp [Uw,Ym,RD]
 b:=rfl
theorem ZG.step {sel KY:Nat->Bool} {n i:Nat} {ef:Nat->D9} {st0 X:St} (h:ZG sel n ef st0 X) (hi:i < n) (hsel:∀ j,KY j=if j=i then true else sel j) (hni:sel i=false)
  (hs:∀ j s,i < j->j < n->sel j=true->(eS (ef i) s).isSome=true->eS (ef j) s=none) (hl:∀ j s,i < j->j < n->sel j=true->(eO (ef i) s).isSome=true->eO (ef j) s=none)
  (hv:∀ x v id,eS (ef i) x=some v->Ho id v=true->Kd KY (λj=>(ef j).kl) n id=false) (ho:∀ y ob,eO (ef i) y=some ob->Kd KY (λj=>(ef j).kl) n y=false/\∀ id,ZW id ob=true->Kd KY (λj=>(ef j).kl) n id=false):ZG KY n ef st0 (nD (ef i) X) where
 s:=by
  intro s
  rw [QYi,h.s]
  cases hvs:eS (ef i) s with
  | some v=>
   rw [bH (sel:=KY) hi (by rw [hsel];simp) hvs λj h1 h2 h3=>hs j s h1 h2 (by rw [hsel,AX (by omega)] at h3;exact h3) (by rw [hvs];rfl)]
   show some v=some (Ce _ v)
   rw [xC]
   intro id hid
   unfold Kf
   rw [AX (by rw [hv s v id hvs hid];simp)]
  | none=>
   rw [MN (sel:=KY) (KY:=sel) λj hj hsome=>?_]
   ·rw [Option.map_map]
    show Option.map _ _=Option.map _ _
    congr 1
    funext rv
    simp only [Function.comp,bK]
    congr 1
    funext id
    exact yM (kf:=λj=>(ef j).kl) hi hsel id
   ·rw [hsel]
    split
    ·rename_i e;subst e;rw [hvs] at hsome;cases hsome
    ·rfl
 l:=by
  intro s
  rw [QYh,h.l]
  cases hvs:eO (ef i) s with
  | some v=>
   obtain ⟨k1,k2⟩:=ho s v hvs
   rw [bH (sel:=KY) hi (by rw [hsel];simp) hvs λj h1 h2 h3=>hl j s h1 h2 (by rw [hsel,AX (by omega)] at h3;exact h3) (by rw [hvs];rfl),AX (show ¬ Kd KY (λj=>(ef j).kl) n s=true by rw [k1];simp)]
   show some v=some (Ei _ v)
   rw [sZ]
   intro id hid
   unfold Kf
   rw [AX (by rw [k2 id hid];simp)]
  | none=>
   have hk:=QEy (kf:=λj=>(ef j).kl) hi hsel s
   rw [MN (sel:=KY) (KY:=sel) λj hj hsome=>?_]
   ·show (if (ef i).kl=some s then none else _)=_
    by_cases h1:Kd sel (λj=>(ef j).kl) n s=true
    ·rw [AY h1,AY (hk.2 (.inl h1))];simp
    ·by_cases h2:(ef i).kl=some s
     ·rw [AY h2,AY (hk.2 (.inr h2))]
     ·rw [AX h1,AX h2,AX (λh3=>(hk.1 h3).elim h1 h2),Option.map_map]
      congr 1
      funext rv
      simp only [Function.comp,QDx]
      congr 1
      funext id
      exact yM (kf:=λj=>(ef j).kl) hi hsel id
   ·rw [hsel]
    split
    ·rename_i e;subst e;rw [hvs] at hsome;cases hsome
    ·rfl
 k:=by
  rw [QYg,h.k,QDw]
  congr 1
  funext id
  exact yM (kf:=λj=>(ef j).kl) hi hsel id
 b:=by rw [QYf,h.b]
section
variable {P:Program} {E:CO} {Q:Exit->Act->World->Prop} {o:Oper} {w0:World} {M0:Bs} {N:Nat} {M M':Own} {β β':Nat->Nat} {τ τ':Nat->Value} {st st':St} {a:Act} {as:List Act} {w w':World} {id:Nat}
theorem RR.sK {L L':List (Nat×Ob)} (h:∀ i,lk i L=lk i L') {rv:RV} {m:Mo} {cs:List Value} (r:RR M w β τ L rv m cs):RR M w β τ L' rv m cs:=
 r.keep λi j ob e hl=>by
  cases e
  exact ⟨ob,by rw [<- h];exact hl,rfl,rfl,rfl⟩
theorem fu.sK {L L':List (Nat×Ob)} (h:∀ i,lk i L=lk i L'):∀ {k:List (Nat×List (Nat×RV))} {as:List Act},fu M w β τ L k as->fu M w β τ L' k as
 | [],[],_=>trivial
 | _::_,_::_,hh=>⟨λi rv hi=>by obtain ⟨u,h1,h2⟩:=hh.1 i rv hi;exact ⟨u,h1,h2.sK h⟩,fu.sK h hh.2⟩
 | [],_::_,hh=>hh.elim
 | _::_,[],hh=>hh.elim
theorem Sm.sK (s:Sm w0 M0 N M β τ st a as w) (hs:∀ i,lk i st.s=lk i st'.s) (hl:∀ i,lk i st.l=lk i st'.l) (hk:st.k=st'.k):Sm w0 M0 N M β τ st' a as w where
 df:=s.df
 sz:=s.sz
 J6:=s.J6
 mlt:=s.mlt
 Yn:=s.Yn
 gk:=s.gk
 gx:=s.gx
 kp:=s.kp
 Fu:=s.Fu
 fr:=λi rv hi=>by
  obtain ⟨u,h1,h2⟩:=s.fr i rv (by rw [hs];exact hi)
  exact ⟨u,h1,h2.sK hl⟩
 fs:=hk ▸ s.fs.sK hl
 ob:=λi ob hi=>by
  have:=s.ob i ob (by rw [hl];exact hi)
  cases ob with
  | var ty con=>
   obtain ⟨h1,⟨cs,T,h2,h3⟩,h4⟩:=this
   exact ⟨h1,⟨cs,T,h2,h3.sK hl⟩,h4⟩
  | row ty xs=>exact this
  | mp kt vt es=>exact this
  | lp c q=>
   obtain ⟨h1,⟨r,h2,h3,m,h5⟩,h4⟩:=this
   exact ⟨h1,⟨r,h2,h3,m,h5.sK hl⟩,h4⟩
 dj:=λi j ob Ij b h1 h2=>s.dj i j ob Ij b (by rw [hl];exact h1) (by rw [hl];exact h2)
theorem Cu.sK (s:Cu w0 M0 N st a as w) (hs:∀ i,lk i st.s=lk i st'.s) (hl:∀ i,lk i st.l=lk i st'.l) (hk:st.k=st'.k):Cu w0 M0 N st' a as w:=by
 obtain ⟨M,β,τ,s⟩:=s
 exact ⟨M,β,τ,s.sK hs hl hk⟩
theorem fI (g:Nat) (b:Bool):∀ (s:List (Nat×RV)),lk g s=some (.val ⟨.bool,b⟩)->V9 g b s=s
 | [],h=>by simp [lk] at h
 | (j,x)::r,h=>by
  rw [Bl] at h
  simp only [V9]
  split at h
  ·rename_i e
   subst e
   cases h
   simp
  ·rename_i e
   have:Nat.beq g j=false:=by cases hb:Nat.beq g j with | false=>rfl | true=>exact absurd (Aa hb) e
   simp only [this,AJ,fI g b r h]
theorem QDi {ops:Array Oper} {α:Type} {run skip:St->Option α} {r:α} (h:QDh ops o st run skip=some r) :
  (run st=some r/\∀ (γ:Type) (k':D9->Option γ),stepG E ops o st k'=XW E o st k')\/(skip st=some r/\∀ (γ:Type) (k':D9->Option γ),stepG E ops o st k'=k' ⟨o.dst,.Oj .unit,none,none⟩):=by
 unfold QDh at h
 cases hg:o.guard with
 | none=>
  simp only [hg] at h
  exact .inl ⟨h,λγ k'=>by simp only [stepG,hg]⟩
 | some p=>
  obtain ⟨j,want⟩:=p
  simp only [hg] at h
  cases hs:Q6 ops o with
  | none=>rw [hs] at h;cases h
  | some g=>
   simp only [hs] at h
   split at h
   ·rename_i b hl
    cases b with
    | true=>
     rw [fI g true _ hl] at h
     cases want with
     | true=>exact .inl ⟨h,λγ k'=>by simp only [stepG,hg,hs,hl,AL]⟩
     | false=>exact .inr ⟨h,λγ k'=>by simp only [stepG,hg,hs,hl,AL,AJ]⟩
    | false=>
     rw [fI g false _ hl] at h
     cases want with
     | true=>exact .inr ⟨h,λγ k'=>by simp only [stepG,hg,hs,hl,AL,AJ]⟩
     | false=>exact .inl ⟨h,λγ k'=>by simp only [stepG,hg,hs,hl,AJ]⟩
   ·rename_i hl
    exact .inr ⟨h,λγ k'=>by simp only [stepG,hg,hs,hl]⟩
   ·cases h
theorem QFA {args:Array Operand} {ts:Array TypeId}:PC (λβ (k:((e:Ty)×List e.den×Option Nat)->Option β)=>yT E args ts st λe z old=>k ⟨e,z,old⟩):=by
 unfold yT
 split
 ·split
  ·rename_i sx x t u _ _ _ e _
   exact PC.bind (X:=(e:Ty)×List e.den×Option Nat) λxs=>QP0 (X:=(e:Ty)×List e.den×Option Nat) (g:=λβ ys k=>bif Nat.ble 1 e.n&&Nat.ble (List.length xs.1+List.length ys) (QDs E e) then k ⟨e,List.append xs.1 ys,xs.2⟩ else none) (λys=>PC.bif (PC.ret _) PC.none) (PC.bind λys=>PC.bif (PC.ret _) PC.none)
  ·exact PC.none
 ·exact PC.none
theorem QM2:PC (λβ (k:D9->Option β)=>XW E o st k):=by
 unfold XW
 split
 ·exact (lM (E:=E) (st:=st)).comp (F:=λβ (k:Nat×Ob->Option β)=>Wo E _ _ _ st λid ob=>k (id,ob)) (Y:=D9) (G:=λβ (q:Nat×Ob) (k:D9->Option β)=>k (⟨none,.any,some q,none⟩:D9)) λq=>PC.ret _
 ·exact (QA3 (E:=E) (st:=st)).comp (F:=λβ (k:Nat×Ob->Option β)=>vK E _ _ _ _ st λid ob=>k (id,ob)) (Y:=D9) (G:=λβ (q:Nat×Ob) (k:D9->Option β)=>k (⟨none,.any,some q,none⟩:D9)) λq=>PC.ret _
 ·rename_i args ts d _ _
  simp only [EO]
  split
  ·exact (QFA (E:=E) (st:=st) (args:=args) (ts:=ts)).comp (F:=λβ (k:((e:Ty)×List e.den×Option Nat)->Option β)=>yT E args ts st λe z old=>k ⟨e,z,old⟩) (Y:=D9) (G:=λβ (q:(e:Ty)×List e.den×Option Nat) (k:D9->Option β)=>k (⟨some d,.row (newId st d),some (newId st d,.row q.1 q.2.1),q.2.2⟩:D9)) λq=>PC.ret _
  ·exact PC.none
 ·rename_i t n parts d _ _
  simp only [EO]
  split
  ·split
   ·exact (tN (E:=E) (o:=o) (st:=st) (id:=newId st d)).comp (F:=λβ (k:RV×Option Ob->Option β)=>FZ E o st (newId st d) λrv ob=>k (rv,ob)) (Y:=D9) (G:=λβ (q:RV×Option Ob) (k:D9->Option β)=>k (⟨some d,q.1,q.2.map λob=>(newId st d,ob),none⟩:D9)) λq=>PC.ret _
   ·rename_i old _ _
    exact (wB (E:=E) (st:=st) (t:=t) (n:=n) (parts:=parts.toList) (id:=old)).comp (F:=λβ (k:((e:Ty)×List e.den)->Option β)=>Xl E t n parts.toList old st λe z=>k ⟨e,z⟩) (Y:=D9) (G:=λβ (q:(e:Ty)×List e.den) (k:D9->Option β)=>k (⟨some d,.row (newId st d),some (newId st d,.row q.1 q.2),some old⟩:D9)) λq=>PC.ret _
  ·exact PC.none
 ·rename_i d _ _ _
  simp only [EO]
  refine QCR (λc a t r=>(QAJ (E:=E) (st:=st)).comp (F:=λβ (k:Nat×Ob×RV->Option β)=>nQ E c a t r st λid ob rv=>k (id,ob,rv)) (Y:=D9) (G:=λβ (q:Nat×Ob×RV) (k:D9->Option β)=>k (⟨some d,q.2.2,some (q.1,q.2.1),none⟩:D9)) λq=>PC.ret _) ?_
  split
  ·exact QCR (λc a t r=>(rU (E:=E) (st:=st)).comp (F:=λβ (k:((e:Ty)×List e.den×Option Nat)->Option β)=>dG E c a t r st λe z old=>k ⟨e,z,old⟩) (Y:=D9) (G:=λβ (q:(e:Ty)×List e.den×Option Nat) (k:D9->Option β)=>k (⟨some d,.row (newId st d),some (newId st d,.row q.1 q.2.1),q.2.2⟩:D9)) λq=>PC.ret _) ((tN (E:=E) (o:=o) (st:=st) (id:=newId st d)).comp (F:=λβ (k:RV×Option Ob->Option β)=>FZ E o st (newId st d) λrv ob=>k (rv,ob)) (Y:=D9) (G:=λβ (q:RV×Option Ob) (k:D9->Option β)=>k (⟨some d,q.1,q.2.map λob=>(newId st d,ob),none⟩:D9)) λq=>PC.ret _)
  ·exact PC.none
 ·exact PC.none
theorem mg (hE:CJ P E) (s:Cu w0 M0 N st a as w) (hd:∀ d,o.dst=some d->d < N) {e:D9} (h:XW E o st some=some e):OSt P Q w0 M0 N o a as w (nD e st):=by
 unfold XW at h
 split at h
 ·rename_i t x y hop hdst
  obtain ⟨⟨i,ob⟩,h1,h2⟩:=lM (E:=E) (st:=st) _ (λq:Nat×Ob=>some (⟨none,.any,some q,none⟩:D9)) _ h
  cases h2
  obtain ⟨g1,g2⟩:=jJ (Q:=Q) hE s hop hdst (h1 _ some)
  intro K hK
  refine g1 K λa' w' hs=>hK a' w' (hs.sK (λ_=>rfl) (λj=>?_) rfl)
  simp only [Dv,nD]
  rw [M6,Bl]
  split
  ·cases hl:lk i st.l with
   | none=>rw [hl] at g2;cases g2
   | some _=>rfl
  ·rfl
 ·rename_i t m x y hop hdst
  obtain ⟨⟨i,ob⟩,h1,h2⟩:=QA3 (E:=E) (st:=st) _ (λq:Nat×Ob=>some (⟨none,.any,some q,none⟩:D9)) _ h
  cases h2
  obtain ⟨g1,g2⟩:=sW (Q:=Q) hE s hop hdst (h1 _ some)
  intro K hK
  refine g1 K λa' w' hs=>hK a' w' (hs.sK (λ_=>rfl) (λj=>?_) rfl)
  simp only [Dv,nD]
  rw [M6,Bl]
  split
  ·cases hl:lk i st.l with
   | none=>rw [hl] at g2;cases g2
   | some _=>rfl
  ·rfl
 ·rename_i args ts d hop hdst
  simp only [EO] at h
  split at h
  ·rename_i hnone
   obtain ⟨⟨t,z,old⟩,h1,h2⟩:=QFA (E:=E) (st:=st) (args:=args) (ts:=ts) _ (λq:(e:Ty)×List e.den×Option Nat=>some (⟨some d,.row (newId st d),some (newId st d,.row q.1 q.2.1),q.2.2⟩:D9)) _ h
   cases h2
   intro K hK
   have hfree:lk (newId st d) (JV old st).l=none:=by
    rw [z8,hnone]
    split <;> rfl
   have hf2:Dh (newId st d) (JV old st)=JV old st:=by unfold Dh;rw [hfree]
   letI:DecidableEq St:=λ_ _=>Classical.propDecidable _
   have heff:PV (α:=St) E (λ_ _ _=>none) ⟨[],[],[],[],[],[],[],[],[]⟩ o st some=some (Jd (addN (newId st d) (.row t z) (JV old st)) (some d) (.row (newId st d))):=by
    unfold PV
    simp only [hop,hdst,EO]
    exact (h1 St (λq=>some (Jd (addN (newId st d) (.row q.1 q.2.1) (Dh (newId st d) (JV q.2.2 st))) (some d) (.row (newId st d))))).trans (by simp only [hf2])
   refine gL (Q:=Q) hE s hd hop hdst heff K λst' a' w' he hs=>?_
   cases he
   exact hK a' w' (hs.sK (λ_=>rfl) (λ_=>rfl) rfl)
  ·cases h
 ·rename_i t n parts d hop hdst
  simp only [EO] at h
  split at h
  ·rename_i hnone
   split at h
   ·obtain ⟨⟨rv,ob⟩,h1,h2⟩:=tN (E:=E) (o:=o) (st:=st) (id:=newId st d) _ (λq:RV×Option Ob=>some (⟨some d,q.1,q.2.map λob=>(newId st d,ob),none⟩:D9)) _ h
    cases h2
    obtain ⟨M,β,τ,s⟩:=s
    intro K hK
    refine kX (Q:=Q) hE s hd hnone (h1 _ some) K λa' w' hs=>hK a' w' ?_
    refine hs.sK (λj=>?_) (λj=>?_) ?_
    ·cases ob <;> (rw [hdst];rfl)
    ·cases ob <;> (rw [hdst];rfl)
    ·cases ob <;> (rw [hdst];rfl)
   ·rename_i old _ _
    obtain ⟨⟨e0,z⟩,h1,h2⟩:=wB (E:=E) (st:=st) (t:=t) (n:=n) (parts:=parts.toList) (id:=old) _ (λq:(e:Ty)×List e.den=>some (⟨some d,.row (newId st d),some (newId st d,.row q.1 q.2),some old⟩:D9)) _ h
    cases h2
    obtain ⟨M,β,τ,s⟩:=s
    intro K hK
    refine yZ (Q:=Q) hE s hd hnone hop (h1 _ some) K λa' w' hs=>hK a' w' (hs.sK (λj=>?_) (λj=>?_) ?_)
    ·rw [hdst];rfl
    ·rw [hdst];rfl
    ·rw [hdst];rfl
  ·cases h
 ·rename_i d hdst _ _
  simp only [EO] at h
  rcases xg h with ⟨f,args,ts,g,caps,c,hop,hf,hc,h⟩ | h
  ·obtain ⟨⟨i,ob,rv⟩,h1,h2⟩:=QAJ (E:=E) (st:=st) _ (λq:Nat×Ob×RV=>some (⟨some d,q.2.2,some (q.1,q.2.1),none⟩:D9)) _ h
   cases h2
   obtain ⟨M,β,τ,s⟩:=s
   intro K hK
   refine (lF (Q:=Q) hE s hop hf hc (h1 _ some) K λM' v w' s' r'=>hK _ _ ?_).2
   refine Cu.sK ⟨M',β,τ,s'.set o.dst hd r'⟩ (λj=>by rw [hdst];rfl) (λj=>?_) (by rw [hdst];rfl)
   have hsome:=(lF (Q:=Q) hE s hop hf hc (h1 _ some) (λ_ _=>True) λ_ _ _ _ _=>trivial).1
   rw [hdst]
   simp only [Jd,Dv,nD]
   rw [M6,Bl]
   split
   ·cases hl:lk i st.l with
    | none=>rw [hl] at hsome;cases hsome
    | some _=>rfl
   ·rfl
  split at h
  ·rename_i hnone
   rcases xg h with ⟨f,args,ts,g,caps,c,hop,hf,hc,h⟩ | h
   ·obtain ⟨q,h1,h2⟩:=rU (E:=E) (st:=st) _ (λq:(e:Ty)×List e.den×Option Nat=>some (⟨some d,.row (newId st d),some (newId st d,.row q.1 q.2.1),q.2.2⟩:D9)) _ h
    cases h2
    intro K hK
    refine rV (Q:=Q) hE s hd hop hf hc hdst (h1 _ some) K λa' w' hs=>?_
    have hfree:lk (newId st d) (JV q.2.2 st).l=none:=by
     rw [z8,hnone]
     split <;> rfl
    have hf2:Dh (newId st d) (JV q.2.2 st)=JV q.2.2 st:=by unfold Dh;rw [hfree]
    rw [hf2] at hs
    exact hK a' w' (hs.sK (λ_=>rfl) (λ_=>rfl) rfl)
   obtain ⟨⟨rv,ob⟩,h1,h2⟩:=tN (E:=E) (o:=o) (st:=st) (id:=newId st d) _ (λq:RV×Option Ob=>some (⟨some d,q.1,q.2.map λob=>(newId st d,ob),none⟩:D9)) _ h
   cases h2
   obtain ⟨M,β,τ,s⟩:=s
   intro K hK
   refine kX (Q:=Q) hE s hd hnone (h1 _ some) K λa' w' hs=>hK a' w' ?_
   refine hs.sK (λj=>?_) (λj=>?_) ?_
   ·cases ob <;> (rw [hdst];rfl)
   ·cases ob <;> (rw [hdst];rfl)
   ·cases ob <;> (rw [hdst];rfl)
  ·cases h
 ·cases h
theorem QCy (s:Sm w0 M0 N M β τ st a as w) {ops:Array Oper} {j g:Nat} {b:Bool} (hg:(ops[j]?).bind (·.dst)=some g) (hl:lk g st.s=some (.val ⟨.bool,b⟩)):yielded ops a.tmps j=some b:=by
 obtain ⟨u,hu,u',e,hv⟩:=s.fr g _ hl
 cases e
 have hb:=hv.bool
 simp [yielded,hg,hu,hb]
theorem jN:RR M w β τ st.l (.Oj .unit) .sl [undef]:=by
 simp only [RR]
 exact ⟨trivial,[],rfl,rfl⟩
theorem jU (s:Sm w0 M0 N M β τ st a as w) {ops:Array Oper} {j g:Nat} (hg:(ops[j]?).bind (·.dst)=some g) (hl:lk g st.s=some (.Oj .unit)):yielded ops a.tmps j=none:=by
 obtain ⟨u,hu,r⟩:=s.fr g _ hl
 simp only [RR] at r
 obtain ⟨_,us,e,h⟩:=r
 subst h
 cases e
 simp [yielded,hg,hu]
theorem QCk (hE:CJ P E) (s:Cu w0 M0 N st a as w) (hd:∀ d,o.dst=some d->d < N) {ops:Array Oper} {e:D9} (h:stepG E ops o st some=some e) (K:Act->World->Prop) (hK:∀ a' w',Cu w0 M0 N (nD e st) a' as w'->K a' w'):GStep P Q ops o a w K:=by
 unfold GStep
 unfold stepG at h
 split at h
 ·rename_i hg
  simp only [Region.wanted,hg,if_true]
  exact mg (Q:=Q) hE s hd h K hK
 ·rename_i j want hg
  split at h
  ·rename_i g hgd
   simp only [Q6,hg] at hgd
   split at h
   ·rename_i b hlk
    have hy:yielded ops a.tmps j=some b:=by
     obtain ⟨M,β,τ,s⟩:=s
     exact QCy s hgd hlk
    have run:XW E o st some=some e->Region.wanted o (yielded ops a.tmps)=true->(if Region.wanted o (yielded ops a.tmps) then o.wp P a w K Q else K (a.put o.dst undef) w):=by
     intro h hw
     rw [AY hw]
     exact mg (Q:=Q) hE s hd h K hK
    have skip:some (⟨o.dst,.Oj .unit,none,none⟩:D9)=some e->Region.wanted o (yielded ops a.tmps)=false->(if Region.wanted o (yielded ops a.tmps) then o.wp P a w K Q else K (a.put o.dst undef) w):=by
     intro h hw
     cases h
     rw [AX (by simp [hw])]
     obtain ⟨M,β,τ,s⟩:=s
     refine hK _ _ ⟨M,β,τ,(s.set o.dst hd (rv:=.Oj .unit) jN).sK (λj=>?_) (λj=>?_) ?_⟩
     ·unfold Jd nD;cases o.dst <;> rfl
     ·unfold Jd nD;cases o.dst <;> rfl
     ·unfold Jd nD;cases o.dst <;> rfl
    cases b with
    | true=>
     cases want with
     | true=>exact run h (by simp [Region.wanted,hg,hy])
     | false=>exact skip h (by simp [Region.wanted,hg,hy])
    | false=>
     cases want with
     | true=>exact skip h (by simp [Region.wanted,hg,hy])
     | false=>exact run h (by simp [Region.wanted,hg,hy])
   ·rename_i hlk
    obtain ⟨M,β,τ,s⟩:=s
    have hy:=jU s hgd hlk
    have hw:Region.wanted o (yielded ops a.tmps)=false:=by simp [Region.wanted,hg,hy]
    cases h
    rw [AX (by simp [hw])]
    refine hK _ _ ⟨M,β,τ,(s.set o.dst hd (rv:=.Oj .unit) jN).sK (λj=>?_) (λj=>?_) ?_⟩
    ·unfold Jd nD;cases o.dst <;> rfl
    ·unfold Jd nD;cases o.dst <;> rfl
    ·unfold Jd nD;cases o.dst <;> rfl
   ·cases h
  ·cases h
theorem QHf {S C:List Nat} (h:Ag S C st st') (hS:∀ i∈slotsOf o,i∈S) (hid:∀ d,o.dst=some d->newId st d∈C) {α:Type} (k:D9->Option α):XW E o st k=XW E o st' k:=by
 unfold XW
 split
 ·rename_i t x y hop hdst
  exact QEW h (λi hi=>hS i (Kn (by simp [hop,Op.operands,hi]))) (λi hi=>hS i (Kn (by simp [hop,Op.operands,hi]))) _
 ·rename_i t m x y hop hdst
  exact QLI h (λi hi=>hS i (Kn (by simp [hop,Op.operands,hi]))) (λi hi=>hS i (Kn (by simp [hop,Op.operands,hi]))) (λi hi=>hS i (Kn (by simp [hop,Op.operands,hi]))) _
 ·rename_i args ts d hop hdst
  have hb:newId st' d=newId st d:=by simp only [newId,EO,h.b]
  simp only [EO]
  rw [hb,<- h.l _ (hid d hdst)]
  split
  ·exact QKU h (λi hi=>hS i (Kn (by simp [hop,Op.operands,Call.operands];simpa using hi))) _
  ·rfl
 ·rename_i t n parts d hop hdst
  have hb:newId st' d=newId st d:=by simp only [newId,EO,h.b]
  simp only [EO]
  rw [hb,<- h.l _ (hid d hdst),<- QHJ h hS]
  have hin:=QLR h hS
  split
  ·split
   ·exact QFp h hS _ _
   ·rename_i old r heq
    refine QDP h (λi hi=>hS i (Kn ?_)) (hin old (by rw [heq];simp)) _
    rw [hop]
    simp only [Op.operands]
    simpa using hi
  ·rfl
 ·rename_i d hdst _ _
  have hb:newId st' d=newId st d:=by simp only [newId,EO,h.b]
  simp only [EO]
  rw [hb,<- h.l _ (hid d hdst)]
  refine xk h hS ?_ λc args ts caps h1 h2=>QLd h h1 h2 _
  split
  ·exact xk h hS (QFp h hS _ _) λc args ts caps h1 _=>QGr h h1 _
  ·rfl
 ·rfl
theorem QHg {S C:List Nat} (h:Ag S C st st') {ops:Array Oper} (hS:∀ i∈slotsOf o++(Q6 ops o).toList,i∈S) (hid:∀ d,o.dst=some d->newId st d∈C) {α:Type} (k:D9->Option α):stepG E ops o st k=stepG E ops o st' k:=by
 have hd:=λk=>QHf (E:=E) (α:=α) h (λi hi=>hS i (List.mem_append_left _ hi)) hid k
 unfold stepG
 split
 ·exact hd k
 ·split
  ·rename_i g hg
   rw [<- h.s g (hS g (by rw [hg];simp)),hd k]
  ·rfl
theorem QFo {b:List Nat} {i:Nat} {q:Rc}:∀ (k:Nat) (l:List Rc),QHI b i q k l=true->∀ (m:Nat) (p:Rc),l[m]? = some p->eY p.kl q.ob=false/\((b.getD i 0).testBit (k+m)=true\/indep p q=true)
 | _,[],_,m,p,hp=>by simp at hp
 | k,p0::r,h,m,p,hp=>by
  simp only [QHI,AP,Bool.or_eq_true,Bool.not_eq_true'] at h
  cases m with
  | zero=>
   simp only [List.getElem?_cons_zero,Ac] at hp
   subst hp
   exact ⟨h.1,h.2.1⟩
  | succ m=>
   have:=QFo (k+1) r h.2.2 m p (by simpa using hp)
   rw [show k+(m+1)=k+1+m by omega]
   exact this
structure Can (E:CO) (ops:Array Oper) (b:List Nat) (ef:Nat->D9) (sf:Nat->St) (rf:Nat->Rc) (j:Nat) (o:Oper):Prop where
 next:sf (j+1)=nD (ef j) (sf j)
 gives:∀ (γ:Type) (k':D9->Option γ),stepG E ops o (sf j) k'=k' (ef j)
 rc:rf j=lC ops o (sf j) (ef j)
 ok:∀ m,m < j->eY (rf m).kl (rf j).ob=false/\((b.getD j 0).testBit m=true\/indep (rf m) (rf j)=true)
 cl:QFE (rf j).ob (sf j).l=true
 inn:QRJ (rf j).ob (rf j).rd (sf j)=true
 rvi:Xb (rf j).ob (ef j).rv=true
 obi:QOT (rf j).ob (ef j).o=true
 own:QTy (rf j).ob (ef j)=true
theorem QCG {ops:Array Oper} {b:List Nat} {α:Type} {kn:St->Option α} {r:α}:∀ (l:List Oper) (i:Nat) (rcs:List Rc) (st:St),QE4 E ops b i l rcs st kn=some r->rcs.length=i->
  ∃ (ef:Nat->D9) (sf:Nat->St) (rf:Nat->Rc),sf i=st/\(∀ j,j < i->rcs[j]? = some (rf j))/\kn (sf (i+l.length))=some r/\∀ m o,l[m]? = some o->Can E ops b ef sf rf (i+m) o
 | [],i,rcs,st,h,hl=>by
  refine ⟨λ_=>⟨none,.any,none,none⟩,λ_=>st,λj=>rcs.getD j ⟨[],[],none,none,none,[],[]⟩,rfl,λj hj=>?_,h,λm o hm=>by simp at hm⟩
  have:j < rcs.length:=by omega
  simp [this]
 | o::rest,i,rcs,st,h,hl=>by
  simp only [QE4] at h
  obtain ⟨e,h1,h2⟩:∃ e,(∀ (γ:Type) (k':D9->Option γ),stepG E ops o st k'=k' e)/\(bif QHI b i (lC ops o st e) 0 rcs&&okE (lC ops o st e) e st then QE4 E ops b (i+1) rest (rcs++[lC ops o st e]) (nD e st) kn else none)=some r:=by
   rcases QDi (E:=E) h with ⟨h1,h2⟩ | ⟨h1,h2⟩
   ·obtain ⟨e,g1,g2⟩:=QM2 (E:=E) (o:=o) (st:=st) _ _ _ h1
    exact ⟨e,λγ k'=>(h2 γ k').trans (g1 γ k'),g2⟩
   ·exact ⟨_,h2,h1⟩
  obtain ⟨hc,h2⟩:=BU h2
  simp only [okE,AP] at hc
  obtain ⟨c1,c2,c3,c4,c5,c6⟩:=hc
  obtain ⟨ef,sf,rf,g1,g2,g3,g4⟩:=QCG rest (i+1) (rcs++[lC ops o st e]) (nD e st) h2 (by simp [hl])
  have dI:rf i=lC ops o st e:=by
   have:=g2 i (by omega)
   rw [Ap (by omega)] at this
   simp [hl] at this
   exact this.symm
  have hrj:∀ j,j < i->rcs[j]? = some (rf j):=λj hj=>by
   have:=g2 j (by omega)
   rwa [Ao (by omega)] at this
  refine ⟨λj=>if j=i then e else ef j,λj=>if j=i then st else sf j,rf,by simp,hrj,?_,?_⟩
  ·have:i+(o::rest).length≠i:=by simp
   simp only [AX this]
   rw [show i+(o::rest).length=i+1+rest.length by simp;omega]
   exact g3
  ·intro m o' hm
   cases m with
   | zero=>
    simp only [List.getElem?_cons_zero,Ac] at hm
    subst hm
    refine ⟨?_,?_,?_,?_,?_,?_,?_,?_,?_⟩
    ·simp [g1]
    ·intro γ k';simpa using h1 γ k'
    ·simp [dI]
    ·intro m hmi
     simp only [Nat.add_zero] at hmi ⊢
     have:=QFo 0 rcs c1 m (rf m) (hrj m hmi)
     rw [Nat.zero_add] at this
     rw [dI]
     exact this
    ·simp only [Nat.add_zero,if_true];rw [dI];exact c2
    ·simp only [Nat.add_zero,if_true];rw [dI];exact c3
    ·simp only [Nat.add_zero,if_true];rw [dI];exact c4
    ·simp only [Nat.add_zero,if_true];rw [dI];exact c5
    ·simp only [Nat.add_zero,if_true];rw [dI];exact c6
   | succ m=>
    have:=g4 m o' (by simpa using hm)
    have e1:i+(m+1)=i+1+m:=by omega
    have e2:i+1+m≠i:=by omega
    have e3:i+1+m+1≠i:=by omega
    rw [e1]
    refine ⟨?_,?_,?_,this.ok,?_,?_,?_,?_,?_⟩
    ·simp only [AX e2,AX e3];exact this.next
    ·simp only [AX e2];exact this.gives
    ·simp only [AX e2];exact this.rc
    ·simp only [AX e2];exact this.cl
    ·simp only [AX e2];exact this.inn
    ·simp only [AX e2];exact this.rvi
    ·simp only [AX e2];exact this.obi
    ·simp only [AX e2];exact this.own
theorem bL {x:Option Nat} {l:List Nat} {i:Nat} (h:x=some i) (hi:i∈l):eY x l=true:=by
 subst h
 exact CW.2 hi
theorem QDy {x:Option Nat} {l:List Nat} {i:Nat} (h:eY x l=false) (hx:x=some i) (hi:i∈l):False:=by
 rw [bL hx hi] at h
 cases h
theorem QCa {x y:Option Nat} {i:Nat} (h:x=some i) (h':y=some i):xw x y=true:=by
 subst h h'
 simp [xw]
theorem QC7 {l m:List Nat} {i:Nat} (h:i∈l) (h':i∈m):meets l m=true:=List.any_eq_true.2 ⟨i,h,CW.2 h'⟩
theorem QLF {α:Type} {i:Nat} {x:α}:∀ {l:List (Nat×α)},lk i l=some x->(i,x)∈l
 | [],h=>by simp [lk] at h
 | (j,y)::r,h=>by
  rw [Bl] at h
  split at h
  ·rename_i e;subst e;cases h;simp
  ·exact List.mem_cons_of_mem _ (QLF h)
theorem yL {α:Type} {p:Nat->α->Bool} {id i:Nat} {x:α} {o:Option Nat} {l:List (Nat×α)} (ho:o=some id) (h:lk i l=some x) (hp:p id x=true):i∈lU p o l:=by
 subst ho
 simp only [lU,List.mem_map,List.mem_filter]
 exact ⟨(i,x),⟨QLF h,hp⟩,rfl⟩
theorem QTU {e:D9} {s:Nat} (h:(eS e s).isSome=true):e.d=some s:=by
 unfold eS at h
 split at h
 ·assumption
 ·cases h
theorem QZ4 {e:D9} {s:Nat} {v:RV} (h:eS e s=some v):v=e.rv:=by
 unfold eS at h
 split at h
 ·cases h;rfl
 ·cases h
theorem QTS {e:D9} {s:Nat} {ob:Ob} (h:eO e s=some ob):e.o=some (s,ob):=by
 unfold eO at h
 split at h
 ·rename_i p hp
  split at h
  ·rename_i e';cases h;rw [hp,<- e']
  ·cases h
 ·cases h
theorem QTT {e:D9} {s:Nat} (h:(eO e s).isSome=true):e.o.map (·.1)=some s:=by
 cases hh:eO e s with
 | none=>rw [hh] at h;cases h
 | some ob=>rw [QTS hh];rfl
theorem QBY (hE:CJ P E) {ops:Array Oper} {α:Type} {kn:St->Option α} {r:α} (hbk:QKX ops=true) (hd:∀ (i:Nat) (o:Oper),ops[i]? = some o->∀ d,o.dst=some d->d < N)
  (hQ:∀ st a w,kn st=some r->Cu w0 M0 N st a as w->Q .normal a w) {st0:St} {a:Act} {w:World} (h:QE4 E ops (Xh ops.toList []) 0 ops.toList [] st0 kn=some r) (s:Cu w0 M0 N st0 a as w) :
  wpAnyS P ops Q ops.size (Array.replicate ops.size false) a w:=by
 have hback:∀ (i:Nat) (o:Oper) (e:Edge),ops[i]? = some o->e∈o.after->Region.binds .any e=true->e.on < i:=by
  intro i o e ho he hb
  have hm:(o,i)∈ops.toList.zipIdx 0:=by rw [List.mk_mem_zipIdx_iff_getElem?];simpa using ho
  have:=List.all_eq_true.1 (List.all_eq_true.1 hbk _ hm) e (by simpa using he)
  simp only [hb,A8,Bool.false_or] at this
  exact Nat.lt_of_lt_of_le (Nat.lt_succ_self _) (Ak this)
 obtain ⟨ef,sf,rf,g1,_,g3,g4⟩:=QCG ops.toList 0 [] st0 h rfl
 simp only [Nat.zero_add,Array.length_toList] at g3 g4
 have can:∀ j,j < ops.size->Can E ops (Xh ops.toList []) ef sf rf j ops[j]!:=λj hj=>g4 j _ (by simp [hj])
 have rcd:∀ j,j < ops.size->(rf j).d=(ef j).d/\(rf j).w=(ef j).o.map (·.1)/\(rf j).kl=(ef j).kl/\(rf j).ts=lU Ho (ef j).kl (sf j).s/\(rf j).tb=lU ZW (ef j).kl (sf j).l:=λj hj=>by rw [(can j hj).rc];exact ⟨rfl,rfl,rfl,rfl,rfl⟩
 have frv:∀ j id,j < ops.size->Ho id (ef j).rv=true->id∈(rf j).ob:=λj id hj hh=>XE (can j hj).rvi hh
 have fob:∀ j y ob,j < ops.size->(ef j).o=some (y,ob)->y∈(rf j).ob/\∀ id,ZW id ob=true->id∈(rf j).ob:=by
  intro j y ob hj ho
  have:=(can j hj).obi
  rw [ho] at this
  cases ob with
  | var t c=>
   simp only [QOT,AP] at this
   exact ⟨CW.1 this.1,λid hid=>XE this.2 hid⟩
  | row t xs=>exact ⟨CW.1 this,λid hid=>by cases hid⟩
  | mp kt vt es=>exact ⟨CW.1 this,λid hid=>by cases hid⟩
  | lp c q=>
   simp only [QOT,AP] at this
   exact ⟨CW.1 this.1,λid hid=>XE this.2 hid⟩
 have fkl:∀ j id,j < ops.size->(ef j).kl=some id->id∈(rf j).ob/\Ho id (ef j).rv=false/\∀ y ob,(ef j).o=some (y,ob)->y≠id/\ZW id ob=false:=by
  intro j id hj hk
  have:=(can j hj).own
  simp only [QTy,hk,AP,Bool.not_eq_true'] at this
  refine ⟨CW.1 this.1,this.2.1,λy ob ho=>?_⟩
  have h2:=this.2.2
  rw [ho] at h2
  simp only [AP,Bool.not_eq_true'] at h2
  exact ⟨λe=>by subst e;simp at h2,h2.2⟩
 have fc1:∀ m j id,m < j->j < ops.size->(ef m).kl=some id->id ∉ (rf j).ob:=λm j id hm hj hk hin=>
  QDy ((can j hj).ok m hm).1 ((rcd m (by omega)).2.2.1.trans hk) hin
 have ord:∀ j k,j < k->k < ops.size->indep (rf j) (rf k)=false->((Xh ops.toList []).getD k 0).testBit j=true:=by
  intro j k hjk hk hi
  rcases ((can k hk).ok j hjk).2 with h | h
  ·exact h
  ·rw [hi] at h;cases h
 have ind:∀ {p q:Rc},(eY p.d q.rd=true\/eY q.d p.rd=true\/xw p.d q.d=true\/eY p.w q.ob=true\/eY q.w p.ob=true\/xw p.w q.w=true\/eY q.kl p.ob=true\/meets p.ts q.rd=true\/meets p.tb q.ob=true)->indep p q=false:=by
  intro p q h
  simp only [indep]
  rcases h with h | h | h | h | h | h | h | h | h <;> simp [h]
 have fresh:∀ (sel KY:Nat->Bool) (i:Nat),i < ops.size->(∀ j,KY j=if j=i then true else sel j)->(∀ j id,i < j->j < ops.size->sel j=true->(ef j).kl=some id->id ∉ (rf i).ob)->
   ∀ id,id∈(rf i).ob->(ef i).kl≠some id->Kd KY (λj=>(ef j).kl) ops.size id=false:=by
  intro sel KY i hi hsel iG id hid hown
  cases hb:Kd KY (λj=>(ef j).kl) ops.size id with
  | false=>rfl
  | true=>
   obtain ⟨j,h1,h2,h3⟩:=Kq.1 hb
   rw [hsel] at h2
   by_cases hji:j=i
   ·subst hji;exact absurd h3 hown
   ·rw [AX hji] at h2
    rcases Nat.lt_or_ge j i with hlt | hge
    ·exact absurd hid (fc1 j i id hlt hi h3)
    ·exact absurd hid (iG j id (by omega) h1 h2 h3)
 have stepT:∀ (sel KY:Nat->Bool) (X:St) (i:Nat),i < ops.size->ZG sel ops.size ef st0 X->sel i=false->(∀ j,KY j=if j=i then true else sel j)->(∀ j id,i < j->j < ops.size->sel j=true->(ef j).kl=some id->id ∉ (rf i).ob)->
   (∀ j s,i < j->j < ops.size->sel j=true->(eS (ef i) s).isSome=true->eS (ef j) s=none)->(∀ j s,i < j->j < ops.size->sel j=true->(eO (ef i) s).isSome=true->eO (ef j) s=none)->ZG KY ops.size ef st0 (nD (ef i) X):=by
  intro sel KY X i hi hT hni hsel iG hs hl
  have hf:=fresh sel KY i hi hsel iG
  refine hT.step hi hsel hni hs hl (λx v id hx hid=>?_) (λy ob hy=>?_)
  ·have:=QZ4 hx
   subst this
   exact hf id (frv i id hi hid) λhk=>by rw [(fkl i id hi hk).2.1] at hid;cases hid
  ·have ho:=QTS hy
   obtain ⟨k1,k2⟩:=fob i y ob hi ho
   exact ⟨hf y k1 λhk=>((fkl i y hi hk).2.2 y ob ho).1 rfl,λid hid=>hf id (k2 id hid) λhk=>by rw [((fkl i id hi hk).2.2 y ob ho).2] at hid;cases hid⟩
 have sfT:∀ m,m<=ops.size->ZG (λj=>decide (j < m)) ops.size ef st0 (sf m):=by
  intro m
  induction m with
  | zero=>
   intro _
   rw [g1]
   exact ZG.init λj _=>by simp
  | succ m ih=>
   intro hm
   rw [(can m (by omega)).next]
   refine stepT _ _ (sf m) m (by omega) (ih (by omega)) (by simp) (λj=>?_) (λj id h1 _ h3 _=>?_) (λj s h1 _ h3 _=>?_) (λj s h1 _ h3 _=>?_)
   ·by_cases hj:j=m
    ·subst hj;simp
    ·rw [AX hj];congr 1;simp;omega
   ·simp at h3;omega
   ·simp at h3;omega
   ·simp at h3;omega
 have once:∀ j id,j < ops.size->(ef j).kl=some id->Kd (λm=>decide (m < j)) (λj=>(ef j).kl) ops.size id=false:=by
  intro j id hj hk
  cases hb:Kd (λm=>decide (m < j)) (λj=>(ef j).kl) ops.size id with
  | false=>rfl
  | true=>
   obtain ⟨m,h1,h2,h3⟩:=Kq.1 hb
   exact absurd (fkl j id hj hk).1 (fc1 m j id (by simpa using h2) hj h3)
 have main:∀ (fuel:Nat) (listed:Array Bool) (a:Act) (w:World) (X:St),listed.size=ops.size->QV6 (Xh ops.toList []) (ZB listed)->fuel+cnt (ZB listed) ops.size=ops.size->ZG (ZB listed) ops.size ef st0 X->
   Cu w0 M0 N X a as w->wpAnyS P ops Q fuel listed a w:=by
  intro fuel
  induction fuel with
  | zero=>
   intro listed a w X hsz hc hf hT s
   have hall:=QFG ops.size (by omega:cnt (ZB listed) ops.size=ops.size)
   refine ⟨?_,?_⟩
   ·apply List.eq_nil_iff_forall_not_mem.2
    intro j hj
    obtain ⟨h1,o,ho,_⟩:=mem_ready.1 hj
    have hj':j < ops.size:=(Am.1 ho).1
    rw [sQ (by omega),hall j hj'] at h1
    cases h1
   ·have hE':=sfT ops.size (Nat.le_refl _)
    have hkd:∀ id,Kd (ZB listed) (λj=>(ef j).kl) ops.size id=Kd (λj=>decide (j < ops.size)) (λj=>(ef j).kl) ops.size id:=by
     intro id
     rw [Bool.eq_iff_iff,Kq,Kq]
     exact ⟨λ⟨j,h1,_,h3⟩=>⟨j,h1,by simpa using h1,h3⟩,λ⟨j,h1,_,h3⟩=>⟨j,h1,hall j h1,h3⟩⟩
    have hkf:Kf (ZB listed) (λj=>(ef j).kl) ops.size=Kf (λj=>decide (j < ops.size)) (λj=>(ef j).kl) ops.size:=funext λid=>qN (hkd id)
    refine hQ _ a w g3 (s.sK (λi=>?_) (λi=>?_) ?_)
    ·rw [hT.s,hE'.s,hkf,MN (sel:=ZB listed) (KY:=λj=>decide (j < ops.size)) λj hj _=>by rw [hall j hj];simp [hj]]
    ·rw [hT.l,hE'.l,hkf,hkd,MN (sel:=ZB listed) (KY:=λj=>decide (j < ops.size)) λj hj _=>by rw [hall j hj];simp [hj]]
    ·rw [hT.k,hE'.k,hkf]
  | succ fuel ih=>
   intro listed a w X hsz hc hf hT s
   obtain ⟨j,hj,hjl⟩:∃ j,j < ops.size/\ZB listed j=false:=by
    apply Classical.byContradiction
    intro hne
    have:cnt (ZB listed) ops.size=ops.size:=QBV _ λj hj=>by
     cases hl:ZB listed j with
     | true=>rfl
     | false=>exact absurd ⟨j,hj,hl⟩ hne
    omega
   have QTm:Region.ready .any ops listed≠[]:=by
    obtain ⟨i,h1,h2,h3⟩:=least (p:=λi=>ZB listed i=false) j hjl
    have hi:i < ops.size:=by omega
    have:i∈Region.ready .any ops listed:=by
     refine mem_ready.2 ⟨by rw [sQ (by omega)];exact h2,ops[i],by simp [hi],λe he hb=>?_⟩
     have hlt:=hback i ops[i] e (by simp [hi]) he hb
     have:=h3 e.on hlt
     show ZB listed e.on=true
     simpa using this
    exact List.ne_nil_of_mem this
   refine ⟨λhr=>absurd hr QTm,λi hi=>?_⟩
   obtain ⟨h1,o,ho,he⟩:=mem_ready.1 hi
   have hi':i < ops.size:=(Am.1 ho).1
   have hoi:ops[i]! = o:=by
    rw [getElem!_pos ops i hi']
    exact (Am.1 ho).2
   rw [sQ (by omega)] at h1
   have hpred:∀ m,((Xh ops.toList []).getD i 0).testBit m=true->ZB listed m=true:=λm hb=>QEJ hc hi hb
   have hsucc:∀ m,((Xh ops.toList []).getD m 0).testBit i=true->ZB listed m=false:=by
    intro m hb
    cases hl:ZB listed m with
    | false=>rfl
    | true=>rw [hc m i hl hb] at h1;cases h1
   have hcan:=can i hi'
   rw [hoi] at hcan
   have hSi:=sfT i (by omega)
   have late:∀ k,i < k->k < ops.size->indep (rf i) (rf k)=false->ZB listed k=false:=λk hik hk QTi=>hsucc k (ord i k hik hk QTi)
   have early:∀ k,k < i->indep (rf k) (rf i)=false->ZB listed k=true:=λk hki QTi=>hpred k (ord k i hki hi' QTi)
   have iG:∀ j id,i < j->j < ops.size->ZB listed j=true->(ef j).kl=some id->id ∉ (rf i).ob:=by
    intro j id hij hj hl hk hin
    rw [late j hij hj (ind (.inr (.inr (.inr (.inr (.inr (.inr (.inl (bL ((rcd j hj).2.2.1.trans hk) hin))))))))) ] at hl
    cases hl
   have hsel:∀ k,k < ops.size->(∃ x,(ef k).d=some x/\x∈(rf i).rd)\/(∃ x,(ef k).o.map (·.1)=some x/\x∈(rf i).ob)->decide (k < i)=ZB listed k:=by
    intro k hk hw
    obtain ⟨r1,r2,_⟩:=rcd k hk
    rcases Nat.lt_trichotomy k i with hki | hki | hki
    ·rw [early k hki (ind ?_)]
     ·simp [hki]
     ·rcases hw with ⟨x,h1,h2⟩ | ⟨x,h1,h2⟩
      ·exact .inl (bL (r1.trans h1) h2)
      ·exact .inr (.inr (.inr (.inl (bL (r2.trans h1) h2))))
    ·subst hki
     rw [h1];simp
    ·rw [late k hki hk (ind ?_)]
     ·simp;omega
     ·rcases hw with ⟨x,h1,h2⟩ | ⟨x,h1,h2⟩
      ·exact .inr (.inl (bL (r1.trans h1) h2))
      ·exact .inr (.inr (.inr (.inr (.inl (bL (r2.trans h1) h2)))))
   have kdS:∀ x,x∈(rf i).rd->∀ v,(QA (λj=>decide (j < i)) (λj=>eS (ef j) x) ops.size).or (lk x st0.s)=some v->∀ id,Ho id v=true->Kd (λj=>decide (j < i)) (λj=>(ef j).kl) ops.size id=Kd (ZB listed) (λj=>(ef j).kl) ops.size id:=by
    intro x hx v hv id hid
    rw [Bool.eq_iff_iff]
    constructor
    ·intro hb
     obtain ⟨j,j1,j2,j3⟩:=Kq.1 hb
     have hji:j < i:=by simpa using j2
     refine Kq.2 ⟨j,j1,?_,j3⟩
     have hvj:=sJ (j:=j) (by omega) (by omega) hv (λw hw1 hw2 hw3=>by
      have:=QZ4 hw3
      subst this
      rcases Nat.lt_or_ge j w with hlt | hge
      ·exact fc1 j w id hlt (by omega) j3 (frv w id (by omega) hid)
      ·have:w=j:=by omega
       subst this
       rw [(fkl w id j1 j3).2.1] at hid
       cases hid)
     have hsj:=(sfT j (by omega)).s x
     rw [hvj] at hsj
     have hmem:x∈(rf j).ts:=by
      rw [(rcd j j1).2.2.2.1]
      exact yL j3 hsj (UH (VW (once j id j1 j3)) hid)
     exact early j hji (ind (.inr (.inr (.inr (.inr (.inr (.inr (.inr (.inl (QC7 hmem hx))))))))))
    ·intro hb
     obtain ⟨j,j1,j2,j3⟩:=Kq.1 hb
     rcases Nat.lt_trichotomy j i with hji | hji | hji
     ·exact Kq.2 ⟨j,j1,by simpa using hji,j3⟩
     ·subst hji;rw [h1] at j2;cases j2
     ·cases hn:Kd (λj=>decide (j < i)) (λj=>(ef j).kl) ops.size id with
      | true=>rfl
      | false=>
       exfalso
       have hsi:=hSi.s x
       rw [hv] at hsi
       have hin:=List.all_eq_true.1 hcan.inn x hx
       rw [hsi] at hin
       exact iG j id hji j1 j2 j3 (XE hin (UH (VW hn) hid))
   have kdY:∀ y,y∈(rf i).ob->Kd (λj=>decide (j < i)) (λj=>(ef j).kl) ops.size y=false/\Kd (ZB listed) (λj=>(ef j).kl) ops.size y=false:=by
    intro y hy
    constructor
    ·cases hb:Kd (λj=>decide (j < i)) (λj=>(ef j).kl) ops.size y with
     | false=>rfl
     | true=>
      obtain ⟨j,j1,j2,j3⟩:=Kq.1 hb
      exact absurd hy (fc1 j i y (by simpa using j2) hi' j3)
    ·cases hb:Kd (ZB listed) (λj=>(ef j).kl) ops.size y with
     | false=>rfl
     | true=>
      obtain ⟨j,j1,j2,j3⟩:=Kq.1 hb
      rcases Nat.lt_trichotomy j i with hji | hji | hji
      ·exact absurd hy (fc1 j i y hji hi' j3)
      ·subst hji;rw [h1] at j2;cases j2
      ·exact absurd hy (iG j y hji j1 j2 j3)
   have kdO:∀ y,y∈(rf i).ob->∀ v,(QA (λj=>decide (j < i)) (λj=>eO (ef j) y) ops.size).or (lk y st0.l)=some v->∀ id,ZW id v=true->Kd (λj=>decide (j < i)) (λj=>(ef j).kl) ops.size id=Kd (ZB listed) (λj=>(ef j).kl) ops.size id:=by
    intro y hy v hv id hid
    rw [Bool.eq_iff_iff]
    constructor
    ·intro hb
     obtain ⟨j,j1,j2,j3⟩:=Kq.1 hb
     have hji:j < i:=by simpa using j2
     refine Kq.2 ⟨j,j1,?_,j3⟩
     have hvj:=sJ (j:=j) (by omega) (by omega) hv (λw hw1 hw2 hw3=>by
      have hwo:=QTS hw3
      rcases Nat.lt_or_ge j w with hlt | hge
      ·exact fc1 j w id hlt (by omega) j3 ((fob w y v (by omega) hwo).2 id hid)
      ·have:w=j:=by omega
       subst this
       rw [((fkl w id j1 j3).2.2 y v hwo).2] at hid
       cases hid)
     have hsj:=(sfT j (by omega)).l y
     have hkj:Kd (λm=>decide (m < j)) (λj=>(ef j).kl) ops.size y=false:=by
      cases hb2:Kd (λm=>decide (m < j)) (λj=>(ef j).kl) ops.size y with
      | false=>rfl
      | true=>
       obtain ⟨m,m1,m2,m3⟩:=Kq.1 hb2
       have:m < j:=by simpa using m2
       exact absurd hy (fc1 m i y (by omega) hi' m3)
     rw [hvj,AX (by rw [hkj];simp)] at hsj
     have hmem:y∈(rf j).tb:=by
      rw [(rcd j j1).2.2.2.2]
      exact yL j3 hsj (QGs (VW (once j id j1 j3)) hid)
     exact early j hji (ind (.inr (.inr (.inr (.inr (.inr (.inr (.inr (.inr (QC7 hmem hy))))))))))
    ·intro hb
     obtain ⟨j,j1,j2,j3⟩:=Kq.1 hb
     rcases Nat.lt_trichotomy j i with hji | hji | hji
     ·exact Kq.2 ⟨j,j1,by simpa using hji,j3⟩
     ·subst hji;rw [h1] at j2;cases j2
     ·cases hn:Kd (λj=>decide (j < i)) (λj=>(ef j).kl) ops.size id with
      | true=>rfl
      | false=>
       exfalso
       have hsi:=hSi.l y
       rw [hv,AX (by rw [(kdY y hy).1];simp)] at hsi
       have hin:=List.all_eq_true.1 hcan.cl y hy
       rw [hsi] at hin
       cases v with
       | row t xs=>cases hid
       | mp kt vt es=>cases hid
       | var t c=>
        exact iG j id hji j1 j2 j3 (XE (rv:=Ce _ c) hin (UH (VW hn) hid))
       | lp c q=>
        exact iG j id hji j1 j2 j3 (XE (rv:=Ce _ c) hin (UH (VW hn) hid))
   have hAg:Ag (rf i).rd (rf i).ob (sf i) X:={
    s:=λx hx=>by
     rw [hT.s,hSi.s,<- MN (sel:=λj=>decide (j < i)) (KY:=ZB listed) λk hk hsome=>hsel k hk (.inl ⟨x,QTU hsome,hx⟩)]
     cases hv:(QA (λj=>decide (j < i)) (λj=>eS (ef j) x) ops.size).or (lk x st0.s) with
     | none=>rfl
     | some v=>exact congrArg some (YC v λid hid=>qN (kdS x hx v hv id hid))
    l:=λx hx=>by
     rw [hT.l,hSi.l,<- MN (sel:=λj=>decide (j < i)) (KY:=ZB listed) λk hk hsome=>hsel k hk (.inr ⟨x,QTT hsome,hx⟩),AX (by rw [(kdY x hx).1];simp),AX (by rw [(kdY x hx).2];simp)]
     cases hv:(QA (λj=>decide (j < i)) (λj=>eO (ef j) x) ops.size).or (lk x st0.l) with
     | none=>rfl
     | some v=>exact congrArg some (mP v λid hid=>qN (kdO x hx v hv id hid))
    b:=by rw [hT.b,hSi.b]
    n:=λx hx rv hl=>by
     have:=List.all_eq_true.1 hcan.inn x hx
     rw [hl] at this
     exact this
    c:=λx hx ty con hl=>by
     have:=List.all_eq_true.1 hcan.cl x hx
     rw [hl] at this
     exact this
    y:=λx hx con q hl=>by
     have:=List.all_eq_true.1 hcan.cl x hx
     rw [hl] at this
     exact this }
   have hrd:(rf i).rd=slotsOf o++(Q6 ops o).toList:=by rw [hcan.rc];rfl
   have nH:∀ d,o.dst=some d->newId (sf i) d∈(rf i).ob:=λd hdd=>by
    rw [hcan.rc]
    simp only [lC,hdd]
    simp
   have hstep:stepG E ops o X some=some (ef i):=by
    rw [<- QHg hAg (by rw [hrd];exact λ_ h=>h) nH]
    exact hcan.gives _ some
   intro o' ho'
   obtain rfl:=Au (ho.symm.trans ho')
   refine QCk hE s (hd i o ho) hstep _ λa' w' s'=>?_
   refine ih _ a' w' (nD (ef i) X) (by simp [hsz]) ?_ ?_ ?_ s'
   ·intro x m hx hb
    rw [qF (by omega)] at hx ⊢
    split
    ·rfl
    ·split at hx
     ·rename_i hxi;subst hxi;exact hpred m hb
     ·exact hc x m hx hb
   ·rw [QFH h1 (by rw [qF (by omega)];simp) (λx hx=>by rw [qF (by omega),AX hx]) ops.size hi']
    omega
   ·refine stepT _ _ X i hi' hT h1 (λk=>qF (by omega) k) iG (λk x hik hk hlk hsome=>?_) (λk x hik hk hlk hsome=>?_)
    ·cases hn:eS (ef k) x with
     | none=>rfl
     | some v=>
      rw [late k hik hk (ind (.inr (.inr (.inl (QCa ((rcd i hi').1.trans (QTU hsome)) ((rcd k hk).1.trans (QTU (by rw [hn];rfl))))))))] at hlk
      cases hlk
    ·cases hn:eO (ef k) x with
     | none=>rfl
     | some v=>
      rw [late k hik hk (ind (.inr (.inr (.inr (.inr (.inr (.inl (QCa ((rcd i hi').2.1.trans (QTT hsome)) ((rcd k hk).2.1.trans (QTT (by rw [hn];rfl)))))))))))] at hlk
      cases hlk
 have hinit:∀ i,ZB (Array.replicate ops.size false) i=false:=by
  intro i
  unfold ZB
  by_cases hi:i < ops.size <;> simp [hi]
 refine main ops.size _ a w st0 (by simp) (λi m hi=>by rw [hinit] at hi;cases hi) ?_ (ZG.init λj _=>hinit j) s
 have:∀ n,cnt (ZB (Array.replicate ops.size false)) n=0:=by
  intro n
  induction n with
  | zero=>rfl
  | succ n ih=>simp [cnt,ih,hinit]
 rw [this]
 omega
end
end Go.Lift
