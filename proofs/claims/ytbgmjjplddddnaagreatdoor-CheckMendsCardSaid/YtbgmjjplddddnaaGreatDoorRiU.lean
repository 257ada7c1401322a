import Derived.Test.YtbgmjjplddddnaaGreatDoorRiT
set_option linter.unusedSimpArgs false
namespace Go.Lift
open Go.RowKit
section
variable {V:Type} {sel Cy:Nat->Bool} {f:Nat->Option V}
def Dj (sel:Nat->Bool) (f:Nat->Option V):Nat->Option V
 | 0=>none
 | n+1=>if sel n=true/\(f n).isSome=true then f n else Dj sel f n
theorem DK:∀ {n:Nat},(∀ j,j < n->(f j).isSome=true->sel j=Cy j)->Dj sel f n=Dj Cy f n
 | 0,_=>rfl
 | n+1,h=>by
  simp only [Dj]
  rw [DK fun j hj=>h j (by omega)]
  cases hf:(f n).isSome with
  | false=>simp
  | true=>rw [h n (by omega) hf]
theorem G8 {v:V} {i:Nat}:∀ {n:Nat},i < n->sel i=true->f i=some v->(∀ j,i < j->j < n->sel j=true->f j=none)->Dj sel f n=some v
 | 0,h,_,_,_=>by omega
 | n+1,h,hs,hv,hn=>by
  simp only [Dj]
  by_cases hi:i=n
  ·subst hi
   rw [AY ⟨hs,by rw [hv];rfl⟩]
   exact hv
  ·rw [AX,G8 (by omega) hs hv fun j h1 h2=>hn j h1 (by omega)]
   rintro ⟨h1,h2⟩
   rw [hn n (by omega) (by omega) h1] at h2
   cases h2
end
section
variable {V:Type} {f:Nat->Option V}
theorem IK {sel:Nat->Bool}:∀ {n:Nat},(∀ j,j < n->sel j=false)->Dj sel f n=none
 | 0,_=>rfl
 | n+1,h=>by
  simp only [Dj]
  rw [AX (by rw [h n (by omega)];simp),IK fun j hj=>h j (by omega)]
theorem Jj {sel:Nat->Bool}:∀ {n:Nat},((∀ j,j < n->sel j=true->f j=none)/\Dj sel f n=none)∨∃ w,w < n/\sel w=true/\Dj sel f n=f w/\(f w).isSome=true/\∀ j,w < j->j < n->sel j=true->f j=none
 | 0=>.inl ⟨fun j hj=>by omega,rfl⟩
 | n+1=>by
  simp only [Dj]
  by_cases h:sel n=true/\(f n).isSome=true
  ·exact .inr ⟨n,by omega,h.1,by rw [AY h],h.2,fun j h1 h2=>by omega⟩
  ·rw [AX h]
   have hn:sel n=true->f n=none:=fun hs=>by
    cases hf:f n with
    | none=>rfl
    | some v=>exact absurd ⟨hs,by rw [hf];rfl⟩ h
   rcases Jj (sel:=sel) (n:=n) with ⟨h1,h2⟩ | ⟨w,h1,h2,h3,h4,h5⟩
   ·refine .inl ⟨fun j hj hs=>?_,h2⟩
    rcases Nat.lt_or_ge j n with hlt | hge
    ·exact h1 j hlt hs
    ·have:j=n:=by omega
     subst this;exact hn hs
   ·refine .inr ⟨w,by omega,h2,h3,h4,fun j hj1 hj2 hs=>?_⟩
    rcases Nat.lt_or_ge j n with hlt | hge
    ·exact h5 j hj1 hlt hs
    ·have:j=n:=by omega
     subst this;exact hn hs
theorem LK {base:Option V} {v:V} {i j n:Nat} (hji:j<=i) (_:i<=n) (h:(Dj (fun m=>decide (m < i)) f n).or base=some v) (hl:∀ w,j<=w->w < i->f w=some v->False):(Dj (fun m=>decide (m < j)) f n).or base=some v:=by
 rcases Jj (sel:=fun m=>decide (m < i)) (f:=f) (n:=n) with ⟨h1,h2⟩ | ⟨w,h1,h2,h3,h4,h5⟩
 ·rw [h2] at h
  rcases Jj (sel:=fun m=>decide (m < j)) (f:=f) (n:=n) with ⟨_,g2⟩ | ⟨w,g1,g2,g3,g4,_⟩
  ·rw [g2];exact h
  ·rw [h1 w g1 (by simp at g2 ⊢;omega)] at g4;cases g4
 ·rw [h3] at h
  have hw:w < i:=by simpa using h2
  cases hf:f w with
  | none=>rw [hf] at h4;cases h4
  | some u=>
   rw [hf] at h
   have hu:u=v:=by simpa using h
   subst hu
   have Zb:w < j:=by
    rcases Nat.lt_or_ge w j with hlt | hge
    ·exact hlt
    ·exact (hl w hge hw hf).elim
   rw [G8 (sel:=fun m=>decide (m < j)) h1 (by simpa using Zb) hf fun m hm1 hm2 ZX=>h5 m hm1 hm2 (by simp at ZX ⊢;omega)]
   rfl
end
def eS (e:Bq) (s:Nat):Option RV:=if e.d=some s then some e.rv else none
def eO (e:Bq) (id:Nat):Option Ob:=match e.o with
 | some p=>if p.1=id then some p.2 else none
 | none=>none
def D8:Option Nat->Nat->Option Nat
 | some d=>EG d
 | none=>some
theorem VK (kl:Option Nat) (st:St) (x:Nat):lk x (Ck kl st).s=(lk x st.s).map (Ba (D8 kl)):=by
 cases kl with
 | none=>cases h:lk x st.s <;> simp [Ck,D8,D9,h]
 | some d=>simp only [Ck,Da,D8,GK,G9]
theorem Nr (kl:Option Nat) (st:St) (i:Nat):lk i (Ck kl st).l=if kl=some i then none else (lk i st.l).map (Bz (D8 kl)):=by
 cases kl with
 | none=>cases h:lk i st.l <;> simp [Ck,D8,CW,h]
 | some d=>
  simp only [Ck,D8,G7,Ac]
  by_cases h:i=d
  ·subst h;simp
  ·rw [AX h,AX (fun e=>h e.symm)]
theorem VJ (kl:Option Nat) (st:St):(Ck kl st).k=Ei (D8 kl) st.k:=by
 cases kl with
 | none=>simp [Ck,D8,Ei,GK,D9]
 | some d=>rfl
theorem VI (kl:Option Nat) (st:St):(Ck kl st).b=st.b:=by cases kl <;> rfl
theorem XK (e:Bq) (st:St) (s:Nat):lk s (KM e st).s=(eS e s).or ((lk s st.s).map (Ba (D8 e.kl))):=by
 rw [← VK]
 unfold KM eS
 cases h:e.d with
 | none=>simp
 | some d=>
  simp only [BN,Ac]
  by_cases hd:s=d
  ·subst hd;simp
  ·rw [AX hd,AX (fun h=>hd h.symm)];rfl
theorem XJ (e:Bq) (st:St) (i:Nat):lk i (KM e st).l=(eO e i).or (if e.kl=some i then none else (lk i st.l).map (Bz (D8 e.kl))):=by
 rw [← Nr]
 unfold KM eO
 cases h:e.o with
 | none=>simp
 | some p=>
  obtain ⟨j,ob⟩:=p
  simp only [BN]
  by_cases hd:i=j
  ·subst hd;simp
  ·rw [AX hd,AX (fun h=>hd h.symm)];rfl
theorem XI (e:Bq) (st:St):(KM e st).k=Ei (D8 e.kl) st.k:=VJ e.kl st
theorem XH (e:Bq) (st:St):(KM e st).b=st.b:=VI e.kl st
theorem HV (f g:Nat->Option Nat):∀ rv,Ba f (Ba g rv)=Ba (fun i=>(g i).bind f) rv:=by
 intro rv
 induction rv with
 | row i=>simp only [Ba];cases g i <;> rfl
 | sub i lo hi=>simp only [Ba];cases g i <;> rfl
 | loc i p=>simp only [Ba];cases g i <;> rfl
 | mp i=>simp only [Ba];cases g i <;> rfl
 | yl i=>simp only [Ba];cases g i <;> rfl
 | Ee h c ih=>simp only [Ba,ih]
 | pair a b iha ihb=>simp only [Ba,iha,ihb]
 | agg t r ih=>simp only [Ba,ih]
 | Db r ih=>simp only [Ba,ih]
 | _=>rfl
theorem Fz {f g:Nat->Option Nat}:∀ rv,(∀ i,Cb i rv=true->f i=g i)->Ba f rv=Ba g rv:=by
 intro rv
 induction rv with
 | row i=>intro h;simp only [Ba,h i (by simp [Cb])]
 | sub i lo hi=>intro h;simp only [Ba,h i (by simp [Cb])]
 | loc i p=>intro h;simp only [Ba,h i (by simp [Cb])]
 | mp i=>intro h;simp only [Ba,h i (by simp [Cb])]
 | yl i=>intro h;simp only [Ba,h i (by simp [Cb])]
 | Ee _ c ih=>intro h;simp only [Ba,ih h]
 | pair a b iha ihb=>intro h;simp only [Ba,iha fun i hi=>h i (by simp [Cb,hi]),ihb fun i hi=>h i (by simp [Cb,hi])]
 | agg t r ih=>intro h;simp only [Ba,ih h]
 | Db r ih=>intro h;simp only [Ba,ih h]
 | _=>intro _;rfl
theorem Mq {f:Nat->Option Nat} {rv:RV} (h:∀ i,Cb i rv=true->f i=some i):Ba f rv=rv:=(Fz rv h).trans (D9 rv)
theorem FK {C:List Nat} {id:Nat}:∀ {rv:RV},Fe C rv=true->Cb id rv=true->id∈C:=by
 intro rv
 induction rv with
 | row i=>intro h h';have:=Aa h';subst this;exact BZ.1 h
 | sub i lo hi=>intro h h';have:=Aa h';subst this;exact BZ.1 h
 | loc i p=>intro h h';have:=Aa h';subst this;exact BZ.1 h
 | mp i=>intro h h';have:=Aa h';subst this;exact BZ.1 h
 | yl i=>intro h h';have:=Aa h';subst this;exact BZ.1 h
 | Ee _ c ih=>intro h h';exact ih h h'
 | pair a b iha ihb=>
  intro h h'
  simp only [Fe,AP] at h
  simp only [Cb,Bool.or_eq_true] at h'
  exact h'.elim (iha h.1) (ihb h.2)
 | agg t r ih=>intro h h';exact ih h h'
 | Db r ih=>intro h h';exact ih h h'
 | _=>intro _ h';cases h'
theorem EX {f:Nat->Option Nat} {id:Nat} (hf:f id=some id):∀ {rv:RV},Cb id rv=true->Cb id (Ba f rv)=true:=by
 intro rv
 induction rv with
 | row i=>intro h;have:=Aa h;subst this;simp only [Ba,hf];exact h
 | sub i lo hi=>intro h;have:=Aa h;subst this;simp only [Ba,hf];exact h
 | loc i p=>intro h;have:=Aa h;subst this;simp only [Ba,hf];exact h
 | mp i=>intro h;have:=Aa h;subst this;simp only [Ba,hf];exact h
 | yl i=>intro h;have:=Aa h;subst this;simp only [Ba,hf];exact h
 | Ee _ c ih=>intro h;exact ih h
 | pair a b iha ihb=>
  intro h
  simp only [Cb,Bool.or_eq_true] at h
  simp only [Ba,Cb,Bool.or_eq_true]
  exact h.imp iha ihb
 | agg t r ih=>intro h;exact ih h
 | Db r ih=>intro h;exact ih h
 | _=>intro h;cases h
theorem QY (f g:Nat->Option Nat) (o:Ob):Bz f (Bz g o)=Bz (fun i=>(g i).bind f) o:=by
 cases o with
 | var t c=>simp only [Bz,HV]
 | row t xs=>rfl
 | mp kt vt es=>rfl
 | lp c q=>simp only [Bz,HV]
theorem KE {f g:Nat->Option Nat} (o:Ob) (h:∀ i,GZ i o=true->f i=g i):Bz f o=Bz g o:=by
 cases o with
 | var t c=>simp only [Bz,Fz c h]
 | row t xs=>rfl
 | mp kt vt es=>rfl
 | lp c q=>simp only [Bz,Fz c h]
theorem LY {f:Nat->Option Nat} {o:Ob} (h:∀ i,GZ i o=true->f i=some i):Bz f o=o:=(KE o h).trans (CW o)
theorem Rw {f:Nat->Option Nat} {id:Nat} (hf:f id=some id) {o:Ob} (h:GZ id o=true):GZ id (Bz f o)=true:=by
 cases o with
 | var t c=>exact EX hf h
 | row t xs=>cases h
 | mp kt vt es=>cases h
 | lp c q=>exact EX hf h
theorem QX (f g:Nat->Option Nat) (k:List (Nat×List (Nat×RV))):Ei f (Ei g k)=Ei (fun i=>(g i).bind f) k:=by
 simp only [Ei,GK,List.map_map]
 refine List.map_congr_left fun p _=>?_
 simp only [Function.comp,List.map_map]
 congr 1
 refine List.map_congr_left fun q _=>?_
 simp only [Function.comp,HV]
def Kd (sel:Nat->Bool) (kf:Nat->Option Nat) (n id:Nat):Bool:=(List.range n).any fun j=>sel j&&decide (kf j=some id)
theorem C9 {sel:Nat->Bool} {kf:Nat->Option Nat} {n id:Nat}:Kd sel kf n id=true↔∃ j,j < n/\sel j=true/\kf j=some id:=by
 simp only [Kd,List.any_eq_true,List.mem_range,AP,AZ]
def Kf (sel:Nat->Bool) (kf:Nat->Option Nat) (n id:Nat):Option Nat:=if Kd sel kf n id=true then none else some id
theorem Qw {sel Cy:Nat->Bool} {kf:Nat->Option Nat} {n i:Nat} (hi:i < n) (hsel:∀ j,Cy j=if j=i then true else sel j) (id:Nat):Kd Cy kf n id=true↔Kd sel kf n id=true∨kf i=some id:=by
 rw [C9,C9]
 constructor
 ·rintro ⟨j,h1,h2,h3⟩
  rw [hsel] at h2
  by_cases hj:j=i
  ·subst hj;exact .inr h3
  ·rw [AX hj] at h2;exact .inl ⟨j,h1,h2,h3⟩
 ·rintro (⟨j,h1,h2,h3⟩ | h)
  ·exact ⟨j,h1,by rw [hsel,h2];simp,h3⟩
  ·exact ⟨i,hi,by rw [hsel];simp,h⟩
theorem NM {sel Cy:Nat->Bool} {kf:Nat->Option Nat} {n i:Nat} (hi:i < n) (hsel:∀ j,Cy j=if j=i then true else sel j) (id:Nat):(Kf sel kf n id).bind (D8 (kf i))=Kf Cy kf n id:=by
 have h:=Qw (kf:=kf) hi hsel id
 unfold Kf
 by_cases h1:Kd sel kf n id=true
 ·rw [AY h1,AY (h.2 (.inl h1))];rfl
 ·rw [AX h1,AA]
  by_cases h2:kf i=some id
  ·rw [AY (h.2 (.inr h2)),h2]
   simp [D8,EG]
  ·rw [AX (fun h3=>(h.1 h3).elim h1 h2)]
   cases hk:kf i with
   | none=>rfl
   | some d=>exact LJ fun e=>h2 (by rw [hk,e])
theorem KY {sel:Nat->Bool} {kf:Nat->Option Nat} {n:Nat} (h:∀ j,j < n->sel j=false) (id:Nat):Kd sel kf n id=false:=by
 cases hb:Kd sel kf n id with
 | false=>rfl
 | true=>
  obtain ⟨j,h1,h2,_⟩:=C9.1 hb
  rw [h j h1] at h2
  cases h2
theorem Er {sel:Nat->Bool} {kf:Nat->Option Nat} {n id:Nat} (h:Kd sel kf n id=false):Kf sel kf n id=some id:=by
 unfold Kf
 rw [AX (by rw [h];simp)]
theorem Kk {sel Cy:Nat->Bool} {kf:Nat->Option Nat} {n id:Nat} (h:Kd sel kf n id=Kd Cy kf n id):Kf sel kf n id=Kf Cy kf n id:=by
 unfold Kf
 rw [h]
structure GR (sel:Nat->Bool) (n:Nat) (ef:Nat->Bq) (st0 X:St):Prop where
 s:∀ s,lk s X.s=((Dj sel (fun j=>eS (ef j) s) n).or (lk s st0.s)).map (Ba (Kf sel (fun j=>(ef j).kl) n))
 l:∀ i,lk i X.l=if Kd sel (fun j=>(ef j).kl) n i=true then none else ((Dj sel (fun j=>eO (ef j) i) n).or (lk i st0.l)).map (Bz (Kf sel (fun j=>(ef j).kl) n))
 k:X.k=Ei (Kf sel (fun j=>(ef j).kl) n) st0.k
 b:X.b=st0.b
theorem GR.init {sel:Nat->Bool} {n:Nat} {ef:Nat->Bq} {st0:St} (h:∀ j,j < n->sel j=false):GR sel n ef st0 st0 where
 s:=fun s=>by
  rw [IK h]
  show lk s st0.s=Option.map _ (lk s st0.s)
  cases lk s st0.s with
  | none=>rfl
  | some v=>exact congrArg some (Mq fun i _=>Er (KY h i)).symm
 l:=fun s=>by
  rw [IK h,AX (by rw [KY h];simp)]
  show lk s st0.l=Option.map _ (lk s st0.l)
  cases lk s st0.l with
  | none=>rfl
  | some v=>exact congrArg some (LY fun i _=>Er (KY h i)).symm
 k:=by
  have:Kf sel (fun j=>(ef j).kl) n=some:=funext fun i=>Er (KY h i)
  rw [this]
  simp [Ei,GK,D9]
 b:=rfl
theorem GR.step {sel Cy:Nat->Bool} {n i:Nat} {ef:Nat->Bq} {st0 X:St} (h:GR sel n ef st0 X) (hi:i < n) (hsel:∀ j,Cy j=if j=i then true else sel j) (hni:sel i=false)
  (hs:∀ j s,i < j->j < n->sel j=true->(eS (ef i) s).isSome=true->eS (ef j) s=none) (hl:∀ j s,i < j->j < n->sel j=true->(eO (ef i) s).isSome=true->eO (ef j) s=none)
  (hv:∀ x v id,eS (ef i) x=some v->Cb id v=true->Kd Cy (fun j=>(ef j).kl) n id=false) (ho:∀ y ob,eO (ef i) y=some ob->Kd Cy (fun j=>(ef j).kl) n y=false/\∀ id,GZ id ob=true->Kd Cy (fun j=>(ef j).kl) n id=false):GR Cy n ef st0 (KM (ef i) X) where
 s:=by
  intro s
  rw [XK,h.s]
  cases hvs:eS (ef i) s with
  | some v=>
   rw [G8 (sel:=Cy) hi (by rw [hsel];simp) hvs fun j h1 h2 h3=>hs j s h1 h2 (by rw [hsel,AX (by omega)] at h3;exact h3) (by rw [hvs];rfl)]
   show some v=some (Ba _ v)
   rw [Mq]
   intro id hid
   unfold Kf
   rw [AX (by rw [hv s v id hvs hid];simp)]
  | none=>
   rw [DK (sel:=Cy) (Cy:=sel) fun j hj hsome=>?_]
   ·rw [Option.map_map]
    show Option.map _ _=Option.map _ _
    congr 1
    funext rv
    simp only [Function.comp,HV]
    congr 1
    funext id
    exact NM (kf:=fun j=>(ef j).kl) hi hsel id
   ·rw [hsel]
    split
    ·rename_i e;subst e;rw [hvs] at hsome;cases hsome
    ·rfl
 l:=by
  intro s
  rw [XJ,h.l]
  cases hvs:eO (ef i) s with
  | some v=>
   obtain ⟨k1,k2⟩:=ho s v hvs
   rw [G8 (sel:=Cy) hi (by rw [hsel];simp) hvs fun j h1 h2 h3=>hl j s h1 h2 (by rw [hsel,AX (by omega)] at h3;exact h3) (by rw [hvs];rfl),AX (show ¬ Kd Cy (fun j=>(ef j).kl) n s=true by rw [k1];simp)]
   show some v=some (Bz _ v)
   rw [LY]
   intro id hid
   unfold Kf
   rw [AX (by rw [k2 id hid];simp)]
  | none=>
   have hk:=Qw (kf:=fun j=>(ef j).kl) hi hsel s
   rw [DK (sel:=Cy) (Cy:=sel) fun j hj hsome=>?_]
   ·show (if (ef i).kl=some s then none else _)=_
    by_cases h1:Kd sel (fun j=>(ef j).kl) n s=true
    ·rw [AY h1,AY (hk.2 (.inl h1))];simp
    ·by_cases h2:(ef i).kl=some s
     ·rw [AY h2,AY (hk.2 (.inr h2))]
     ·rw [AX h1,AX h2,AX (fun h3=>(hk.1 h3).elim h1 h2),Option.map_map]
      congr 1
      funext rv
      simp only [Function.comp,QY]
      congr 1
      funext id
      exact NM (kf:=fun j=>(ef j).kl) hi hsel id
   ·rw [hsel]
    split
    ·rename_i e;subst e;rw [hvs] at hsome;cases hsome
    ·rfl
 k:=by
  rw [XI,h.k,QX]
  congr 1
  funext id
  exact NM (kf:=fun j=>(ef j).kl) hi hsel id
 b:=by rw [XH,h.b]
section
variable {P:Program} {E:Bn} {Q:Exit->Act->World->Prop} {o:Oper} {w0:World} {M0:Bs} {N:Nat} {M M':Own} {β β':Nat->Nat} {τ τ':Nat->Value} {st st':St} {a:Act} {as:List Act} {w w':World} {id:Nat}
theorem RR.LM {L L':List (Nat×Ob)} (h:∀ i,lk i L=lk i L') {rv:RV} {m:Mo} {cs:List Value} (r:RR M w β τ L rv m cs):RR M w β τ L' rv m cs:=
 r.keep fun i j ob e hl=>by
  cases e
  exact ⟨ob,by rw [← h];exact hl,rfl,rfl,rfl⟩
theorem Ig.LM {L L':List (Nat×Ob)} (h:∀ i,lk i L=lk i L'):∀ {k:List (Nat×List (Nat×RV))} {as:List Act},Ig M w β τ L k as->Ig M w β τ L' k as
 | [],[],_=>trivial
 | _::_,_::_,hh=>⟨fun i rv hi=>by obtain ⟨u,h1,h2⟩:=hh.1 i rv hi;exact ⟨u,h1,h2.LM h⟩,Ig.LM h hh.2⟩
 | [],_::_,hh=>hh.elim
 | _::_,[],hh=>hh.elim
theorem Sm.LM (s:Sm w0 M0 N M β τ st a as w) (hs:∀ i,lk i st.s=lk i st'.s) (hl:∀ i,lk i st.l=lk i st'.l) (hk:st.k=st'.k):Sm w0 M0 N M β τ st' a as w where
 df:=s.df
 sz:=s.sz
 Cq:=s.Cq
 mlt:=s.mlt
 Fg:=s.Fg
 gk:=s.gk
 gx:=s.gx
 kp:=s.kp
 CJ:=s.CJ
 fr:=fun i rv hi=>by
  obtain ⟨u,h1,h2⟩:=s.fr i rv (by rw [hs];exact hi)
  exact ⟨u,h1,h2.LM hl⟩
 fs:=hk ▸ s.fs.LM hl
 ob:=fun i ob hi=>by
  have:=s.ob i ob (by rw [hl];exact hi)
  cases ob with
  | var ty con=>
   obtain ⟨h1,⟨cs,T,h2,h3⟩,h4⟩:=this
   exact ⟨h1,⟨cs,T,h2,h3.LM hl⟩,h4⟩
  | row ty xs=>exact this
  | mp kt vt es=>exact this
  | lp c q=>
   obtain ⟨h1,⟨r,h2,h3,m,h5⟩,h4⟩:=this
   exact ⟨h1,⟨r,h2,h3,m,h5.LM hl⟩,h4⟩
 dj:=fun i j ob Ci b h1 h2=>s.dj i j ob Ci b (by rw [hl];exact h1) (by rw [hl];exact h2)
theorem Bb.LM (s:Bb w0 M0 N st a as w) (hs:∀ i,lk i st.s=lk i st'.s) (hl:∀ i,lk i st.l=lk i st'.l) (hk:st.k=st'.k):Bb w0 M0 N st' a as w:=by
 obtain ⟨M,β,τ,s⟩:=s
 exact ⟨M,β,τ,s.LM hs hl hk⟩
theorem IX (g:Nat) (b:Bool):∀ (s:List (Nat×RV)),lk g s=some (.val ⟨.bool,b⟩)->Ez g b s=s
 | [],h=>by simp [lk] at h
 | (j,x)::r,h=>by
  rw [BN] at h
  simp only [Ez]
  split at h
  ·rename_i e
   subst e
   cases h
   simp
  ·rename_i e
   have:Nat.beq g j=false:=by cases hb:Nat.beq g j with | false=>rfl | true=>exact absurd (Aa hb) e
   simp only [this,AJ,IX g b r h]
theorem QK {ops:Array Oper} {α:Type} {run skip:St->Option α} {r:α} (h:QJ ops o st run skip=some r) :
  (run st=some r/\∀ (γ:Type) (k':Bq->Option γ),stepG E ops o st k'=Fb E o st k')∨(skip st=some r/\∀ (γ:Type) (k':Bq->Option γ),stepG E ops o st k'=k' ⟨o.dst,.Db .unit,none,none⟩):=by
 unfold QJ at h
 cases hg:o.guard with
 | none=>
  simp only [hg] at h
  exact .inl ⟨h,fun γ k'=>by simp only [stepG,hg]⟩
 | some p=>
  obtain ⟨j,want⟩:=p
  simp only [hg] at h
  cases hs:D5 ops o with
  | none=>rw [hs] at h;cases h
  | some g=>
   simp only [hs] at h
   split at h
   ·rename_i b hl
    cases b with
    | true=>
     rw [IX g true _ hl] at h
     cases want with
     | true=>exact .inl ⟨h,fun γ k'=>by simp only [stepG,hg,hs,hl,AL]⟩
     | false=>exact .inr ⟨h,fun γ k'=>by simp only [stepG,hg,hs,hl,AL,AJ]⟩
    | false=>
     rw [IX g false _ hl] at h
     cases want with
     | true=>exact .inr ⟨h,fun γ k'=>by simp only [stepG,hg,hs,hl,AL,AJ]⟩
     | false=>exact .inl ⟨h,fun γ k'=>by simp only [stepG,hg,hs,hl,AJ]⟩
   ·rename_i hl
    exact .inr ⟨h,fun γ k'=>by simp only [stepG,hg,hs,hl]⟩
   ·cases h
theorem Qx {args:Array Operand} {ts:Array TypeId}:PC (fun β (k:((e:Ty)×List e.den×Option Nat)->Option β)=>NR E args ts st fun e z old=>k ⟨e,z,old⟩):=by
 unfold NR
 split
 ·split
  ·rename_i sx x t u _ _ _ e _
   exact PC.bind (X:=(e:Ty)×List e.den×Option Nat) fun xs=>Vf (X:=(e:Ty)×List e.den×Option Nat) (g:=fun β ys k=>bif Nat.ble 1 e.n&&Nat.ble (List.length xs.1+List.length ys) (QU E e) then k ⟨e,List.append xs.1 ys,xs.2⟩ else none) (fun ys=>PC.bif (PC.ret _) PC.none) (PC.bind fun ys=>PC.bif (PC.ret _) PC.none)
  ·exact PC.none
 ·exact PC.none
theorem JF:PC (fun β (k:Bq->Option β)=>Fb E o st k):=by
 unfold Fb
 split
 ·exact (Jv (E:=E) (st:=st)).comp (F:=fun β (k:Nat×Ob->Option β)=>FD E _ _ _ st fun id ob=>k (id,ob)) (Y:=Bq) (G:=fun β (q:Nat×Ob) (k:Bq->Option β)=>k (⟨none,.any,some q,none⟩:Bq)) fun q=>PC.ret _
 ·exact (Nt (E:=E) (st:=st)).comp (F:=fun β (k:Nat×Ob->Option β)=>MN E _ _ _ _ st fun id ob=>k (id,ob)) (Y:=Bq) (G:=fun β (q:Nat×Ob) (k:Bq->Option β)=>k (⟨none,.any,some q,none⟩:Bq)) fun q=>PC.ret _
 ·rename_i args ts d _ _
  simp only [Bo]
  split
  ·exact (Qx (E:=E) (st:=st) (args:=args) (ts:=ts)).comp (F:=fun β (k:((e:Ty)×List e.den×Option Nat)->Option β)=>NR E args ts st fun e z old=>k ⟨e,z,old⟩) (Y:=Bq) (G:=fun β (q:(e:Ty)×List e.den×Option Nat) (k:Bq->Option β)=>k (⟨some d,.row (newId st d),some (newId st d,.row q.1 q.2.1),q.2.2⟩:Bq)) fun q=>PC.ret _
  ·exact PC.none
 ·rename_i t n parts d _ _
  simp only [Bo]
  split
  ·split
   ·exact (Ld (E:=E) (o:=o) (st:=st) (id:=newId st d)).comp (F:=fun β (k:RV×Option Ob->Option β)=>CP E o st (newId st d) fun rv ob=>k (rv,ob)) (Y:=Bq) (G:=fun β (q:RV×Option Ob) (k:Bq->Option β)=>k (⟨some d,q.1,q.2.map fun ob=>(newId st d,ob),none⟩:Bq)) fun q=>PC.ret _
   ·rename_i old _ _
    exact (MZ (E:=E) (st:=st) (t:=t) (n:=n) (parts:=parts.toList) (id:=old)).comp (F:=fun β (k:((e:Ty)×List e.den)->Option β)=>Fp E t n parts.toList old st fun e z=>k ⟨e,z⟩) (Y:=Bq) (G:=fun β (q:(e:Ty)×List e.den) (k:Bq->Option β)=>k (⟨some d,.row (newId st d),some (newId st d,.row q.1 q.2),some old⟩:Bq)) fun q=>PC.ret _
  ·exact PC.none
 ·rename_i d _ _ _
  simp only [Bo]
  refine PK (fun c a t r=>(N9 (E:=E) (st:=st)).comp (F:=fun β (k:Nat×Ob×RV->Option β)=>KX E c a t r st fun id ob rv=>k (id,ob,rv)) (Y:=Bq) (G:=fun β (q:Nat×Ob×RV) (k:Bq->Option β)=>k (⟨some d,q.2.2,some (q.1,q.2.1),none⟩:Bq)) fun q=>PC.ret _) ?_
  split
  ·exact PK (fun c a t r=>(LA (E:=E) (st:=st)).comp (F:=fun β (k:((e:Ty)×List e.den×Option Nat)->Option β)=>H6 E c a t r st fun e z old=>k ⟨e,z,old⟩) (Y:=Bq) (G:=fun β (q:(e:Ty)×List e.den×Option Nat) (k:Bq->Option β)=>k (⟨some d,.row (newId st d),some (newId st d,.row q.1 q.2.1),q.2.2⟩:Bq)) fun q=>PC.ret _) ((Ld (E:=E) (o:=o) (st:=st) (id:=newId st d)).comp (F:=fun β (k:RV×Option Ob->Option β)=>CP E o st (newId st d) fun rv ob=>k (rv,ob)) (Y:=Bq) (G:=fun β (q:RV×Option Ob) (k:Bq->Option β)=>k (⟨some d,q.1,q.2.map fun ob=>(newId st d,ob),none⟩:Bq)) fun q=>PC.ret _)
  ·exact PC.none
 ·exact PC.none
theorem X3 {ops:Array Oper}:PC (fun β (k:Bq->Option β)=>stepG E ops o st k):=by
 unfold stepG
 split
 ·exact JF
 ·split
  ·split
   ·exact PC.bif (PC.bif JF (PC.ret _)) (PC.bif (PC.ret _) JF)
   ·exact PC.ret _
   ·exact PC.none
  ·exact PC.none
theorem KJ (hE:BS P E) (s:Bb w0 M0 N st a as w) (hd:∀ d,o.dst=some d->d < N) {e:Bq} (h:Fb E o st some=some e):V9 P Q w0 M0 N o a as w (KM e st):=by
 unfold Fb at h
 split at h
 ·rename_i t x y hop hdst
  obtain ⟨⟨i,ob⟩,h1,h2⟩:=Jv (E:=E) (st:=st) _ (fun q:Nat×Ob=>some (⟨none,.any,some q,none⟩:Bq)) _ h
  cases h2
  obtain ⟨g1,g2⟩:=JG (Q:=Q) hE s hop hdst (h1 _ some)
  intro K hK
  refine g1 K fun a' w' hs=>hK a' w' (hs.LM (fun _=>rfl) (fun j=>?_) rfl)
  simp only [Bl,KM]
  rw [DR,BN]
  split
  ·cases hl:lk i st.l with
   | none=>rw [hl] at g2;cases g2
   | some _=>rfl
  ·rfl
 ·rename_i t m x y hop hdst
  obtain ⟨⟨i,ob⟩,h1,h2⟩:=Nt (E:=E) (st:=st) _ (fun q:Nat×Ob=>some (⟨none,.any,some q,none⟩:Bq)) _ h
  cases h2
  obtain ⟨g1,g2⟩:=LX (Q:=Q) hE s hop hdst (h1 _ some)
  intro K hK
  refine g1 K fun a' w' hs=>hK a' w' (hs.LM (fun _=>rfl) (fun j=>?_) rfl)
  simp only [Bl,KM]
  rw [DR,BN]
  split
  ·cases hl:lk i st.l with
   | none=>rw [hl] at g2;cases g2
   | some _=>rfl
  ·rfl
 ·rename_i args ts d hop hdst
  simp only [Bo] at h
  split at h
  ·rename_i hnone
   obtain ⟨⟨t,z,old⟩,h1,h2⟩:=Qx (E:=E) (st:=st) (args:=args) (ts:=ts) _ (fun q:(e:Ty)×List e.den×Option Nat=>some (⟨some d,.row (newId st d),some (newId st d,.row q.1 q.2.1),q.2.2⟩:Bq)) _ h
   cases h2
   intro K hK
   have hfree:lk (newId st d) (Ck old st).l=none:=by
    rw [Nr,hnone]
    split <;> rfl
   have hf2:Bj (newId st d) (Ck old st)=Ck old st:=by unfold Bj;rw [hfree]
   letI:DecidableEq St:=fun _ _=>Classical.propDecidable _
   have heff:Dc (α:=St) E (fun _ _ _=>none) ⟨[],[],[],[],[],[],[],[],[]⟩ o st some=some (Ch (addN (newId st d) (.row t z) (Ck old st)) (some d) (.row (newId st d))):=by
    unfold Dc
    simp only [hop,hdst,Bo]
    exact (h1 St (fun q=>some (Ch (addN (newId st d) (.row q.1 q.2.1) (Bj (newId st d) (Ck q.2.2 st))) (some d) (.row (newId st d))))).trans (by simp only [hf2])
   refine Ih (Q:=Q) hE s hd hop hdst rfl heff K fun st' a' w' he hs=>?_
   cases he
   exact hK a' w' (hs.LM (fun _=>rfl) (fun _=>rfl) rfl)
  ·cases h
 ·rename_i t n parts d hop hdst
  simp only [Bo] at h
  split at h
  ·rename_i hnone
   split at h
   ·obtain ⟨⟨rv,ob⟩,h1,h2⟩:=Ld (E:=E) (o:=o) (st:=st) (id:=newId st d) _ (fun q:RV×Option Ob=>some (⟨some d,q.1,q.2.map fun ob=>(newId st d,ob),none⟩:Bq)) _ h
    cases h2
    obtain ⟨M,β,τ,s⟩:=s
    intro K hK
    refine Jm (Q:=Q) hE s hd hnone (h1 _ some) K fun a' w' hs=>hK a' w' ?_
    refine hs.LM (fun j=>?_) (fun j=>?_) ?_
    ·cases ob <;> (rw [hdst];rfl)
    ·cases ob <;> (rw [hdst];rfl)
    ·cases ob <;> (rw [hdst];rfl)
   ·rename_i old _ _
    obtain ⟨⟨e0,z⟩,h1,h2⟩:=MZ (E:=E) (st:=st) (t:=t) (n:=n) (parts:=parts.toList) (id:=old) _ (fun q:(e:Ty)×List e.den=>some (⟨some d,.row (newId st d),some (newId st d,.row q.1 q.2),some old⟩:Bq)) _ h
    cases h2
    obtain ⟨M,β,τ,s⟩:=s
    intro K hK
    refine NT (Q:=Q) hE s hd hnone hop (h1 _ some) K fun a' w' hs=>hK a' w' (hs.LM (fun j=>?_) (fun j=>?_) ?_)
    ·rw [hdst];rfl
    ·rw [hdst];rfl
    ·rw [hdst];rfl
  ·cases h
 ·rename_i d hdst _ _
  simp only [Bo] at h
  rcases M8 h with ⟨f,args,ts,g,caps,c,hop,hf,hc,h⟩ | h
  ·obtain ⟨⟨i,ob,rv⟩,h1,h2⟩:=N9 (E:=E) (st:=st) _ (fun q:Nat×Ob×RV=>some (⟨some d,q.2.2,some (q.1,q.2.1),none⟩:Bq)) _ h
   cases h2
   obtain ⟨M,β,τ,s⟩:=s
   intro K hK
   refine (Jr (Q:=Q) hE s hop hf hc (h1 _ some) K fun M' v w' s' r'=>hK _ _ ?_).2
   refine Bb.LM ⟨M',β,τ,s'.set o.dst hd r'⟩ (fun j=>by rw [hdst];rfl) (fun j=>?_) (by rw [hdst];rfl)
   have hsome:=(Jr (Q:=Q) hE s hop hf hc (h1 _ some) (fun _ _=>True) fun _ _ _ _ _=>trivial).1
   rw [hdst]
   simp only [Ch,Bl,KM]
   rw [DR,BN]
   split
   ·cases hl:lk i st.l with
    | none=>rw [hl] at hsome;cases hsome
    | some _=>rfl
   ·rfl
  split at h
  ·rename_i hnone
   rcases M8 h with ⟨f,args,ts,g,caps,c,hop,hf,hc,h⟩ | h
   ·obtain ⟨q,h1,h2⟩:=LA (E:=E) (st:=st) _ (fun q:(e:Ty)×List e.den×Option Nat=>some (⟨some d,.row (newId st d),some (newId st d,.row q.1 q.2.1),q.2.2⟩:Bq)) _ h
    cases h2
    intro K hK
    refine LB (Q:=Q) hE s hd hop hf hc hdst (h1 _ some) K fun a' w' hs=>?_
    have hfree:lk (newId st d) (Ck q.2.2 st).l=none:=by
     rw [Nr,hnone]
     split <;> rfl
    have hf2:Bj (newId st d) (Ck q.2.2 st)=Ck q.2.2 st:=by unfold Bj;rw [hfree]
    rw [hf2] at hs
    exact hK a' w' (hs.LM (fun _=>rfl) (fun _=>rfl) rfl)
   obtain ⟨⟨rv,ob⟩,h1,h2⟩:=Ld (E:=E) (o:=o) (st:=st) (id:=newId st d) _ (fun q:RV×Option Ob=>some (⟨some d,q.1,q.2.map fun ob=>(newId st d,ob),none⟩:Bq)) _ h
   cases h2
   obtain ⟨M,β,τ,s⟩:=s
   intro K hK
   refine Jm (Q:=Q) hE s hd hnone (h1 _ some) K fun a' w' hs=>hK a' w' ?_
   refine hs.LM (fun j=>?_) (fun j=>?_) ?_
   ·cases ob <;> (rw [hdst];rfl)
   ·cases ob <;> (rw [hdst];rfl)
   ·cases ob <;> (rw [hdst];rfl)
  ·cases h
 ·cases h
theorem Pp (s:Sm w0 M0 N M β τ st a as w) {ops:Array Oper} {j g:Nat} {b:Bool} (hg:(ops[j]?).bind (·.dst)=some g) (hl:lk g st.s=some (.val ⟨.bool,b⟩)):yielded ops a.tmps j=some b:=by
 obtain ⟨u,hu,u',e,hv⟩:=s.fr g _ hl
 cases e
 have hb:=hv.bool
 simp [yielded,hg,hu,hb]
theorem JH:RR M w β τ st.l (.Db .unit) .sl [undef]:=by
 simp only [RR]
 exact ⟨trivial,[],rfl,rfl⟩
theorem JK (s:Sm w0 M0 N M β τ st a as w) {ops:Array Oper} {j g:Nat} (hg:(ops[j]?).bind (·.dst)=some g) (hl:lk g st.s=some (.Db .unit)):yielded ops a.tmps j=none:=by
 obtain ⟨u,hu,r⟩:=s.fr g _ hl
 simp only [RR] at r
 obtain ⟨_,us,e,h⟩:=r
 subst h
 cases e
 simp [yielded,hg,hu]
theorem Pg (hE:BS P E) (s:Bb w0 M0 N st a as w) (hd:∀ d,o.dst=some d->d < N) {ops:Array Oper} {e:Bq} (h:stepG E ops o st some=some e) (K:Act->World->Prop) (hK:∀ a' w',Bb w0 M0 N (KM e st) a' as w'->K a' w'):GStep P Q ops o a w K:=by
 unfold GStep
 unfold stepG at h
 split at h
 ·rename_i hg
  simp only [Region.wanted,hg,if_true]
  exact KJ (Q:=Q) hE s hd h K hK
 ·rename_i j want hg
  split at h
  ·rename_i g hgd
   simp only [D5,hg] at hgd
   split at h
   ·rename_i b hlk
    have hy:yielded ops a.tmps j=some b:=by
     obtain ⟨M,β,τ,s⟩:=s
     exact Pp s hgd hlk
    have run:Fb E o st some=some e->Region.wanted o (yielded ops a.tmps)=true->(if Region.wanted o (yielded ops a.tmps) then o.wp P a w K Q else K (a.put o.dst undef) w):=by
     intro h hw
     rw [AY hw]
     exact KJ (Q:=Q) hE s hd h K hK
    have skip:some (⟨o.dst,.Db .unit,none,none⟩:Bq)=some e->Region.wanted o (yielded ops a.tmps)=false->(if Region.wanted o (yielded ops a.tmps) then o.wp P a w K Q else K (a.put o.dst undef) w):=by
     intro h hw
     cases h
     rw [AX (by simp [hw])]
     obtain ⟨M,β,τ,s⟩:=s
     refine hK _ _ ⟨M,β,τ,(s.set o.dst hd (rv:=.Db .unit) JH).LM (fun j=>?_) (fun j=>?_) ?_⟩
     ·unfold Ch KM;cases o.dst <;> rfl
     ·unfold Ch KM;cases o.dst <;> rfl
     ·unfold Ch KM;cases o.dst <;> rfl
    cases b with
    | true=>
     cases want with
     | true=>exact run h (by simp [Region.wanted,hg,hy])
     | false=>exact skip h (by simp [Region.wanted,hg,hy])
    | false=>
     cases want with
     | true=>exact skip h (by simp [Region.wanted,hg,hy])
     | false=>exact run h (by simp [Region.wanted,hg,hy])
   ·rename_i hlk
    obtain ⟨M,β,τ,s⟩:=s
    have hy:=JK s hgd hlk
    have hw:Region.wanted o (yielded ops a.tmps)=false:=by simp [Region.wanted,hg,hy]
    cases h
    rw [AX (by simp [hw])]
    refine hK _ _ ⟨M,β,τ,(s.set o.dst hd (rv:=.Db .unit) JH).LM (fun j=>?_) (fun j=>?_) ?_⟩
    ·unfold Ch KM;cases o.dst <;> rfl
    ·unfold Ch KM;cases o.dst <;> rfl
    ·unfold Ch KM;cases o.dst <;> rfl
   ·cases h
  ·cases h
theorem Si {S C:List Nat} (h:Ag S C st st') (hS:∀ i∈slotsOf o,i∈S) (hid:∀ d,o.dst=some d->newId st d∈C) {α:Type} (k:Bq->Option α):Fb E o st k=Fb E o st' k:=by
 unfold Fb
 split
 ·rename_i t x y hop hdst
  exact Qq h (fun i hi=>hS i (Cz (by simp [hop,Op.operands,hi]))) (fun i hi=>hS i (Cz (by simp [hop,Op.operands,hi]))) _
 ·rename_i t m x y hop hdst
  exact Tt h (fun i hi=>hS i (Cz (by simp [hop,Op.operands,hi]))) (fun i hi=>hS i (Cz (by simp [hop,Op.operands,hi]))) (fun i hi=>hS i (Cz (by simp [hop,Op.operands,hi]))) _
 ·rename_i args ts d hop hdst
  have hb:newId st' d=newId st d:=by simp only [newId,Bo,h.b]
  simp only [Bo]
  rw [hb,← h.l _ (hid d hdst)]
  split
  ·exact TD h (fun i hi=>hS i (Cz (by simp [hop,Op.operands,Call.operands];simpa using hi))) _
  ·rfl
 ·rename_i t n parts d hop hdst
  have hb:newId st' d=newId st d:=by simp only [newId,Bo,h.b]
  simp only [Bo]
  rw [hb,← h.l _ (hid d hdst),← SN h hS]
  have hin:=UC h hS
  split
  ·split
   ·exact RI h hS _ _
   ·rename_i old r heq
    refine P6 h (fun i hi=>hS i (Cz ?_)) (hin old (by rw [heq];simp)) _
    rw [hop]
    simp only [Op.operands]
    simpa using hi
  ·rfl
 ·rename_i d hdst _ _
  have hb:newId st' d=newId st d:=by simp only [newId,Bo,h.b]
  simp only [Bo]
  rw [hb,← h.l _ (hid d hdst)]
  refine M9 h hS ?_ fun c args ts caps h1 h2=>UO h h1 h2 _
  split
  ·exact M9 h hS (RI h hS _ _) fun c args ts caps h1 _=>Rv h h1 _
  ·rfl
 ·rfl
theorem Sj {S C:List Nat} (h:Ag S C st st') {ops:Array Oper} (hS:∀ i∈slotsOf o++(D5 ops o).toList,i∈S) (hid:∀ d,o.dst=some d->newId st d∈C) {α:Type} (k:Bq->Option α):stepG E ops o st k=stepG E ops o st' k:=by
 have hd:=fun k=>Si (E:=E) (α:=α) h (fun i hi=>hS i (List.mem_append_left _ hi)) hid k
 unfold stepG
 split
 ·exact hd k
 ·split
  ·rename_i g hg
   rw [← h.s g (hS g (by rw [hg];simp)),hd k]
  ·rfl
theorem RH {b:List Nat} {i:Nat} {q:Rc}:∀ (k:Nat) (l:List Rc),SL b i q k l=true->∀ (m:Nat) (p:Rc),l[m]? = some p->IL p.kl q.ob=false/\((b.getD i 0).testBit (k+m)=true∨indep p q=true)
 | _,[],_,m,p,hp=>by simp at hp
 | k,p0::r,h,m,p,hp=>by
  simp only [SL,AP,Bool.or_eq_true,Bool.not_eq_true'] at h
  cases m with
  | zero=>
   simp only [List.getElem?_cons_zero,Ac] at hp
   subst hp
   exact ⟨h.1,h.2.1⟩
  | succ m=>
   have:=RH (k+1) r h.2.2 m p (by simpa using hp)
   rw [show k+(m+1)=k+1+m by omega]
   exact this
structure Can (E:Bn) (ops:Array Oper) (b:List Nat) (ef:Nat->Bq) (sf:Nat->St) (rf:Nat->Rc) (j:Nat) (o:Oper):Prop where
 next:sf (j+1)=KM (ef j) (sf j)
 gives:∀ (γ:Type) (k':Bq->Option γ),stepG E ops o (sf j) k'=k' (ef j)
 rc:rf j=Jq ops o (sf j) (ef j)
 ok:∀ m,m < j->IL (rf m).kl (rf j).ob=false/\((b.getD j 0).testBit m=true∨indep (rf m) (rf j)=true)
 cl:Q0 (rf j).ob (sf j).l=true
 inn:Vy (rf j).ob (rf j).rd (sf j)=true
 ZN:Fe (rf j).ob (ef j).rv=true
 ZK:VE (rf j).ob (ef j).o=true
 own:Wo (rf j).ob (ef j)=true
theorem O7 {ops:Array Oper} {b:List Nat} {α:Type} {kn:St->Option α} {r:α}:∀ (l:List Oper) (i:Nat) (rcs:List Rc) (st:St),O6 E ops b i l rcs st kn=some r->rcs.length=i->
  ∃ (ef:Nat->Bq) (sf:Nat->St) (rf:Nat->Rc),sf i=st/\(∀ j,j < i->rcs[j]? = some (rf j))/\kn (sf (i+l.length))=some r/\∀ m o,l[m]? = some o->Can E ops b ef sf rf (i+m) o
 | [],i,rcs,st,h,hl=>by
  refine ⟨fun _=>⟨none,.any,none,none⟩,fun _=>st,fun j=>rcs.getD j ⟨[],[],none,none,none,[],[]⟩,rfl,fun j hj=>?_,h,fun m o hm=>by simp at hm⟩
  have:j < rcs.length:=by omega
  simp [this]
 | o::rest,i,rcs,st,h,hl=>by
  simp only [O6] at h
  obtain ⟨e,h1,h2⟩:∃ e,(∀ (γ:Type) (k':Bq->Option γ),stepG E ops o st k'=k' e)/\(bif SL b i (Jq ops o st e) 0 rcs&&YQ (Jq ops o st e) e st then O6 E ops b (i+1) rest (rcs++[Jq ops o st e]) (KM e st) kn else none)=some r:=by
   rcases QK (E:=E) h with ⟨h1,h2⟩ | ⟨h1,h2⟩
   ·obtain ⟨e,g1,g2⟩:=JF (E:=E) (o:=o) (st:=st) _ _ _ h1
    exact ⟨e,fun γ k'=>(h2 γ k').trans (g1 γ k'),g2⟩
   ·exact ⟨_,h2,h1⟩
  obtain ⟨hc,h2⟩:=BL h2
  simp only [YQ,AP] at hc
  obtain ⟨c1,c2,c3,c4,c5,c6⟩:=hc
  obtain ⟨ef,sf,rf,g1,g2,g3,g4⟩:=O7 rest (i+1) (rcs++[Jq ops o st e]) (KM e st) h2 (by simp [hl])
  have WV:rf i=Jq ops o st e:=by
   have:=g2 i (by omega)
   rw [Ao (by omega)] at this
   simp [hl] at this
   exact this.symm
  have ZF:∀ j,j < i->rcs[j]? = some (rf j):=fun j hj=>by
   have:=g2 j (by omega)
   rwa [Am (by omega)] at this
  refine ⟨fun j=>if j=i then e else ef j,fun j=>if j=i then st else sf j,rf,by simp,ZF,?_,?_⟩
  ·have:i+(o::rest).length≠i:=by simp
   simp only [AX this]
   rw [show i+(o::rest).length=i+1+rest.length by simp;omega]
   exact g3
  ·intro m o' hm
   cases m with
   | zero=>
    simp only [List.getElem?_cons_zero,Ac] at hm
    subst hm
    refine ⟨?_,?_,?_,?_,?_,?_,?_,?_,?_⟩
    ·simp [g1]
    ·intro γ k';simpa using h1 γ k'
    ·simp [WV]
    ·intro m ZC
     simp only [Nat.add_zero] at ZC ⊢
     have:=RH 0 rcs c1 m (rf m) (ZF m ZC)
     rw [Nat.zero_add] at this
     rw [WV]
     exact this
    ·simp only [Nat.add_zero,if_true];rw [WV];exact c2
    ·simp only [Nat.add_zero,if_true];rw [WV];exact c3
    ·simp only [Nat.add_zero,if_true];rw [WV];exact c4
    ·simp only [Nat.add_zero,if_true];rw [WV];exact c5
    ·simp only [Nat.add_zero,if_true];rw [WV];exact c6
   | succ m=>
    have:=g4 m o' (by simpa using hm)
    have e1:i+(m+1)=i+1+m:=by omega
    have e2:i+1+m≠i:=by omega
    have e3:i+1+m+1≠i:=by omega
    rw [e1]
    refine ⟨?_,?_,?_,this.ok,?_,?_,?_,?_,?_⟩
    ·simp only [AX e2,AX e3];exact this.next
    ·simp only [AX e2];exact this.gives
    ·simp only [AX e2];exact this.rc
    ·simp only [AX e2];exact this.cl
    ·simp only [AX e2];exact this.inn
    ·simp only [AX e2];exact this.ZN
    ·simp only [AX e2];exact this.ZK
    ·simp only [AX e2];exact this.own
theorem HY {x:Option Nat} {l:List Nat} {i:Nat} (h:x=some i) (hi:i∈l):IL x l=true:=by
 subst h
 exact BZ.2 hi
theorem QZ {x:Option Nat} {l:List Nat} {i:Nat} (h:IL x l=false) (hx:x=some i) (hi:i∈l):False:=by
 rw [HY hx hi] at h
 cases h
theorem PW {x y:Option Nat} {i:Nat} (h:x=some i) (h':y=some i):ND x y=true:=by
 subst h h'
 simp [ND]
theorem Ow {l m:List Nat} {i:Nat} (h:i∈l) (h':i∈m):meets l m=true:=List.any_eq_true.2 ⟨i,h,BZ.2 h'⟩
theorem Tp {α:Type} {i:Nat} {x:α}:∀ {l:List (Nat×α)},lk i l=some x->(i,x)∈l
 | [],h=>by simp [lk] at h
 | (j,y)::r,h=>by
  rw [BN] at h
  split at h
  ·rename_i e;subst e;cases h;simp
  ·exact List.mem_cons_of_mem _ (Tp h)
theorem NK {α:Type} {p:Nat->α->Bool} {id i:Nat} {x:α} {o:Option Nat} {l:List (Nat×α)} (ho:o=some id) (h:lk i l=some x) (hp:p id x=true):i∈Jw p o l:=by
 subst ho
 simp only [Jw,List.mem_map,List.mem_filter]
 exact ⟨(i,x),⟨Tp h,hp⟩,rfl⟩
theorem WJ {e:Bq} {s:Nat} (h:(eS e s).isSome=true):e.d=some s:=by
 unfold eS at h
 split at h
 ·assumption
 ·cases h
theorem XW {e:Bq} {s:Nat} {v:RV} (h:eS e s=some v):v=e.rv:=by
 unfold eS at h
 split at h
 ·cases h;rfl
 ·cases h
theorem WH {e:Bq} {s:Nat} {ob:Ob} (h:eO e s=some ob):e.o=some (s,ob):=by
 unfold eO at h
 split at h
 ·rename_i p hp
  split at h
  ·rename_i e';cases h;rw [hp,← e']
  ·cases h
 ·cases h
theorem WI {e:Bq} {s:Nat} (h:(eO e s).isSome=true):e.o.map (·.1)=some s:=by
 cases hh:eO e s with
 | none=>rw [hh] at h;cases h
 | some ob=>rw [WH hh];rfl
theorem J5 (hE:BS P E) {ops:Array Oper} {α:Type} {kn:St->Option α} {r:α} (hbk:JQ ops=true) (hd:∀ (i:Nat) (o:Oper),ops[i]? = some o->∀ d,o.dst=some d->d < N)
  (hQ:∀ st a w,kn st=some r->Bb w0 M0 N st a as w->Q .normal a w) {st0:St} {a:Act} {w:World} (h:O6 E ops (EU ops.toList []) 0 ops.toList [] st0 kn=some r) (s:Bb w0 M0 N st0 a as w) :
  wpAnyS P ops Q ops.size (Array.replicate ops.size false) a w:=by
 have hback:∀ (i:Nat) (o:Oper) (e:Edge),ops[i]? = some o->e∈o.after->Region.binds .any e=true->e.on < i:=by
  intro i o e ho he hb
  have hm:(o,i)∈ops.toList.zipIdx 0:=by rw [List.mk_mem_zipIdx_iff_getElem?];simpa using ho
  have:=List.all_eq_true.1 (List.all_eq_true.1 hbk _ hm) e (by simpa using he)
  simp only [hb,Az,Bool.false_or] at this
  exact Nat.lt_of_lt_of_le (Nat.lt_succ_self _) (Ak this)
 obtain ⟨ef,sf,rf,g1,_,g3,g4⟩:=O7 ops.toList 0 [] st0 h rfl
 simp only [Nat.zero_add,Array.length_toList] at g3 g4
 have can:∀ j,j < ops.size->Can E ops (EU ops.toList []) ef sf rf j ops[j]!:=fun j hj=>g4 j _ (by simp [hj])
 have Vb:∀ j,j < ops.size->(rf j).d=(ef j).d/\(rf j).w=(ef j).o.map (·.1)/\(rf j).kl=(ef j).kl/\(rf j).ts=Jw Cb (ef j).kl (sf j).s/\(rf j).tb=Jw GZ (ef j).kl (sf j).l:=fun j hj=>by rw [(can j hj).rc];exact ⟨rfl,rfl,rfl,rfl,rfl⟩
 have Y8:∀ j id,j < ops.size->Cb id (ef j).rv=true->id∈(rf j).ob:=fun j id hj hh=>FK (can j hj).ZN hh
 have Y7:∀ j y ob,j < ops.size->(ef j).o=some (y,ob)->y∈(rf j).ob/\∀ id,GZ id ob=true->id∈(rf j).ob:=by
  intro j y ob hj ho
  have:=(can j hj).ZK
  rw [ho] at this
  cases ob with
  | var t c=>
   simp only [VE,AP] at this
   exact ⟨BZ.1 this.1,fun id hid=>FK this.2 hid⟩
  | row t xs=>exact ⟨BZ.1 this,fun id hid=>by cases hid⟩
  | mp kt vt es=>exact ⟨BZ.1 this,fun id hid=>by cases hid⟩
  | lp c q=>
   simp only [VE,AP] at this
   exact ⟨BZ.1 this.1,fun id hid=>FK this.2 hid⟩
 have Wx:∀ j id,j < ops.size->(ef j).kl=some id->id∈(rf j).ob/\Cb id (ef j).rv=false/\∀ y ob,(ef j).o=some (y,ob)->y≠id/\GZ id ob=false:=by
  intro j id hj hk
  have:=(can j hj).own
  simp only [Wo,hk,AP,Bool.not_eq_true'] at this
  refine ⟨BZ.1 this.1,this.2.1,fun y ob ho=>?_⟩
  have h2:=this.2.2
  rw [ho] at h2
  simp only [AP,Bool.not_eq_true'] at h2
  exact ⟨fun e=>by subst e;simp at h2,h2.2⟩
 have WM:∀ m j id,m < j->j < ops.size->(ef m).kl=some id->id ∉ (rf j).ob:=fun m j id hm hj hk hin=>
  QZ ((can j hj).ok m hm).1 ((Vb m (by omega)).2.2.1.trans hk) hin
 have ord:∀ j k,j < k->k < ops.size->indep (rf j) (rf k)=false->((EU ops.toList []).getD k 0).testBit j=true:=by
  intro j k hjk hk hi
  rcases ((can k hk).ok j hjk).2 with h | h
  ·exact h
  ·rw [hi] at h;cases h
 have ind:∀ {p q:Rc},(IL p.d q.rd=true∨IL q.d p.rd=true∨ND p.d q.d=true∨IL p.w q.ob=true∨IL q.w p.ob=true∨ND p.w q.w=true∨IL q.kl p.ob=true∨meets p.ts q.rd=true∨meets p.tb q.ob=true)->indep p q=false:=by
  intro p q h
  simp only [indep]
  rcases h with h | h | h | h | h | h | h | h | h <;> simp [h]
 have fresh:∀ (sel Cy:Nat->Bool) (i:Nat),i < ops.size->(∀ j,Cy j=if j=i then true else sel j)->(∀ j id,i < j->j < ops.size->sel j=true->(ef j).kl=some id->id ∉ (rf i).ob)->
   ∀ id,id∈(rf i).ob->(ef i).kl≠some id->Kd Cy (fun j=>(ef j).kl) ops.size id=false:=by
  intro sel Cy i hi hsel Ir id hid hown
  cases hb:Kd Cy (fun j=>(ef j).kl) ops.size id with
  | false=>rfl
  | true=>
   obtain ⟨j,h1,h2,h3⟩:=C9.1 hb
   rw [hsel] at h2
   by_cases hji:j=i
   ·subst hji;exact absurd h3 hown
   ·rw [AX hji] at h2
    rcases Nat.lt_or_ge j i with hlt | hge
    ·exact absurd hid (WM j i id hlt hi h3)
    ·exact absurd hid (Ir j id (by omega) h1 h2 h3)
 have stepT:∀ (sel Cy:Nat->Bool) (X:St) (i:Nat),i < ops.size->GR sel ops.size ef st0 X->sel i=false->(∀ j,Cy j=if j=i then true else sel j)->(∀ j id,i < j->j < ops.size->sel j=true->(ef j).kl=some id->id ∉ (rf i).ob)->
   (∀ j s,i < j->j < ops.size->sel j=true->(eS (ef i) s).isSome=true->eS (ef j) s=none)->(∀ j s,i < j->j < ops.size->sel j=true->(eO (ef i) s).isSome=true->eO (ef j) s=none)->GR Cy ops.size ef st0 (KM (ef i) X):=by
  intro sel Cy X i hi hT hni hsel Ir hs hl
  have hf:=fresh sel Cy i hi hsel Ir
  refine hT.step hi hsel hni hs hl (fun x v id hx hid=>?_) (fun y ob hy=>?_)
  ·have:=XW hx
   subst this
   exact hf id (Y8 i id hi hid) fun hk=>by rw [(Wx i id hi hk).2.1] at hid;cases hid
  ·have ho:=WH hy
   obtain ⟨k1,k2⟩:=Y7 i y ob hi ho
   exact ⟨hf y k1 fun hk=>((Wx i y hi hk).2.2 y ob ho).1 rfl,fun id hid=>hf id (k2 id hid) fun hk=>by rw [((Wx i id hi hk).2.2 y ob ho).2] at hid;cases hid⟩
 have YV:∀ m,m<=ops.size->GR (fun j=>decide (j < m)) ops.size ef st0 (sf m):=by
  intro m
  induction m with
  | zero=>
   intro _
   rw [g1]
   exact GR.init fun j _=>by simp
  | succ m ih=>
   intro hm
   rw [(can m (by omega)).next]
   refine stepT _ _ (sf m) m (by omega) (ih (by omega)) (by simp) (fun j=>?_) (fun j id h1 _ h3 _=>?_) (fun j s h1 _ h3 _=>?_) (fun j s h1 _ h3 _=>?_)
   ·by_cases hj:j=m
    ·subst hj;simp
    ·rw [AX hj];congr 1;simp;omega
   ·simp at h3;omega
   ·simp at h3;omega
   ·simp at h3;omega
 have once:∀ j id,j < ops.size->(ef j).kl=some id->Kd (fun m=>decide (m < j)) (fun j=>(ef j).kl) ops.size id=false:=by
  intro j id hj hk
  cases hb:Kd (fun m=>decide (m < j)) (fun j=>(ef j).kl) ops.size id with
  | false=>rfl
  | true=>
   obtain ⟨m,h1,h2,h3⟩:=C9.1 hb
   exact absurd (Wx j id hj hk).1 (WM m j id (by simpa using h2) hj h3)
 have main:∀ (fuel:Nat) (listed:Array Bool) (a:Act) (w:World) (X:St),listed.size=ops.size->Uy (EU ops.toList []) (EC listed)->fuel+cnt (EC listed) ops.size=ops.size->GR (EC listed) ops.size ef st0 X->
   Bb w0 M0 N X a as w->wpAnyS P ops Q fuel listed a w:=by
  intro fuel
  induction fuel with
  | zero=>
   intro listed a w X hsz hc hf hT s
   have hall:=NW ops.size (by omega:cnt (EC listed) ops.size=ops.size)
   refine ⟨?_,?_⟩
   ·apply List.eq_nil_iff_forall_not_mem.2
    intro j hj
    obtain ⟨h1,o,ho,_⟩:=mem_ready.1 hj
    have hj':j < ops.size:=(Al.1 ho).1
    rw [EJ (by omega),hall j hj'] at h1
    cases h1
   ·have hE':=YV ops.size (Nat.le_refl _)
    have hkd:∀ id,Kd (EC listed) (fun j=>(ef j).kl) ops.size id=Kd (fun j=>decide (j < ops.size)) (fun j=>(ef j).kl) ops.size id:=by
     intro id
     rw [Bool.eq_iff_iff,C9,C9]
     exact ⟨fun ⟨j,h1,_,h3⟩=>⟨j,h1,by simpa using h1,h3⟩,fun ⟨j,h1,_,h3⟩=>⟨j,h1,hall j h1,h3⟩⟩
    have Yk:Kf (EC listed) (fun j=>(ef j).kl) ops.size=Kf (fun j=>decide (j < ops.size)) (fun j=>(ef j).kl) ops.size:=funext fun id=>Kk (hkd id)
    refine hQ _ a w g3 (s.LM (fun i=>?_) (fun i=>?_) ?_)
    ·rw [hT.s,hE'.s,Yk,DK (sel:=EC listed) (Cy:=fun j=>decide (j < ops.size)) fun j hj _=>by rw [hall j hj];simp [hj]]
    ·rw [hT.l,hE'.l,Yk,hkd,DK (sel:=EC listed) (Cy:=fun j=>decide (j < ops.size)) fun j hj _=>by rw [hall j hj];simp [hj]]
    ·rw [hT.k,hE'.k,Yk]
  | succ fuel ih=>
   intro listed a w X hsz hc hf hT s
   obtain ⟨j,hj,hjl⟩:∃ j,j < ops.size/\EC listed j=false:=by
    apply Classical.byContradiction
    intro hne
    have:cnt (EC listed) ops.size=ops.size:=Ku _ fun j hj=>by
     cases hl:EC listed j with
     | true=>rfl
     | false=>exact absurd ⟨j,hj,hl⟩ hne
    omega
   have WU:Region.ready .any ops listed≠[]:=by
    obtain ⟨i,h1,h2,h3⟩:=least (p:=fun i=>EC listed i=false) j hjl
    have hi:i < ops.size:=by omega
    have:i∈Region.ready .any ops listed:=by
     refine mem_ready.2 ⟨by rw [EJ (by omega)];exact h2,ops[i],by simp [hi],fun e he hb=>?_⟩
     have hlt:=hback i ops[i] e (by simp [hi]) he hb
     have:=h3 e.on hlt
     show EC listed e.on=true
     simpa using this
    exact List.ne_nil_of_mem this
   refine ⟨fun hr=>absurd hr WU,fun i hi=>?_⟩
   obtain ⟨h1,o,ho,he⟩:=mem_ready.1 hi
   have hi':i < ops.size:=(Al.1 ho).1
   have hoi:ops[i]! = o:=by
    rw [getElem!_pos ops i hi']
    exact (Al.1 ho).2
   rw [EJ (by omega)] at h1
   have hpred:∀ m,((EU ops.toList []).getD i 0).testBit m=true->EC listed m=true:=fun m hb=>IV hc hi hb
   have hsucc:∀ m,((EU ops.toList []).getD m 0).testBit i=true->EC listed m=false:=by
    intro m hb
    cases hl:EC listed m with
    | false=>rfl
    | true=>rw [hc m i hl hb] at h1;cases h1
   have hcan:=can i hi'
   rw [hoi] at hcan
   have Xf:=YV i (by omega)
   have late:∀ k,i < k->k < ops.size->indep (rf i) (rf k)=false->EC listed k=false:=fun k hik hk WS=>hsucc k (ord i k hik hk WS)
   have early:∀ k,k < i->indep (rf k) (rf i)=false->EC listed k=true:=fun k hki WS=>hpred k (ord k i hki hi' WS)
   have Ir:∀ j id,i < j->j < ops.size->EC listed j=true->(ef j).kl=some id->id ∉ (rf i).ob:=by
    intro j id hij hj hl hk hin
    rw [late j hij hj (ind (.inr (.inr (.inr (.inr (.inr (.inr (.inl (HY ((Vb j hj).2.2.1.trans hk) hin))))))))) ] at hl
    cases hl
   have hsel:∀ k,k < ops.size->(∃ x,(ef k).d=some x/\x∈(rf i).rd)∨(∃ x,(ef k).o.map (·.1)=some x/\x∈(rf i).ob)->decide (k < i)=EC listed k:=by
    intro k hk hw
    obtain ⟨r1,r2,_⟩:=Vb k hk
    rcases Nat.lt_trichotomy k i with hki | hki | hki
    ·rw [early k hki (ind ?_)]
     ·simp [hki]
     ·rcases hw with ⟨x,h1,h2⟩ | ⟨x,h1,h2⟩
      ·exact .inl (HY (r1.trans h1) h2)
      ·exact .inr (.inr (.inr (.inl (HY (r2.trans h1) h2))))
    ·subst hki
     rw [h1];simp
    ·rw [late k hki hk (ind ?_)]
     ·simp;omega
     ·rcases hw with ⟨x,h1,h2⟩ | ⟨x,h1,h2⟩
      ·exact .inr (.inl (HY (r1.trans h1) h2))
      ·exact .inr (.inr (.inr (.inr (.inl (HY (r2.trans h1) h2)))))
   have Zh:∀ x,x∈(rf i).rd->∀ v,(Dj (fun j=>decide (j < i)) (fun j=>eS (ef j) x) ops.size).or (lk x st0.s)=some v->∀ id,Cb id v=true->Kd (fun j=>decide (j < i)) (fun j=>(ef j).kl) ops.size id=Kd (EC listed) (fun j=>(ef j).kl) ops.size id:=by
    intro x hx v hv id hid
    rw [Bool.eq_iff_iff]
    constructor
    ·intro hb
     obtain ⟨j,j1,j2,j3⟩:=C9.1 hb
     have hji:j < i:=by simpa using j2
     refine C9.2 ⟨j,j1,?_,j3⟩
     have Px:=LK (j:=j) (by omega) (by omega) hv (fun w hw1 hw2 hw3=>by
      have:=XW hw3
      subst this
      rcases Nat.lt_or_ge j w with hlt | hge
      ·exact WM j w id hlt (by omega) j3 (Y8 w id (by omega) hid)
      ·have:w=j:=by omega
       subst this
       rw [(Wx w id j1 j3).2.1] at hid
       cases hid)
     have hsj:=(YV j (by omega)).s x
     rw [Px] at hsj
     have hmem:x∈(rf j).ts:=by
      rw [(Vb j j1).2.2.2.1]
      exact NK j3 hsj (EX (Er (once j id j1 j3)) hid)
     exact early j hji (ind (.inr (.inr (.inr (.inr (.inr (.inr (.inr (.inl (Ow hmem hx))))))))))
    ·intro hb
     obtain ⟨j,j1,j2,j3⟩:=C9.1 hb
     rcases Nat.lt_trichotomy j i with hji | hji | hji
     ·exact C9.2 ⟨j,j1,by simpa using hji,j3⟩
     ·subst hji;rw [h1] at j2;cases j2
     ·cases hn:Kd (fun j=>decide (j < i)) (fun j=>(ef j).kl) ops.size id with
      | true=>rfl
      | false=>
       exfalso
       have hsi:=Xf.s x
       rw [hv] at hsi
       have hin:=List.all_eq_true.1 hcan.inn x hx
       rw [hsi] at hin
       exact Ir j id hji j1 j2 j3 (FK hin (EX (Er hn) hid))
   have Yu:∀ y,y∈(rf i).ob->Kd (fun j=>decide (j < i)) (fun j=>(ef j).kl) ops.size y=false/\Kd (EC listed) (fun j=>(ef j).kl) ops.size y=false:=by
    intro y hy
    constructor
    ·cases hb:Kd (fun j=>decide (j < i)) (fun j=>(ef j).kl) ops.size y with
     | false=>rfl
     | true=>
      obtain ⟨j,j1,j2,j3⟩:=C9.1 hb
      exact absurd hy (WM j i y (by simpa using j2) hi' j3)
    ·cases hb:Kd (EC listed) (fun j=>(ef j).kl) ops.size y with
     | false=>rfl
     | true=>
      obtain ⟨j,j1,j2,j3⟩:=C9.1 hb
      rcases Nat.lt_trichotomy j i with hji | hji | hji
      ·exact absurd hy (WM j i y hji hi' j3)
      ·subst hji;rw [h1] at j2;cases j2
      ·exact absurd hy (Ir j y hji j1 j2 j3)
   have Zg:∀ y,y∈(rf i).ob->∀ v,(Dj (fun j=>decide (j < i)) (fun j=>eO (ef j) y) ops.size).or (lk y st0.l)=some v->∀ id,GZ id v=true->Kd (fun j=>decide (j < i)) (fun j=>(ef j).kl) ops.size id=Kd (EC listed) (fun j=>(ef j).kl) ops.size id:=by
    intro y hy v hv id hid
    rw [Bool.eq_iff_iff]
    constructor
    ·intro hb
     obtain ⟨j,j1,j2,j3⟩:=C9.1 hb
     have hji:j < i:=by simpa using j2
     refine C9.2 ⟨j,j1,?_,j3⟩
     have Px:=LK (j:=j) (by omega) (by omega) hv (fun w hw1 hw2 hw3=>by
      have hwo:=WH hw3
      rcases Nat.lt_or_ge j w with hlt | hge
      ·exact WM j w id hlt (by omega) j3 ((Y7 w y v (by omega) hwo).2 id hid)
      ·have:w=j:=by omega
       subst this
       rw [((Wx w id j1 j3).2.2 y v hwo).2] at hid
       cases hid)
     have hsj:=(YV j (by omega)).l y
     have hkj:Kd (fun m=>decide (m < j)) (fun j=>(ef j).kl) ops.size y=false:=by
      cases hb2:Kd (fun m=>decide (m < j)) (fun j=>(ef j).kl) ops.size y with
      | false=>rfl
      | true=>
       obtain ⟨m,m1,m2,m3⟩:=C9.1 hb2
       have:m < j:=by simpa using m2
       exact absurd hy (WM m i y (by omega) hi' m3)
     rw [Px,AX (by rw [hkj];simp)] at hsj
     have hmem:y∈(rf j).tb:=by
      rw [(Vb j j1).2.2.2.2]
      exact NK j3 hsj (Rw (Er (once j id j1 j3)) hid)
     exact early j hji (ind (.inr (.inr (.inr (.inr (.inr (.inr (.inr (.inr (Ow hmem hy))))))))))
    ·intro hb
     obtain ⟨j,j1,j2,j3⟩:=C9.1 hb
     rcases Nat.lt_trichotomy j i with hji | hji | hji
     ·exact C9.2 ⟨j,j1,by simpa using hji,j3⟩
     ·subst hji;rw [h1] at j2;cases j2
     ·cases hn:Kd (fun j=>decide (j < i)) (fun j=>(ef j).kl) ops.size id with
      | true=>rfl
      | false=>
       exfalso
       have hsi:=Xf.l y
       rw [hv,AX (by rw [(Yu y hy).1];simp)] at hsi
       have hin:=List.all_eq_true.1 hcan.cl y hy
       rw [hsi] at hin
       cases v with
       | row t xs=>cases hid
       | mp kt vt es=>cases hid
       | var t c=>
        exact Ir j id hji j1 j2 j3 (FK (rv:=Ba _ c) hin (EX (Er hn) hid))
       | lp c q=>
        exact Ir j id hji j1 j2 j3 (FK (rv:=Ba _ c) hin (EX (Er hn) hid))
   have ZV:Ag (rf i).rd (rf i).ob (sf i) X:={
    s:=fun x hx=>by
     rw [hT.s,Xf.s,← DK (sel:=fun j=>decide (j < i)) (Cy:=EC listed) fun k hk hsome=>hsel k hk (.inl ⟨x,WJ hsome,hx⟩)]
     cases hv:(Dj (fun j=>decide (j < i)) (fun j=>eS (ef j) x) ops.size).or (lk x st0.s) with
     | none=>rfl
     | some v=>exact congrArg some (Fz v fun id hid=>Kk (Zh x hx v hv id hid))
    l:=fun x hx=>by
     rw [hT.l,Xf.l,← DK (sel:=fun j=>decide (j < i)) (Cy:=EC listed) fun k hk hsome=>hsel k hk (.inr ⟨x,WI hsome,hx⟩),AX (by rw [(Yu x hx).1];simp),AX (by rw [(Yu x hx).2];simp)]
     cases hv:(Dj (fun j=>decide (j < i)) (fun j=>eO (ef j) x) ops.size).or (lk x st0.l) with
     | none=>rfl
     | some v=>exact congrArg some (KE v fun id hid=>Kk (Zg x hx v hv id hid))
    b:=by rw [hT.b,Xf.b]
    n:=fun x hx rv hl=>by
     have:=List.all_eq_true.1 hcan.inn x hx
     rw [hl] at this
     exact this
    c:=fun x hx ty con hl=>by
     have:=List.all_eq_true.1 hcan.cl x hx
     rw [hl] at this
     exact this
    y:=fun x hx con q hl=>by
     have:=List.all_eq_true.1 hcan.cl x hx
     rw [hl] at this
     exact this }
   have hrd:(rf i).rd=slotsOf o++(D5 ops o).toList:=by rw [hcan.rc];rfl
   have KP:∀ d,o.dst=some d->newId (sf i) d∈(rf i).ob:=fun d hdd=>by
    rw [hcan.rc]
    simp only [Jq,hdd]
    simp
   have hstep:stepG E ops o X some=some (ef i):=by
    rw [← Sj ZV (by rw [hrd];exact fun _ h=>h) KP]
    exact hcan.gives _ some
   intro o' ho'
   obtain rfl:=Ar (ho.symm.trans ho')
   refine Pg hE s (hd i o ho) hstep _ fun a' w' s'=>?_
   refine ih _ a' w' (KM (ef i) X) (by simp [hsz]) ?_ ?_ ?_ s'
   ·intro x m hx hb
    rw [Eu (by omega)] at hx ⊢
    split
    ·rfl
    ·split at hx
     ·rename_i hxi;subst hxi;exact hpred m hb
     ·exact hc x m hx hb
   ·rw [NY h1 (by rw [Eu (by omega)];simp) (fun x hx=>by rw [Eu (by omega),AX hx]) ops.size hi']
    omega
   ·refine stepT _ _ X i hi' hT h1 (fun k=>Eu (by omega) k) Ir (fun k x hik hk hlk hsome=>?_) (fun k x hik hk hlk hsome=>?_)
    ·cases hn:eS (ef k) x with
     | none=>rfl
     | some v=>
      rw [late k hik hk (ind (.inr (.inr (.inl (PW ((Vb i hi').1.trans (WJ hsome)) ((Vb k hk).1.trans (WJ (by rw [hn];rfl))))))))] at hlk
      cases hlk
    ·cases hn:eO (ef k) x with
     | none=>rfl
     | some v=>
      rw [late k hik hk (ind (.inr (.inr (.inr (.inr (.inr (.inl (PW ((Vb i hi').2.1.trans (WI hsome)) ((Vb k hk).2.1.trans (WI (by rw [hn];rfl)))))))))))] at hlk
      cases hlk
 have hinit:∀ i,EC (Array.replicate ops.size false) i=false:=by
  intro i
  unfold EC
  by_cases hi:i < ops.size <;> simp [hi]
 refine main ops.size _ a w st0 (by simp) (fun i m hi=>by rw [hinit] at hi;cases hi) ?_ (GR.init fun j _=>hinit j) s
 have:∀ n,cnt (EC (Array.replicate ops.size false)) n=0:=by
  intro n
  induction n with
  | zero=>rfl
  | succ n ih=>simp [cnt,ih,hinit]
 rw [this]
 omega
end
end Go.Lift
