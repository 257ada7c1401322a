import Derived.Test.YtjcnhegjiffgpaaGreatDoorRiF
set_option linter.unusedSimpArgs false
namespace Go.Lift
open Go.RowKit
def OB {α:Type} (s:List (Nat×α)):List Nat->List (Nat×α)
 | []=>[]
 | i::r=>match lk i s with
  | some a=>(i,a)::OB s r
  | none=>OB s r
theorem R6 {α:Type} (s:List (Nat×α)) (i:Nat):∀ (ks:List Nat) (a:α),lk i (OB s ks)=some a->lk i s=some a
 | [],a,h=>by simp [OB,lk] at h
 | j::r,a,h=>by
  simp only [OB] at h
  split at h
  ·rename_i x hx
   rw [Bl] at h
   split at h
   ·rename_i e;subst e;cases h;exact hx
   ·exact R6 s i r a h
  ·exact R6 s i r a h
def X9:RV->List Nat->List Nat
 | .row id,acc=>id::acc
 | .sub id _ _,acc=>id::acc
 | .loc id _,acc=>id::acc
 | .OH _ c,acc=>X9 c acc
 | .pair a b,acc=>X9 a (X9 b acc)
 | .agg _ r,acc=>X9 r acc
 | .Oj r,acc=>X9 r acc
 | .mp id,acc=>id::acc
 | .yl id,acc=>id::acc
 | _,acc=>acc
def QTq:List (Nat×RV)->List Nat->List Nat
 | [],acc=>acc
 | p::s,acc=>X9 p.2 (QTq s acc)
def QZO:List (Nat×List (Nat×RV))->List Nat->List Nat
 | [],acc=>acc
 | p::k,acc=>QTq p.2 (QZO k acc)
def reach (l:List (Nat×Ob)):Nat->List Nat->List Nat->List Nat
 | 0,_,seen=>seen
 | _,[],seen=>seen
 | n+1,id::todo,seen=>bif seen.any (Nat.beq id) then reach l n todo seen else match lk id l with
  | some (.var _ con)=>reach l n (X9 con todo) (seen++[id])
  | some (.row _ _)=>reach l n todo (seen++[id])
  | some (.mp _ _ _)=>reach l n todo (seen++[id])
  | some (.lp con _)=>reach l n (X9 con todo) (seen++[id])
  | none=>reach l n todo seen
def Q9 (id:Nat):List Nat->Nat->Option Nat
 | [],_=>none
 | j::r,n=>bif Nat.beq id j then some n else Q9 id r (n+1)
theorem bC {id:Nat}:∀ {l:List Nat} {n j:Nat},Q9 id l n=some j->n<=j/\l[j - n]? = some id
 | [],n,j,h=>by cases h
 | x::r,n,j,h=>by
  simp only [Q9] at h
  cases hb:Nat.beq id x with
  | true=>
   have:=Aa hb
   subst this
   simp at h
   subst h
   simp
  | false=>
   simp only [hb,AJ] at h
   obtain ⟨h1,h2⟩:=bC h
   refine ⟨by omega,?_⟩
   rw [show j - n=(j - (n+1))+1 by omega]
   simpa using h2
def VQ (f:Nat->Option Nat) (l:List (Nat×Ob)):List Nat->Nat->List (Nat×Ob)
 | [],_=>[]
 | id::r,n=>match f id,lk id l with
  | some j,some ob=>bif Nat.beq j n then (n,Ei f ob)::VQ f l r (n+1) else VQ f l r (n+1)
  | _,_=>VQ f l r (n+1)
def dR (ids:List Nat) (st:St):St:=
 { s:=Ym (λid=>Q9 id ids 0) st.s,l:=VQ (λid=>Q9 id ids 0) st.l ids 0,k:=Uw (λid=>Q9 id ids 0) st.k,b:=st.b }
theorem QAK {f:Nat->Option Nat} {l:List (Nat×Ob)}:∀ (ids:List Nat) (n j:Nat) (Ij:Ob),lk j (VQ f l ids n)=some Ij->n<=j/\∃ id ob,ids[j - n]? = some id/\f id=some j/\lk id l=some ob/\Ij=Ei f ob
 | [],n,j,Ij,h=>by simp [VQ,lk] at h
 | id::r,n,j,Ij,h=>by
  have next:lk j (VQ f l r (n+1))=some Ij->n<=j/\∃ id' ob,(id::r)[j - n]? = some id'/\f id'=some j/\lk id' l=some ob/\Ij=Ei f ob:=by
   intro h
   obtain ⟨h1,i',ob,h2,h3⟩:=QAK r (n+1) j Ij h
   refine ⟨by omega,i',ob,?_,h3⟩
   rw [show j - n=(j - (n+1))+1 by omega]
   simpa using h2
  simp only [VQ] at h
  split at h
  ·rename_i j' ob h1 h2
   cases hb:Nat.beq j' n with
   | true=>
    have:=Aa hb
    subst this
    simp only [hb,AL,Bl] at h
    split at h
    ·rename_i e
     subst e
     cases h
     exact ⟨Nat.le_refl _,id,ob,by simp,h1,h2,rfl⟩
    ·exact next h
   | false=>
    simp only [hb,AJ] at h
    exact next h
  ·exact next h
theorem uG {f:Nat->Option Nat} {l:List (Nat×Ob)}:∀ (ids:List Nat) (n j id:Nat) (ob:Ob),n<=j->ids[j - n]? = some id->f id=some j->lk id l=some ob->lk j (VQ f l ids n)=some (Ei f ob)
 | [],n,j,id,ob,h,h1,_,_=>by simp at h1
 | i::r,n,j,id,ob,h,h1,h2,h3=>by
  by_cases hj:j=n
  ·subst hj
   simp at h1
   subst h1
   simp [VQ,h2,h3,lk]
  ·have ih:=uG r (n+1) j id ob (by omega) (by rw [show j - n=(j - (n+1))+1 by omega] at h1;simpa using h1) h2 h3
   simp only [VQ]
   split
   ·rename_i j' Ij h4 h5
    cases hb:Nat.beq j' n with
    | true=>simp only [AL,Bl,AX hj];exact ih
    | false=>exact ih
   ·exact ih
section
variable {w0:World} {M0:Bs} {N:Nat} {M M':Own} {β β':Nat->Nat} {τ τ':Nat->Value} {L L':List (Nat×Ob)} {st st':St} {a:Act} {as:List Act} {w w':World}
theorem Sm.ren (s:Sm w0 M0 N M β τ st a as w) (ids:List Nat):Sm w0 M0 N M (λj=>β ((ids[j]?).getD 0)) (λj=>τ ((ids[j]?).getD 0)) (dR ids st) a as w:=by
 have hm:Gq (λid=>Q9 id ids 0) st.l β τ (dR ids st).l (λj=>β ((ids[j]?).getD 0)) (λj=>τ ((ids[j]?).getD 0)):=by
  intro id j ob hf hl
  obtain ⟨_,h⟩:=bC hf
  simp only [Nat.sub_zero] at h
  exact ⟨_,uG ids 0 j id ob (Nat.zero_le _) (by simpa using h) hf hl,R7 _ _,by simp [h],by simp [h]⟩
 have inv:∀ {j Ij},lk j (dR ids st).l=some Ij->∃ id ob,ids[j]? = some id/\Q9 id ids 0=some j/\lk id st.l=some ob/\Ij=Ei (λid=>Q9 id ids 0) ob:=by
  intro j Ij h
  obtain ⟨_,id,ob,h1,h2⟩:=QAK ids 0 j Ij h
  exact ⟨id,ob,by simpa using h1,h2⟩
 have hbk:∀ {j id:Nat} {ob:Ob},ids[j]? = some id->blk (λj=>β ((ids[j]?).getD 0)) (λj=>τ ((ids[j]?).getD 0)) j (Ei (λid=>Q9 id ids 0) ob)=blk β τ id ob:=by
  intro j id ob h
  cases ob <;> simp [Ei,blk,h]
 refine s.gen (f:=λid=>Q9 id ids 0) (Ext.refl M w) s.J6 s.mlt s.Fu (λ_ _=>⟨rfl,λ_ h=>h⟩) hm rfl rfl ?_ ?_
 ·intro j Ij h
  obtain ⟨id,ob,h1,h2,h3,rfl⟩:=inv h
  exact MX.map (Ext.refl M w) hm h2 h3 (s.ob id ob h3) λb _=>⟨rfl,λ_ h=>h⟩
 ·intro j j' o o' b h h' hb hb'
  obtain ⟨id,ob,h1,h2,h3,rfl⟩:=inv h
  obtain ⟨id',Ij,h1',h2',h3',rfl⟩:=inv h'
  rw [hbk h1] at hb
  rw [hbk h1'] at hb'
  have:=s.dj id id' ob Ij b h3 h3' hb hb'
  subst this
  exact Au (h2.symm.trans h2')
theorem Sm.OB (s:Sm w0 M0 N M β τ st a as w) (ks:List Nat):Sm w0 M0 N M β τ { st with s:=Go.Lift.OB st.s ks } a as w:=
 { s with fr:=λi rv h=>s.fr i rv (R6 _ _ _ _ h) }
theorem uL {b0:Nat->Prop} {t:Ty}:LW b0 M w t ([]:List t.den) (.slice none 0 0):=
 ⟨none,0,[],rfl,by simp,by simp [maxLen],λ_=>rfl,rfl,λ_ h=>by cases h⟩
theorem Sm.QKS (s:Sm w0 M0 N M β τ st a as w) {c:Nat} (t:Ty) (hc:lk c st.l=none):∃ β' τ',Sm w0 M0 N M β' τ' (addN c (.row t []) st) a as w/\τ' c=.slice none 0 0/\Gq some st.l β τ (addN c (.row t []) st).l β' τ':=by
 refine ⟨_,_,s.QDI hc (Gr.refl s.mlt) uL,by simp,?_⟩
 intro i j o hf hl
 cases hf
 have hne:i≠c:=λe=>by subst e;rw [hc] at hl;cases hl
 exact ⟨o,by simp [addN,Bl,hne,hl],rfl,by simp [hne],by simp [hne]⟩
def QAC:List Nat->Nat->St->St
 | [],_,st=>st
 | i::r,c,st=>match lk i st.s,lk c st.l with
  | some (.nil t),none=>QAC r (c+1) { addN c (.row t []) st with s:=VJ i (.row c) st.s }
  | _,_=>QAC r c st
theorem Sm.QAC:∀ (is:List Nat) (c:Nat) {st:St} {β:Nat->Nat} {τ:Nat->Value},Sm w0 M0 N M β τ st a as w->∃ β' τ',Sm w0 M0 N M β' τ' (Go.Lift.QAC is c st) a as w
 | [],c,st,β,τ,s=>⟨β,τ,s⟩
 | i::r,c,st,β,τ,s=>by
  simp only [Go.Lift.QAC]
  split
  ·rename_i t h1 h2
   obtain ⟨β',τ',s',ht,_⟩:=s.QKS t h2
   refine Sm.QAC r (c+1) (β:=β') (τ:=τ') { s' with fr:=?_ }
   intro j rv h
   rw [M6] at h
   split at h
   ·rename_i hj
    subst hj
    rw [h1] at h
    cases h
    obtain ⟨u,hu,hr⟩:=s'.fr j (.nil t) h1
    have hr':[u]=[Value.slice none 0 0]:=hr
    cases hr'
    refine ⟨_,hu,?_⟩
    simp only [RR]
    exact ⟨rfl,_,t,[],rfl,rfl,by simp [addN,lk],ht.symm⟩
   ·exact s'.fr j rv h
  ·exact Sm.QAC r c s
def QE0 (c:Nat):RV->Option (RV×Ty)
 | .nil t=>some (.row c,t)
 | .pair a b=>match QE0 c a with
  | some (a',t)=>some (.pair a' b,t)
  | none=>match QE0 c b with
   | some (b',t)=>some (.pair a b',t)
   | none=>none
 | _=>none
theorem QOh {c:Nat} {t:Ty} (hl:lk c L=some (.row t [])) (ht:τ c=.slice none 0 0):∀ {con Fz:RV} {ty:Ty} {cs:List Value},QE0 c con=some (Fz,t)->RR M w β τ L con (.ce ty) cs->RR M w β τ L Fz (.ce ty) cs:=by
 intro con
 induction con with
 | nil t'=>
  intro Fz ty cs h r
  simp only [QE0,Ac,Prod.mk.injEq] at h
  obtain ⟨rfl,rfl⟩:=h
  obtain ⟨rfl,rfl⟩:=r
  simp only [RR]
  exact ⟨rfl,_,t',[],rfl,rfl,hl,ht.symm⟩
 | pair a b iha ihb=>
  intro Fz ty cs h r
  simp only [RR] at r
  obtain ⟨ta,tb,c1,c2,rfl,rfl,r1,r2⟩:=r
  simp only [QE0] at h
  split at h
  ·rename_i a' t' ha
   cases h
   simp only [RR]
   exact ⟨ta,tb,c1,c2,rfl,rfl,iha ha r1,r2⟩
  ·split at h
   ·rename_i b' t' hb
    cases h
    simp only [RR]
    exact ⟨ta,tb,c1,c2,rfl,rfl,r1,ihb hb r2⟩
   ·cases h
 | _=>intro Fz ty cs h;simp [QE0] at h
def tH:Nat->List Nat->Nat->St->St
 | 0,_,_,st=>st
 | _,[],_,st=>st
 | n+1,id::r,c,st=>match lk id st.l,lk c st.l with
  | some (.var ty con),none=>match QE0 c con with
   | some (Fz,t)=>tH n (id::r) (c+1) (Dv id (.var ty Fz) (addN c (.row t []) st))
   | none=>tH n r c st
  | _,_=>tH n r c st
theorem Sm.tH:∀ (n:Nat) (is:List Nat) (c:Nat) {st:St} {β:Nat->Nat} {τ:Nat->Value},Sm w0 M0 N M β τ st a as w->∃ β' τ',Sm w0 M0 N M β' τ' (Go.Lift.tH n is c st) a as w
 | 0,_,_,st,β,τ,s=>⟨β,τ,s⟩
 | n+1,[],_,st,β,τ,s=>⟨β,τ,s⟩
 | n+1,id::r,c,st,β,τ,s=>by
  simp only [Go.Lift.tH]
  split
  ·rename_i ty con h1 h2
   split
   ·rename_i Fz t hc
    obtain ⟨β',τ',s',ht,hm⟩:=s.QKS t h2
    refine Sm.tH n (id::r) (c+1) (β:=β') (τ:=τ') ?_
    have hne:id≠c:=λe=>by subst e;rw [h2] at h1;cases h1
    have hl':lk id (addN c (.row t []) st).l=some (.var ty con):=by simp [addN,Bl,hne,h1]
    have hlk:∀ j,lk j (VJ id (.var ty Fz) (addN c (.row t []) st).l)=if j=id then some (.var ty Fz) else lk j (addN c (.row t []) st).l:=λj=>by
     rw [M6,hl'];split <;> simp
    have hm':Gq some (addN c (.row t []) st).l β' τ' (VJ id (.var ty Fz) (addN c (.row t []) st).l) β' τ':=by
     intro i j o hf hi
     cases hf
     by_cases h:i=id
     ·subst h
      rw [hl'] at hi
      cases hi
      exact ⟨.var ty Fz,by rw [hlk];simp,rfl,rfl,rfl⟩
     ·exact ⟨o,by rw [hlk,AX h];exact hi,rfl,rfl,rfl⟩
    refine s'.gen (f:=some) (st':=Dv id (.var ty Fz) (addN c (.row t []) st)) (Ext.refl M w) s'.J6 s'.mlt s'.Fu (λ_ _=>⟨rfl,λ_ h=>h⟩) hm' (IZ _).symm (Ju _).symm ?_ ?_
    ·intro j o h
     simp only [Dv] at h
     rw [hlk] at h
     split at h
     ·rename_i hj
      subst hj
      cases h
      obtain ⟨l1,⟨cs,T,l2,l3⟩,l4⟩:=s'.ob j _ hl'
      refine ⟨l1,⟨cs,T,l2,(QOh (by simp [addN,lk]) ht hc l3).keep hm'⟩,l4⟩
     ·have:=MX.map (f:=some) (Ext.refl M w) hm' rfl h (s'.ob j o h) λb _=>⟨rfl,λ_ h=>h⟩
      rwa [Gi] at this
    ·intro j j' o o' b h h' hb hb'
     simp only [Dv] at h h'
     rw [hlk] at h h'
     have iF:∀ {j o},(if j=id then some (Ob.var ty Fz) else lk j (addN c (.row t []) st).l)=some o->blk β' τ' j o=some b->∃ o0,lk j (addN c (.row t []) st).l=some o0/\blk β' τ' j o0=some b:=by
      intro j o hh hb2
      by_cases hj:j=id
      ·rw [AY hj] at hh
       subst hj
       obtain rfl:=Au hh
       exact ⟨_,hl',hb2⟩
      ·rw [AX hj] at hh
       exact ⟨o,hh,hb2⟩
     obtain ⟨o0,g1,g2⟩:=iF h hb
     obtain ⟨o0',g1',g2'⟩:=iF h' hb'
     exact s'.dj j j' o0 o0' b g1 g1' g2 g2'
   ·exact Sm.tH n r c s
  ·exact Sm.tH n r c s
def order (st:St):St:=dR (reach st.l 200 (QTq st.s (QZO st.k [])) []) st
def canon (ks:List Nat) (st:St):St:=
 let st1:=order { st with s:=OB st.s ks }
 let st2:=tH 200 (List.range st1.l.length) st1.l.length st1
 order (QAC ks st2.l.length st2)
theorem Cu.order (s:Cu w0 M0 N st a as w):Cu w0 M0 N (Go.Lift.order st) a as w:=by
 obtain ⟨M,β,τ,s⟩:=s
 exact ⟨M,_,_,s.ren _⟩
theorem Cu.canon (s:Cu w0 M0 N st a as w) (ks:List Nat):Cu w0 M0 N (Go.Lift.canon ks st) a as w:=by
 obtain ⟨M,β,τ,s⟩:=s
 have s1:Cu w0 M0 N (Go.Lift.order { st with s:=Go.Lift.OB st.s ks }) a as w:=Cu.order ⟨M,β,τ,s.OB ks⟩
 obtain ⟨M,β,τ,s1⟩:=s1
 obtain ⟨β',τ',s'⟩:=Sm.tH 200 (List.range _) _ s1
 obtain ⟨β'',Qet,s''⟩:=Sm.QAC ks _ s'
 exact Cu.order ⟨M,β'',Qet,s''⟩
theorem aA {i:Nat}:∀ (n:Nat) (vs:List RV) (rv:RV),lk i ((vs.zipIdx n).map λp=>(p.2,p.1))=some rv->n<=i/\vs[i - n]? = some rv
 | n,[],rv,h=>by simp [lk] at h
 | n,v::vs,rv,h=>by
  simp only [List.zipIdx_cons,List.map_cons,Bl] at h
  split at h
  ·rename_i e
   subst e
   cases h
   simp
  ·obtain ⟨h1,h2⟩:=aA (n+1) vs rv h
   refine ⟨by omega,?_⟩
   rw [show i - n=(i - (n+1))+1 by omega]
   simpa using h2
end
end Go.Lift
