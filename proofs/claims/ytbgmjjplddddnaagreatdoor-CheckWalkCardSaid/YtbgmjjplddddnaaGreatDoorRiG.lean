import Derived.Test.YtbgmjjplddddnaaGreatDoorRiF
set_option linter.unusedSimpArgs false
namespace Go.Lift
open Go.RowKit
def DX {α:Type} (s:List (Nat×α)):List Nat->List (Nat×α)
 | []=>[]
 | i::r=>match lk i s with
  | some a=>(i,a)::DX s r
  | none=>DX s r
theorem EH {α:Type} (s:List (Nat×α)) (i:Nat):∀ (ks:List Nat) (a:α),lk i (DX s ks)=some a->lk i s=some a
 | [],a,h=>by simp [DX,lk] at h
 | j::r,a,h=>by
  simp only [DX] at h
  split at h
  ·rename_i x hx
   rw [BN] at h
   split at h
   ·rename_i e;subst e;cases h;exact hx
   ·exact EH s i r a h
  ·exact EH s i r a h
def Fx:RV->List Nat->List Nat
 | .row id,acc=>id::acc
 | .sub id _ _,acc=>id::acc
 | .loc id _,acc=>id::acc
 | .Ee _ c,acc=>Fx c acc
 | .pair a b,acc=>Fx a (Fx b acc)
 | .agg _ r,acc=>Fx r acc
 | .Db r,acc=>Fx r acc
 | .mp id,acc=>id::acc
 | .yl id,acc=>id::acc
 | _,acc=>acc
def WY:List (Nat×RV)->List Nat->List Nat
 | [],acc=>acc
 | p::s,acc=>Fx p.2 (WY s acc)
def Xm:List (Nat×List (Nat×RV))->List Nat->List Nat
 | [],acc=>acc
 | p::k,acc=>WY p.2 (Xm k acc)
def reach (l:List (Nat×Ob)):Nat->List Nat->List Nat->List Nat
 | 0,_,seen=>seen
 | _,[],seen=>seen
 | n+1,id::todo,seen=>bif seen.any (Nat.beq id) then reach l n todo seen else match lk id l with
  | some (.var _ con)=>reach l n (Fx con todo) (seen++[id])
  | some (.row _ _)=>reach l n todo (seen++[id])
  | some (.mp _ _ _)=>reach l n todo (seen++[id])
  | some (.lp con _)=>reach l n (Fx con todo) (seen++[id])
  | none=>reach l n todo seen
def D7 (id:Nat):List Nat->Nat->Option Nat
 | [],_=>none
 | j::r,n=>bif Nat.beq id j then some n else D7 id r (n+1)
theorem G5 {id:Nat}:∀ {l:List Nat} {n j:Nat},D7 id l n=some j->n<=j/\l[j - n]? = some id
 | [],n,j,h=>by cases h
 | x::r,n,j,h=>by
  simp only [D7] at h
  cases hb:Nat.beq id x with
  | true=>
   have:=Aa hb
   subst this
   simp at h
   subst h
   simp
  | false=>
   simp only [hb,AJ] at h
   obtain ⟨h1,h2⟩:=G5 h
   refine ⟨by omega,?_⟩
   rw [show j - n=(j - (n+1))+1 by omega]
   simpa using h2
def Ep (f:Nat->Option Nat) (l:List (Nat×Ob)):List Nat->Nat->List (Nat×Ob)
 | [],_=>[]
 | id::r,n=>match f id,lk id l with
  | some j,some ob=>bif Nat.beq j n then (n,Bz f ob)::Ep f l r (n+1) else Ep f l r (n+1)
  | _,_=>Ep f l r (n+1)
def IB (ids:List Nat) (st:St):St:=
 { s:=GK (fun id=>D7 id ids 0) st.s,l:=Ep (fun id=>D7 id ids 0) st.l ids 0,k:=Ei (fun id=>D7 id ids 0) st.k,b:=st.b }
theorem OA {f:Nat->Option Nat} {l:List (Nat×Ob)}:∀ (ids:List Nat) (n j:Nat) (Ci:Ob),lk j (Ep f l ids n)=some Ci->n<=j/\∃ id ob,ids[j - n]? = some id/\f id=some j/\lk id l=some ob/\Ci=Bz f ob
 | [],n,j,Ci,h=>by simp [Ep,lk] at h
 | id::r,n,j,Ci,h=>by
  have next:lk j (Ep f l r (n+1))=some Ci->n<=j/\∃ id' ob,(id::r)[j - n]? = some id'/\f id'=some j/\lk id' l=some ob/\Ci=Bz f ob:=by
   intro h
   obtain ⟨h1,i',ob,h2,h3⟩:=OA r (n+1) j Ci h
   refine ⟨by omega,i',ob,?_,h3⟩
   rw [show j - n=(j - (n+1))+1 by omega]
   simpa using h2
  simp only [Ep] at h
  split at h
  ·rename_i j' ob h1 h2
   cases hb:Nat.beq j' n with
   | true=>
    have:=Aa hb
    subst this
    simp only [hb,AL,BN] at h
    split at h
    ·rename_i e
     subst e
     cases h
     exact ⟨Nat.le_refl _,id,ob,by simp,h1,h2,rfl⟩
    ·exact next h
   | false=>
    simp only [hb,AJ] at h
    exact next h
  ·exact next h
theorem Lr {f:Nat->Option Nat} {l:List (Nat×Ob)}:∀ (ids:List Nat) (n j id:Nat) (ob:Ob),n<=j->ids[j - n]? = some id->f id=some j->lk id l=some ob->lk j (Ep f l ids n)=some (Bz f ob)
 | [],n,j,id,ob,h,h1,_,_=>by simp at h1
 | i::r,n,j,id,ob,h,h1,h2,h3=>by
  by_cases hj:j=n
  ·subst hj
   simp at h1
   subst h1
   simp [Ep,h2,h3,lk]
  ·have ih:=Lr r (n+1) j id ob (by omega) (by rw [show j - n=(j - (n+1))+1 by omega] at h1;simpa using h1) h2 h3
   simp only [Ep]
   split
   ·rename_i j' Ci h4 h5
    cases hb:Nat.beq j' n with
    | true=>simp only [AL,BN,AX hj];exact ih
    | false=>exact ih
   ·exact ih
section
variable {w0:World} {M0:Bs} {N:Nat} {M M':Own} {β β':Nat->Nat} {τ τ':Nat->Value} {L L':List (Nat×Ob)} {st st':St} {a:Act} {as:List Act} {w w':World}
theorem Sm.ren (s:Sm w0 M0 N M β τ st a as w) (ids:List Nat):Sm w0 M0 N M (fun j=>β ((ids[j]?).getD 0)) (fun j=>τ ((ids[j]?).getD 0)) (IB ids st) a as w:=by
 have hm:CX (fun id=>D7 id ids 0) st.l β τ (IB ids st).l (fun j=>β ((ids[j]?).getD 0)) (fun j=>τ ((ids[j]?).getD 0)):=by
  intro id j ob hf hl
  obtain ⟨_,h⟩:=G5 hf
  simp only [Nat.sub_zero] at h
  exact ⟨_,Lr ids 0 j id ob (Nat.zero_le _) (by simpa using h) hf hl,EK _ _,by simp [h],by simp [h]⟩
 have inv:∀ {j Ci},lk j (IB ids st).l=some Ci->∃ id ob,ids[j]? = some id/\D7 id ids 0=some j/\lk id st.l=some ob/\Ci=Bz (fun id=>D7 id ids 0) ob:=by
  intro j Ci h
  obtain ⟨_,id,ob,h1,h2⟩:=OA ids 0 j Ci h
  exact ⟨id,ob,by simpa using h1,h2⟩
 have hbk:∀ {j id:Nat} {ob:Ob},ids[j]? = some id->blk (fun j=>β ((ids[j]?).getD 0)) (fun j=>τ ((ids[j]?).getD 0)) j (Bz (fun id=>D7 id ids 0) ob)=blk β τ id ob:=by
  intro j id ob h
  cases ob <;> simp [Bz,blk,h]
 refine s.gen (f:=fun id=>D7 id ids 0) (Ext.refl M w) s.Cq s.mlt s.CJ (fun _ _=>⟨rfl,fun _ h=>h⟩) hm rfl rfl ?_ ?_
 ·intro j Ci h
  obtain ⟨id,ob,h1,h2,h3,rfl⟩:=inv h
  exact DN.map (Ext.refl M w) hm h2 h3 (s.ob id ob h3) fun b _=>⟨rfl,fun _ h=>h⟩
 ·intro j j' o o' b h h' hb hb'
  obtain ⟨id,ob,h1,h2,h3,rfl⟩:=inv h
  obtain ⟨id',Ci,h1',h2',h3',rfl⟩:=inv h'
  rw [hbk h1] at hb
  rw [hbk h1'] at hb'
  have:=s.dj id id' ob Ci b h3 h3' hb hb'
  subst this
  exact Ar (h2.symm.trans h2')
theorem Sm.DX (s:Sm w0 M0 N M β τ st a as w) (ks:List Nat):Sm w0 M0 N M β τ { st with s:=Go.Lift.DX st.s ks } a as w:=
 { s with fr:=fun i rv h=>s.fr i rv (EH _ _ _ _ h) }
theorem Lx {b0:Nat->Prop} {t:Ty}:DJ b0 M w t ([]:List t.den) (.slice none 0 0):=
 ⟨none,0,[],rfl,by simp,by simp [maxLen],fun _=>rfl,rfl,fun _ h=>by cases h⟩
theorem Sm.TB (s:Sm w0 M0 N M β τ st a as w) {c:Nat} (t:Ty) (hc:lk c st.l=none):∃ β' τ',Sm w0 M0 N M β' τ' (addN c (.row t []) st) a as w/\τ' c=.slice none 0 0/\CX some st.l β τ (addN c (.row t []) st).l β' τ':=by
 refine ⟨_,_,s.Pz hc (Gr.refl s.mlt) Lx,by simp,?_⟩
 intro i j o hf hl
 cases hf
 have hne:i≠c:=fun e=>by subst e;rw [hc] at hl;cases hl
 exact ⟨o,by simp [addN,BN,hne,hl],rfl,by simp [hne],by simp [hne]⟩
def Ny:List Nat->Nat->St->St
 | [],_,st=>st
 | i::r,c,st=>match lk i st.s,lk c st.l with
  | some (.nil t),none=>Ny r (c+1) { addN c (.row t []) st with s:=En i (.row c) st.s }
  | _,_=>Ny r c st
theorem Sm.Ny:∀ (is:List Nat) (c:Nat) {st:St} {β:Nat->Nat} {τ:Nat->Value},Sm w0 M0 N M β τ st a as w->∃ β' τ',Sm w0 M0 N M β' τ' (Go.Lift.Ny is c st) a as w
 | [],c,st,β,τ,s=>⟨β,τ,s⟩
 | i::r,c,st,β,τ,s=>by
  simp only [Go.Lift.Ny]
  split
  ·rename_i t h1 h2
   obtain ⟨β',τ',s',ht,_⟩:=s.TB t h2
   refine Sm.Ny r (c+1) (β:=β') (τ:=τ') { s' with fr:=?_ }
   intro j rv h
   rw [DR] at h
   split at h
   ·rename_i hj
    subst hj
    rw [h1] at h
    cases h
    obtain ⟨u,hu,hr⟩:=s'.fr j (.nil t) h1
    have hr':[u]=[Value.slice none 0 0]:=hr
    cases hr'
    refine ⟨_,hu,?_⟩
    simp only [RR]
    exact ⟨rfl,_,t,[],rfl,rfl,by simp [addN,lk],ht.symm⟩
   ·exact s'.fr j rv h
  ·exact Sm.Ny r c s
def Qb (c:Nat):RV->Option (RV×Ty)
 | .nil t=>some (.row c,t)
 | .pair a b=>match Qb c a with
  | some (a',t)=>some (.pair a' b,t)
  | none=>match Qb c b with
   | some (b',t)=>some (.pair a b',t)
   | none=>none
 | _=>none
theorem VR {c:Nat} {t:Ty} (hl:lk c L=some (.row t [])) (ht:τ c=.slice none 0 0):∀ {con CQ:RV} {ty:Ty} {cs:List Value},Qb c con=some (CQ,t)->RR M w β τ L con (.ce ty) cs->RR M w β τ L CQ (.ce ty) cs:=by
 intro con
 induction con with
 | nil t'=>
  intro CQ ty cs h r
  simp only [Qb,Ac,Prod.mk.injEq] at h
  obtain ⟨rfl,rfl⟩:=h
  obtain ⟨rfl,rfl⟩:=r
  simp only [RR]
  exact ⟨rfl,_,t',[],rfl,rfl,hl,ht.symm⟩
 | pair a b iha ihb=>
  intro CQ ty cs h r
  simp only [RR] at r
  obtain ⟨ta,tb,c1,c2,rfl,rfl,r1,r2⟩:=r
  simp only [Qb] at h
  split at h
  ·rename_i a' t' ha
   cases h
   simp only [RR]
   exact ⟨ta,tb,c1,c2,rfl,rfl,iha ha r1,r2⟩
  ·split at h
   ·rename_i b' t' hb
    cases h
    simp only [RR]
    exact ⟨ta,tb,c1,c2,rfl,rfl,r1,ihb hb r2⟩
   ·cases h
 | _=>intro CQ ty cs h;simp [Qb] at h
def La:Nat->List Nat->Nat->St->St
 | 0,_,_,st=>st
 | _,[],_,st=>st
 | n+1,id::r,c,st=>match lk id st.l,lk c st.l with
  | some (.var ty con),none=>match Qb c con with
   | some (CQ,t)=>La n (id::r) (c+1) (Bl id (.var ty CQ) (addN c (.row t []) st))
   | none=>La n r c st
  | _,_=>La n r c st
theorem Sm.La:∀ (n:Nat) (is:List Nat) (c:Nat) {st:St} {β:Nat->Nat} {τ:Nat->Value},Sm w0 M0 N M β τ st a as w->∃ β' τ',Sm w0 M0 N M β' τ' (Go.Lift.La n is c st) a as w
 | 0,_,_,st,β,τ,s=>⟨β,τ,s⟩
 | n+1,[],_,st,β,τ,s=>⟨β,τ,s⟩
 | n+1,id::r,c,st,β,τ,s=>by
  simp only [Go.Lift.La]
  split
  ·rename_i ty con h1 h2
   split
   ·rename_i CQ t hc
    obtain ⟨β',τ',s',ht,hm⟩:=s.TB t h2
    refine Sm.La n (id::r) (c+1) (β:=β') (τ:=τ') ?_
    have hne:id≠c:=fun e=>by subst e;rw [h2] at h1;cases h1
    have hl':lk id (addN c (.row t []) st).l=some (.var ty con):=by simp [addN,BN,hne,h1]
    have hlk:∀ j,lk j (En id (.var ty CQ) (addN c (.row t []) st).l)=if j=id then some (.var ty CQ) else lk j (addN c (.row t []) st).l:=fun j=>by
     rw [DR,hl'];split <;> simp
    have hm':CX some (addN c (.row t []) st).l β' τ' (En id (.var ty CQ) (addN c (.row t []) st).l) β' τ':=by
     intro i j o hf hi
     cases hf
     by_cases h:i=id
     ·subst h
      rw [hl'] at hi
      cases hi
      exact ⟨.var ty CQ,by rw [hlk];simp,rfl,rfl,rfl⟩
     ·exact ⟨o,by rw [hlk,AX h];exact hi,rfl,rfl,rfl⟩
    refine s'.gen (f:=some) (st':=Bl id (.var ty CQ) (addN c (.row t []) st)) (Ext.refl M w) s'.Cq s'.mlt s'.CJ (fun _ _=>⟨rfl,fun _ h=>h⟩) hm' (Cg _).symm (Cv _).symm ?_ ?_
    ·intro j o h
     simp only [Bl] at h
     rw [hlk] at h
     split at h
     ·rename_i hj
      subst hj
      cases h
      obtain ⟨l1,⟨cs,T,l2,l3⟩,l4⟩:=s'.ob j _ hl'
      refine ⟨l1,⟨cs,T,l2,(VR (by simp [addN,lk]) ht hc l3).keep hm'⟩,l4⟩
     ·have:=DN.map (f:=some) (Ext.refl M w) hm' rfl h (s'.ob j o h) fun b _=>⟨rfl,fun _ h=>h⟩
      rwa [CW] at this
    ·intro j j' o o' b h h' hb hb'
     simp only [Bl] at h h'
     rw [hlk] at h h'
     have Iq:∀ {j o},(if j=id then some (Ob.var ty CQ) else lk j (addN c (.row t []) st).l)=some o->blk β' τ' j o=some b->∃ o0,lk j (addN c (.row t []) st).l=some o0/\blk β' τ' j o0=some b:=by
      intro j o hh hb2
      by_cases hj:j=id
      ·rw [AY hj] at hh
       subst hj
       obtain rfl:=Ar hh
       exact ⟨_,hl',hb2⟩
      ·rw [AX hj] at hh
       exact ⟨o,hh,hb2⟩
     obtain ⟨o0,g1,g2⟩:=Iq h hb
     obtain ⟨SK,g1',g2'⟩:=Iq h' hb'
     exact s'.dj j j' o0 SK b g1 g1' g2 g2'
   ·exact Sm.La n r c s
  ·exact Sm.La n r c s
def order (st:St):St:=IB (reach st.l 200 (WY st.s (Xm st.k [])) []) st
def canon (ks:List Nat) (st:St):St:=
 let st1:=order { st with s:=DX st.s ks }
 let st2:=La 200 (List.range st1.l.length) st1.l.length st1
 order (Ny ks st2.l.length st2)
theorem Bb.order (s:Bb w0 M0 N st a as w):Bb w0 M0 N (Go.Lift.order st) a as w:=by
 obtain ⟨M,β,τ,s⟩:=s
 exact ⟨M,_,_,s.ren _⟩
theorem Bb.canon (s:Bb w0 M0 N st a as w) (ks:List Nat):Bb w0 M0 N (Go.Lift.canon ks st) a as w:=by
 obtain ⟨M,β,τ,s⟩:=s
 have s1:Bb w0 M0 N (Go.Lift.order { st with s:=Go.Lift.DX st.s ks }) a as w:=Bb.order ⟨M,β,τ,s.DX ks⟩
 obtain ⟨M,β,τ,s1⟩:=s1
 obtain ⟨β',τ',s'⟩:=Sm.La 200 (List.range _) _ s1
 obtain ⟨β'',Zo,s''⟩:=Sm.Ny ks _ s'
 exact Bb.order ⟨M,β'',Zo,s''⟩
theorem Gs {i:Nat}:∀ (n:Nat) (vs:List RV) (rv:RV),lk i ((vs.zipIdx n).map fun p=>(p.2,p.1))=some rv->n<=i/\vs[i - n]? = some rv
 | n,[],rv,h=>by simp [lk] at h
 | n,v::vs,rv,h=>by
  simp only [List.zipIdx_cons,List.map_cons,BN] at h
  split at h
  ·rename_i e
   subst e
   cases h
   simp
  ·obtain ⟨h1,h2⟩:=Gs (n+1) vs rv h
   refine ⟨by omega,?_⟩
   rw [show i - n=(i - (n+1))+1 by omega]
   simpa using h2
end
end Go.Lift
