import Derived.Test.YtbgmjjplddddnaaGreatDoorRiF
namespace Go.Lift
open Go.RowKit
def CQ {α:Type} (s:List (Nat×α)):List Nat->List (Nat×α)
 | []=>[]
 | i::r=>match lk i s with
  | some a=>(i,a)::CQ s r
  | none=>CQ s r
theorem DK {α:Type} (s:List (Nat×α)) (i:Nat):∀ (ks:List Nat) (a:α),lk i (CQ s ks)=some a->lk i s=some a
 | [],a,h=>by simp [CQ,lk] at h
 | j::r,a,h=>by
  simp only [CQ] at h
  split at h
  ·rename_i x hx
   rw [AF] at h
   split at h
   ·rename_i e;subst e;cases h;exact hx
   ·exact DK s i r a h
  ·exact DK s i r a h
def Er:RV->List Nat->List Nat
 | .row id,acc=>id::acc
 | .sub id _ _,acc=>id::acc
 | .loc id _,acc=>id::acc
 | .Dn _ c,acc=>Er c acc
 | .pair a b,acc=>Er a (Er b acc)
 | .agg _ r,acc=>Er r acc
 | .CW r,acc=>Er r acc
 | .mp id,acc=>id::acc
 | .yl id,acc=>id::acc
 | _,acc=>acc
def Vg:List (Nat×RV)->List Nat->List Nat
 | [],acc=>acc
 | p::s,acc=>Er p.2 (Vg s acc)
def Wo:List (Nat×List (Nat×RV))->List Nat->List Nat
 | [],acc=>acc
 | p::k,acc=>Vg p.2 (Wo k acc)
def reach (l:List (Nat×Ob)):Nat->List Nat->List Nat->List Nat
 | 0,_,seen=>seen
 | _,[],seen=>seen
 | n+1,id::todo,seen=>bif seen.any (Nat.beq id) then reach l n todo seen else match lk id l with
  | some (.var _ con)=>reach l n (Er con todo) (seen++[id])
  | some (.row _ _)=>reach l n todo (seen++[id])
  | some (.mp _ _ _)=>reach l n todo (seen++[id])
  | some (.lp con _)=>reach l n (Er con todo) (seen++[id])
  | none=>reach l n todo seen
def Cx (id:Nat):List Nat->Nat->Option Nat
 | [],_=>none
 | j::r,n=>bif Nat.beq id j then some n else Cx id r (n+1)
theorem F4 {id:Nat}:∀ {l:List Nat} {n j:Nat},Cx id l n=some j->n<=j/\l[j - n]? = some id
 | [],n,j,h=>by cases h
 | x::r,n,j,h=>by
  simp only [Cx] at h
  cases hb:Nat.beq id x with
  | true=>
   have:=Nat.eq_of_beq_eq_true hb
   subst this
   simp at h
   subst h
   simp
  | false=>
   simp only [hb,cond_false] at h
   obtain ⟨h1,h2⟩:=F4 h
   refine ⟨by omega,?_⟩
   rw [show j - n=(j - (n+1))+1 by omega]
   simpa using h2
def Dy (f:Nat->Option Nat) (l:List (Nat×Ob)):List Nat->Nat->List (Nat×Ob)
 | [],_=>[]
 | id::r,n=>match f id,lk id l with
  | some j,some ob=>bif Nat.beq j n then (n,Au f ob)::Dy f l r (n+1) else Dy f l r (n+1)
  | _,_=>Dy f l r (n+1)
def Gd (ids:List Nat) (st:St):St:=
 { s:=FH (fun id=>Cx id ids 0) st.s,l:=Dy (fun id=>Cx id ids 0) st.l ids 0,k:=Dr (fun id=>Cx id ids 0) st.k,b:=st.b }
theorem M8 {f:Nat->Option Nat} {l:List (Nat×Ob)}:∀ (ids:List Nat) (n j:Nat) (BS:Ob),lk j (Dy f l ids n)=some BS->n<=j/\∃ id ob,ids[j - n]? = some id/\f id=some j/\lk id l=some ob/\BS=Au f ob
 | [],n,j,BS,h=>by simp [Dy,lk] at h
 | id::r,n,j,BS,h=>by
  have next:lk j (Dy f l r (n+1))=some BS->n<=j/\∃ id' ob,(id::r)[j - n]? = some id'/\f id'=some j/\lk id' l=some ob/\BS=Au f ob:=by
   intro h
   obtain ⟨h1,i',ob,h2,h3⟩:=M8 r (n+1) j BS h
   refine ⟨by omega,i',ob,?_,h3⟩
   rw [show j - n=(j - (n+1))+1 by omega]
   simpa using h2
  simp only [Dy] at h
  split at h
  ·rename_i j' ob h1 h2
   cases hb:Nat.beq j' n with
   | true=>
    have:=Nat.eq_of_beq_eq_true hb
    subst this
    simp only [hb,cond_true,AF] at h
    split at h
    ·rename_i e
     subst e
     cases h
     exact ⟨Nat.le_refl _,id,ob,by simp,h1,h2,rfl⟩
    ·exact next h
   | false=>
    simp only [hb,cond_false] at h
    exact next h
  ·exact next h
theorem Kr {f:Nat->Option Nat} {l:List (Nat×Ob)}:∀ (ids:List Nat) (n j id:Nat) (ob:Ob),n<=j->ids[j - n]? = some id->f id=some j->lk id l=some ob->lk j (Dy f l ids n)=some (Au f ob)
 | [],n,j,id,ob,h,h1,_,_=>by simp at h1
 | i::r,n,j,id,ob,h,h1,h2,h3=>by
  by_cases hj:j=n
  ·subst hj
   simp at h1
   subst h1
   simp [Dy,h2,h3,lk]
  ·have ih:=Kr r (n+1) j id ob (by omega) (by rw [show j - n=(j - (n+1))+1 by omega] at h1;simpa using h1) h2 h3
   simp only [Dy]
   split
   ·rename_i j' BS h4 h5
    cases hb:Nat.beq j' n with
    | true=>simp only [cond_true,AF,if_neg hj];exact ih
    | false=>exact ih
   ·exact ih
section
variable {w0:World} {M0:Bs} {N:Nat} {M M':Own} {β β':Nat->Nat} {τ τ':Nat->Value} {L L':List (Nat×Ob)} {st st':St} {a:Act} {as:List Act} {w w':World}
theorem Sm.ren (s:Sm w0 M0 N M β τ st a as w) (ids:List Nat):Sm w0 M0 N M (fun j=>β ((ids[j]?).getD 0)) (fun j=>τ ((ids[j]?).getD 0)) (Gd ids st) a as w:=by
 have hm:BJ (fun id=>Cx id ids 0) st.l β τ (Gd ids st).l (fun j=>β ((ids[j]?).getD 0)) (fun j=>τ ((ids[j]?).getD 0)):=by
  intro id j ob hf hl
  obtain ⟨_,h⟩:=F4 hf
  simp only [Nat.sub_zero] at h
  exact ⟨_,Kr ids 0 j id ob (Nat.zero_le _) (by simpa using h) hf hl,DR _ _,by simp [h],by simp [h]⟩
 have inv:∀ {j BS},lk j (Gd ids st).l=some BS->∃ id ob,ids[j]? = some id/\Cx id ids 0=some j/\lk id st.l=some ob/\BS=Au (fun id=>Cx id ids 0) ob:=by
  intro j BS h
  obtain ⟨_,id,ob,h1,h2⟩:=M8 ids 0 j BS h
  exact ⟨id,ob,by simpa using h1,h2⟩
 have hbk:∀ {j id:Nat} {ob:Ob},ids[j]? = some id->blk (fun j=>β ((ids[j]?).getD 0)) (fun j=>τ ((ids[j]?).getD 0)) j (Au (fun id=>Cx id ids 0) ob)=blk β τ id ob:=by
  intro j id ob h
  cases ob <;> simp [Au,blk,h]
 refine s.gen (f:=fun id=>Cx id ids 0) (Ext.refl M w) s.Bc s.mlt s.Az (fun _ _=>⟨rfl,fun _ h=>h⟩) hm rfl rfl ?_ ?_
 ·intro j BS h
  obtain ⟨id,ob,h1,h2,h3,rfl⟩:=inv h
  exact CF.map (Ext.refl M w) hm h2 h3 (s.ob id ob h3) fun b _=>⟨rfl,fun _ h=>h⟩
 ·intro j j' o o' b h h' hb hb'
  obtain ⟨id,ob,h1,h2,h3,rfl⟩:=inv h
  obtain ⟨id',BS,h1',h2',h3',rfl⟩:=inv h'
  rw [hbk h1] at hb
  rw [hbk h1'] at hb'
  have:=s.dj id id' ob BS b h3 h3' hb hb'
  subst this
  exact Option.some.inj (h2.symm.trans h2')
theorem Sm.CQ (s:Sm w0 M0 N M β τ st a as w) (ks:List Nat):Sm w0 M0 N M β τ { st with s:=Go.Lift.CQ st.s ks } a as w:=
 { s with fr:=fun i rv h=>s.fr i rv (DK _ _ _ _ h) }
theorem Kw {b0:Nat->Prop} {t:Ty}:Bw b0 M w t ([]:List t.den) (.slice none 0 0):=
 ⟨none,0,[],rfl,by simp,by simp [maxLen],fun _=>rfl,rfl,fun _ h=>by cases h⟩
theorem Sm.Rw (s:Sm w0 M0 N M β τ st a as w) {c:Nat} (t:Ty) (hc:lk c st.l=none):∃ β' τ',Sm w0 M0 N M β' τ' (addN c (.row t []) st) a as w/\τ' c=.slice none 0 0/\BJ some st.l β τ (addN c (.row t []) st).l β' τ':=by
 refine ⟨_,_,s.Ot hc (Gr.refl s.mlt) Kw,by simp,?_⟩
 intro i j o hf hl
 cases hf
 have hne:i≠c:=fun e=>by subst e;rw [hc] at hl;cases hl
 exact ⟨o,by simp [addN,AF,hne,hl],rfl,by simp [hne],by simp [hne]⟩
def Mx:List Nat->Nat->St->St
 | [],_,st=>st
 | i::r,c,st=>match lk i st.s,lk c st.l with
  | some (.nil t),none=>Mx r (c+1) { addN c (.row t []) st with s:=Dw i (.row c) st.s }
  | _,_=>Mx r c st
theorem Sm.Mx:∀ (is:List Nat) (c:Nat) {st:St} {β:Nat->Nat} {τ:Nat->Value},Sm w0 M0 N M β τ st a as w->∃ β' τ',Sm w0 M0 N M β' τ' (Go.Lift.Mx is c st) a as w
 | [],c,st,β,τ,s=>⟨β,τ,s⟩
 | i::r,c,st,β,τ,s=>by
  simp only [Go.Lift.Mx]
  split
  ·rename_i t h1 h2
   obtain ⟨β',τ',s',ht,_⟩:=s.Rw t h2
   refine Sm.Mx r (c+1) (β:=β') (τ:=τ') { s' with fr:=?_ }
   intro j rv h
   rw [CG] at h
   split at h
   ·rename_i hj
    subst hj
    rw [h1] at h
    cases h
    obtain ⟨u,hu,hr⟩:=s'.fr j (.nil t) h1
    have hr':[u]=[Value.slice none 0 0]:=hr
    cases hr'
    refine ⟨_,hu,?_⟩
    simp only [RR]
    exact ⟨rfl,_,t,[],rfl,rfl,by simp [addN,lk],ht.symm⟩
   ·exact s'.fr j rv h
  ·exact Sm.Mx r c s
def Pg (c:Nat):RV->Option (RV×Ty)
 | .nil t=>some (.row c,t)
 | .pair a b=>match Pg c a with
  | some (a',t)=>some (.pair a' b,t)
  | none=>match Pg c b with
   | some (b',t)=>some (.pair a b',t)
   | none=>none
 | _=>none
theorem Ue {c:Nat} {t:Ty} (hl:lk c L=some (.row t [])) (ht:τ c=.slice none 0 0):∀ {con BD:RV} {ty:Ty} {cs:List Value},Pg c con=some (BD,t)->RR M w β τ L con (.ce ty) cs->RR M w β τ L BD (.ce ty) cs:=by
 intro con
 induction con with
 | nil t'=>
  intro BD ty cs h r
  simp only [Pg,Option.some.injEq,Prod.mk.injEq] at h
  obtain ⟨rfl,rfl⟩:=h
  obtain ⟨rfl,rfl⟩:=r
  simp only [RR]
  exact ⟨rfl,_,t',[],rfl,rfl,hl,ht.symm⟩
 | pair a b iha ihb=>
  intro BD ty cs h r
  simp only [RR] at r
  obtain ⟨ta,tb,c1,c2,rfl,rfl,r1,r2⟩:=r
  simp only [Pg] at h
  split at h
  ·rename_i a' t' ha
   cases h
   simp only [RR]
   exact ⟨ta,tb,c1,c2,rfl,rfl,iha ha r1,r2⟩
  ·split at h
   ·rename_i b' t' hb
    cases h
    simp only [RR]
    exact ⟨ta,tb,c1,c2,rfl,rfl,r1,ihb hb r2⟩
   ·cases h
 | _=>intro BD ty cs h;simp [Pg] at h
def Ka:Nat->List Nat->Nat->St->St
 | 0,_,_,st=>st
 | _,[],_,st=>st
 | n+1,id::r,c,st=>match lk id st.l,lk c st.l with
  | some (.var ty con),none=>match Pg c con with
   | some (BD,t)=>Ka n (id::r) (c+1) (Ai id (.var ty BD) (addN c (.row t []) st))
   | none=>Ka n r c st
  | _,_=>Ka n r c st
theorem Sm.Ka:∀ (n:Nat) (is:List Nat) (c:Nat) {st:St} {β:Nat->Nat} {τ:Nat->Value},Sm w0 M0 N M β τ st a as w->∃ β' τ',Sm w0 M0 N M β' τ' (Go.Lift.Ka n is c st) a as w
 | 0,_,_,st,β,τ,s=>⟨β,τ,s⟩
 | n+1,[],_,st,β,τ,s=>⟨β,τ,s⟩
 | n+1,id::r,c,st,β,τ,s=>by
  simp only [Go.Lift.Ka]
  split
  ·rename_i ty con h1 h2
   split
   ·rename_i BD t hc
    obtain ⟨β',τ',s',ht,hm⟩:=s.Rw t h2
    refine Sm.Ka n (id::r) (c+1) (β:=β') (τ:=τ') ?_
    have hne:id≠c:=fun e=>by subst e;rw [h2] at h1;cases h1
    have hl':lk id (addN c (.row t []) st).l=some (.var ty con):=by simp [addN,AF,hne,h1]
    have hlk:∀ j,lk j (Dw id (.var ty BD) (addN c (.row t []) st).l)=if j=id then some (.var ty BD) else lk j (addN c (.row t []) st).l:=fun j=>by
     rw [CG,hl'];split <;> simp
    have hm':BJ some (addN c (.row t []) st).l β' τ' (Dw id (.var ty BD) (addN c (.row t []) st).l) β' τ':=by
     intro i j o hf hi
     cases hf
     by_cases h:i=id
     ·subst h
      rw [hl'] at hi
      cases hi
      exact ⟨.var ty BD,by rw [hlk];simp,rfl,rfl,rfl⟩
     ·exact ⟨o,by rw [hlk,if_neg h];exact hi,rfl,rfl,rfl⟩
    refine s'.gen (f:=some) (st':=Ai id (.var ty BD) (addN c (.row t []) st)) (Ext.refl M w) s'.Bc s'.mlt s'.Az (fun _ _=>⟨rfl,fun _ h=>h⟩) hm' (BP _).symm (Bh _).symm ?_ ?_
    ·intro j o h
     simp only [Ai] at h
     rw [hlk] at h
     split at h
     ·rename_i hj
      subst hj
      cases h
      obtain ⟨l1,⟨cs,T,l2,l3⟩,l4⟩:=s'.ob j _ hl'
      refine ⟨l1,⟨cs,T,l2,(Ue (by simp [addN,lk]) ht hc l3).keep hm'⟩,l4⟩
     ·have:=CF.map (f:=some) (Ext.refl M w) hm' rfl h (s'.ob j o h) fun b _=>⟨rfl,fun _ h=>h⟩
      rwa [BI] at this
    ·intro j j' o o' b h h' hb hb'
     simp only [Ai] at h h'
     rw [hlk] at h h'
     have Hf:∀ {j o},(if j=id then some (Ob.var ty BD) else lk j (addN c (.row t []) st).l)=some o->blk β' τ' j o=some b->∃ o0,lk j (addN c (.row t []) st).l=some o0/\blk β' τ' j o0=some b:=by
      intro j o hh hb2
      by_cases hj:j=id
      ·rw [if_pos hj] at hh
       subst hj
       obtain rfl:=Option.some.inj hh
       exact ⟨_,hl',hb2⟩
      ·rw [if_neg hj] at hh
       exact ⟨o,hh,hb2⟩
     obtain ⟨o0,g1,g2⟩:=Hf h hb
     obtain ⟨RP,g1',g2'⟩:=Hf h' hb'
     exact s'.dj j j' o0 RP b g1 g1' g2 g2'
   ·exact Sm.Ka n r c s
  ·exact Sm.Ka n r c s
def order (st:St):St:=Gd (reach st.l 200 (Vg st.s (Wo st.k [])) []) st
def canon (ks:List Nat) (st:St):St:=
 let st1:=order { st with s:=CQ st.s ks }
 let st2:=Ka 200 (List.range st1.l.length) st1.l.length st1
 order (Mx ks st2.l.length st2)
theorem Aa.order (s:Aa w0 M0 N st a as w):Aa w0 M0 N (Go.Lift.order st) a as w:=by
 obtain ⟨M,β,τ,s⟩:=s
 exact ⟨M,_,_,s.ren _⟩
theorem Aa.canon (s:Aa w0 M0 N st a as w) (ks:List Nat):Aa w0 M0 N (Go.Lift.canon ks st) a as w:=by
 obtain ⟨M,β,τ,s⟩:=s
 have s1:Aa w0 M0 N (Go.Lift.order { st with s:=Go.Lift.CQ st.s ks }) a as w:=Aa.order ⟨M,β,τ,s.CQ ks⟩
 obtain ⟨M,β,τ,s1⟩:=s1
 obtain ⟨β',τ',s'⟩:=Sm.Ka 200 (List.range _) _ s1
 obtain ⟨β'',Y1,s''⟩:=Sm.Mx ks _ s'
 exact Aa.order ⟨M,β'',Y1,s''⟩
theorem Fq {i:Nat}:∀ (n:Nat) (vs:List RV) (rv:RV),lk i ((vs.zipIdx n).map fun p=>(p.2,p.1))=some rv->n<=i/\vs[i - n]? = some rv
 | n,[],rv,h=>by simp [lk] at h
 | n,v::vs,rv,h=>by
  simp only [List.zipIdx_cons,List.map_cons,AF] at h
  split at h
  ·rename_i e
   subst e
   cases h
   simp
  ·obtain ⟨h1,h2⟩:=Fq (n+1) vs rv h
   refine ⟨by omega,?_⟩
   rw [show i - n=(i - (n+1))+1 by omega]
   simpa using h2
end
end Go.Lift
