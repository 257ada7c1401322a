import Derived.Test.YtjcnhegjiffgpaaGreatDoorRiL
set_option linter.unusedSimpArgs false
namespace Go.Lift
open Go.RowKit
section
variable {P:Program} {E:CO} {Q:Exit->Act->World->Prop} {o:Oper} {w0:World} {M0:Bs} {N:Nat} {M M':Own} {β:Nat->Nat} {τ:Nat->Value} {st st':St} {a:Act} {as:List Act} {w w':World} {id:Nat}
theorem II {α:Type} {r:α} {k:St->Option α}:∀ (n:Nat) (ids:List Nat) (st:St),K6 n ids st k=some r->Cu w0 M0 N st a as w->∃ st',k st'=some r/\Cu w0 M0 N st' a as w
 | 0,_,_,h,_=>by cases h
 | n+1,[],st,h,s=>⟨st,h,s⟩
 | n+1,id::ids,st,h,s=>by
  simp only [K6] at h
  cases hl:lk id st.l with
  | none=>rw [hl] at h;exact II n ids st h s
  | some ob=>
   rw [hl] at h
   obtain ⟨M,β,τ,s⟩:=s
   cases ob with
   | row t xs=>
    obtain ⟨M',s'⟩:=s.zn hl
    exact II n ids _ h ⟨M',β,τ,s'⟩
   | var ty con=>
    simp only at h
    split at h
    ·change Ji dN con ty (λx=>K6 n ids (kH id ty x st) k)=some r at h
     obtain ⟨x,h1,h2⟩:=VH (pk:=λβ rv k=>dN (α:=β) rv k) iQ (rv:=con) (t:=ty) (X:=ty.den) (g:=λβ x k=>k x) (λx=>PC.ret x) _ (λx=>K6 n ids (kH id ty x st) k) _ h
     obtain ⟨M',s'⟩:=s.kH (x:=x) hl λcs M' hM r=>by
      refine tX (M:=M) (β:=β) (τ:=τ) (L:=st.l) (pk:=λβ rv k=>dN (α:=β) rv k) (λb o m=>⟨hM b o m,λ_ h=>h⟩) iQ (λrv u tv hh rr=>?_) (h1 _ some) r
      unfold dN at hh
      split at hh
      ·rename_i t
       cases hh
       have r':[u]=[Value.slice none 0 0]:=rr
       cases r'
       exact ⟨[.slice none 0 0],rfl,none,0,[],by simp,by simp,by simp [maxLen],λ_=>rfl,by simp [Seq],.inl (by simp)⟩
      ·cases hh
     exact II n ids _ h2 ⟨M',β,τ,s'⟩
    ·exact II n _ st h ⟨M,β,τ,s⟩
   | mp kt vt es=>exact II n ids st h ⟨M,β,τ,s⟩
   | lp c q=>exact II n ids st h ⟨M,β,τ,s⟩
theorem Vt (id:Nat) (st:St):lk id (Dh id st).l=none:=by
 unfold Dh
 cases h:lk id st.l with
 | none=>exact h
 | some ob=>simp only;rw [bF];simp
theorem Sm.Dh (s:Sm w0 M0 N M β τ st a as w) (id:Nat):Sm w0 M0 N M β τ (Go.Lift.Dh id st) a as w:=by
 unfold Go.Lift.Dh
 split
 ·exact s
 ·exact s.kill id
def ROp (P:Program) (Q:Exit->Act->World->Prop) (w0:World) (M0:Bs) (N:Nat) (o:Oper) (a:Act) (as:List Act) (w:World) {α:Type} (k:St->Option α) (r:α):Prop:=
 ∀ K:Act->World->Prop,(∀ st' a' w',k st'=some r->Cu w0 M0 N st' a' as w'->K a' w')->o.wp P a w K Q
theorem SX (hE:CJ P E) (s:Cu w0 M0 N st a as w) (hd:∀ d,o.dst=some d->d < N) {α:Type} {k:St->Option α} {r:α} (h:tZ E o st k=some r):ROp P Q w0 M0 N o a as w k r:=by
 obtain ⟨M,β,τ,s⟩:=s
 intro K hK
 unfold tZ at h
 rw [EO] at h
 obtain ⟨⟨rv,ob⟩,h1,h2⟩:=tN (E:=E) (o:=o) (st:=Dh (newId st (o.dst.getD 0)) st) (id:=newId st (o.dst.getD 0)) _ (λq:RV×Option Ob=>k (Jd (QMr (newId st (o.dst.getD 0)) q.2 (Dh (newId st (o.dst.getD 0)) st)) o.dst q.1)) r h
 exact kX hE (s.Dh _) hd (Vt _ _) (h1 _ some) K λa' w' hs=>hK _ a' w' h2 hs
theorem QHN {L:List (Nat×Ob)} {rv:RV} {u:Value} (r:RR M w β τ L rv .sl [u]):RR M w β τ L (QLX rv) .sl [u]:=by
 cases rv with
 | nil t=>
  have hu:[u]=[Value.slice none 0 0]:=r
  cases hu
  exact ⟨_,rfl,[.slice none 0 0],rfl,none,0,[],by simp,by simp,by simp [maxLen],λ_=>rfl,by simp [Seq],.inl (by simp)⟩
 | _=>exact r
theorem QHG {α:Type} {tt:Option Ty} {p:List Step} {ty:Ty} {xs:List ty.den} {rv:RV} {k:List ty.den->Option α} {alt:Option α} {r:α} (h:QLO tt p ty xs rv k alt=some r) :
  (∃ j e ys z,p=[.idx j]/\rv=.val ⟨.slice e,ys⟩/\Cz tt (.nes e)=true/\ys≠[]/\TV.as ty ⟨.nes e,ys⟩=some z/\k (List.set xs j.toNat z)=some r)\/alt=some r:=by
 unfold QLO at h
 split at h
 ·rename_i j e ys
  cases hc:Cz tt (.nes e) with
  | false=>rw [hc] at h;exact .inr h
  | true=>
   rw [hc] at h
   simp only [AL] at h
   cases ys with
   | nil=>simp at h
   | cons y ys=>
    obtain ⟨z,hz,h⟩:=AO.1 (show ((TV.as ty ⟨.nes e,y::ys⟩).bind λz=>k (List.set xs j.toNat z))=some r from h)
    exact .inl ⟨j,e,_,z,rfl,rfl,hc,by simp,hz,h⟩
 ·exact .inr h
theorem QOg {X:Type} {tt:Option Ty} {p:List Step} {ty:Ty} {xs:List ty.den} {rv:RV} {f:List ty.den->X} {A:(β:Type)->(X->Option β)->Option β} (hA:PC A):PC (λβ k=>QLO tt p ty xs rv (λz=>k (f z)) (A β k)):=by
 unfold QLO
 split
 ·exact PC.bif (PC.bif PC.none (PC.bind λz=>PC.ret _)) hA
 ·exact hA
theorem jJ (hE:CJ P E) (s:Cu w0 M0 N st a as w) {t:TypeId} {x y:Operand} (hop:o.op=.store t x y) (hdst:o.dst=none) {i:Nat} {ob:Ob} (h:Wo E t x y st (λid ob=>some (id,ob))=some (i,ob)) :
  OSt P Q w0 M0 N o a as w (Dv i ob st)/\(lk i st.l).isSome=true:=by
 obtain ⟨M,β,τ,s⟩:=s
 unfold Wo at h
 have hx:=CG s.glob s.fr (lk t E.tab) x
 have fin:∀ (d:List Value) (w':World) (id:Nat) (off n:Nat) (st':St),(a.eval x)=.pointer (some ⟨β id,off,none⟩)->(a.eval y).cells=List.toArray d->(sizeOf t).run P w=.ok n w->d.length=n->(storeCells ⟨β id,off,none⟩ d).run P w=.ok () w'->Cu w0 M0 N st' a as w'->OSt P Q w0 M0 N o a as w st':=by
  intro d w' id off n st' hxv hyv hn hdn hst hs K hK
  have hrun:(execOp a.eval o).run P w=.ok .skip w':=by
   simp only [execOp,hop,Sem.run_bind,Instr.storeAt,hxv,Instr.sureAddr,Sem.run_pure,Result.andThen_ok,storeVar,hyv,hn,List.size_toArray,hdn,ne_eq,not_true_eq_false,if_false,hst]
  unfold Oper.wp
  rw [hrun]
  show K (a.put o.dst undef) w'
  rw [hdst]
  exact hK _ _ hs
 split at h
 ·rename_i i' p heq
  rw [heq] at hx
  obtain ⟨ob1,off,t',hl,ho,hu⟩:=YB hx
  simp only [hl] at h
  cases ob1 with
  | var ty con=>
   simp only at h
   obtain ⟨tt,htt,h⟩:=AO.1 h
   obtain ⟨c,hc,h⟩:=AO.1 h
   have hy:=CG s.glob s.fr (some tt) y
   obtain ⟨Fz,h1,h2⟩:=qJ (nv:=DT (some tt) y st.s) ty (X:=RV) (g:=λβ z k=>k z) con p (λz=>PC.ret z) _ (λFz=>some (i',Ob.var ty Fz)) _ h
   cases h2
   obtain ⟨d,w',g1,g2,g3⟩:=s.QU5 (P:=P) hl ho (h1 _ some) hy
   obtain ⟨cs,hcs,hr⟩:=toC_ok hc hy
   have hcells:=hr.cells
   rw [<- hcs,g1] at hcells
   have:d=cs:=by simpa using hcells
   exact ⟨fin d w' _ off _ _ hu g1 ((hE.tab _ _ htt).sizeOf w) (by rw [this,hr.length]) g2 ⟨M,β,τ,g3⟩,by rw [hl];rfl⟩
  | row ty xs=>
   simp only at h
   have hy:=QHN (CG s.glob s.fr (lk t E.tab) y)
   replace h:=QHG h
   rcases h with ⟨j,e,ys,z,rfl,heq2,hc,hne,hz,h⟩ | h
   ·cases h
    have hy:=CG s.glob s.fr (lk t E.tab) y
    rw [heq2] at hy
    obtain ⟨u,e1,cs0,Qct,hr0⟩:=hy
    simp only [List.cons.injEq,and_true] at e1
    have hv:EF M w (.nes e) ys (a.eval y):=⟨cs0,by rw [e1,Qct];rfl,hr0,λh0=>absurd (Ar h0) hne⟩
    obtain ⟨d,w',g1,g2,g3⟩:=s.QAW (P:=P) (x:=z) (v:=⟨.nes e,ys⟩) hl ho (.inl rfl) (.inl ⟨rfl,hz⟩) hv
    obtain ⟨cs,hcs,hr⟩:=hv
    have hcells:=toV_cells hr
    rw [<- hcs,g1] at hcells
    have:d=cs:=by simpa using hcells
    exact ⟨fin d w' _ off _ _ hu g1 ((hE.tab _ _ (Bu hc)).sizeOf w) (by rw [this,hr.length]) g2 ⟨M,β,τ,g3⟩,by rw [hl];rfl⟩
   split at h
   ·rename_i j v heq2
    rw [heq2] at hy
    obtain ⟨hc,h⟩:=BU h
    obtain ⟨z,hz,h⟩:=AO.1 h
    cases h
    obtain ⟨u,e,hv⟩:=hy
    simp only [List.cons.injEq,and_true] at e
    rw [<- e] at hv
    obtain ⟨d,w',g1,g2,g3⟩:=s.QAW (P:=P) (x:=z) hl ho (.inl rfl) (.inl ⟨rfl,hz⟩) hv
    obtain ⟨cs,hcs,hr⟩:=hv
    have hcells:=toV_cells hr
    rw [<- hcs,g1] at hcells
    have:d=cs:=by simpa using hcells
    exact ⟨fin d w' _ off _ _ hu g1 ((hE.tab _ _ (Bu hc)).sizeOf w) (by rw [this,hr.length]) g2 ⟨M,β,τ,g3⟩,by rw [hl];rfl⟩
   ·rename_i j sp q v heq2
    rw [heq2] at hy
    obtain ⟨hc,h⟩:=BU h
    obtain ⟨x1,hx1,h⟩:=AO.1 h
    obtain ⟨z,hz,h⟩:=AO.1 h
    cases h
    obtain ⟨u,e,hv⟩:=hy
    simp only [List.cons.injEq,and_true] at e
    rw [<- e] at hv
    obtain ⟨d,w',g1,g2,g3⟩:=s.QAW (P:=P) hl ho (.inr hx1) (.inr hz) hv
    obtain ⟨cs,hcs,hr⟩:=hv
    have hcells:=toV_cells hr
    rw [<- hcs,g1] at hcells
    have:d=cs:=by simpa using hcells
    exact ⟨fin d w' _ off _ _ hu g1 ((hE.tab _ _ (Bu hc)).sizeOf w) (by rw [this,hr.length]) g2 ⟨M,β,τ,g3⟩,by rw [hl];rfl⟩
   ·cases h
  | mp kt vt es=>cases h
  | lp c q=>cases h
 ·cases h
theorem lM {t:TypeId} {x y:Operand}:PC (λβ (k:Nat×Ob->Option β)=>Wo E t x y st λid ob=>k (id,ob)):=by
 unfold Wo
 split
 ·split
  ·rename_i id p _ _ ty con _
   exact PC.bind (X:=Nat×Ob) (g:=λβ tt k=>(toC tt (DT (some tt) y st.s)).bind λ_=>Ya (DT (some tt) y st.s) ty (λFz=>k (id,.var ty Fz)) con p) λtt=>PC.bind (X:=Nat×Ob) (g:=λβ _ k=>Ya (DT (some tt) y st.s) ty (λFz=>k (id,.var ty Fz)) con p) λ_=>
    qJ ty (X:=Nat×Ob) (g:=λβ Fz k=>k (id,.var ty Fz)) con p λz=>PC.ret _
  ·rename_i id p _ _ ty xs _
   refine QOg (X:=Nat×Ob) (f:=λz=>(id,.row ty z)) ?_
   split
   ·exact PC.bif (PC.bind λz=>PC.ret _) PC.none
   ·refine PC.bif ?_ PC.none
    intro β k r h
    obtain ⟨x1,hx1,h⟩:=AO.1 h
    obtain ⟨z,hz,h⟩:=AO.1 h
    exact ⟨_,λγ k'=>by simp only [hx1,hz,AA],h⟩
   ·exact PC.none
  ·exact PC.none
  ·exact PC.none
  ·exact PC.none
 ·exact PC.none
theorem sW (hE:CJ P E) (s:Cu w0 M0 N st a as w) {t:TypeId} {m x y:Operand} (hop:o.op=.mapUpdate t m x y) (hdst:o.dst=none) {i:Nat} {ob:Ob} (h:vK E t m x y st (λid ob=>some (id,ob))=some (i,ob)) :
  OSt P Q w0 M0 N o a as w (Dv i ob st)/\(lk i st.l).isSome=true:=by
 obtain ⟨M,β,τ,s⟩:=s
 unfold vK at h
 have hm:=CG s.glob s.fr none m
 split at h
 ·rename_i i' heq
  rw [heq] at hm
  obtain ⟨kt,vt,es,hl,hu⟩:=QDz hm
  simp only [hl] at h
  obtain ⟨hc,h⟩:=BU h
  simp only [AP] at hc
  obtain ⟨h0,hk,hvf⟩:=hc
  obtain ⟨v,h1,h2⟩:=F4 6 _ _ _ _ h
  obtain ⟨k,hk1,h3⟩:=AO.1 h2
  obtain ⟨u,h4,h5⟩:=F4 6 _ _ _ _ h3
  obtain ⟨z,hz,h6⟩:=AO.1 h5
  obtain ⟨rfl,rfl⟩:=Prod.mk.inj (Au h6)
  have e1:=TV.FE hk1
  have e2:=TV.FE hz
  have hv:=Qh s.ob 6 (h1 _ some) (CG s.glob s.fr (some kt) x)
  have hy:=Qh s.ob 6 (h4 _ some) (CG s.glob s.fr (some vt) y)
  rw [e1] at hv
  rw [e2] at hy
  obtain ⟨_,⟨arr,clock,hb,he⟩,_⟩:=s.ob i' _ hl
  obtain ⟨arr',clock',hrun,he'⟩:=QEb (M:=M) hE.tab hk (hE.tab _ _ (Bu h0)) (QCu (sF hk) hv) (QCu hvf hy) hb he
  refine ⟨λK hK=>?_,by rw [hl];rfl⟩
  have ZX:(execOp a.eval o).run P w=.ok .skip { w with heap:=w.heap.setIfInBounds (β i') (.map arr' clock') }:=by
   simp only [execOp,hop,hu,Sem.run_bind,hrun,Result.andThen_ok,Sem.run_pure]
  unfold Oper.wp
  rw [ZX]
  show K (a.put o.dst undef) _
  rw [hdst]
  exact hK _ _ ⟨M,β,τ,s.QU4 hl hb he'⟩
 ·cases h
theorem QA3 {t:TypeId} {m x y:Operand}:PC (λβ (k:Nat×Ob->Option β)=>vK E t m x y st λid ob=>k (id,ob)):=by
 unfold vK
 split
 ·rename_i i _
  split
  ·rename_i kt vt es _
   exact PC.bif (PC.comp (Y:=Nat×Ob) (G:=λβ v k=>(TV.as kt v).bind λx=>DU st.l 6 (DT (some vt) y st.s) λu=>(TV.as vt u).bind λy=>k (i,.mp kt vt (XP x y es))) (F4 6 _) λv=>PC.bind λx=>
    PC.comp (Y:=Nat×Ob) (G:=λβ u k=>(TV.as vt u).bind λy=>k (i,.mp kt vt (XP x y es))) (F4 6 _) λu=>PC.bind λy=>PC.ret _) PC.none
  ·exact PC.none
 ·exact PC.none
theorem QCl (hE:CJ P E) (s:Cu w0 M0 N st a as w) {t:TypeId} {x y:Operand} (hop:o.op=.store t x y) (hdst:o.dst=none) {α:Type} [DecidableEq α] {k:St->Option α} {r:α} {H:Tg->St->(St->RV->Option α)->Option α} {lt:LT} (h:PV E H lt o st k=some r) :
  ROp P Q w0 M0 N o a as w k r:=by
 intro K hK
 simp only [PV,hop,hdst] at h
 obtain ⟨⟨i,ob⟩,h1,h2⟩:=lM _ (λq:Nat×Ob=>k (Dv q.1 q.2 st)) _ h
 exact (jJ hE s hop hdst (h1 _ some)).1 K λa' w' hs=>hK _ a' w' h2 hs
theorem QHB (hE:CJ P E) (s:Cu w0 M0 N st a as w) {t:TypeId} {m x y:Operand} (hop:o.op=.mapUpdate t m x y) (hdst:o.dst=none) {α:Type} [DecidableEq α] {k:St->Option α} {r:α} {H:Tg->St->(St->RV->Option α)->Option α} {lt:LT} (h:PV E H lt o st k=some r) :
  ROp P Q w0 M0 N o a as w k r:=by
 intro K hK
 simp only [PV,hop,hdst] at h
 obtain ⟨⟨i,ob⟩,h1,h2⟩:=QA3 _ (λq:Nat×Ob=>k (Dv q.1 q.2 st)) _ h
 exact (sW hE s hop hdst (h1 _ some)).1 K λa' w' hs=>hK _ a' w' h2 hs
theorem uJ {b0:Nat->Prop} {t:Ty} {xs:List t.den} {v u:Value} (h:LW b0 M w t xs v) {lo hi:Nat} (hlh:lo<=hi) (hhi:hi<=xs.length) (hu:nA t.n lo hi v u) :
  ∃ a' cap' row',u=.slice a' (hi - lo) cap'/\Seq (EA M w t) row' ((xs.take hi).drop lo)/\(hi - lo=0\/∃ ad:Addr,a'=some ad/\∀ j,j < row'.length->w.cell? (ad.add j)=row'[j]?):=by
 obtain ⟨a,cap,row,rfl,h1,h2,h3,h4,h5⟩:=h
 obtain ⟨a1,len1,QGe,a',c,e1,rfl,⟨hc1,hc2⟩,h6⟩:=hu
 cases e1
 obtain ⟨c0,c1,c2,e2,hl2,hr⟩:=QDY (λ_ _ r=>EA.length r) h4 hlh hhi
 refine ⟨a',_,c1,rfl,hr,?_⟩
 by_cases hz:hi - lo=0
 ·exact .inl hz
 ·have h7:=h6 (by omega)
  subst h7
  right
  cases a with
  | none=>have:=h3 rfl;omega
  | some a0=>
   obtain ⟨b,cur,T,rfl,g1,⟨fz,gz,g2⟩,g3,g4,g5⟩:=h5 a0 rfl (by omega)
   refine ⟨⟨b,0+lo * t.n,none⟩,by simp [addr_add],λj hj=>?_⟩
   rw [addr_add,cell_of_row _ _ _ _ _ _ g2,Nat.zero_add,<- hl2,g4 _ (by rw [e2];simp;omega),e2,Ap (by omega),Nat.add_sub_cancel_left,Ao hj]
theorem mZ {e:Ty}:∀ {cs:List Value} {xs:List e.den},Seq (EA M w e) cs xs->∀ v∈cs,v.oneCell'=true:=by
 intro cs xs
 induction xs generalizing cs with
 | nil=>intro s;simp only [Seq] at s;subst s;simp
 | cons x xs ih=>
  rintro ⟨c1,c2,rfl,r,s⟩ v hv
  rcases List.mem_append.1 hv with hv | hv
  ·exact r.oneCell v hv
  ·exact ih s v hv
theorem bW {e:Ty} {tab:List (TypeId×Ty)} (htab:Ii P tab) {u:TypeId} (hu:lk u tab=some (.slice e)) {a':Option Addr} {n cap:Nat} {row:List Value} {ys:List e.den} (hn:ys.length=n) (hs:Seq (EA M w e) row ys) (hc:n=0\/∃ ad:Addr,a'=some ad/\∀ j,j < row.length->w.cell? (ad.add j)=row[j]?) :
  Src P e.n u (.slice a' n cap) ys.length row w:=by
 obtain ⟨e',hu',_⟩:=(htab _ _ hu).slice
 have hl:row.length=ys.length * e.n:=hs.length (λ_ _ r=>r.length)
 subst hn
 rcases hc with hz | ⟨ad,rfl,hc⟩
 ·have hr:row=[]:=Ar (by rw [hl,hz];simp)
  subst hr
  have e0:ys=[]:=Ar hz
  subst e0
  cases a' with
  | none=>exact Src.ofNil w hu' cap
  | some ad=>exact Src.ofSlice w hu' ad 0 cap [] (by simp) (λj u hj=>by simp at hj) (λu hu=>by cases hu)
 ·exact Src.ofSlice w hu' ad _ cap row hl (λj u hj=>by rw [hc j (Aq.1 hj).1,hj]) (mZ hs)
theorem QP1 (s:Sm w0 M0 N M β τ st a as w) {tab:List (TypeId×Ty)} (htab:Ii P tab) {e:Ty} {rv:RV} {u:TypeId} {v:Value} {ys:List e.den} (h:QEV tab u st.l e rv=some ys) (hn:1<=e.n) (r:RR M w β τ st.l rv .sl [v]) :
  ∃ row,Src P e.n u v ys.length row w/\Seq (EA M w e) row ys:=by
 unfold QEV at h
 split at h
 ·rename_i t zs
  obtain ⟨hc,h⟩:=BU h
  have:=TV.FE h
  cases this
  obtain ⟨u',e1,hv⟩:=r
  cases e1
  obtain ⟨ad,cap,row,hv,_,_,_,hs,hrow⟩:=hv.slice
  refine ⟨row,?_,hs⟩
  rw [hv]
  refine bW htab (Bu hc) rfl hs ?_
  rcases hrow with hz | ⟨b,o',rfl,hrow⟩
  ·exact .inl hz
  ·exact .inr ⟨_,rfl,λj hj=>by rw [addr_add];exact (hrow j hj).1⟩
 ·rename_i zs
  obtain ⟨hc,h⟩:=BU h
  have:=TV.FE h
  cases this
  have hu:=(htab _ _ (Bu hc)).str
  obtain ⟨u',e1,hv⟩:=r
  cases e1
  obtain ⟨sb,hv2,rfl,_⟩:=hv.str
  refine ⟨byteCells sb,?_,?_⟩
  ·rw [hv2]
   have:=Src.ofString (P:=P) w hu sb
   have z1:sb.data.size=sb.size:=rfl
   simpa [Ty.n,z1] using this
  ·have:=Seq.iY (M:=M) (w:=w) (k:=.u8) (xs:=sb.data.toList.map λb=>(b.toNat:Int)) (λx hx=>by
    obtain ⟨b,_,rfl⟩:=List.mem_map.1 hx
    have:=UInt8.toNat_lt b
    simp [IntKind.min,IntKind.max,IntKind.signed,IntKind.bits];omega)
   rw [List.map_map] at this
   exact this
 ·rename_i t
  obtain ⟨hc,h⟩:=BU h
  have:=TV.FE h
  cases this
  have r':[v]=[Value.slice none 0 0]:=r
  cases r'
  exact ⟨[],bW (M:=M) htab (Bu hc) rfl rfl (.inl rfl),rfl⟩
 ·rename_i i
  obtain ⟨t,xs,hl,hu⟩:=Rw r
  simp only [hl] at h
  obtain ⟨hc,h⟩:=BU h
  have:=TV.FE h
  cases this
  have ho:=(s.ob i _ hl).1
  obtain ⟨a',cap',row',h1,h2,h3⟩:=uJ ho (Nat.zero_le _) (Nat.le_refl _) (NA ho)
  simp only [List.take_length,List.drop_zero,Nat.sub_zero] at h1 h2 h3
  refine ⟨row',?_,h2⟩
  rw [hu,h1]
  exact bW htab (Bu hc) rfl h2 h3
 ·rename_i i lo hi
  obtain ⟨t,xs,hl,g1,g2,hu⟩:=bX r
  simp only [hl] at h
  obtain ⟨hc,h⟩:=BU h
  have:=TV.FE h
  cases this
  have ho:=(s.ob i _ hl).1
  obtain ⟨a',cap',row',h1,h2,h3⟩:=uJ ho g1 g2 hu
  refine ⟨row',?_,h2⟩
  rw [h1]
  have hlen:((xs.take hi).drop lo).length=hi - lo:=by simp;omega
  exact bW htab (Bu hc) hlen h2 h3
 ·cases h
theorem y5 (s:Sm w0 M0 N M β τ st a as w) {e:Ty} {rv:RV} {v:Value} {xs:List e.den×Option Nat} (h:vC st.l e rv=some xs) (r:RR M w β τ st.l rv .sl [v]) :
  LW (ownB w0 M0) M w e xs.1 v/\∀ b,LV v=some b->∃ i ob,xs.2=some i/\lk i st.l=some ob/\blk β τ i ob=some b:=by
 unfold vC at h
 split at h
 ·rename_i t
  obtain ⟨hc,h⟩:=BU h
  cases h
  have:=of_decide_eq_true hc
  subst this
  have r':[v]=[Value.slice none 0 0]:=r
  cases r'
  exact ⟨uL,λb hb=>by simp [LV] at hb⟩
 ·rename_i i
  obtain ⟨t,ys,hl,hu⟩:=Rw r
  simp only [hl] at h
  obtain ⟨zs,hz,h⟩:=AO.1 h
  cases h
  have:=TV.FE hz
  cases this
  rw [hu]
  exact ⟨(s.ob i _ hl).1,λb hb=>⟨i,_,rfl,hl,hb⟩⟩
 ·rename_i i lo hi
  obtain ⟨t,ys,hl,g1,g2,hu⟩:=bX r
  simp only [hl] at h
  obtain ⟨hc,h⟩:=BU h
  obtain ⟨zs,hz,h⟩:=AO.1 h
  cases h
  have:=TV.FE hz
  cases this
  have hlo:=Aa hc
  subst hlo
  obtain ⟨⟨ad,cap,row,h0,h1,h2,h3,h4,h5⟩,_⟩:=s.ob i _ hl
  obtain ⟨a1,len1,QGe,a',c,e1,hv,⟨hc1,hc2⟩,h6⟩:=hu
  rw [h0] at e1
  cases e1
  have hmap:ad.map (·.add (0 * e.n))=ad:=by cases ad <;> simp [Addr.add]
  rw [hmap] at h6
  simp only [Nat.sub_zero] at hv hc1 hc2
  have hlen:(List.take hi zs).length=hi:=by simp;omega
  obtain ⟨d0,d1,e2,hd0,hs0,_⟩:=h4.cut (λ_ _ r=>EA.length r) hi g2
  refine ⟨⟨a',c,d0,by rw [hv,hlen],by rw [hlen];omega,by omega,?_,hs0,?_⟩,?_⟩
  ·intro ha
   by_cases hc0:c=0
   ·exact hc0
   ·rw [h6 hc0] at ha
    have:=h3 ha
    omega
  ·intro a0 ha hc0
   rw [h6 (by omega)] at ha
   obtain ⟨b,cur,T,k0,k1,k2,k3,k4,k5⟩:=h5 a0 ha (by omega)
   exact ⟨b,cur,T,k0,k1,k2,Nat.le_trans (Nat.mul_le_mul_right _ hc2) k3,(λj hj=>by rw [k4 j (by rw [e2];simp;omega),e2,Ao hj]),k5⟩
  ·intro b hb
   rw [hv] at hb
   refine ⟨i,_,rfl,hl,?_⟩
   simp only [blk]
   rw [h0]
   by_cases hc0:c=0
   ·subst hc0
    cases a' <;> simp [LV] at hb
   ·rw [h6 hc0] at hb
    cases ad with
    | none=>simp [LV] at hb
    | some a0=>
     simp only [LV,AX hc0] at hb
     simp only [LV,AX (show ¬ cap=0 by omega)]
     exact hb
 ·cases h
theorem QOd {tab:List (TypeId×Ty)} {tid:TypeId} {e:Ty} {i:TypeInfo} {n:Nat} (hT:TS P tab tid e) (hi:P.info? tid=some i) (h:n<=QDs E e):n<=lim\/(n<=QOc/\i.bytes<=8):=by
 unfold QDs at h
 cases hw:E.wd with
 | false=>rw [hw] at h;cases e <;> exact .inl h
 | true=>
  rw [hw] at h
  cases e with
  | int k=>
   right
   have:=hT.by8 k rfl i hi
   have h64:k.bits<=64:=by cases k <;> decide
   exact ⟨h,by omega⟩
  | _=>exact .inl h
theorem QHe {α:Type} {u:TypeId} {new:Bool} {e:Ty} {rv:RV} {k:List e.den->Option α} {alt:Option α} {r:α} (h:QLz E u new e rv k alt=some r) :
  (∃ n z,new=true/\rv=.val ⟨.int .i64,n⟩/\(1<=n/\n<=(lim:Int))/\Cz (lk u E.tab) (.int .i64)=true/\D6 e=some z/\k (E.rep e.den n.toNat z)=some r)\/alt=some r:=by
 unfold QLz at h
 split at h
 ·rename_i n
  obtain ⟨h12,h⟩:=BU h
  simp only [AP,AZ] at h12
  obtain ⟨hc,h⟩:=BU h
  obtain ⟨z,hzd,h⟩:=AO.1 h
  exact .inl ⟨n,z,rfl,rfl,h12,hc,hzd,h⟩
 ·exact .inr h
theorem QP0 {X:Type} {u:TypeId} {new:Bool} {e:Ty} {rv:RV} {g:(β:Type)->List e.den->(X->Option β)->Option β} {A:(β:Type)->(X->Option β)->Option β} (hg:∀ ys,PC (λβ k=>g β ys k)) (hA:PC A):PC (λβ k=>QLz E u new e rv (λys=>g β ys k) (A β k)):=by
 unfold QLz
 split
 ·exact PC.bif (PC.bif (PC.bind λz=>hg _) PC.none) PC.none
 ·exact hA
theorem gL (hE:CJ P E) (s:Cu w0 M0 N st a as w) (hd:∀ d,o.dst=some d->d < N) {args:Array Operand} {argTypes:Array TypeId} {d:Nat} (hop:o.op=.call { callee:=.builtin .append,args:=args,argTypes:=argTypes }) (hdst:o.dst=some d)
  {α:Type} [DecidableEq α] {k:St->Option α} {r:α} {H:Tg->St->(St->RV->Option α)->Option α} {lt:LT} (h:PV E H lt o st k=some r):ROp P Q w0 M0 N o a as w k r:=by
 obtain ⟨M,β,τ,s⟩:=s
 intro K hK
 simp only [PV,hop,hdst,yT,EO] at h
 split at h
 case h_2=>cases h
 rename_i sx x t u hargs hts
 split at h
 case h_2=>cases h
 rename_i e hty
 obtain ⟨xs,hxs,h⟩:=AO.1 h
 obtain ⟨hrow,nH⟩:=y5 s hxs (CG s.glob s.fr _ sx)
 obtain ⟨e',hu,hle⟩:=(hE.tab _ _ hty).slice
 obtain ⟨i,hi,hsz,hz,hby⟩:=(hE.tab _ _ hle).info
 have both:∃ ys,(bif Nat.ble 1 e.n&&Nat.ble (List.length xs.1+List.length ys) (QDs E e) then k (Jd (addN (newId st d) (.row e (List.append xs.1 ys)) (Dh (newId st d) (JV xs.2 st))) (some d) (.row (newId st d))) else none)=some r/\(1<=e.n->List.length xs.1+List.length ys<=QDs E e->∃ v' w',(Builtin.append_ #[t,u] o.type #[a.eval sx,a.eval x]).run P w=.ok v' w'/\Ext M w M w'/\Below w0.heap.size w w'/\(∀ b o,M b o->b < w'.heap.size)/\w.heap.size<=w'.heap.size/\
   LW (ownB w0 M0) M w' e (xs.1++ys) v'/\(∀ b,b < w.heap.size->LV (a.eval sx)≠some b->w'.heap[b]? = w.heap[b]?)/\(∀ b,LV v'=some b->LV (a.eval sx)=some b\/w.heap.size<=b)):=by
  replace h:=QHe h
  rcases h with ⟨n,z,hnone,heq,h12,hc,hzd,h⟩ | h
  ·rw [hE.rep] at h
   refine ⟨_,h,λhn hl0=>?_⟩
   have hx1:xs.1=[]/\a.eval sx=.slice none 0 0:=by
    unfold vC at hxs
    split at hxs
    ·rename_i Qcv
     obtain ⟨_,hxs⟩:=BU hxs
     cases hxs
     have hv:=CG s.glob s.fr (some (.slice e)) sx
     rw [Qcv] at hv
     have hv:[a.eval sx]=[Value.slice none 0 0]:=hv
     exact ⟨rfl,by simpa using hv⟩
    ·exfalso
     split at hxs
     ·obtain ⟨_,_,hxs⟩:=AO.1 hxs
      cases hxs
      simp at hnone
     ·cases hxs
    ·exfalso
     split at hxs
     ·obtain ⟨_,hxs⟩:=BU hxs
      obtain ⟨_,_,hxs⟩:=AO.1 hxs
      cases hxs
      simp at hnone
     ·cases hxs
    ·cases hxs
   have hx:=CG s.glob s.fr (lk u E.tab) x
   rw [heq] at hx
   obtain ⟨vx,e1,hvx⟩:=hx
   have hvx:a.eval x=.int .i64 n:=by
    have h3:[a.eval x]=[vx]:=e1
    obtain ⟨cs,h4,h5,_⟩:=hvx
    simp only [List.cons.injEq,and_true] at h3
    rw [h3,h4,h5]
    rfl
   rw [hx1.1,hx1.2,hvx,List.nil_append]
   obtain ⟨v',w',g1,g2,g3,g4,g5,g6,g7,g8⟩:=QGa (t:=t) (u:=u) (ty:=o.type) (M:=M) (w:=w) hu ((hE.tab _ _ (Bu hc)).int) hi hsz hz hby hn (b0:=w0.heap.size) (B:=ownB w0 M0) (λb h=>s.new h) hzd h12.1 h12.2 s.mlt s.J6.size
   exact ⟨v',w',g1,g2,g3,g4,g5,g6,λb hb _=>g7 b hb,λb hb=>.inr (g8 b hb)⟩
  ·obtain ⟨ys,hys,h⟩:=AO.1 h
   refine ⟨ys,h,λhn hlim=>?_⟩
   obtain ⟨row,hsrc,hseq⟩:=QP1 s hE.tab hys hn (CG s.glob s.fr _ x)
   have hlim:=QOd (hE.tab _ _ hle) hi hlim
   obtain ⟨v',w',hrun,hext,hbel,QTl,hsize,hx',hoth,QL0,_⟩:=QKV (t:=t) (u:=u) (ty:=o.type) hu hi hsz hz hby hn (B:=ownB w0 M0) (λb h=>h.1) (λb h=>s.new h) s.mlt hrow hsrc hseq hlim s.J6.size
   exact ⟨v',w',hrun,hext,hbel,QTl,hsize,hx',hoth,QL0⟩
 obtain ⟨ys,h,hap⟩:=both
 obtain ⟨hc,h⟩:=BU h
 simp only [AP] at hc
 have hn:=Ak hc.1
 have hlim:=Ak hc.2
 obtain ⟨v',w',hrun,hext,hbel,QTl,hsize,hx',hoth,QL0⟩:=hap hn hlim
 have hargs':args = #[sx,x]:=by rw [<- Array.toArray_toList (xs:=args),hargs]
 have QKz:argTypes = #[t,u]:=by rw [<- Array.toArray_toList (xs:=argTypes),hts]
 have ZX:(execOp a.eval o).run P w=.ok (.value v') w':=by
  simp only [execOp,hop,resolve,pure_bind,invoke,builtin,Sem.run_bind]
  rw [hargs',QKz,show Array.map a.eval #[sx,x] = #[a.eval sx,a.eval x] by simp,hrun]
  rfl
 have key:∀ (st1:St),Sm w0 M0 N M β τ st1 a as w->(∀ j ob,lk j st1.l=some ob->(∀ i,xs.2=some i->j≠i)/\∃ XL,lk j st.l=some XL/\blk β τ j ob=blk β τ j XL)->lk (newId st d) st1.l=none->
   Cu w0 M0 N (Jd (addN (newId st d) (.row e (List.append xs.1 ys)) st1) (some d) (.row (newId st d))) (a.put o.dst v') as w':=by
  intro st1 s1 hsub hfree
  have s2:=s1.QKR (ob:=.row e (xs.1++ys)) (bn:=(LV v').getD 0) (v:=v') hfree hext (s.J6.trans hbel) QTl s.Fu (λb k=>⟨hoth b (s.kp b k).1.2 (λhw=>by
   obtain ⟨i',Ij,h1,h2,h3⟩:=nH b hw
   exact (s.block h2 h3).2.1.2 k),λ_ h=>h⟩) (λj ob b hl hb=>by
   obtain ⟨hne,XL,hl0,hb0⟩:=hsub j ob hl
   rw [hb0] at hb
   have hlt:=(s.block hl0 hb).1
   have hnw:LV (a.eval sx)≠some b:=λhw=>by
    obtain ⟨i',Ij,h1,h2,h3⟩:=nH b hw
    exact hne i' h1 (s.dj j i' XL Ij b hl0 h2 hb h3)
   refine ⟨hoth b hlt hnw,λ_ m=>m,λhw=>?_⟩
   rcases QL0 b hw with h | h
   ·exact hnw h
   ·omega) (λβ' τ' h1 h2 hm=>⟨by rw [h2];exact hx',λb hb=>by rw [h2] at hb;rw [h1];simp [hb]⟩)
  rw [hdst]
  refine ⟨_,_,_,s2.set (some d) (λi hi=>by cases hi;exact hd d hdst) ?_⟩
  simp only [RR,addN]
  refine ⟨rfl,v',e,xs.1++ys,rfl,?_,by simp [Bl],by simp⟩
  obtain ⟨_,_,_,e1,_⟩:=hx'
  rw [e1]
  rfl
 unfold Oper.wp
 rw [ZX]
 refine hK _ _ _ h (key _ ?_ ?_ (Vt _ _))
 ·cases xs.2 with
  | none=>exact s.Dh _
  | some i'=>exact (s.kill i').Dh _
 ·intro j ob hl
  have free:∀ (st2:St),lk j (Dh (newId st d) st2).l=some ob->∃ XL,lk j st2.l=some XL/\blk β τ j ob=blk β τ j XL:=by
   intro st2 hl
   unfold Dh at hl
   split at hl
   ·exact ⟨ob,hl,rfl⟩
   ·obtain ⟨_,XL,h1,rfl⟩:=JW hl
    exact ⟨XL,h1,TU _ _⟩
  obtain ⟨XL,h1,h2⟩:=free _ hl
  cases hx2:xs.2 with
  | none=>
   rw [hx2] at h1
   exact ⟨(λi hi=>by cases hi),XL,h1,h2⟩
  | some i'=>
   rw [hx2] at h1
   obtain ⟨hne,ob1,h3,rfl⟩:=JW h1
   exact ⟨(λi hi=>by cases hi;exact hne),ob1,h3,by rw [h2,TU]⟩
theorem QE1 (hE:CJ P E) (s:Cu w0 M0 N st a as w) (hd:∀ d,o.dst=some d->d < N) {op:BinOp} {t u:TypeId} {x:Operand} {v:Value} {d:Nat} (hop:o.op=.binOp op t x (.const v) u) (hdst:o.dst=some d) {α:Type} [DecidableEq α] {k:St->Option α} {r:α} {alt:Option α}
  (h:QTw E op t x v st (λb=>k (Jd st (some d) (.val ⟨.bool,b⟩))) alt=some r) (ha:alt=some r->ROp P Q w0 M0 N o a as w k r):ROp P Q w0 M0 N o a as w k r:=by
 obtain ⟨M,β,τ,s⟩:=s
 have hx:=CG s.glob s.fr none x
 have he:execOp a.eval o=(do pure (Next.value (<- (do eqGuard op t x (.const v) (a.eval x) v;binOp op t (a.eval x) v:Sem Value)))):=by simp only [execOp,hop];rfl
 have key:∀ {e:Ty} {xs:List e.den},WR v=true->DT none x st.s=.val ⟨.slice e,xs⟩->Cz (lk t E.tab) (.slice e)=true->∃ ad len cap,a.eval x=.slice ad len cap/\v=.slice none 0 0/\(Op.equal t (.slice ad len cap) (.slice none 0 0)).run P w=.ok ad.isNone w/\(List.isEmpty xs=false->ad.isNone=false):=by
  intro e xs hn heq hc
  obtain rfl:=QBs hn
  obtain ⟨te,hu,_⟩:=(hE.tab _ _ (Bu hc)).slice
  rw [heq] at hx
  obtain ⟨u',e1,cs,e2,ad,cap,row,e3,g1,g2,g3,g4,g5⟩:=hx
  cases e1
  refine ⟨ad,_,cap,by rw [e2,e3];rfl,rfl,X5 hu ad _ _,λhne=>?_⟩
  rcases g5 with g5 | ⟨b,o',rfl,_⟩
  ·have:xs=[]:=Ar g5
   rw [this] at hne
   simp at hne
  ·rfl
 have fin:∀ b:Bool,(do eqGuard op t x (.const v) (a.eval x) v;binOp op t (a.eval x) v:Sem Value).run P w=.ok (.bool b) w->k (Jd st (some d) (.val ⟨.bool,b⟩))=some r->ROp P Q w0 M0 N o a as w k r:=by
  intro b hr hk K hK
  exact YR (CP he hr) ⟨M,β,τ,s.set (rv:=.val ⟨.bool,b⟩) o.dst hd ⟨_,rfl,EF.Ew⟩⟩ K λa' w' hs=>hK _ a' w' hk (by rw [<- hdst];exact hs)
 unfold QTw at h
 split at h
 ·rename_i e xs hn heq
  obtain ⟨hc,h⟩:=BU h
  obtain ⟨ad,len,cap,k1,rfl,k2,k3⟩:=key hn heq hc
  refine fin ad.isNone ?_ ?_
  ·rw [k1]
   have e1:binOp .eql t (.slice ad len cap) (.slice none 0 0)=(do pure (.bool (<- Op.equal t (.slice ad len cap) (.slice none 0 0))):Sem Value):=rfl
   simp only [eqGuard,Sem.run_bind,e1]
   simp [k2]
  ·cases hxe:List.isEmpty xs with
   | false=>rw [hxe] at h;rw [k3 hxe];exact h
   | true=>
    rw [hxe] at h
    obtain ⟨h1,h2⟩:=qj h
    cases ad.isNone with
    | true=>exact h1
    | false=>exact h2
 ·rename_i e xs hn heq
  obtain ⟨hc,h⟩:=BU h
  obtain ⟨ad,len,cap,k1,rfl,k2,k3⟩:=key hn heq hc
  refine fin (!ad.isNone) ?_ ?_
  ·rw [k1]
   have e1:binOp .neq t (.slice ad len cap) (.slice none 0 0)=(do pure (.bool (!(<- Op.equal t (.slice ad len cap) (.slice none 0 0)))):Sem Value):=rfl
   simp only [eqGuard,Sem.run_bind,e1]
   simp [k2]
  ·cases hxe:List.isEmpty xs with
   | false=>rw [hxe] at h;rw [k3 hxe];exact h
   | true=>
    rw [hxe] at h
    obtain ⟨h1,h2⟩:=qj h
    cases ad.isNone with
    | true=>exact h1
    | false=>exact h2
 ·exact ha h
theorem QEQ (hE:CJ P E) (s:Cu w0 M0 N st a as w) (hd:∀ d,o.dst=some d->d < N) {src dst:TypeId} {x:Operand} {d:Nat} (hop:o.op=.convert src dst x) (hdst:o.dst=some d) {α:Type} {k:St->Option α} {r:α} {alt:Option α}
  (h:QLp E src dst (DT (lk src E.tab) x st.s) st (λid=>k (Jd st (some d) (.row id))) alt=some r) (ha:alt=some r->ROp P Q w0 M0 N o a as w k r):ROp P Q w0 M0 N o a as w k r:=by
 unfold QLp at h
 split at h
 ·rename_i id hsd heq
  have hsd:=Aa hsd
  subst hsd
  split at h
  ·rename_i t xs hl
   obtain ⟨hc,hz⟩:=BU h
   simp only [AP] at hc
   have ht:=Bu hc.2.1
   cases ht
   have hlen:=Ak hc.2.2
   obtain ⟨M,β,τ,s⟩:=s
   have hx:=CG s.glob s.fr (lk src E.tab) x
   rw [heq] at hx
   obtain ⟨t',xs',hl',hu⟩:=Rw hx
   rw [hl] at hl'
   cases hl'
   obtain ⟨e,hu1,he⟩:=(hE.tab _ _ (Bu hc.1)).slice
   have hu8:=(hE.tab _ _ he).int
   have nH:=s.ob id _ hl
   obtain ⟨⟨ad,cap,row,h0,h1,h2,h3,h4,h5⟩,h6⟩:=nH
   have hpos:0 < cap:=by omega
   obtain ⟨a0,rfl⟩:∃ a0,ad=some a0:=by
    cases ad with
    | none=>have:=h3 rfl;omega
    | some a0=>exact ⟨a0,rfl⟩
   obtain ⟨b,cur,T,rfl,g1,⟨fz,gz,g2⟩,g3,g4,g5⟩:=h5 a0 rfl hpos
   have hblk:blk β τ id (.row (.int .u8) xs)=some b:=by simp only [blk];rw [h0];simp [LV];omega
   have hval:a.eval x=.slice (some ⟨b,0,none⟩) (List.length xs) cap:=by rw [hu,h0]
   have hsh:w.shape? b=some (T,cur.size):=by unfold World.shape?;rw [g2]
   have hrun:(convert src src (.slice (some ⟨b,0,none⟩) (List.length xs) cap)).run P w=.ok (.slice (some ⟨b,0,none⟩) (List.length xs) cap) (w.freeze ⟨b,cur.size,none⟩ 1):=by
    simp [convert,run_underlying hu1,run_underlying hu8,markStringish,hsh]
   have hblt:b < w.heap.size:=(Am.1 g2).1
   have hoth:∀ b',b'≠b->(w.freeze ⟨b,cur.size,none⟩ 1).heap[b']? = w.heap[b']?:=by
    intro b' hb'
    simp [World.freeze,Array.getElem?_modify,Ne.symm hb']
   have hnew:(w.freeze ⟨b,cur.size,none⟩ 1).heap[b]? = some (.cells cur T (if fz.1==fz.2 then (cur.size,cur.size+1) else (min fz.1 cur.size,max fz.2 (cur.size+1)))):=by
    obtain ⟨f1,f2⟩:=fz
    simp [World.freeze,Array.getElem?_modify,g2]
   have hbel:Below b w (w.freeze ⟨b,cur.size,none⟩ 1):=⟨rfl,rfl,rfl,by simp [World.freeze],λk' hk=>hoth k' (by omega)⟩
   have ZX:(execOp a.eval o).run P w=.ok (.value (.slice (some ⟨b,0,none⟩) (List.length xs) cap)) (w.freeze ⟨b,cur.size,none⟩ 1):=
    CP (sem:=convert src src (a.eval x)) (by simp only [execOp,hop]) (by rw [hval];exact hrun)
   have hext:Ext M w M (w.freeze ⟨b,cur.size,none⟩ 1):=by
    intro b' o m
    refine ⟨m,λu hu=>?_⟩
    rw [World.cell?_of_block (w:=w) (hoth b' λe=>by subst e;exact g5 o m)]
    exact hu
   have s2:=s.touch hl hblk hbel hoth (by
    refine ⟨⟨some ⟨b,0,none⟩,cap,row,h0,h1,h2,h3,h4.mono λ_ _ r=>r.ext hext,λa0 ha hc=>?_⟩,h6⟩
    cases ha
    refine ⟨b,cur,T,rfl,g1,⟨_,?_,hnew⟩,g3,g4,g5⟩
    split
    ·exact .inr (Nat.le_refl _)
    ·rename_i hne
     refine .inr ?_
     rcases gz with gz | gz
     ·exact absurd (by simpa using gz) hne
     ·exact Nat.le_min.2 ⟨gz,Nat.le_refl _⟩)
   intro K hK
   unfold Oper.wp
   rw [ZX]
   refine hK _ _ _ hz ⟨M,β,τ,?_⟩
   rw [hdst]
   refine s2.set (some d) (λi hi=>by cases hi;exact hd d hdst) ?_
   rw [<- hval]
   exact hx
  ·cases h
 ·exact ha h
end
end Go.Lift
