import Derived.Test.YtjcnhegjiffgpaaGreatDoorRiO
set_option linter.unusedSimpArgs false
namespace Go.Lift
open Go.RowKit
section
variable {P:Program} {E:CO} {w0:World} {M0:Bs} {N:Nat} {M M':Own} {β β':Nat->Nat} {τ τ':Nat->Value} {st st':St} {a:Act} {as:List Act} {w w':World}
theorem QCV {L:List (Nat×Ob)} {t:Ty} {rv:RV} {u:Value} {x:t.den} {v:TV} (hf:PX rv=true) (hv:DU [] 6 rv some=some v) (hx:TV.as t v=some x) (hr:RR M w β τ L rv .sl [u]):qP 0 M w t false x u:=by
 have h1:=Qh (b0:=λ_=>True) (M:=M) (w:=w) (β:=β) (τ:=τ) (L:=[]) (λid ob h=>by simp [lk] at h) 6 hv (rQ hf hr)
 rw [TV.FE hx] at h1
 have h2:EF M w t x u:=h1.ext λb o m=>⟨by
  rcases m with m | ⟨i,ob,h,_⟩
  ·exact m
  ·simp [lk] at h,λ_ h=>h⟩
 cases t <;> exact h2
theorem QG0 {L:List (Nat×Ob)}:∀ {rs:List Ty} {vs:List RV} {r:Bv rs} {us:List Value},QAN rs vs=some r->Ou M w β τ L vs us->Oq 0 M w rs [] r us
 | [],[],_,[],_,_=>rfl
 | [],[],_,_::_,_,h=>h.elim
 | [t],[rv],x,us,h,hr=>by
  simp only [QAN] at h
  obtain ⟨hf,h⟩:=BU h
  obtain ⟨v,hv,hx⟩:=AO.1 h
  match us,hr with
  | [u],hr=>exact ⟨u,rfl,QCV hf hv hx hr.1⟩
  | [],hr=>exact hr.elim
  | _::_::_,hr=>exact hr.2.elim
 | t::t'::ts,rv::Gl,r,us,h,hr=>by
  simp only [QAN] at h
  obtain ⟨hf,h⟩:=BU h
  obtain ⟨v,hv,h⟩:=AO.1 h
  obtain ⟨x,hx,h⟩:=AO.1 h
  obtain ⟨q,hq,h⟩:=AO.1 h
  cases h
  match us,hr with
  | u::us,hr=>exact ⟨u,us,rfl,QCV hf hv hx hr.1,QG0 (rs:=t'::ts) hq hr.2⟩
  | [],hr=>exact hr.elim
 | [],_::_,_,_,h,_=>by simp [QAN] at h
 | [_],[],_,_,h,_=>by simp [QAN] at h
 | [_],_::_::_,_,_,h,_=>by simp [QAN] at h
 | _::_::_,[],_,_,h,_=>by simp [QAN] at h
theorem yK {wt:List (Nat×RV)}:∀ {bs:List Bt} {n:Nat} {ids:List Nat},aH wt bs n=some ids->ids.length=bs.length/\∀ j,j < bs.length->∃ i,ids[j]? = some i/\(lk (n+j) wt=some (.loc i [])\/lk (n+j) wt=some (.mp i)\/lk (n+j) wt=some (.row i))
 | [],_,ids,h=>by
  simp only [aH] at h
  cases h
  exact ⟨rfl,λj hj=>by simp at hj⟩
 | _::bs,n,ids,h=>by
  have one:∀ {i:Nat},(lk n wt=some (.loc i [])\/lk n wt=some (.mp i)\/lk n wt=some (.row i))->((aH wt bs (n+1)).bind λr=>some (i::r))=some ids->ids.length=bs.length+1/\∀ j,j < bs.length+1->∃ i,ids[j]? = some i/\(lk (n+j) wt=some (.loc i [])\/lk (n+j) wt=some (.mp i)\/lk (n+j) wt=some (.row i)):=by
   intro i hi h
   obtain ⟨r,h1,h2⟩:=AO.1 h
   cases h2
   obtain ⟨h3,h4⟩:=yK h1
   refine ⟨by simp [h3],λj hj=>?_⟩
   cases j with
   | zero=>exact ⟨i,rfl,hi⟩
   | succ j=>
    obtain ⟨i',h5,h6⟩:=h4 j (by omega)
    refine ⟨i',by simpa using h5,?_⟩
    rw [show n+(j+1)=n+1+j by omega]
    exact h6
  simp only [aH] at h
  split at h
  ·rename_i i hi
   exact one (.inl hi) h
  ·rename_i i hi
   exact one (.inr (.inl hi)) h
  ·rename_i i hi
   exact one (.inr (.inr hi)) h
  ·cases h
theorem QA8 {L:List (Nat×Ob)} {i:Nat} {u:Value} {rv:RV} (hrv:rv=.loc i []\/rv=.mp i) (r:RR M w β τ L rv .sl [u]):u=.pointer (some ⟨β i,0,none⟩)\/u=.map (some (β i)):=by
 rcases hrv with rfl | rfl
 ·obtain ⟨ob,off,t',h1,h2,h3⟩:=YB r
  cases ob with
  | var t con=>
   rw [QCE] at h2
   cases h2
   exact .inl h3
  | row t xs=>simp [Ob.shape,SV] at h2
  | mp kt vt es=>
   have:SV (Ob.mp kt vt es).shape []=some (0,.mp kt vt):=rfl
   rw [this] at h2
   cases h2
   exact .inl h3
  | lp kc kq=>
   have:SV (Ob.lp kc kq).shape []=some (0,.unit):=rfl
   rw [this] at h2
   cases h2
   exact .inl h3
 ·obtain ⟨_,_,_,_,h⟩:=QDz r
  exact .inr h
theorem QU0 (hE:CJ P E) {g:FuncId} {fn:Func} {code:Code} {c:UO} (hf:P.funcs[g]? = some fn) (hb:fn.body=some code) (hn:(fn.name == "runtime.NumGoroutine")=false)
  (hd:EZ fn.ntmps code=true) (hps:Nat.ble c.fp.length fn.ntmps=true) (_hB:QLb c=true) (hF:∀ x y r,c.F x y=some r->∃ lt lv N,QLg E lt lv N fn c x y=some r):gF P g c where
 enters:=enters_of hf hb hn
 calls:=by
  intro w0 M0 M β τ as w args x y z r hne hlen hs hzr
  obtain ⟨lt,lv,Nf,hN⟩:=hF x y (z,r) hzr
  simp only [QLg,hb] at hN
  have hle:args.length<=fn.ntmps:=by rw [hlen];exact Ak hps
  have s0:=hs fn.ntmps hle
  have fin:∀ (st:St) (a:Act) (w':World),wJ E fn c y st=some (z,r)->Cu w0 M0 fn.ntmps st a as w'->
    ∃ v,(results fn a.tmps).run P w'=.ok v w'/\∃ us M' β' τ' N' a',Ending.returned v=.returned (QAO us)/\Sm w0 M0 N' M' β' τ' { s:=[],l:=VJ c.w (jS c.bp c.w z) (Wq 0 c.bp y),k:=[],b:=0 } a' [] w'/\((∀ j,j < c.bp.length->β' j=β j)/\∀ j t xs,lk j (Wq 0 c.bp y)=some (.row t xs)->τ' j=τ j)/\Oq 0 M' w' c.rs [] r us:=by
   intro stq a w' h sq
   unfold wJ at h
   obtain ⟨vs0,_,h⟩:=AO.1 h
   obtain ⟨st,h,s⟩:=II _ _ _ h sq
   obtain ⟨M1,β1,τ1,s⟩:=s
   obtain ⟨Gl,h1,h2⟩:=AO.1 h
   obtain ⟨us,h3,h4⟩:=bU hE s _ _ h1
   unfold QZ8 at h2
   split at h2
   rotate_left
   ·cases h2
   rename_i bk wt hk
   obtain ⟨ids,h5,h2⟩:=AO.1 h2
   obtain ⟨hrow,h2⟩:=BU h2
   obtain ⟨h2,hsame⟩:=uQ (m:=0) h2 (QAP hrow)
   obtain ⟨z',h6,h2⟩:=AO.1 h2
   obtain ⟨r',h7,h8⟩:=AO.1 h2
   cases h8
   have h9:=QFZ (m:=0) h6 (QAP hrow)
   rw [Nat.zero_add] at h9
   have h10:=QG0 h7 h4
   obtain ⟨Qdi,QZF⟩:=yK h5
   have s1:=s.ren ids
   have hf0:=s0.fs
   have hf1:=s.fs
   rw [hk] at hf1
   simp only [fM] at hf0
   obtain ⟨wit,rfl⟩:∃ wit,as=[wit]:=by
    match as,hf0 with
    | [wit],_=>exact ⟨wit,rfl⟩
    | _::_::_,h=>exact h.2.elim
   have Qdp:∀ j,j < c.bp.length->β1 ((ids[j]?).getD 0)=β j/\∀ t xs,lk j (Wq 0 c.bp y)=some (.row t xs)->τ1 ((ids[j]?).getD 0)=τ j:=by
    intro j hj
    obtain ⟨i,g1,g2⟩:=QZF j hj
    rw [Nat.zero_add] at g2
    simp only [g1,BH]
    obtain ⟨ob,g3⟩:=Uz (n:=0) (d:=y) (Nat.zero_le j) (by simpa using hj)
    have g4:lk j (QPC (Wq 0 c.bp y))=some (xE j ob):=by
     simp only [QPC]
     rw [QA2,g3]
     rfl
    obtain ⟨u,g5,g6⟩:=hf0.1 j _ g4
    have hsl:∀ {i:Nat} {u':Value},RR M1 w' β1 τ1 st.l (.row i) .sl [u']->(∃ a len cap,u'=.slice a len cap)/\u'=τ1 i/\∀ b,LV (τ1 i)=some b->b=β1 i:=by
     intro i u' h
     obtain ⟨t,xs,hl,hu⟩:=Rw h
     obtain ⟨⟨a,cap,row,e,_⟩,k2⟩:=s.ob i _ hl
     exact ⟨⟨a,_,cap,by rw [hu,e]⟩,hu,k2⟩
    have k1:∃ u',wit.tmps[j]? = some u'/\((u'=.pointer (some ⟨β1 i,0,none⟩)\/u'=.map (some (β1 i)))\/(∃ a len cap,u'=.slice a len cap)/\u'=τ1 i/\∀ b,LV (τ1 i)=some b->b=β1 i):=by
     rcases g2 with g2 | g2 | g2
     ·obtain ⟨u',k1,k2⟩:=hf1.1 j _ g2
      exact ⟨u',k1,.inl (QA8 (.inl rfl) k2)⟩
     ·obtain ⟨u',k1,k2⟩:=hf1.1 j _ g2
      exact ⟨u',k1,.inl (QA8 (.inr rfl) k2)⟩
     ·obtain ⟨u',k1,k2⟩:=hf1.1 j _ g2
      exact ⟨u',k1,.inr (hsl k2)⟩
    obtain ⟨u',k1,k2⟩:=k1
    rw [g5] at k1
    cases k1
    have named:xE j ob=.loc j []\/xE j ob=.mp j->(∀ t xs,ob≠.row t xs)->β1 i=β j/\∀ t xs,lk j (Wq 0 c.bp y)=some (.row t xs)->τ1 i=τ j:=by
     intro g7 hnr
     refine ⟨?_,λt xs h=>absurd (Au (g3.symm.trans h)) (hnr t xs)⟩
     have g9:=QA8 g7 g6
     rcases g9 with rfl | rfl
     ·rcases k2 with (k2 | k2) | ⟨⟨_,_,_,k2⟩,_⟩ <;> simp at k2
      exact k2.symm
     ·rcases k2 with (k2 | k2) | ⟨⟨_,_,_,k2⟩,_⟩ <;> simp at k2
      exact k2.symm
    cases ob with
    | var t con=>exact named (.inl rfl) λ_ _ h=>by cases h
    | mp kt vt es=>exact named (.inr rfl) λ_ _ h=>by cases h
    | lp c q=>
     obtain ⟨_,_,_,b',x',_,g8⟩:=YF g3
     exact absurd g8.symm QC9
    | row t xs=>
     obtain ⟨_,_,hl0,hu0⟩:=Rw g6
     have h0:=s0.ob j (.row t xs) g3
     obtain ⟨b,hb⟩:=QCZ h0.1 (QA5 hne g3)
     obtain ⟨⟨a0,cap0,row0,e0,_⟩,h02⟩:=h0
     rcases k2 with (k2 | k2) | ⟨_,k2,k3⟩
     ·rw [hu0,e0] at k2;cases k2
     ·rw [hu0,e0] at k2;cases k2
     ·have ht:τ1 i=τ j:=k2.symm.trans hu0
      exact ⟨by rw [<- k3 b (by rw [ht];exact hb)];exact h02 b hb,λ_ _ _=>ht⟩
   have hw:=QEd z
   have hlk:∀ j,lk j (dR ids st).l=lk j (VJ c.w (jS c.bp c.w z) (Wq 0 c.bp y)):=by
    intro j
    rw [M6]
    by_cases hj:j=c.w
    ·rw [AY hj,hj]
     obtain ⟨ob,g3⟩:=Uz (n:=0) (d:=y) (Nat.zero_le c.w) (by simpa using hw)
     rw [g3]
     exact h9
    ·rw [AX hj]
     exact hsame j λn hn=>by cases hn;omega
   have s2:Sm w0 M0 fn.ntmps M1 (λj=>β1 ((ids[j]?).getD 0)) (λj=>τ1 ((ids[j]?).getD 0)) { s:=[],l:=(dR ids st).l,k:=[],b:=0 } a [] w':=
    { df:=s1.df,sz:=s1.sz,J6:=s1.J6,mlt:=s1.mlt,Yn:=s1.Yn,gk:=s1.gk,gx:=s1.gx,kp:=s1.kp,Fu:=s1.Fu,fr:=λi rv h=>by simp [lk] at h,fs:=trivial,ob:=s1.ob,dj:=s1.dj }
   exact ⟨_,V8 h3,us,M1,_,_,fn.ntmps,a,rfl,s2.sK (λ_=>rfl) hlk rfl,⟨λj hj=>(Qdp j hj).1,λj t xs h=>(Qdp j (by simpa using (YF h).2.1)).2 t xs h⟩,h10⟩
  exact Xj hE Nf (kL hE Nf lv) hf hb hd hN ⟨M,β,τ,s0⟩ fin
theorem QLe {g:FuncId} {fn:Func} {code:Code} {fp:List Pt} {bp:List Bt} {n:Nat} {rs:List Ty} (hf:P.funcs[g]? = some fn) (hb:fn.body=some code) (hn:(fn.name == "runtime.NumGoroutine")=false):gF P g ⟨fp,bp,n,rs,λ_ _=>none⟩ where
 enters:=enters_of hf hb hn
 calls:=by intro _ _ _ _ _ _ _ _ _ _ _ _ _ _ _ h;cases h
theorem Zo (hE:CJ P E) {g:FuncId} {fn:Func} {code:Code} {c:Yv} (hf:P.funcs[g]? = some fn) (hb:fn.body=some code) (hn:(fn.name == "runtime.NumGoroutine")=false)
  (hd:EZ fn.ntmps code=true) (hps:Nat.ble (c.fp.length+1) fn.ntmps=true) (hF:∀ x y z,c.F x y=some z->∃ lt lv N,dS E lt lv N fn c.e c.fp x y=some z):VX P g c where
 enters:=enters_of hf hb hn
 calls:=by
  intro w0 M0 M β τ w args x y z hlen hs hz
  obtain ⟨lt,lv,Nf,hN⟩:=hF x y z hz
  simp only [dS,hb] at hN
  have hle:args.length<=fn.ntmps:=by rw [hlen];exact Ak hps
  have s0:=hs fn.ntmps hle
  have fin:∀ (st:St) (a:Act) (w':World),wI E fn c.e st=some z->Cu w0 M0 fn.ntmps st a [] w'->
    ∃ v,(results fn a.tmps).run P w'=.ok v w'/\∃ u M' β' τ' N' a',Ending.returned v=.returned u/\Sm w0 M0 N' M' β' τ' { s:=[],l:=[(0,.row c.e z)],k:=[],b:=0 } a' [] w'/\u=τ' 0:=by
   intro st a w' h s
   obtain ⟨M1,β1,τ1,s⟩:=s
   unfold wI at h
   obtain ⟨Gl,h1,h⟩:=AO.1 h
   obtain ⟨us,h3,h4⟩:=bU hE s _ _ h1
   split at h
   ·rename_i id
    split at h
    ·rename_i t z' hl
     have hz':=TV.FE h
     cases hz'
     match us,h4 with
     | [u],h4=>
      have h5:=h4.1
      simp only [RR] at h5
      obtain ⟨_,u',_,_,e1,_,_,e2⟩:=h5
      simp only [List.cons.injEq,and_true] at e1
      subst e1
      have s1:=s.ren [id]
      have hl1:(dR [id] st).l=[(0,.row c.e z)]:=by simp [dR,VQ,hl,Q9,Ei]
      exact ⟨_,V8 h3,u,M1,_,_,fn.ntmps,a,by simp [QAO],{ df:=s1.df,sz:=s1.sz,J6:=s1.J6,mlt:=s1.mlt,Yn:=s1.Yn,gk:=s1.gk,gx:=s1.gx,kp:=s1.kp,Fu:=s1.Fu,fr:=λi rv h=>by simp [lk] at h,fs:=trivial,ob:=λi ob h=>by have:=s1.ob i ob (by rw [hl1];exact h);rw [hl1] at this;exact this,dj:=λi j ob Ij b h h'=>s1.dj i j ob Ij b (by rw [hl1];exact h) (by rw [hl1];exact h') },by simpa using e2⟩
     | [],h4=>exact h4.elim
     | _::_::_,h4=>exact h4.2.elim
    ·cases h
   ·cases h
  letI:DecidableEq (Ty.slice c.e).den:=Wz (.slice c.e)
  exact Xj hE Nf (kL hE Nf lv) hf hb hd hN ⟨M,β,τ,s0⟩ fin
theorem Gx:∀ g c,lk g ([]:List (FuncId×Yv))=some c->VX P g c:=by
 intro g c h;simp [lk] at h
theorem LJ {g:FuncId} {c:Yv} {l:List (FuncId×Yv)} (hg:VX P g c) (h:∀ f d,lk f l=some d->VX P f d):∀ f d,lk f ((g,c)::l)=some d->VX P f d:=by
 intro f d hf
 rw [Bl] at hf
 split at hf
 ·rename_i e;subst e;cases hf;exact hg
 ·exact h f d hf
theorem Gy:∀ g c,lk g ([]:List (FuncId×UO))=some c->gF P g c:=by
 intro g c h;simp [lk] at h
theorem QFw {g:FuncId} {c:UO} {l:List (FuncId×UO)} (hg:gF P g c) (h:∀ f d,lk f l=some d->gF P f d):∀ f d,lk f ((g,c)::l)=some d->gF P f d:=by
 intro f d hf
 rw [Bl] at hf
 split at hf
 ·rename_i e;subst e;cases hf;exact hg
 ·exact h f d hf
end
end Go.Lift
