import Derived.Test.YtbgmjjplddddnaaGreatDoorRiO
set_option linter.unusedSimpArgs false
namespace Go.Lift
open Go.RowKit
section
variable {P:Program} {E:Bn} {w0:World} {M0:Bs} {N:Nat} {M M':Own} {β β':Nat->Nat} {τ τ':Nat->Value} {st st':St} {a:Act} {as:List Act} {w w':World}
theorem YU {l l':List (Nat×Ob)} {g:RV->RV}:∀ (rs:List Ty) (os:List Bool) (CO:List RV),PC (fun β k=>FV (α:=β) l l' g rs os CO k):=by
 intro rs
 induction rs with
 | nil=>intro os CO;cases os <;> cases CO <;> first | exact PC.ret _ | exact PC.none
 | cons t rs ih=>
  intro os CO
  cases rs with
  | nil=>
   match os,CO with
   | [o],[rv]=>exact FW
   | [],_=>exact PC.none
   | _::_::_,_=>exact PC.none
   | [o],[]=>exact PC.none
   | [o],_::_::_=>exact PC.none
  | cons t2 rs=>
   match os,CO with
   | o::os,rv::CO=>exact PC.comp (G:=fun β x k=>FV l l' g (t2::rs) os CO fun r=>k (x,r)) FW fun x=>PC.comp (G:=fun β r k=>k (x,r)) (ih os CO) fun r=>PC.ret _
   | [],_=>exact PC.none
   | o::os,[]=>exact PC.none
theorem PO {L:List (Nat×Ob)} {t:Ty} {rv:RV} {u:Value} {x:t.den} {v:TV} (hf:Di rv=true) (hv:Bg [] 6 rv some=some v) (hx:TV.as t v=some x) (hr:RR M w β τ L rv .sl [u]):Kl 0 M w t false x u:=by
 have h1:=Dn (b0:=fun _=>True) (M:=M) (w:=w) (β:=β) (τ:=τ) (L:=[]) (fun id ob h=>by simp [lk] at h) 6 hv (K9 hf hr)
 rw [TV.Bv hx] at h1
 have h2:Bu M w t x u:=h1.ext fun b o m=>⟨by
  rcases m with m | ⟨i,ob,h,_⟩
  ·exact m
  ·simp [lk] at h,fun _ h=>h⟩
 cases t <;> exact h2
theorem RS {L:List (Nat×Ob)}:∀ {rs:List Ty} {vs:List RV} {r:BP rs} {us:List Value},OC rs vs=some r->Dh M w β τ L vs us->Df 0 M w rs [] r us
 | [],[],_,[],_,_=>rfl
 | [],[],_,_::_,_,h=>h.elim
 | [t],[rv],x,us,h,hr=>by
  simp only [OC] at h
  obtain ⟨hf,h⟩:=BL h
  obtain ⟨v,hv,hx⟩:=AO.1 h
  match us,hr with
  | [u],hr=>exact ⟨u,rfl,PO hf hv hx hr.1⟩
  | [],hr=>exact hr.elim
  | _::_::_,hr=>exact hr.2.elim
 | t::t'::ts,rv::CO,r,us,h,hr=>by
  simp only [OC] at h
  obtain ⟨hf,h⟩:=BL h
  obtain ⟨v,hv,h⟩:=AO.1 h
  obtain ⟨x,hx,h⟩:=AO.1 h
  obtain ⟨q,hq,h⟩:=AO.1 h
  cases h
  match us,hr with
  | u::us,hr=>exact ⟨u,us,rfl,PO hf hv hx hr.1,RS (rs:=t'::ts) hq hr.2⟩
  | [],hr=>exact hr.elim
 | [],_::_,_,_,h,_=>by simp [OC] at h
 | [_],[],_,_,h,_=>by simp [OC] at h
 | [_],_::_::_,_,_,h,_=>by simp [OC] at h
 | _::_::_,[],_,_,h,_=>by simp [OC] at h
theorem NJ {wt:List (Nat×RV)}:∀ {bs:List Bt} {n:Nat} {ids:List Nat},Gv wt bs n=some ids->ids.length=bs.length/\∀ j,j < bs.length->∃ i,ids[j]? = some i/\(lk (n+j) wt=some (.loc i [])∨lk (n+j) wt=some (.mp i)∨lk (n+j) wt=some (.row i))
 | [],_,ids,h=>by
  simp only [Gv] at h
  cases h
  exact ⟨rfl,fun j hj=>by simp at hj⟩
 | _::bs,n,ids,h=>by
  have one:∀ {i:Nat},(lk n wt=some (.loc i [])∨lk n wt=some (.mp i)∨lk n wt=some (.row i))->((Gv wt bs (n+1)).bind fun r=>some (i::r))=some ids->ids.length=bs.length+1/\∀ j,j < bs.length+1->∃ i,ids[j]? = some i/\(lk (n+j) wt=some (.loc i [])∨lk (n+j) wt=some (.mp i)∨lk (n+j) wt=some (.row i)):=by
   intro i hi h
   obtain ⟨r,h1,h2⟩:=AO.1 h
   cases h2
   obtain ⟨h3,h4⟩:=NJ h1
   refine ⟨by simp [h3],fun j hj=>?_⟩
   cases j with
   | zero=>exact ⟨i,rfl,hi⟩
   | succ j=>
    obtain ⟨i',h5,h6⟩:=h4 j (by omega)
    refine ⟨i',by simpa using h5,?_⟩
    rw [show n+(j+1)=n+1+j by omega]
    exact h6
  simp only [Gv] at h
  split at h
  ·rename_i i hi
   exact one (.inl hi) h
  ·rename_i i hi
   exact one (.inr (.inl hi)) h
  ·rename_i i hi
   exact one (.inr (.inr hi)) h
  ·cases h
theorem Nv {L:List (Nat×Ob)} {i:Nat} {u:Value} {rv:RV} (Ut:rv=.loc i []∨rv=.mp i) (r:RR M w β τ L rv .sl [u]):u=.pointer (some ⟨β i,0,none⟩)∨u=.map (some (β i)):=by
 rcases Ut with rfl | rfl
 ·obtain ⟨ob,off,t',h1,h2,h3⟩:=Fy r
  cases ob with
  | var t con=>
   rw [O5] at h2
   cases h2
   exact .inl h3
  | row t xs=>simp [Ob.shape,Dl] at h2
  | mp kt vt es=>
   have:Dl (Ob.mp kt vt es).shape []=some (0,.mp kt vt):=rfl
   rw [this] at h2
   cases h2
   exact .inl h3
  | lp kc kq=>
   have:Dl (Ob.lp kc kq).shape []=some (0,.unit):=rfl
   rw [this] at h2
   cases h2
   exact .inl h3
 ·obtain ⟨_,_,_,_,h⟩:=Qa r
  exact .inr h
theorem Y1 (hE:BS P E) {g:FuncId} {fn:Func} {code:Code} {c:FB} (hf:P.funcs[g]? = some fn) (hb:fn.body=some code) (hn:(fn.name == "runtime.NumGoroutine")=false)
  (hd:CB fn.ntmps code=true) (hps:Nat.ble c.fp.length fn.ntmps=true) (_hB:UM c=true) (hF:∀ x y r,c.F x y=some r->∃ lt lv N,V5 E lt lv N fn c x y=some r):Km P g c where
 enters:=enters_of hf hb hn
 calls:=by
  intro w0 M0 M β τ as w args x y z r hne hlen hs Yr
  obtain ⟨lt,lv,Nf,hN⟩:=hF x y (z,r) Yr
  simp only [V5,hb] at hN
  have hle:args.length<=fn.ntmps:=by rw [hlen];exact Ak hps
  have s0:=hs fn.ntmps hle
  have fin:∀ (st:St) (a:Act) (w':World),Md E fn c y st=some (z,r)->Bb w0 M0 fn.ntmps st a as w'->
    ∃ v,(results fn a.tmps).run P w'=.ok v w'/\∃ us M' β' τ' N' a',Ending.returned v=.returned (OD us)/\Sm w0 M0 N' M' β' τ' { s:=[],l:=En c.w (JJ c.bp c.w z) (FE 0 c.bp y),k:=[],b:=0 } a' [] w'/\((∀ j,j < c.bp.length->β' j=β j)/\∀ j t xs,lk j (FE 0 c.bp y)=some (.row t xs)->τ' j=τ j)/\Df 0 M' w' c.rs [] r us:=by
   intro Zr a w' h sq
   unfold Md at h
   obtain ⟨vs0,_,h⟩:=AO.1 h
   obtain ⟨st,h,s⟩:=CV _ _ _ h sq
   obtain ⟨M1,β1,τ1,s⟩:=s
   obtain ⟨CO,h1,h2⟩:=AO.1 h
   obtain ⟨us,h3,h4⟩:=Ho hE s _ _ h1
   unfold Xd at h2
   split at h2
   rotate_left
   ·cases h2
   rename_i bk wt hk
   obtain ⟨ids,h5,h2⟩:=AO.1 h2
   obtain ⟨hrow,h2⟩:=BL h2
   obtain ⟨h2,hsame⟩:=L6 (m:=0) h2 (OE hrow)
   obtain ⟨z',h6,h2⟩:=AO.1 h2
   obtain ⟨r',h7,h8⟩:=AO.1 h2
   cases h8
   have h9:=Q7 (m:=0) h6 (OE hrow)
   rw [Nat.zero_add] at h9
   have h10:=RS h7 h4
   obtain ⟨ZB,Xg⟩:=NJ h5
   have s1:=s.ren ids
   have hf0:=s0.fs
   have hf1:=s.fs
   rw [hk] at hf1
   simp only [IY] at hf0
   obtain ⟨X6,rfl⟩:∃ X6,as=[X6]:=by
    match as,hf0 with
    | [X6],_=>exact ⟨X6,rfl⟩
    | _::_::_,h=>exact h.2.elim
   have ZG:∀ j,j < c.bp.length->β1 ((ids[j]?).getD 0)=β j/\∀ t xs,lk j (FE 0 c.bp y)=some (.row t xs)->τ1 ((ids[j]?).getD 0)=τ j:=by
    intro j hj
    obtain ⟨i,g1,g2⟩:=Xg j hj
    rw [Nat.zero_add] at g2
    simp only [g1,BG]
    obtain ⟨ob,g3⟩:=Ej (n:=0) (d:=y) (Nat.zero_le j) (by simpa using hj)
    have g4:lk j (Vj (FE 0 c.bp y))=some (Mr j ob):=by
     simp only [Vj]
     rw [Ns,g3]
     rfl
    obtain ⟨u,g5,g6⟩:=hf0.1 j _ g4
    have hsl:∀ {i:Nat} {u':Value},RR M1 w' β1 τ1 st.l (.row i) .sl [u']->(∃ a len cap,u'=.slice a len cap)/\u'=τ1 i/\∀ b,C8 (τ1 i)=some b->b=β1 i:=by
     intro i u' h
     obtain ⟨t,xs,hl,hu⟩:=Dq h
     obtain ⟨⟨a,cap,row,e,_⟩,k2⟩:=s.ob i _ hl
     exact ⟨⟨a,_,cap,by rw [hu,e]⟩,hu,k2⟩
    have k1:∃ u',X6.tmps[j]? = some u'/\((u'=.pointer (some ⟨β1 i,0,none⟩)∨u'=.map (some (β1 i)))∨(∃ a len cap,u'=.slice a len cap)/\u'=τ1 i/\∀ b,C8 (τ1 i)=some b->b=β1 i):=by
     rcases g2 with g2 | g2 | g2
     ·obtain ⟨u',k1,k2⟩:=hf1.1 j _ g2
      exact ⟨u',k1,.inl (Nv (.inl rfl) k2)⟩
     ·obtain ⟨u',k1,k2⟩:=hf1.1 j _ g2
      exact ⟨u',k1,.inl (Nv (.inr rfl) k2)⟩
     ·obtain ⟨u',k1,k2⟩:=hf1.1 j _ g2
      exact ⟨u',k1,.inr (hsl k2)⟩
    obtain ⟨u',k1,k2⟩:=k1
    rw [g5] at k1
    cases k1
    have named:Mr j ob=.loc j []∨Mr j ob=.mp j->(∀ t xs,ob≠.row t xs)->β1 i=β j/\∀ t xs,lk j (FE 0 c.bp y)=some (.row t xs)->τ1 i=τ j:=by
     intro g7 hnr
     refine ⟨?_,fun t xs h=>absurd (Ar (g3.symm.trans h)) (hnr t xs)⟩
     have g9:=Nv g7 g6
     rcases g9 with rfl | rfl
     ·rcases k2 with (k2 | k2) | ⟨⟨_,_,_,k2⟩,_⟩ <;> simp at k2
      exact k2.symm
     ·rcases k2 with (k2 | k2) | ⟨⟨_,_,_,k2⟩,_⟩ <;> simp at k2
      exact k2.symm
    cases ob with
    | var t con=>exact named (.inl rfl) fun _ _ h=>by cases h
    | mp kt vt es=>exact named (.inr rfl) fun _ _ h=>by cases h
    | lp c q=>
     obtain ⟨_,_,_,b',x',_,g8⟩:=F3 g3
     exact absurd g8.symm Oy
    | row t xs=>
     obtain ⟨_,_,hl0,hu0⟩:=Dq g6
     have h0:=s0.ob j (.row t xs) g3
     obtain ⟨b,hb⟩:=PV h0.1 (Nu hne g3)
     obtain ⟨⟨a0,cap0,row0,e0,_⟩,h02⟩:=h0
     rcases k2 with (k2 | k2) | ⟨_,k2,k3⟩
     ·rw [hu0,e0] at k2;cases k2
     ·rw [hu0,e0] at k2;cases k2
     ·have ht:τ1 i=τ j:=k2.symm.trans hu0
      exact ⟨by rw [← k3 b (by rw [ht];exact hb)];exact h02 b hb,fun _ _ _=>ht⟩
   have hw:=Qt z
   have hlk:∀ j,lk j (IB ids st).l=lk j (En c.w (JJ c.bp c.w z) (FE 0 c.bp y)):=by
    intro j
    rw [DR]
    by_cases hj:j=c.w
    ·rw [AY hj,hj]
     obtain ⟨ob,g3⟩:=Ej (n:=0) (d:=y) (Nat.zero_le c.w) (by simpa using hw)
     rw [g3]
     exact h9
    ·rw [AX hj]
     exact hsame j fun n hn=>by cases hn;omega
   have s2:Sm w0 M0 fn.ntmps M1 (fun j=>β1 ((ids[j]?).getD 0)) (fun j=>τ1 ((ids[j]?).getD 0)) { s:=[],l:=(IB ids st).l,k:=[],b:=0 } a [] w':=
    { df:=s1.df,sz:=s1.sz,Cq:=s1.Cq,mlt:=s1.mlt,Fg:=s1.Fg,gk:=s1.gk,gx:=s1.gx,kp:=s1.kp,CJ:=s1.CJ,fr:=fun i rv h=>by simp [lk] at h,fs:=trivial,ob:=s1.ob,dj:=s1.dj }
   exact ⟨_,Ey h3,us,M1,_,_,fn.ntmps,a,rfl,s2.LM (fun _=>rfl) hlk rfl,⟨fun j hj=>(ZG j hj).1,fun j t xs h=>(ZG j (by simpa using (F3 h).2.1)).2 t xs h⟩,h10⟩
  exact Fj hE Nf (Jh hE Nf lv) hf hb hd hN ⟨M,β,τ,s0⟩ fin
theorem Xy {g:FuncId} {fn:Func} {code:Code} {fp:List Pt} {bp:List Bt} {n:Nat} {rs:List Ty} (hf:P.funcs[g]? = some fn) (hb:fn.body=some code) (hn:(fn.name == "runtime.NumGoroutine")=false):Km P g ⟨fp,bp,n,rs,fun _ _=>none⟩ where
 enters:=enters_of hf hb hn
 calls:=by intro _ _ _ _ _ _ _ _ _ _ _ _ _ _ _ h;cases h
theorem Yy (hE:BS P E) {g:FuncId} {fn:Func} {code:Code} {c:MF} (hf:P.funcs[g]? = some fn) (hb:fn.body=some code) (hn:(fn.name == "runtime.NumGoroutine")=false)
  (hd:CB fn.ntmps code=true) (hps:Nat.ble (c.fp.length+1) fn.ntmps=true) (hF:∀ x y z,c.F x y=some z->∃ lt lv N,V4 E lt lv N fn c.e c.fp x y=some z):MS P g c where
 enters:=enters_of hf hb hn
 calls:=by
  intro w0 M0 M β τ w args x y z hlen hs hz
  obtain ⟨lt,lv,Nf,hN⟩:=hF x y z hz
  simp only [V4,hb] at hN
  have hle:args.length<=fn.ntmps:=by rw [hlen];exact Ak hps
  have s0:=hs fn.ntmps hle
  have fin:∀ (st:St) (a:Act) (w':World),Mc E fn c.e st=some z->Bb w0 M0 fn.ntmps st a [] w'->
    ∃ v,(results fn a.tmps).run P w'=.ok v w'/\∃ u M' β' τ' N' a',Ending.returned v=.returned u/\Sm w0 M0 N' M' β' τ' { s:=[],l:=[(0,.row c.e z)],k:=[],b:=0 } a' [] w'/\u=τ' 0:=by
   intro st a w' h s
   obtain ⟨M1,β1,τ1,s⟩:=s
   unfold Mc at h
   obtain ⟨CO,h1,h⟩:=AO.1 h
   obtain ⟨us,h3,h4⟩:=Ho hE s _ _ h1
   split at h
   ·rename_i id
    split at h
    ·rename_i t z' hl
     have hz':=TV.Bv h
     cases hz'
     match us,h4 with
     | [u],h4=>
      have h5:=h4.1
      simp only [RR] at h5
      obtain ⟨_,u',_,_,e1,_,_,e2⟩:=h5
      simp only [List.cons.injEq,and_true] at e1
      subst e1
      have s1:=s.ren [id]
      have hl1:(IB [id] st).l=[(0,.row c.e z)]:=by simp [IB,Ep,hl,D7,Bz]
      exact ⟨_,Ey h3,u,M1,_,_,fn.ntmps,a,by simp [OD],{ df:=s1.df,sz:=s1.sz,Cq:=s1.Cq,mlt:=s1.mlt,Fg:=s1.Fg,gk:=s1.gk,gx:=s1.gx,kp:=s1.kp,CJ:=s1.CJ,fr:=fun i rv h=>by simp [lk] at h,fs:=trivial,ob:=fun i ob h=>by have:=s1.ob i ob (by rw [hl1];exact h);rw [hl1] at this;exact this,dj:=fun i j ob Ci b h h'=>s1.dj i j ob Ci b (by rw [hl1];exact h) (by rw [hl1];exact h') },by simpa using e2⟩
     | [],h4=>exact h4.elim
     | _::_::_,h4=>exact h4.2.elim
    ·cases h
   ·cases h
  letI:DecidableEq (Ty.slice c.e).den:=FI (.slice c.e)
  exact Fj hE Nf (Jh hE Nf lv) hf hb hd hN ⟨M,β,τ,s0⟩ fin
theorem Yz:∀ g c,lk g ([]:List (FuncId×MF))=some c->MS P g c:=by
 intro g c h;simp [lk] at h
theorem YS {g:FuncId} {c:MF} {l:List (FuncId×MF)} (hg:MS P g c) (h:∀ f d,lk f l=some d->MS P f d):∀ f d,lk f ((g,c)::l)=some d->MS P f d:=by
 intro f d hf
 rw [BN] at hf
 split at hf
 ·rename_i e;subst e;cases hf;exact hg
 ·exact h f d hf
theorem Y0:∀ g c,lk g ([]:List (FuncId×FB))=some c->Km P g c:=by
 intro g c h;simp [lk] at h
theorem YT {g:FuncId} {c:FB} {l:List (FuncId×FB)} (hg:Km P g c) (h:∀ f d,lk f l=some d->Km P f d):∀ f d,lk f ((g,c)::l)=some d->Km P f d:=by
 intro f d hf
 rw [BN] at hf
 split at hf
 ·rename_i e;subst e;cases hf;exact hg
 ·exact h f d hf
end
end Go.Lift
