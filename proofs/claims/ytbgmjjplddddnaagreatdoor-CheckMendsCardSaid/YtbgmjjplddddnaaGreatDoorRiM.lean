import Derived.Test.YtbgmjjplddddnaaGreatDoorRiL
set_option linter.unusedSimpArgs false
namespace Go.Lift
open Go.RowKit
section
variable {P:Program} {E:Bn} {Q:Exit->Act->World->Prop} {o:Oper} {w0:World} {M0:Bs} {N:Nat} {M M':Own} {β:Nat->Nat} {τ:Nat->Value} {st st':St} {a:Act} {as:List Act} {w w':World} {id:Nat}
theorem CV {α:Type} {r:α} {k:St->Option α}:∀ (n:Nat) (ids:List Nat) (st:St),Cu n ids st k=some r->Bb w0 M0 N st a as w->∃ st',k st'=some r/\Bb w0 M0 N st' a as w
 | 0,_,_,h,_=>by cases h
 | n+1,[],st,h,s=>⟨st,h,s⟩
 | n+1,id::ids,st,h,s=>by
  simp only [Cu] at h
  cases hl:lk id st.l with
  | none=>rw [hl] at h;exact CV n ids st h s
  | some ob=>
   rw [hl] at h
   obtain ⟨M,β,τ,s⟩:=s
   cases ob with
   | row t xs=>
    obtain ⟨M',s'⟩:=s.Ni hl
    exact CV n ids _ h ⟨M',β,τ,s'⟩
   | var ty con=>
    simp only at h
    split at h
    ·change Cr H8 con ty (fun x=>Cu n ids (Jd id ty x st) k)=some r at h
     obtain ⟨x,h1,h2⟩:=Em (pk:=fun β rv k=>H8 (α:=β) rv k) I5 (rv:=con) (t:=ty) (X:=ty.den) (g:=fun β x k=>k x) (fun x=>PC.ret x) _ (fun x=>Cu n ids (Jd id ty x st) k) _ h
     obtain ⟨M',s'⟩:=s.Jd (x:=x) hl fun cs M' hM r=>by
      refine Lh (M:=M) (β:=β) (τ:=τ) (L:=st.l) (pk:=fun β rv k=>H8 (α:=β) rv k) (fun b o m=>⟨hM b o m,fun _ h=>h⟩) I5 (fun rv u tv hh rr=>?_) (h1 _ some) r
      unfold H8 at hh
      split at hh
      ·rename_i t
       cases hh
       have r':[u]=[Value.slice none 0 0]:=rr
       cases r'
       exact ⟨[.slice none 0 0],rfl,none,0,[],by simp,by simp,by simp [maxLen],fun _=>rfl,by simp [Seq],.inl (by simp)⟩
      ·cases hh
     exact CV n ids _ h2 ⟨M',β,τ,s'⟩
    ·exact CV n _ st h ⟨M,β,τ,s⟩
   | mp kt vt es=>exact CV n ids st h ⟨M,β,τ,s⟩
   | lp c q=>exact CV n ids st h ⟨M,β,τ,s⟩
theorem Es (id:Nat) (st:St):lk id (Bj id st).l=none:=by
 unfold Bj
 cases h:lk id st.l with
 | none=>exact h
 | some ob=>simp only;rw [G7];simp
theorem Sm.Bj (s:Sm w0 M0 N M β τ st a as w) (id:Nat):Sm w0 M0 N M β τ (Go.Lift.Bj id st) a as w:=by
 unfold Go.Lift.Bj
 split
 ·exact s
 ·exact s.kill id
def Pv (P:Program) (Q:Exit->Act->World->Prop) (w0:World) (M0:Bs) (N:Nat) (o:Oper) (a:Act) (as:List Act) (w:World) {α:Type} (k:St->Option α) (r:α):Prop:=
 ∀ K:Act->World->Prop,(∀ st' a' w',k st'=some r->Bb w0 M0 N st' a' as w'->K a' w')->o.wp P a w K Q
theorem EL (hE:BS P E) (s:Bb w0 M0 N st a as w) (hd:∀ d,o.dst=some d->d < N) {α:Type} {k:St->Option α} {r:α} (h:Lj E o st k=some r):Pv P Q w0 M0 N o a as w k r:=by
 obtain ⟨M,β,τ,s⟩:=s
 intro K hK
 unfold Lj at h
 rw [Bo] at h
 obtain ⟨⟨rv,ob⟩,h1,h2⟩:=Ld (E:=E) (o:=o) (st:=Bj (newId st (o.dst.getD 0)) st) (id:=newId st (o.dst.getD 0)) _ (fun q:RV×Option Ob=>k (Ch (U2 (newId st (o.dst.getD 0)) q.2 (Bj (newId st (o.dst.getD 0)) st)) o.dst q.1)) r h
 exact Jm hE (s.Bj _) hd (Es _ _) (h1 _ some) K fun a' w' hs=>hK _ a' w' h2 hs
theorem SS {L:List (Nat×Ob)} {rv:RV} {u:Value} (r:RR M w β τ L rv .sl [u]):RR M w β τ L (UH rv) .sl [u]:=by
 cases rv with
 | nil t=>
  have hu:[u]=[Value.slice none 0 0]:=r
  cases hu
  exact ⟨_,rfl,[.slice none 0 0],rfl,none,0,[],by simp,by simp,by simp [maxLen],fun _=>rfl,by simp [Seq],.inl (by simp)⟩
 | _=>exact r
theorem SI {α:Type} {tt:Option Ty} {p:List Step} {ty:Ty} {xs:List ty.den} {rv:RV} {k:List ty.den->Option α} {alt:Option α} {r:α} (h:T9 tt p ty xs rv k alt=some r) :
  (∃ j e ys z,p=[.idx j]/\rv=.val ⟨.slice e,ys⟩/\Bd tt (.nes e)=true/\ys≠[]/\TV.as ty ⟨.nes e,ys⟩=some z/\k (List.set xs j.toNat z)=some r)∨alt=some r:=by
 unfold T9 at h
 split at h
 ·rename_i j e ys
  cases hc:Bd tt (.nes e) with
  | false=>rw [hc] at h;exact .inr h
  | true=>
   rw [hc] at h
   simp only [AL] at h
   cases ys with
   | nil=>simp at h
   | cons y ys=>
    obtain ⟨z,hz,h⟩:=AO.1 (show ((TV.as ty ⟨.nes e,y::ys⟩).bind fun z=>k (List.set xs j.toNat z))=some r from h)
    exact .inl ⟨j,e,_,z,rfl,rfl,hc,by simp,hz,h⟩
 ·exact .inr h
theorem VQ {X:Type} {tt:Option Ty} {p:List Step} {ty:Ty} {xs:List ty.den} {rv:RV} {f:List ty.den->X} {A:(β:Type)->(X->Option β)->Option β} (hA:PC A):PC (fun β k=>T9 tt p ty xs rv (fun z=>k (f z)) (A β k)):=by
 unfold T9
 split
 ·exact PC.bif (PC.bif PC.none (PC.bind fun z=>PC.ret _)) hA
 ·exact hA
theorem JG (hE:BS P E) (s:Bb w0 M0 N st a as w) {t:TypeId} {x y:Operand} (hop:o.op=.store t x y) (hdst:o.dst=none) {i:Nat} {ob:Ob} (h:FD E t x y st (fun id ob=>some (id,ob))=some (i,ob)) :
  V9 P Q w0 M0 N o a as w (Bl i ob st)/\(lk i st.l).isSome=true:=by
 obtain ⟨M,β,τ,s⟩:=s
 unfold FD at h
 have hx:=BR s.glob s.fr (lk t E.tab) x
 have fin:∀ (d:List Value) (w':World) (id:Nat) (off n:Nat) (st':St),(a.eval x)=.pointer (some ⟨β id,off,none⟩)->(a.eval y).cells=List.toArray d->(sizeOf t).run P w=.ok n w->d.length=n->(storeCells ⟨β id,off,none⟩ d).run P w=.ok () w'->Bb w0 M0 N st' a as w'->V9 P Q w0 M0 N o a as w st':=by
  intro d w' id off n st' hxv hyv hn hdn hst hs K hK
  have hrun:(execOp a.eval o).run P w=.ok .skip w':=by
   simp only [execOp,hop,Sem.run_bind,Instr.storeAt,hxv,Instr.sureAddr,Sem.run_pure,Result.andThen_ok,storeVar,hyv,hn,List.size_toArray,hdn,ne_eq,not_true_eq_false,if_false,hst]
  unfold Oper.wp
  rw [hrun]
  show K (a.put o.dst undef) w'
  rw [hdst]
  exact hK _ _ hs
 split at h
 ·rename_i i' p heq
  rw [heq] at hx
  obtain ⟨O1,off,t',hl,ho,hu⟩:=Fy hx
  simp only [hl] at h
  cases O1 with
  | var ty con=>
   simp only at h
   obtain ⟨tt,ZY,h⟩:=AO.1 h
   obtain ⟨c,hc,h⟩:=AO.1 h
   have hy:=BR s.glob s.fr (some tt) y
   obtain ⟨CQ,h1,h2⟩:=Kj (nv:=Bf (some tt) y st.s) ty (X:=RV) (g:=fun β z k=>k z) con p (fun z=>PC.ret z) _ (fun CQ=>some (i',Ob.var ty CQ)) _ h
   cases h2
   obtain ⟨d,w',g1,g2,g3⟩:=s.Wt (P:=P) hl ho (h1 _ some) hy
   obtain ⟨cs,hcs,hr⟩:=toC_ok hc hy
   have hcells:=hr.cells
   rw [← hcs,g1] at hcells
   have:d=cs:=by simpa using hcells
   exact ⟨fin d w' _ off _ _ hu g1 ((hE.tab _ _ ZY).sizeOf w) (by rw [this,hr.length]) g2 ⟨M,β,τ,g3⟩,by rw [hl];rfl⟩
  | row ty xs=>
   simp only at h
   have hy:=SS (BR s.glob s.fr (lk t E.tab) y)
   replace h:=SI h
   rcases h with ⟨j,e,ys,z,rfl,heq2,hc,hne,hz,h⟩ | h
   ·cases h
    have hy:=BR s.glob s.fr (lk t E.tab) y
    rw [heq2] at hy
    obtain ⟨u,e1,cs0,Yh,hr0⟩:=hy
    simp only [List.cons.injEq,and_true] at e1
    have hv:Bu M w (.nes e) ys (a.eval y):=⟨cs0,by rw [e1,Yh];rfl,hr0,fun h0=>absurd (Aq h0) hne⟩
    obtain ⟨d,w',g1,g2,g3⟩:=s.OI (P:=P) (x:=z) (v:=⟨.nes e,ys⟩) hl ho (.inl rfl) (.inl ⟨rfl,hz⟩) hv
    obtain ⟨cs,hcs,hr⟩:=hv
    have hcells:=toV_cells hr
    rw [← hcs,g1] at hcells
    have:d=cs:=by simpa using hcells
    exact ⟨fin d w' _ off _ _ hu g1 ((hE.tab _ _ (BQ hc)).sizeOf w) (by rw [this,hr.length]) g2 ⟨M,β,τ,g3⟩,by rw [hl];rfl⟩
   split at h
   ·rename_i j v heq2
    rw [heq2] at hy
    obtain ⟨hc,h⟩:=BL h
    obtain ⟨z,hz,h⟩:=AO.1 h
    cases h
    obtain ⟨u,e,hv⟩:=hy
    simp only [List.cons.injEq,and_true] at e
    rw [← e] at hv
    obtain ⟨d,w',g1,g2,g3⟩:=s.OI (P:=P) (x:=z) hl ho (.inl rfl) (.inl ⟨rfl,hz⟩) hv
    obtain ⟨cs,hcs,hr⟩:=hv
    have hcells:=toV_cells hr
    rw [← hcs,g1] at hcells
    have:d=cs:=by simpa using hcells
    exact ⟨fin d w' _ off _ _ hu g1 ((hE.tab _ _ (BQ hc)).sizeOf w) (by rw [this,hr.length]) g2 ⟨M,β,τ,g3⟩,by rw [hl];rfl⟩
   ·rename_i j sp q v heq2
    rw [heq2] at hy
    obtain ⟨hc,h⟩:=BL h
    obtain ⟨x1,hx1,h⟩:=AO.1 h
    obtain ⟨z,hz,h⟩:=AO.1 h
    cases h
    obtain ⟨u,e,hv⟩:=hy
    simp only [List.cons.injEq,and_true] at e
    rw [← e] at hv
    obtain ⟨d,w',g1,g2,g3⟩:=s.OI (P:=P) hl ho (.inr hx1) (.inr hz) hv
    obtain ⟨cs,hcs,hr⟩:=hv
    have hcells:=toV_cells hr
    rw [← hcs,g1] at hcells
    have:d=cs:=by simpa using hcells
    exact ⟨fin d w' _ off _ _ hu g1 ((hE.tab _ _ (BQ hc)).sizeOf w) (by rw [this,hr.length]) g2 ⟨M,β,τ,g3⟩,by rw [hl];rfl⟩
   ·cases h
  | mp kt vt es=>cases h
  | lp c q=>cases h
 ·cases h
theorem Jv {t:TypeId} {x y:Operand}:PC (fun β (k:Nat×Ob->Option β)=>FD E t x y st fun id ob=>k (id,ob)):=by
 unfold FD
 split
 ·split
  ·rename_i id p _ _ ty con _
   exact PC.bind (X:=Nat×Ob) (g:=fun β tt k=>(toC tt (Bf (some tt) y st.s)).bind fun _=>F8 (Bf (some tt) y st.s) ty (fun CQ=>k (id,.var ty CQ)) con p) fun tt=>PC.bind (X:=Nat×Ob) (g:=fun β _ k=>F8 (Bf (some tt) y st.s) ty (fun CQ=>k (id,.var ty CQ)) con p) fun _=>
    Kj ty (X:=Nat×Ob) (g:=fun β CQ k=>k (id,.var ty CQ)) con p fun z=>PC.ret _
  ·rename_i id p _ _ ty xs _
   refine VQ (X:=Nat×Ob) (f:=fun z=>(id,.row ty z)) ?_
   split
   ·exact PC.bif (PC.bind fun z=>PC.ret _) PC.none
   ·refine PC.bif ?_ PC.none
    intro β k r h
    obtain ⟨x1,hx1,h⟩:=AO.1 h
    obtain ⟨z,hz,h⟩:=AO.1 h
    exact ⟨_,fun γ k'=>by simp only [hx1,hz,AA],h⟩
   ·exact PC.none
  ·exact PC.none
  ·exact PC.none
  ·exact PC.none
 ·exact PC.none
theorem LX (hE:BS P E) (s:Bb w0 M0 N st a as w) {t:TypeId} {m x y:Operand} (hop:o.op=.mapUpdate t m x y) (hdst:o.dst=none) {i:Nat} {ob:Ob} (h:MN E t m x y st (fun id ob=>some (id,ob))=some (i,ob)) :
  V9 P Q w0 M0 N o a as w (Bl i ob st)/\(lk i st.l).isSome=true:=by
 obtain ⟨M,β,τ,s⟩:=s
 unfold MN at h
 have hm:=BR s.glob s.fr none m
 split at h
 ·rename_i i' heq
  rw [heq] at hm
  obtain ⟨kt,vt,es,hl,hu⟩:=Qa hm
  simp only [hl] at h
  obtain ⟨hc,h⟩:=BL h
  simp only [AP] at hc
  obtain ⟨h0,hk,hvf⟩:=hc
  obtain ⟨v,h1,h2⟩:=CS 6 _ _ _ _ h
  obtain ⟨k,hk1,h3⟩:=AO.1 h2
  obtain ⟨u,h4,h5⟩:=CS 6 _ _ _ _ h3
  obtain ⟨z,hz,h6⟩:=AO.1 h5
  obtain ⟨rfl,rfl⟩:=Prod.mk.inj (Ar h6)
  have e1:=TV.Bv hk1
  have e2:=TV.Bv hz
  have hv:=Dn s.ob 6 (h1 _ some) (BR s.glob s.fr (some kt) x)
  have hy:=Dn s.ob 6 (h4 _ some) (BR s.glob s.fr (some vt) y)
  rw [e1] at hv
  rw [e2] at hy
  obtain ⟨_,⟨arr,clock,hb,he⟩,_⟩:=s.ob i' _ hl
  obtain ⟨arr',clock',hrun,he'⟩:=Qs (M:=M) hE.tab hk (hE.tab _ _ (BQ h0)) (Pm (LH hk) hv) (Pm hvf hy) hb he
  refine ⟨fun K hK=>?_,by rw [hl];rfl⟩
  have FL:(execOp a.eval o).run P w=.ok .skip { w with heap:=w.heap.setIfInBounds (β i') (.map arr' clock') }:=by
   simp only [execOp,hop,hu,Sem.run_bind,hrun,Result.andThen_ok,Sem.run_pure]
  unfold Oper.wp
  rw [FL]
  show K (a.put o.dst undef) _
  rw [hdst]
  exact hK _ _ ⟨M,β,τ,s.Ws hl hb he'⟩
 ·cases h
theorem Nt {t:TypeId} {m x y:Operand}:PC (fun β (k:Nat×Ob->Option β)=>MN E t m x y st fun id ob=>k (id,ob)):=by
 unfold MN
 split
 ·rename_i i _
  split
  ·rename_i kt vt es _
   exact PC.bif (PC.comp (Y:=Nat×Ob) (G:=fun β v k=>(TV.as kt v).bind fun x=>Bg st.l 6 (Bf (some vt) y st.s) fun u=>(TV.as vt u).bind fun y=>k (i,.mp kt vt (MO x y es))) (CS 6 _) fun v=>PC.bind fun x=>
    PC.comp (Y:=Nat×Ob) (G:=fun β u k=>(TV.as vt u).bind fun y=>k (i,.mp kt vt (MO x y es))) (CS 6 _) fun u=>PC.bind fun y=>PC.ret _) PC.none
  ·exact PC.none
 ·exact PC.none
theorem Ph (hE:BS P E) (s:Bb w0 M0 N st a as w) {t:TypeId} {x y:Operand} (hop:o.op=.store t x y) (hdst:o.dst=none) {α:Type} [DecidableEq α] {k:St->Option α} {r:α} {H:Tg->St->(St->RV->Option α)->Option α} {lt:LT} (h:Dc E H lt o st k=some r) :
  Pv P Q w0 M0 N o a as w k r:=by
 intro K hK
 simp only [Dc,hop,hdst] at h
 obtain ⟨⟨i,ob⟩,h1,h2⟩:=Jv _ (fun q:Nat×Ob=>k (Bl q.1 q.2 st)) _ h
 exact (JG hE s hop hdst (h1 _ some)).1 K fun a' w' hs=>hK _ a' w' h2 hs
theorem SF (hE:BS P E) (s:Bb w0 M0 N st a as w) {t:TypeId} {m x y:Operand} (hop:o.op=.mapUpdate t m x y) (hdst:o.dst=none) {α:Type} [DecidableEq α] {k:St->Option α} {r:α} {H:Tg->St->(St->RV->Option α)->Option α} {lt:LT} (h:Dc E H lt o st k=some r) :
  Pv P Q w0 M0 N o a as w k r:=by
 intro K hK
 simp only [Dc,hop,hdst] at h
 obtain ⟨⟨i,ob⟩,h1,h2⟩:=Nt _ (fun q:Nat×Ob=>k (Bl q.1 q.2 st)) _ h
 exact (LX hE s hop hdst (h1 _ some)).1 K fun a' w' hs=>hK _ a' w' h2 hs
theorem Lu {b0:Nat->Prop} {t:Ty} {xs:List t.den} {v u:Value} (h:DJ b0 M w t xs v) {lo hi:Nat} (hlh:lo<=hi) (hhi:hi<=xs.length) (hu:KL t.n lo hi v u) :
  ∃ a' cap' row',u=.slice a' (hi - lo) cap'/\Seq (Br M w t) row' ((xs.take hi).drop lo)/\(hi - lo=0∨∃ ad:Addr,a'=some ad/\∀ j,j < row'.length->w.cell? (ad.add j)=row'[j]?):=by
 obtain ⟨a,cap,row,rfl,h1,h2,h3,h4,h5⟩:=h
 obtain ⟨a1,len1,QB,a',c,e1,rfl,⟨hc1,hc2⟩,h6⟩:=hu
 cases e1
 obtain ⟨c0,c1,c2,e2,hl2,hr⟩:=QD (fun _ _ r=>Br.length r) h4 hlh hhi
 refine ⟨a',_,c1,rfl,hr,?_⟩
 by_cases hz:hi - lo=0
 ·exact .inl hz
 ·have h7:=h6 (by omega)
  subst h7
  right
  cases a with
  | none=>have:=h3 rfl;omega
  | some a0=>
   obtain ⟨b,cur,T,rfl,g1,⟨fz,gz,g2⟩,g3,g4,g5⟩:=h5 a0 rfl (by omega)
   refine ⟨⟨b,0+lo * t.n,none⟩,by simp [addr_add],fun j hj=>?_⟩
   rw [addr_add,cell_of_row _ _ _ _ _ _ g2,Nat.zero_add,← hl2,g4 _ (by rw [e2];simp;omega),e2,Ao (by omega),Nat.add_sub_cancel_left,Am hj]
theorem KI {e:Ty}:∀ {cs:List Value} {xs:List e.den},Seq (Br M w e) cs xs->∀ v∈cs,v.oneCell'=true:=by
 intro cs xs
 induction xs generalizing cs with
 | nil=>intro s;simp only [Seq] at s;subst s;simp
 | cons x xs ih=>
  rintro ⟨c1,c2,rfl,r,s⟩ v hv
  rcases List.mem_append.1 hv with hv | hv
  ·exact r.oneCell v hv
  ·exact ih s v hv
theorem Hr {e:Ty} {tab:List (TypeId×Ty)} (htab:CY P tab) {u:TypeId} (hu:lk u tab=some (.slice e)) {a':Option Addr} {n cap:Nat} {row:List Value} {ys:List e.den} (hn:ys.length=n) (hs:Seq (Br M w e) row ys) (hc:n=0∨∃ ad:Addr,a'=some ad/\∀ j,j < row.length->w.cell? (ad.add j)=row[j]?) :
  Src P e.n u (.slice a' n cap) ys.length row w:=by
 obtain ⟨e',hu',_⟩:=(htab _ _ hu).slice
 have hl:row.length=ys.length * e.n:=hs.length (fun _ _ r=>r.length)
 subst hn
 rcases hc with hz | ⟨ad,rfl,hc⟩
 ·have hr:row=[]:=Aq (by rw [hl,hz];simp)
  subst hr
  have e0:ys=[]:=Aq hz
  subst e0
  cases a' with
  | none=>exact Src.ofNil w hu' cap
  | some ad=>exact Src.ofSlice w hu' ad 0 cap [] (by simp) (fun j u hj=>by simp at hj) (fun u hu=>by cases hu)
 ·exact Src.ofSlice w hu' ad _ cap row hl (fun j u hj=>by rw [hc j (Ap.1 hj).1,hj]) (KI hs)
theorem RZ (s:Sm w0 M0 N M β τ st a as w) {tab:List (TypeId×Ty)} (htab:CY P tab) {e:Ty} {rv:RV} {u:TypeId} {v:Value} {ys:List e.den} (h:Pf tab u st.l e rv=some ys) (hn:1<=e.n) (r:RR M w β τ st.l rv .sl [v]) :
  ∃ row,Src P e.n u v ys.length row w/\Seq (Br M w e) row ys:=by
 unfold Pf at h
 split at h
 ·rename_i t zs
  obtain ⟨hc,h⟩:=BL h
  have:=TV.Bv h
  cases this
  obtain ⟨u',e1,hv⟩:=r
  cases e1
  obtain ⟨ad,cap,row,hv,_,_,_,hs,hrow⟩:=hv.slice
  refine ⟨row,?_,hs⟩
  rw [hv]
  refine Hr htab (BQ hc) rfl hs ?_
  rcases hrow with hz | ⟨b,o',rfl,hrow⟩
  ·exact .inl hz
  ·exact .inr ⟨_,rfl,fun j hj=>by rw [addr_add];exact (hrow j hj).1⟩
 ·rename_i zs
  obtain ⟨hc,h⟩:=BL h
  have:=TV.Bv h
  cases this
  have hu:=(htab _ _ (BQ hc)).str
  obtain ⟨u',e1,hv⟩:=r
  cases e1
  obtain ⟨sb,hv2,rfl,_⟩:=hv.str
  refine ⟨byteCells sb,?_,?_⟩
  ·rw [hv2]
   have:=Src.ofString (P:=P) w hu sb
   have z1:sb.data.size=sb.size:=rfl
   simpa [Ty.n,z1] using this
  ·have:=Seq.I6 (M:=M) (w:=w) (k:=.u8) (xs:=sb.data.toList.map fun b=>(b.toNat:Int)) (fun x hx=>by
    obtain ⟨b,_,rfl⟩:=List.mem_map.1 hx
    have:=UInt8.toNat_lt b
    simp [IntKind.min,IntKind.max,IntKind.signed,IntKind.bits];omega)
   rw [List.map_map] at this
   exact this
 ·rename_i t
  obtain ⟨hc,h⟩:=BL h
  have:=TV.Bv h
  cases this
  have r':[v]=[Value.slice none 0 0]:=r
  cases r'
  exact ⟨[],Hr (M:=M) htab (BQ hc) rfl rfl (.inl rfl),rfl⟩
 ·rename_i i
  obtain ⟨t,xs,hl,hu⟩:=Dq r
  simp only [hl] at h
  obtain ⟨hc,h⟩:=BL h
  have:=TV.Bv h
  cases this
  have ho:=(s.ob i _ hl).1
  obtain ⟨a',cap',row',h1,h2,h3⟩:=Lu ho (Nat.zero_le _) (Nat.le_refl _) (DU ho)
  simp only [List.take_length,List.drop_zero,Nat.sub_zero] at h1 h2 h3
  refine ⟨row',?_,h2⟩
  rw [hu,h1]
  exact Hr htab (BQ hc) rfl h2 h3
 ·rename_i i lo hi
  obtain ⟨t,xs,hl,g1,g2,hu⟩:=Ht r
  simp only [hl] at h
  obtain ⟨hc,h⟩:=BL h
  have:=TV.Bv h
  cases this
  have ho:=(s.ob i _ hl).1
  obtain ⟨a',cap',row',h1,h2,h3⟩:=Lu ho g1 g2 hu
  refine ⟨row',?_,h2⟩
  rw [h1]
  have hlen:((xs.take hi).drop lo).length=hi - lo:=by simp;omega
  exact Hr htab (BQ hc) hlen h2 h3
 ·cases h
theorem Nb (s:Sm w0 M0 N M β τ st a as w) {e:Ty} {rv:RV} {v:Value} {xs:List e.den×Option Nat} (h:MI st.l e rv=some xs) (r:RR M w β τ st.l rv .sl [v]) :
  DJ (ownB w0 M0) M w e xs.1 v/\∀ b,C8 v=some b->∃ i ob,xs.2=some i/\lk i st.l=some ob/\blk β τ i ob=some b:=by
 unfold MI at h
 split at h
 ·rename_i t
  obtain ⟨hc,h⟩:=BL h
  cases h
  have:=of_decide_eq_true hc
  subst this
  have r':[v]=[Value.slice none 0 0]:=r
  cases r'
  exact ⟨Lx,fun b hb=>by simp [C8] at hb⟩
 ·rename_i i
  obtain ⟨t,ys,hl,hu⟩:=Dq r
  simp only [hl] at h
  obtain ⟨zs,hz,h⟩:=AO.1 h
  cases h
  have:=TV.Bv hz
  cases this
  rw [hu]
  exact ⟨(s.ob i _ hl).1,fun b hb=>⟨i,_,rfl,hl,hb⟩⟩
 ·rename_i i lo hi
  obtain ⟨t,ys,hl,g1,g2,hu⟩:=Ht r
  simp only [hl] at h
  obtain ⟨hc,h⟩:=BL h
  obtain ⟨zs,hz,h⟩:=AO.1 h
  cases h
  have:=TV.Bv hz
  cases this
  have hlo:=Aa hc
  subst hlo
  obtain ⟨⟨ad,cap,row,h0,h1,h2,h3,h4,h5⟩,_⟩:=s.ob i _ hl
  obtain ⟨a1,len1,QB,a',c,e1,hv,⟨hc1,hc2⟩,h6⟩:=hu
  rw [h0] at e1
  cases e1
  have hmap:ad.map (·.add (0 * e.n))=ad:=by cases ad <;> simp [Addr.add]
  rw [hmap] at h6
  simp only [Nat.sub_zero] at hv hc1 hc2
  have hlen:(List.take hi zs).length=hi:=by simp;omega
  obtain ⟨d0,d1,e2,hd0,hs0,_⟩:=h4.cut (fun _ _ r=>Br.length r) hi g2
  refine ⟨⟨a',c,d0,by rw [hv,hlen],by rw [hlen];omega,by omega,?_,hs0,?_⟩,?_⟩
  ·intro ha
   by_cases hc0:c=0
   ·exact hc0
   ·rw [h6 hc0] at ha
    have:=h3 ha
    omega
  ·intro a0 ha hc0
   rw [h6 (by omega)] at ha
   obtain ⟨b,cur,T,k0,k1,k2,k3,k4,k5⟩:=h5 a0 ha (by omega)
   exact ⟨b,cur,T,k0,k1,k2,Nat.le_trans (Nat.mul_le_mul_right _ hc2) k3,(fun j hj=>by rw [k4 j (by rw [e2];simp;omega),e2,Am hj]),k5⟩
  ·intro b hb
   rw [hv] at hb
   refine ⟨i,_,rfl,hl,?_⟩
   simp only [blk]
   rw [h0]
   by_cases hc0:c=0
   ·subst hc0
    cases a' <;> simp [C8] at hb
   ·rw [h6 hc0] at hb
    cases ad with
    | none=>simp [C8] at hb
    | some a0=>
     simp only [C8,AX hc0] at hb
     simp only [C8,AX (show ¬ cap=0 by omega)]
     exact hb
 ·cases h
theorem VN {tab:List (TypeId×Ty)} {tid:TypeId} {e:Ty} {i:TypeInfo} {n:Nat} (hT:ER P tab tid e) (hi:P.info? tid=some i) (h:n<=QU E e):n<=lim∨(n<=VL/\i.bytes<=8):=by
 unfold QU at h
 cases hw:E.wd with
 | false=>rw [hw] at h;cases e <;> exact .inl h
 | true=>
  rw [hw] at h
  cases e with
  | int k=>
   right
   have:=hT.Y4 k rfl i hi
   have h64:k.bits<=64:=by cases k <;> decide
   exact ⟨h,by omega⟩
  | _=>exact .inl h
theorem Sg {α:Type} {u:TypeId} {new:Bool} {e:Ty} {rv:RV} {k:List e.den->Option α} {alt:Option α} {r:α} (h:Uf E u new e rv k alt=some r) :
  (∃ n z,new=true/\rv=.val ⟨.int .i64,n⟩/\(1<=n/\n<=(lim:Int))/\Bd (lk u E.tab) (.int .i64)=true/\Bp e=some z/\k (E.rep e.den n.toNat z)=some r)∨alt=some r:=by
 unfold Uf at h
 split at h
 ·rename_i n
  obtain ⟨h12,h⟩:=BL h
  simp only [AP,AZ] at h12
  obtain ⟨hc,h⟩:=BL h
  obtain ⟨z,hzd,h⟩:=AO.1 h
  exact .inl ⟨n,z,rfl,rfl,h12,hc,hzd,h⟩
 ·exact .inr h
theorem Vf {X:Type} {u:TypeId} {new:Bool} {e:Ty} {rv:RV} {g:(β:Type)->List e.den->(X->Option β)->Option β} {A:(β:Type)->(X->Option β)->Option β} (hg:∀ ys,PC (fun β k=>g β ys k)) (hA:PC A):PC (fun β k=>Uf E u new e rv (fun ys=>g β ys k) (A β k)):=by
 unfold Uf
 split
 ·exact PC.bif (PC.bif (PC.bind fun z=>hg _) PC.none) PC.none
 ·exact hA
theorem Ih (hE:BS P E) (s:Bb w0 M0 N st a as w) (hd:∀ d,o.dst=some d->d < N) {args:Array Operand} {argTypes:Array TypeId} {d:Nat} (hop:o.op=.call { callee:=.builtin .append,args:=args,argTypes:=argTypes }) (hdst:o.dst=some d)
  {α:Type} [DecidableEq α] {k:St->Option α} {r:α} {H:Tg->St->(St->RV->Option α)->Option α} {lt:LT} (YM:lt.fork.any (Nat.beq d)=false) (h:Dc E H lt o st k=some r):Pv P Q w0 M0 N o a as w k r:=by
 obtain ⟨M,β,τ,s⟩:=s
 intro K hK
 simp only [Dc,hop,hdst,YM,AJ,NR,Bo] at h
 split at h
 case h_2=>cases h
 rename_i sx x t u hargs hts
 split at h
 case h_2=>cases h
 rename_i e hty
 obtain ⟨xs,hxs,h⟩:=AO.1 h
 obtain ⟨hrow,KP⟩:=Nb s hxs (BR s.glob s.fr _ sx)
 obtain ⟨e',hu,hle⟩:=(hE.tab _ _ hty).slice
 obtain ⟨i,hi,hsz,hz,hby⟩:=(hE.tab _ _ hle).info
 have both:∃ ys,(bif Nat.ble 1 e.n&&Nat.ble (List.length xs.1+List.length ys) (QU E e) then k (Ch (addN (newId st d) (.row e (List.append xs.1 ys)) (Bj (newId st d) (Ck xs.2 st))) (some d) (.row (newId st d))) else none)=some r/\(1<=e.n->List.length xs.1+List.length ys<=QU E e->∃ v' w',(Builtin.append_ #[t,u] o.type #[a.eval sx,a.eval x]).run P w=.ok v' w'/\Ext M w M w'/\Below w0.heap.size w w'/\(∀ b o,M b o->b < w'.heap.size)/\w.heap.size<=w'.heap.size/\
   DJ (ownB w0 M0) M w' e (xs.1++ys) v'/\(∀ b,b < w.heap.size->C8 (a.eval sx)≠some b->w'.heap[b]? = w.heap[b]?)/\(∀ b,C8 v'=some b->C8 (a.eval sx)=some b∨w.heap.size<=b)):=by
  replace h:=Sg h
  rcases h with ⟨n,z,hnone,heq,h12,hc,hzd,h⟩ | h
  ·rw [hE.rep] at h
   refine ⟨_,h,fun hn hl0=>?_⟩
   have hx1:xs.1=[]/\a.eval sx=.slice none 0 0:=by
    unfold MI at hxs
    split at hxs
    ·rename_i Yj
     obtain ⟨_,hxs⟩:=BL hxs
     cases hxs
     have hv:=BR s.glob s.fr (some (.slice e)) sx
     rw [Yj] at hv
     have hv:[a.eval sx]=[Value.slice none 0 0]:=hv
     exact ⟨rfl,by simpa using hv⟩
    ·exfalso
     split at hxs
     ·obtain ⟨_,_,hxs⟩:=AO.1 hxs
      cases hxs
      simp at hnone
     ·cases hxs
    ·exfalso
     split at hxs
     ·obtain ⟨_,hxs⟩:=BL hxs
      obtain ⟨_,_,hxs⟩:=AO.1 hxs
      cases hxs
      simp at hnone
     ·cases hxs
    ·cases hxs
   have hx:=BR s.glob s.fr (lk u E.tab) x
   rw [heq] at hx
   obtain ⟨vx,e1,Xl⟩:=hx
   have Xl:a.eval x=.int .i64 n:=by
    have h3:[a.eval x]=[vx]:=e1
    obtain ⟨cs,h4,h5,_⟩:=Xl
    simp only [List.cons.injEq,and_true] at h3
    rw [h3,h4,h5]
    rfl
   rw [hx1.1,hx1.2,Xl,List.nil_append]
   obtain ⟨v',w',g1,g2,g3,g4,g5,g6,g7,g8⟩:=Rj (t:=t) (u:=u) (ty:=o.type) (M:=M) (w:=w) hu ((hE.tab _ _ (BQ hc)).int) hi hsz hz hby hn (b0:=w0.heap.size) (B:=ownB w0 M0) (fun b h=>s.new h) hzd h12.1 h12.2 s.mlt s.Cq.size
   exact ⟨v',w',g1,g2,g3,g4,g5,g6,fun b hb _=>g7 b hb,fun b hb=>.inr (g8 b hb)⟩
  ·obtain ⟨ys,hys,h⟩:=AO.1 h
   refine ⟨ys,h,fun hn hlim=>?_⟩
   obtain ⟨row,hsrc,hseq⟩:=RZ s hE.tab hys hn (BR s.glob s.fr _ x)
   have hlim:=VN (hE.tab _ _ hle) hi hlim
   obtain ⟨v',w',hrun,hext,hbel,Ry,hsize,hx',hoth,Q8,_⟩:=OU (t:=t) (u:=u) (ty:=o.type) hu hi hsz hz hby hn (B:=ownB w0 M0) (fun b h=>h.1) (fun b h=>s.new h) s.mlt hrow hsrc hseq hlim s.Cq.size
   exact ⟨v',w',hrun,hext,hbel,Ry,hsize,hx',hoth,Q8⟩
 obtain ⟨ys,h,hap⟩:=both
 obtain ⟨hc,h⟩:=BL h
 simp only [AP] at hc
 have hn:=Ak hc.1
 have hlim:=Ak hc.2
 obtain ⟨v',w',hrun,hext,hbel,Ry,hsize,hx',hoth,Q8⟩:=hap hn hlim
 have hargs':args = #[sx,x]:=by rw [← Array.toArray_toList (xs:=args),hargs]
 have QL:argTypes = #[t,u]:=by rw [← Array.toArray_toList (xs:=argTypes),hts]
 have FL:(execOp a.eval o).run P w=.ok (.value v') w':=by
  simp only [execOp,hop,resolve,pure_bind,invoke,builtin,Sem.run_bind]
  rw [hargs',QL,show Array.map a.eval #[sx,x] = #[a.eval sx,a.eval x] by simp,hrun]
  rfl
 have key:∀ (st1:St),Sm w0 M0 N M β τ st1 a as w->(∀ j ob,lk j st1.l=some ob->(∀ i,xs.2=some i->j≠i)/\∃ FR,lk j st.l=some FR/\blk β τ j ob=blk β τ j FR)->lk (newId st d) st1.l=none->
   Bb w0 M0 N (Ch (addN (newId st d) (.row e (List.append xs.1 ys)) st1) (some d) (.row (newId st d))) (a.put o.dst v') as w':=by
  intro st1 s1 hsub hfree
  have s2:=s1.Ri (ob:=.row e (xs.1++ys)) (bn:=(C8 v').getD 0) (v:=v') hfree hext (s.Cq.trans hbel) Ry s.CJ (fun b k=>⟨hoth b (s.kp b k).1.2 (fun hw=>by
   obtain ⟨i',Ci,h1,h2,h3⟩:=KP b hw
   exact (s.block h2 h3).2.1.2 k),fun _ h=>h⟩) (fun j ob b hl hb=>by
   obtain ⟨hne,FR,hl0,hb0⟩:=hsub j ob hl
   rw [hb0] at hb
   have hlt:=(s.block hl0 hb).1
   have hnw:C8 (a.eval sx)≠some b:=fun hw=>by
    obtain ⟨i',Ci,h1,h2,h3⟩:=KP b hw
    exact hne i' h1 (s.dj j i' FR Ci b hl0 h2 hb h3)
   refine ⟨hoth b hlt hnw,fun _ m=>m,fun hw=>?_⟩
   rcases Q8 b hw with h | h
   ·exact hnw h
   ·omega) (fun β' τ' h1 h2 hm=>⟨by rw [h2];exact hx',fun b hb=>by rw [h2] at hb;rw [h1];simp [hb]⟩)
  rw [hdst]
  refine ⟨_,_,_,s2.set (some d) (fun i hi=>by cases hi;exact hd d hdst) ?_⟩
  simp only [RR,addN]
  refine ⟨rfl,v',e,xs.1++ys,rfl,?_,by simp [BN],by simp⟩
  obtain ⟨_,_,_,e1,_⟩:=hx'
  rw [e1]
  rfl
 unfold Oper.wp
 rw [FL]
 refine hK _ _ _ h (key _ ?_ ?_ (Es _ _))
 ·cases xs.2 with
  | none=>exact s.Bj _
  | some i'=>exact (s.kill i').Bj _
 ·intro j ob hl
  have free:∀ (st2:St),lk j (Bj (newId st d) st2).l=some ob->∃ FR,lk j st2.l=some FR/\blk β τ j ob=blk β τ j FR:=by
   intro st2 hl
   unfold Bj at hl
   split at hl
   ·exact ⟨ob,hl,rfl⟩
   ·obtain ⟨_,FR,h1,rfl⟩:=Cm hl
    exact ⟨FR,h1,EW _ _⟩
  obtain ⟨FR,h1,h2⟩:=free _ hl
  cases hx2:xs.2 with
  | none=>
   rw [hx2] at h1
   exact ⟨(fun i hi=>by cases hi),FR,h1,h2⟩
  | some i'=>
   rw [hx2] at h1
   obtain ⟨hne,O1,h3,rfl⟩:=Cm h1
   exact ⟨(fun i hi=>by cases hi;exact hne),O1,h3,by rw [h2,EW]⟩
theorem Qc (hE:BS P E) (s:Bb w0 M0 N st a as w) (hd:∀ d,o.dst=some d->d < N) {op:BinOp} {t u:TypeId} {x:Operand} {v:Value} {d:Nat} (hop:o.op=.binOp op t x (.const v) u) (hdst:o.dst=some d) {α:Type} [DecidableEq α] {k:St->Option α} {r:α} {alt:Option α}
  (h:Wm E op t x v st (fun b=>k (Ch st (some d) (.val ⟨.bool,b⟩))) alt=some r) (ha:alt=some r->Pv P Q w0 M0 N o a as w k r):Pv P Q w0 M0 N o a as w k r:=by
 obtain ⟨M,β,τ,s⟩:=s
 have hx:=BR s.glob s.fr none x
 have he:execOp a.eval o=(do pure (Next.value (← (do eqGuard op t x (.const v) (a.eval x) v;binOp op t (a.eval x) v:Sem Value)))):=by simp only [execOp,hop];rfl
 have key:∀ {e:Ty} {xs:List e.den},FC v=true->Bf none x st.s=.val ⟨.slice e,xs⟩->Bd (lk t E.tab) (.slice e)=true->∃ ad len cap,a.eval x=.slice ad len cap/\v=.slice none 0 0/\(Op.equal t (.slice ad len cap) (.slice none 0 0)).run P w=.ok ad.isNone w/\(List.isEmpty xs=false->ad.isNone=false):=by
  intro e xs hn heq hc
  obtain rfl:=Oq hn
  obtain ⟨te,hu,_⟩:=(hE.tab _ _ (BQ hc)).slice
  rw [heq] at hx
  obtain ⟨u',e1,cs,e2,ad,cap,row,e3,g1,g2,g3,g4,g5⟩:=hx
  cases e1
  refine ⟨ad,_,cap,by rw [e2,e3];rfl,rfl,Fv hu ad _ _,fun hne=>?_⟩
  rcases g5 with g5 | ⟨b,o',rfl,_⟩
  ·have:xs=[]:=Aq g5
   rw [this] at hne
   simp at hne
  ·rfl
 have fin:∀ b:Bool,(do eqGuard op t x (.const v) (a.eval x) v;binOp op t (a.eval x) v:Sem Value).run P w=.ok (.bool b) w->k (Ch st (some d) (.val ⟨.bool,b⟩))=some r->Pv P Q w0 M0 N o a as w k r:=by
  intro b hr hk K hK
  exact F4 (BU he hr) ⟨M,β,τ,s.set (rv:=.val ⟨.bool,b⟩) o.dst hd ⟨_,rfl,Bu.CG⟩⟩ K fun a' w' hs=>hK _ a' w' hk (by rw [← hdst];exact hs)
 unfold Wm at h
 split at h
 ·rename_i e xs hn heq
  obtain ⟨hc,h⟩:=BL h
  obtain ⟨ad,len,cap,k1,rfl,k2,k3⟩:=key hn heq hc
  refine fin ad.isNone ?_ ?_
  ·rw [k1]
   have e1:binOp .eql t (.slice ad len cap) (.slice none 0 0)=(do pure (.bool (← Op.equal t (.slice ad len cap) (.slice none 0 0))):Sem Value):=rfl
   simp only [eqGuard,Sem.run_bind,e1]
   simp [k2]
  ·cases hxe:List.isEmpty xs with
   | false=>rw [hxe] at h;rw [k3 hxe];exact h
   | true=>
    rw [hxe] at h
    obtain ⟨h1,h2⟩:=IG h
    cases ad.isNone with
    | true=>exact h1
    | false=>exact h2
 ·rename_i e xs hn heq
  obtain ⟨hc,h⟩:=BL h
  obtain ⟨ad,len,cap,k1,rfl,k2,k3⟩:=key hn heq hc
  refine fin (!ad.isNone) ?_ ?_
  ·rw [k1]
   have e1:binOp .neq t (.slice ad len cap) (.slice none 0 0)=(do pure (.bool (!(← Op.equal t (.slice ad len cap) (.slice none 0 0)))):Sem Value):=rfl
   simp only [eqGuard,Sem.run_bind,e1]
   simp [k2]
  ·cases hxe:List.isEmpty xs with
   | false=>rw [hxe] at h;rw [k3 hxe];exact h
   | true=>
    rw [hxe] at h
    obtain ⟨h1,h2⟩:=IG h
    cases ad.isNone with
    | true=>exact h1
    | false=>exact h2
 ·exact ha h
theorem Qm (hE:BS P E) (s:Bb w0 M0 N st a as w) (hd:∀ d,o.dst=some d->d < N) {src dst:TypeId} {x:Operand} {d:Nat} (hop:o.op=.convert src dst x) (hdst:o.dst=some d) {α:Type} {k:St->Option α} {r:α} {alt:Option α}
  (h:UY E src dst (Bf (lk src E.tab) x st.s) st (fun id=>k (Ch st (some d) (.row id))) alt=some r) (ha:alt=some r->Pv P Q w0 M0 N o a as w k r):Pv P Q w0 M0 N o a as w k r:=by
 unfold UY at h
 split at h
 ·rename_i id hsd heq
  have hsd:=Aa hsd
  subst hsd
  split at h
  ·rename_i t xs hl
   obtain ⟨hc,hz⟩:=BL h
   simp only [AP] at hc
   have ht:=BQ hc.2.1
   cases ht
   have hlen:=Ak hc.2.2
   obtain ⟨M,β,τ,s⟩:=s
   have hx:=BR s.glob s.fr (lk src E.tab) x
   rw [heq] at hx
   obtain ⟨t',xs',hl',hu⟩:=Dq hx
   rw [hl] at hl'
   cases hl'
   obtain ⟨e,hu1,he⟩:=(hE.tab _ _ (BQ hc.1)).slice
   have VB:=(hE.tab _ _ he).int
   have KP:=s.ob id _ hl
   obtain ⟨⟨ad,cap,row,h0,h1,h2,h3,h4,h5⟩,h6⟩:=KP
   have hpos:0 < cap:=by omega
   obtain ⟨a0,rfl⟩:∃ a0,ad=some a0:=by
    cases ad with
    | none=>have:=h3 rfl;omega
    | some a0=>exact ⟨a0,rfl⟩
   obtain ⟨b,cur,T,rfl,g1,⟨fz,gz,g2⟩,g3,g4,g5⟩:=h5 a0 rfl hpos
   have hblk:blk β τ id (.row (.int .u8) xs)=some b:=by simp only [blk];rw [h0];simp [C8];omega
   have hval:a.eval x=.slice (some ⟨b,0,none⟩) (List.length xs) cap:=by rw [hu,h0]
   have hsh:w.shape? b=some (T,cur.size):=by unfold World.shape?;rw [g2]
   have hrun:(convert src src (.slice (some ⟨b,0,none⟩) (List.length xs) cap)).run P w=.ok (.slice (some ⟨b,0,none⟩) (List.length xs) cap) (w.freeze ⟨b,cur.size,none⟩ 1):=by
    simp [convert,run_underlying hu1,run_underlying VB,markStringish,hsh]
   have hblt:b < w.heap.size:=(Al.1 g2).1
   have hoth:∀ b',b'≠b->(w.freeze ⟨b,cur.size,none⟩ 1).heap[b']? = w.heap[b']?:=by
    intro b' hb'
    simp [World.freeze,Array.getElem?_modify,Ne.symm hb']
   have hnew:(w.freeze ⟨b,cur.size,none⟩ 1).heap[b]? = some (.cells cur T (if fz.1==fz.2 then (cur.size,cur.size+1) else (min fz.1 cur.size,max fz.2 (cur.size+1)))):=by
    obtain ⟨f1,f2⟩:=fz
    simp [World.freeze,Array.getElem?_modify,g2]
   have hbel:Below b w (w.freeze ⟨b,cur.size,none⟩ 1):=⟨rfl,rfl,rfl,by simp [World.freeze],fun k' hk=>hoth k' (by omega)⟩
   have FL:(execOp a.eval o).run P w=.ok (.value (.slice (some ⟨b,0,none⟩) (List.length xs) cap)) (w.freeze ⟨b,cur.size,none⟩ 1):=
    BU (sem:=convert src src (a.eval x)) (by simp only [execOp,hop]) (by rw [hval];exact hrun)
   have hext:Ext M w M (w.freeze ⟨b,cur.size,none⟩ 1):=by
    intro b' o m
    refine ⟨m,fun u hu=>?_⟩
    rw [World.cell?_of_block (w:=w) (hoth b' fun e=>by subst e;exact g5 o m)]
    exact hu
   have s2:=s.touch hl hblk hbel hoth (by
    refine ⟨⟨some ⟨b,0,none⟩,cap,row,h0,h1,h2,h3,h4.mono fun _ _ r=>r.ext hext,fun a0 ha hc=>?_⟩,h6⟩
    cases ha
    refine ⟨b,cur,T,rfl,g1,⟨_,?_,hnew⟩,g3,g4,g5⟩
    split
    ·exact .inr (Nat.le_refl _)
    ·rename_i hne
     refine .inr ?_
     rcases gz with gz | gz
     ·exact absurd (by simpa using gz) hne
     ·exact Nat.le_min.2 ⟨gz,Nat.le_refl _⟩)
   intro K hK
   unfold Oper.wp
   rw [FL]
   refine hK _ _ _ hz ⟨M,β,τ,?_⟩
   rw [hdst]
   refine s2.set (some d) (fun i hi=>by cases hi;exact hd d hdst) ?_
   rw [← hval]
   exact hx
  ·cases h
 ·exact ha h
end
end Go.Lift
