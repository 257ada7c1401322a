import Derived.Test.YtjcnhegjiffgpaaGreatDoorRiM
set_option linter.unusedSimpArgs false
namespace Go.Lift
open Go.RowKit
section
variable {P:Program} {E:CO} {Q:Exit->Act->World->Prop} {o:Oper} {w0:World} {M0:Bs} {N:Nat} {M M':Own} {β β':Nat->Nat} {τ τ':Nat->Value} {st st':St} {a:Act} {as:List Act} {w w':World} {id:Nat}
theorem enter_at {args:List Value} {m i:Nat} {u:Value} (h:args[i]? = some u):(FM args m).tmps[i]? = some u:=by
 have hlt:=(Aq.1 h).1
 simp only [FM]
 rw [Array.getElem?_append_left (by simpa using hlt)]
 simpa using h
theorem jD {L:List (Nat×Ob)}:∀ {Gl:List RV} {us:List Value} {i:Nat} {rv:RV},Ou M w β τ L Gl us->Gl[i]? = some rv->∃ u,us[i]? = some u/\RR M w β τ L rv .sl [u]
 | [],[],i,rv,_,h=>by simp at h
 | r::rs,u::us,0,rv,h,e=>by simp at e;subst e;exact ⟨u,rfl,h.1⟩
 | r::rs,u::us,i+1,rv,h,e=>by simpa using jD h.2 (by simpa using e)
 | [],_::_,_,_,h,_=>h.elim
 | _::_,[],_,_,h,_=>h.elim
theorem Zv {L:List (Nat×Ob)}:∀ {Gl:List RV} {us:List Value},Ou M w β τ L Gl us->Gl.length=us.length
 | [],[],_=>rfl
 | _::_,_::_,h=>by simp [Zv h.2]
 | [],_::_,h=>h.elim
 | _::_,[],h=>h.elim
theorem Zu {L:List (Nat×Ob)}:∀ {Gl QZo:List RV} {us us':List Value},Ou M w β τ L Gl us->Ou M w β τ L QZo us'->Ou M w β τ L (Gl++QZo) (us++us')
 | [],_,[],_,_,h=>h
 | _::_,_,_::_,_,h,h'=>⟨h.1,Zu h.2 h'⟩
 | [],_,_::_,_,h,_=>h.elim
 | _::_,_,[],_,h,_=>h.elim
theorem iL {L:List (Nat×Ob)}:∀ {r:RV} {Gl:List RV} {us:List Value},Yl r=some Gl->RR M w β τ L r .li us->Ou M w β τ L Gl us:=by
 intro r
 induction r with
 | unit=>
  intro Gl us h r
  cases h
  have:us=[]:=r
  subst this
  trivial
 | pair x y ihx ihy=>
  intro Gl us h r
  simp only [RR] at r
  obtain ⟨u,us',rfl,r1,r2⟩:=r
  simp only [Yl] at h
  obtain ⟨rs,h1,h⟩:=AO.1 h
  cases h
  exact ⟨r1,ihy h1 r2⟩
 | _=>intro Gl us h;cases h
theorem ZK (s:Sm w0 M0 N M β τ st a as w) {tab:List (TypeId×Ty)}:∀ {xs:List Operand} {ts:List TypeId},xs.length=ts.length->Ou M w β τ st.l ((xs.zip ts).map λp=>DT (lk p.2 tab) p.1 st.s) (xs.map a.eval)
 | [],[],_=>trivial
 | x::xs,t::ts,h=>⟨CG s.glob s.fr _ x,ZK s (by simpa using h)⟩
 | [],_::_,h=>by simp at h
 | _::_,[],h=>by simp at h
theorem RR.tau {L:List (Nat×Ob)} (h:∀ (id:Nat) (t:Ty) (xs:List t.den),lk id L=some (.row t xs)->τ' id=τ id):∀ {rv:RV} {m:Mo} {cs:List Value},RR M w β τ L rv m cs->RR M w β τ' L rv m cs:=by
 intro rv
 induction rv with
 | any=>intro m cs r;cases m <;> exact r
 | nil t=>intro m cs r;cases m <;> exact r
 | val v=>intro m cs r;cases m <;> exact r
 | row id=>intro m cs r;simp only [RR] at r ⊢;obtain ⟨h1,u,t,xs,e,ho,hl,hu⟩:=r;exact ⟨h1,u,t,xs,e,ho,hl,by rw [h id t xs hl];exact hu⟩
 | sub id lo hi=>intro m cs r;simp only [RR] at r ⊢;obtain ⟨h1,u,t,xs,e,ho,hl,h2,h3,hu⟩:=r;exact ⟨h1,u,t,xs,e,ho,hl,h2,h3,by rw [h id t xs hl];exact hu⟩
 | loc id p=>intro m cs r;simpa only [RR] using r
 | OH f c ih=>intro m cs r;simp only [RR] at r ⊢;obtain ⟨h1,us,e,r⟩:=r;exact ⟨h1,us,e,ih r⟩
 | unit=>intro m cs r;cases m <;> exact r
 | pair a b iha ihb=>
  intro m cs r
  cases m with
  | sl=>exact r
  | li=>simp only [RR] at r ⊢;obtain ⟨u,us,e,r1,r2⟩:=r;exact ⟨u,us,e,iha r1,ihb r2⟩
  | ce t=>simp only [RR] at r ⊢;obtain ⟨ta,tb,c1,c2,e1,e2,r1,r2⟩:=r;exact ⟨ta,tb,c1,c2,e1,e2,iha r1,ihb r2⟩
 | agg t r ih=>intro m cs r;simp only [RR] at r ⊢;obtain ⟨h1,h2,c,e,r⟩:=r;exact ⟨h1,h2,c,e,ih r⟩
 | Oj r ih=>intro m cs r;simp only [RR] at r ⊢;obtain ⟨h1,us,e,r⟩:=r;exact ⟨h1,us,e,ih r⟩
 | mp id=>intro m cs r;simpa only [RR] using r
 | yl id=>intro m cs r;simpa only [RR] using r
theorem YF:∀ {n:Nat} {bs:List Bt} {d:Wt bs} {j:Nat} {ob:Ob},lk j (Wq n bs d)=some ob->n<=j/\j < n+bs.length/\(Wq n bs d)[j - n]? = some (j,ob)/\∃ (b:Bt) (x:b.D),b∈bs/\ob=mkB b x
 | _,[],_,_,_,h=>by simp [Wq,lk] at h
 | n,b::bs,d,j,ob,h=>by
  simp only [Wq,Bl] at h
  split at h
  ·rename_i e
   subst e
   cases h
   exact ⟨Nat.le_refl _,by simp,by simp [Wq],b,d.1,by simp,rfl⟩
  ·obtain ⟨h1,h2,h3,b',x,h4,h5⟩:=YF h
   refine ⟨by omega,by simp;omega,?_,b',x,by simp [h4],h5⟩
   rw [show j - n=(j - (n+1))+1 by omega]
   simpa [Wq] using h3
theorem Uz:∀ {n:Nat} {bs:List Bt} {d:Wt bs} {j:Nat},n<=j->j < n+bs.length->∃ ob,lk j (Wq n bs d)=some ob
 | _,[],_,_,h1,h2=>by simp at h2;omega
 | n,b::bs,d,j,h1,h2=>by
  simp only [Wq,Bl]
  split
  ·exact ⟨_,rfl⟩
  ·exact Uz (by omega) (by simp at h2;omega)
theorem QA5:∀ {n:Nat} {bs:List Bt} {d:Wt bs} {j:Nat} {t:Ty} {xs:List t.den},YW bs d=true->lk j (Wq n bs d)=some (.row t xs)->1<=xs.length
 | _,[],_,_,_,_,_,h=>by simp [Wq,lk] at h
 | n,b::bs,d,j,t,xs,hr,h=>by
  simp only [Wq,Bl] at h
  split at h
  ·cases b with
   | row t'=>
    cases h
    simp only [YW,AP] at hr
    exact Ak hr.1
   | _=>cases h
  ·cases b with
   | row t'=>simp only [YW,AP] at hr;exact QA5 hr.2 h
   | _=>exact QA5 (bs:=bs) (d:=d.2) hr h
theorem QCZ {b0:Nat->Prop} {t:Ty} {xs:List t.den} {v:Value} (h:LW b0 M w t xs v) (hn:1<=xs.length):∃ b,LV v=some b:=by
 obtain ⟨a,cap,row,rfl,h1,h2,h3,_⟩:=h
 cases a with
 | none=>have:=h3 rfl;omega
 | some a=>exact ⟨a.block,by simp [LV];omega⟩
theorem QCY {b0 b0':Nat->Prop} {t:Ty} {xs:List t.den} {v:Value} (h:LW b0 M w t xs v) (hb:∀ b,LV v=some b->b0' b):LW b0' M w t xs v:=by
 obtain ⟨a,cap,row,rfl,h1,h2,h3,h4,h5⟩:=h
 refine ⟨a,cap,row,rfl,h1,h2,h3,h4,λa0 ha hc=>?_⟩
 obtain ⟨b,cur,T,e,_,g⟩:=h5 a0 ha hc
 exact ⟨b,cur,T,e,hb b (by rw [ha,e];simp [LV];omega),g⟩
theorem QLl {b0 b0':Nat->Prop} {M':Own} {w':World} {t t':Ty} {xs:List t.den} {ys:List t'.den} {v:Value} (h:LW b0 M w t xs v) (h':LW b0' M' w' t' ys v):xs.length=ys.length:=by
 obtain ⟨a,cap,row,e,_⟩:=h
 obtain ⟨a',cap',row',e',_⟩:=h'
 rw [e] at e'
 simp only [Value.slice.injEq] at e'
 exact e'.2.1
theorem QC9 {b:Bt} {x:b.D} {c:RV} {q:LQ}:mkB b x≠.lp c q:=by cases b <;> intro h <;> cases h
theorem QHD {b:Bt} {x:b.D} {t:Ty} {con:RV} (hb:tK b=true) (h:mkB b x=.var t con):QM con=true:=by
 cases b with
 | var t' p=>
  cases h
  cases p with
  | hole t=>rfl
  | fix r=>exact hb
  | ag _ _=>simp [tK] at hb
  | pr _ _=>simp [tK] at hb
 | mp=>cases h
 | row=>cases h
theorem yJ:∀ {n:Nat} {bs:List Bt} {d:Wt bs} {w:Nat} {z:wD bs w} {ob:Ob},lk (n+w) (Wq n bs d)=some ob->(∀ t xs xs',jS bs w z=.row t xs->ob=.row t xs'->List.length xs=List.length xs')->(jS bs w z).shape=ob.shape
 | _,[],_,_,z,_,_,_=>nomatch z
 | n,b::bs,d,0,z,ob,h,hl=>by
  simp [Wq,Bl] at h
  subst h
  cases b with
  | row t=>
   have:=hl t z d.1 rfl rfl
   simp only [jS,mkB,Ob.shape,this]
  | _=>rfl
 | n,b::bs,d,w+1,z,ob,h,hl=>by
  simp only [Wq,Bl] at h
  rw [AX (by omega),show n+(w+1)=(n+1)+w by omega] at h
  exact yJ (w:=w) (z:=z) h hl
theorem QEd:∀ {bs:List Bt} {w:Nat} (_:wD bs w),w < bs.length
 | [],_,z=>nomatch z
 | _::_,0,_=>by simp
 | _::bs,w+1,z=>by have:=QEd (bs:=bs) (w:=w) z;simp;omega
theorem QME {b0 b0':Nat->Prop} {L L':List (Nat×Ob)} {id':Nat}:∀ {bs:List Bt} {n:Nat} {z:wD bs n},dw bs n=true->MX b0 M w β τ L id (jS bs n z)->β' id'=β id->b0' (β' id')->(∀ t xs,jS bs n z=.row t xs->τ' id'=τ id)->MX b0' M w β' τ' L' id' (jS bs n z)
 | [],_,z,_,_,_,_,_=>nomatch z
 | b::_,0,z,hf,h,he,hb,ht=>by
  simp only [jS] at h ⊢
  cases b with
  | var t p=>
   cases p with
   | hole t'=>
    obtain ⟨_,⟨cs,T,h1,h2⟩,h3⟩:=h
    exact ⟨hb,⟨cs,T,by rw [he];exact h1,h2⟩,by rw [he];exact h3⟩
   | fix r=>simp [dw,QFX] at hf
   | ag _ _=>simp [dw,QFX] at hf
   | pr _ _=>simp [dw,QFX] at hf
  | mp kt vt=>
   obtain ⟨_,⟨arr,clock,h1,h2⟩,h3⟩:=h
   exact ⟨hb,⟨arr,clock,by rw [he];exact h1,h2⟩,by rw [he];exact h3⟩
  | row t=>
   obtain ⟨h1,h2⟩:=h
   have ht:=ht t z rfl
   exact ⟨by rw [ht];exact QCY h1 λb hb'=>by rw [h2 b hb',<- he];exact hb,λb hb'=>by rw [he];exact h2 b (by rw [<- ht];exact hb')⟩
 | _::bs,n+1,z,hf,h,he,hb,ht=>QME (bs:=bs) (n:=n) (z:=z) hf h he hb ht
theorem QA2 {α γ:Type} (g:Nat->α->γ) (i:Nat):∀ (s:List (Nat×α)),lk i (s.map λp=>(p.1,g p.1 p.2))=(lk i s).map (g i)
 | []=>rfl
 | p::s=>by
  simp only [List.map_cons,Bl]
  split
  ·rename_i e
   subst e
   rw [Bl,AY rfl]
   rfl
  ·rename_i e
   rw [Bl,AX e]
   exact QA2 g i s
def QPD (β:Nat->Nat) (τ:Nat->Value) (p:Nat×Ob):Value:=match p.2 with
 | .row _ _=>τ p.1
 | .mp _ _ _=>.map (some (β p.1))
 | _=>.pointer (some ⟨β p.1,0,none⟩)
def QZx (β:Nat->Nat) (τ:Nat->Value) (l:List (Nat×Ob)):Act:={ tmps:=(l.map (QPD β τ)).toArray,defers:=[] }
theorem QCE {t:Ty} {con:RV}:SV (Ob.var t con).shape []=some (0,t):=by
 simp only [Ob.shape,SV]
 cases t <;> rfl
def yY (M0:Bs) (M:Own) (w:World) (β:Nat->Nat) (n:Nat):Bs:={ M:=M0.M,M1:=M,w1:=w,kp:=λb=>b < w.heap.size/\∀ j,j < n->b≠β j }
theorem QM1 (s:Sm w0 M0 N M β τ st a as w) {c:UO} {x:dW c.fp} {y:Wt c.bp} {us:List Value} {m:Nat} (hl:st.l=Wq 0 c.bp y) (hr:Ou M w β τ st.l (nL c.fp x) us) (hm:us.length<=m) :
  Sm w0 (yY M0 M w β c.bp.length) m M β τ (fM c x y) (FM us m) [QZx β τ (Wq 0 c.bp y)] w where
 df:=KC λ_ h=>h.elim
 sz:=by simp [FM];omega
 J6:=s.J6
 mlt:=s.mlt
 Yn:=s.Yn
 gk:=s.gk
 gx:=Ext.refl M w
 kp:=λb h=>⟨⟨rfl,h.1⟩,λ_ m=>m⟩
 Fu:=s.Fu
 fr:=λi rv h=>by
  obtain ⟨_,h1⟩:=aA 0 (nL c.fp x) rv h
  obtain ⟨u,hu,r⟩:=jD hr (by simpa using h1)
  exact ⟨u,enter_at (by simpa using hu),by simp only [fM];rw [<- hl];exact r⟩
 fs:=by
  refine ⟨λi rv h=>?_,trivial⟩
  simp only [QPC] at h
  rw [QA2] at h
  cases hi:lk i (Wq 0 c.bp y) with
  | none=>rw [hi] at h;cases h
  | some ob=>
   rw [hi] at h
   cases h
   obtain ⟨_,_,h3,b,d,_,rfl⟩:=YF hi
   refine ⟨QPD β τ (i,mkB b d),by simpa [QZx] using congrArg (Option.map (QPD β τ)) h3,?_⟩
   simp only [fM]
   cases b with
   | var t p=>exact sO hi QCE
   | mp kt vt=>simp only [xE,mkB,RR];exact ⟨rfl,_,kt,vt,d,rfl,rfl,hi,rfl⟩
   | row t=>
    simp only [xE,mkB,RR]
    obtain ⟨⟨a,cap,row,e,_⟩,_⟩:=s.ob i _ (by rw [hl];exact hi)
    exact ⟨rfl,_,t,d,rfl,by simp only [QPD,e];rfl,hi,rfl⟩
 ob:=λid ob h=>by
  simp only [fM] at h ⊢
  have nH:=s.ob id ob (by rw [hl];exact h)
  obtain ⟨_,h2,_,b,d,_,rfl⟩:=YF h
  have hn:∀ b,ownB w0 M0 b->b=β id->ownB w0 (yY M0 M w β c.bp.length) b:=λb h1 h3=>⟨h1.1,λh4=>h4.2 id (by simpa using h2) h3⟩
  cases b with
  | var t p=>
   obtain ⟨h4,h5,h6⟩:=nH
   exact ⟨hn _ h4 rfl,by rw [hl] at h5;exact h5,h6⟩
  | mp kt vt=>
   obtain ⟨h4,h5,h6⟩:=nH
   exact ⟨hn _ h4 rfl,h5,h6⟩
  | row t=>
   obtain ⟨h4,h5⟩:=nH
   refine ⟨?_,h5⟩
   obtain ⟨a,cap,row,e,g1,g2,g3,g4,g6⟩:=h4
   refine ⟨a,cap,row,e,g1,g2,g3,g4,λa0 ha hc=>?_⟩
   obtain ⟨b,cur,T,e',k1,k2⟩:=g6 a0 ha hc
   exact ⟨b,cur,T,e',hn b k1 (h5 b (by rw [e,ha,e'];simp [LV];omega)),k2⟩
 dj:=λi j ob Ij b h1 h2=>s.dj i j ob Ij b (by rw [hl];exact h1) (by rw [hl];exact h2)
theorem QCS {f:Nat->Option Nat} {L L':List (Nat×Ob)} (h:Gq f L β τ L' β' τ'):∀ {Gl:List RV} {us:List Value},Ou M w β τ L Gl us->Ou M w β' τ' L' (Gl.map (Ce f)) us
 | [],[],_=>trivial
 | _::_,_::_,r=>⟨RR.map h r.1,QCS h r.2⟩
 | [],_::_,r=>r.elim
 | _::_,[],r=>r.elim
theorem tF:∀ {ps:List Pt} {x:dW ps},(nL ps x).length=ps.length
 | [],_=>rfl
 | _::ps,x=>by simp [nL,tF (ps:=ps)]
theorem QCt {b0:Nat} {L:List (Nat×Ob)}:∀ {rs:List Ty} {r:Bv rs} {us:List Value},Oq b0 M w rs [] r us->Ou M w β τ L (QGC rs r) us
 | [],_,us,h=>by
  simp only [Oq] at h
  subst h
  trivial
 | [t],r,us,h=>by
  obtain ⟨u,rfl,h⟩:=h
  exact ⟨⟨u,rfl,Qg h rfl⟩,trivial⟩
 | t::t'::ts,r,us,h=>by
  obtain ⟨u,us',rfl,h1,h2⟩:=h
  exact ⟨⟨u,rfl,Qg h1 rfl⟩,QCt (rs:=t'::ts) h2⟩
theorem QLc {c:UO} {args:Array Operand} {ts:Array TypeId} {caps:RV} {α:Type} {k:Nat->Ob->RV->Option α} {q:α} (h:nQ E c args ts caps st k=some q) :
  args.size=ts.size/\QLb c=true/\∃ cs x y z r id,Yl caps=some cs/\
   QBC c.fp ((((args.toList.zip ts.toList).map λp=>DT (lk p.2 E.tab) p.1 st.s)++cs).map (Ce λid=>Q9 id (XF st.l (((args.toList.zip ts.toList).map λp=>DT (lk p.2 E.tab) p.1 st.s)++cs)) 0))=some x/\
   abL 0 c.bp (VQ (λid=>Q9 id (XF st.l (((args.toList.zip ts.toList).map λp=>DT (lk p.2 E.tab) p.1 st.s)++cs)) 0) st.l (XF st.l (((args.toList.zip ts.toList).map λp=>DT (lk p.2 E.tab) p.1 st.s)++cs)) 0)=some y/\YW c.bp y=true/\
   c.F x y=some (z,r)/\(XF st.l (((args.toList.zip ts.toList).map λp=>DT (lk p.2 E.tab) p.1 st.s)++cs))[c.w]? = some id/\k id (jS c.bp c.w z) (Zw (QGC c.rs r))=some q:=by
 unfold nQ at h
 obtain ⟨h1,h⟩:=BU h
 simp only [AP] at h1
 obtain ⟨cs,h2,h⟩:=AO.1 h
 unfold QOv at h
 obtain ⟨x,h3,h⟩:=AO.1 h
 obtain ⟨y,h4,h⟩:=AO.1 h
 obtain ⟨hne,h⟩:=BU h
 obtain ⟨⟨z,r⟩,h5,h⟩:=AO.1 h
 obtain ⟨id,h6,h⟩:=AO.1 h
 rw [QFl] at h6
 exact ⟨Aa h1.1,h1.2,cs,x,y,z,r,id,h2,h3,h4,hne,h5,h6,h⟩
theorem QAJ {c:UO} {args:Array Operand} {ts:Array TypeId} {caps:RV}:PC (λβ (k:Nat×Ob×RV->Option β)=>nQ E c args ts caps st λid ob rv=>k (id,ob,rv)):=by
 unfold nQ QOv
 exact PC.bif (PC.bind λcs=>PC.bind (X:=Nat×Ob×RV) λx=>PC.bind (X:=Nat×Ob×RV) λy=>PC.bif (PC.bind λr=>PC.bind λid=>PC.ret _) PC.none) PC.none
theorem lF (hE:CJ P E) (s:Sm w0 M0 N M β τ st a as w) {f:Operand} {args:Array Operand} {ts:Array TypeId} {g:FuncId} {caps:RV} {c:UO} (hop:o.op=.call { callee:=.value f,args:=args,argTypes:=ts })
  (hf:DT none f st.s=.OH g caps) (hc:lk g E.rcs=some c) {id:Nat} {ob:Ob} {rv:RV} (h:nQ E c args ts caps st (λid ob rv=>some (id,ob,rv))=some (id,ob,rv)) (K:Act->World->Prop)
  (hK:∀ M' v w',Sm w0 M0 N M' β τ (Dv id ob st) a as w'->RR M' w' β τ (Dv id ob st).l rv .sl [v]->K (a.put o.dst v) w'):(lk id st.l).isSome=true/\o.wp P a w K Q:=by
 obtain ⟨hsz,hB,cs,x,y,z,r,id',hcs,hx,hy,hne,hF,hid,e⟩:=QLc h
 simp only [Ac,Prod.mk.injEq] at e
 obtain ⟨e1,rfl,rfl⟩:=e
 subst e1
 generalize hrv:((args.toList.zip ts.toList).map λp=>DT (lk p.2 E.tab) p.1 st.s)++cs=Gl at hx hy hid
 generalize QZF:XF st.l Gl=ids at hx hy hid
 have rW:=CG s.glob s.fr none f
 rw [hf] at rW
 simp only [RR] at rW
 obtain ⟨_,us,e,hcap⟩:=rW
 simp only [List.cons.injEq,and_true] at e
 have hrel:Ou M w β τ st.l Gl (args.toList.map a.eval++us):=by
  rw [<- hrv]
  exact Zu (ZK s (by simpa using hsz)) (iL hcs hcap)
 have s1:=s.ren ids
 have hL:(dR ids st).l=Wq 0 c.bp y:=QKP hy
 have hm:Gq (λid=>Q9 id ids 0) st.l β τ (dR ids st).l (λj=>β ((ids[j]?).getD 0)) (λj=>τ ((ids[j]?).getD 0)):=by
  intro i j ob hf hl
  obtain ⟨_,h⟩:=bC hf
  simp only [Nat.sub_zero] at h
  exact ⟨_,uG ids 0 j i ob (Nat.zero_le _) (by simpa using h) hf hl,R7 _ _,by simp [h],by simp [h]⟩
 have wZ:=QCS hm hrel
 rw [yQ hx] at wZ
 have hrec:=hE.rcs g c hc
 have hrun:(execOp a.eval o).run P w=.ok (.enter g (args.toList.map a.eval++us).toArray) w:=by
  simp only [execOp,hop,resolve,e,Deferred.ofValue,Sem.run_bind,Sem.run_pure,Result.andThen_ok,invoke]
  rw [show (#[]++Array.map a.eval args++us.toArray)=(args.toList.map a.eval++us).toArray by simp [<- Array.toList_map]]
  exact hrec.enters _ w
 have hw:=QEd z
 have named:∀ j Ij,lk j (Wq 0 c.bp y)=some Ij->∃ i XL,ids[j]? = some i/\Q9 i ids 0=some j/\lk i st.l=some XL/\Ij=Ei (λid=>Q9 id ids 0) XL:=by
  intro j Ij h
  rw [<- hL] at h
  obtain ⟨_,i,XL,h1,h2⟩:=QAK ids 0 j Ij h
  exact ⟨i,XL,by simpa using h1,h2⟩
 obtain ⟨obw,QGw⟩:=Uz (n:=0) (d:=y) (Nat.zero_le c.w) (by simpa using hw)
 obtain ⟨iw,XL,g1,g2,g3,g4⟩:=named c.w obw QGw
 obtain rfl:iw=id':=Au (g1.symm.trans hid)
 refine ⟨by rw [g3];rfl,?_⟩
 unfold Oper.wp
 rw [hrun,Oper.upon_enter]
 refine (hrec.calls w0 _ M _ _ _ w _ x y z r hne ((Zv wZ).symm.trans tF) (λm hm=>QM1 s1 hL wZ hm) hF).mono ?_
 rintro e w' ⟨us',M',β2,τ2,N',a',rfl,s2,⟨hβ,hτ⟩,hres⟩
 have hL2:∀ j,lk j (VJ c.w (jS c.bp c.w z) (Wq 0 c.bp y))=if j=c.w then some (jS c.bp c.w z) else lk j (Wq 0 c.bp y):=λj=>by
  rw [M6,QGw]
  rfl
 have hLt:∀ j Ij,lk j (VJ c.w (jS c.bp c.w z) (Wq 0 c.bp y))=some Ij->j < c.bp.length:=by
  intro j Ij h
  rw [hL2] at h
  split at h
  ·rename_i e;rw [e];exact hw
  ·simpa using (YF h).2.1
 have QKy:(jS c.bp c.w z).shape=obw.shape:=yJ (n:=0) (d:=y) (by rw [Nat.zero_add];exact QGw) λt xs xs' e1 e2=>by
  have k1:=(s2.ob c.w (.row t xs) (by rw [hL2,AY rfl,e1])).1
  have k2:=(s1.ob c.w (.row t xs') (by rw [hL,QGw,e2])).1
  rw [hτ c.w t xs' (by rw [QGw,e2])] at k1
  exact QLl k1 k2
 have QTo:(jS c.bp c.w z).shape=XL.shape:=by
  rw [QKy,g4,R7]
 have hblk:∀ i o' j,lk i st.l=some o'->ids[j]? = some i->lk j (Wq 0 c.bp y)=some (Ei (λid=>Q9 id ids 0) o')->blk β τ i o'=some (β i):=by
  intro i o' j hl hi h1
  cases o' with
  | var t c=>rfl
  | mp kt vt es=>rfl
  | lp c q=>rfl
  | row t xs=>
   obtain ⟨k1,k2⟩:=s.ob i _ hl
   obtain ⟨b,hb⟩:=QCZ k1 (QA5 hne h1)
   simp only [blk]
   rw [hb,k2 b hb]
 have Qcx:∀ (i:Nat) (Ij:Ob) (b:Nat),lk i st.l=some Ij->blk β τ i Ij=some b->(∀ j,j < c.bp.length->ids[j]?≠some i)->(yY M0 M w (λj=>β ((ids[j]?).getD 0)) c.bp.length).kp b:=by
  intro i Ij b hl hb hn
  refine ⟨(s.block hl hb).1,λj hj hbj=>?_⟩
  obtain ⟨ob1,h1⟩:=Uz (n:=0) (d:=y) (Nat.zero_le j) (by simpa using hj)
  obtain ⟨i2,ob2,k1,k2,k3,k4⟩:=named j ob1 h1
  obtain ⟨_,_,_,b',x',_,h5⟩:=YF h1
  have hb2:blk β τ i2 ob2=some b:=by
   rw [hbj]
   simp only [k1,BH]
   exact hblk i2 ob2 j k3 k1 (by rw [h1,k4])
  have:=s.dj i i2 Ij ob2 b hl k3 hb hb2
  subst this
  exact hn j hj k1
 have QZH:∀ b,(yY M0 M w (λj=>β ((ids[j]?).getD 0)) c.bp.length).kp b->w'.heap[b]? = w.heap[b]?/\∀ o,M' b o->M b o:=λb h=>⟨(s2.kp b h).1.1,(s2.kp b h).2⟩
 have QGu:∀ j,lk j (Dv iw (jS c.bp c.w z) st).l=if j=iw then some (jS c.bp c.w z) else lk j st.l:=λj=>by
  simp only [Dv]
  rw [M6,g3]
  rfl
 have hm2:Gq some st.l β τ (Dv iw (jS c.bp c.w z) st).l β τ:=by
  intro i j o' hf' hi
  cases hf'
  by_cases h:i=iw
  ·subst h
   obtain rfl:=Au (hi.symm.trans g3)
   exact ⟨_,by rw [QGu,AY rfl],QTo,rfl,rfl⟩
  ·exact ⟨o',by rw [QGu,AX h];exact hi,rfl,rfl,rfl⟩
 have hback:Gq (λj=>ids[j]?) (VJ c.w (jS c.bp c.w z) (Wq 0 c.bp y)) β2 (λj=>τ ((ids[j]?).getD 0)) (Dv iw (jS c.bp c.w z) st).l β τ:=by
  intro j i Ij hf' hl'
  have hf':ids[j]? = some i:=hf'
  have hj:=hLt j Ij hl'
  rw [hL2] at hl'
  by_cases hjw:j=c.w
  ·rw [AY hjw] at hl'
   cases hl'
   have:i=iw:=by rw [hjw] at hf';exact Au (hf'.symm.trans g1)
   subst this
   exact ⟨_,by rw [QGu,AY rfl],rfl,by rw [hβ j hj];simp [hf'],by simp [hf']⟩
  ·rw [AX hjw] at hl'
   obtain ⟨i',o0,k1,k2,k3,k4⟩:=named j Ij hl'
   obtain rfl:=Au (hf'.symm.trans k1)
   have hne:i≠iw:=λe=>by
    subst e
    exact hjw (Au (k2.symm.trans g2))
   exact ⟨o0,by rw [QGu,AX hne];exact k3,by rw [k4,R7],by rw [hβ j hj];simp [hf'],by simp [hf']⟩
 have QTp:∀ (j:Nat) (t:Ty) (xs:List t.den),lk j (VJ c.w (jS c.bp c.w z) (Wq 0 c.bp y))=some (.row t xs)->τ ((ids[j]?).getD 0)=τ2 j:=by
  intro j t xs h
  rw [hL2] at h
  split at h
  ·rename_i e
   subst e
   rw [Au h] at QKy
   obtain ⟨ys,e,_⟩:=bV QKy.symm
   exact (hτ c.w t ys (by rw [QGw,e])).symm
  ·exact (hτ j t xs h).symm
 have hbk:∀ i o' j,lk i st.l=some o'->j < c.bp.length->ids[j]? = some i->blk β τ i o'=some (β i)/\lk j (Wq 0 c.bp y)=some (Ei (λid=>Q9 id ids 0) o')/\∀ t con,o'=.var t con->QM (Ce (λid=>Q9 id ids 0) con)=true:=by
  intro i o' j hl hj hi
  obtain ⟨ob1,h1⟩:=Uz (n:=0) (d:=y) (Nat.zero_le j) (by simpa using hj)
  obtain ⟨i2,ob2,k1,k2,k3,k4⟩:=named j ob1 h1
  obtain rfl:=Au (hi.symm.trans k1)
  obtain rfl:=Au (hl.symm.trans k3)
  obtain ⟨_,_,_,b',x',hb',h5⟩:=YF h1
  rw [k4] at h5
  refine ⟨?_,by rw [h1,k4],?_⟩
  ·exact hblk i o' j hl hi (by rw [h1,k4])
  ·rintro t con rfl
   have hall:c.bp.all tK=true:=by
    simp only [QLb,AP] at hB
    exact hB.1
   exact QHD (List.all_eq_true.1 hall b' hb') h5.symm
 obtain ⟨hbw,_,_⟩:=hbk iw XL c.w g3 hw g1
 have QKx:dw c.bp c.w=true:=by
  simp only [QLb,AP] at hB
  exact hB.2
 refine hK M' _ w' (s.gen (f:=some) s2.gx s2.J6 s2.mlt s2.Fu (λb hb=>QZH b ⟨(s.kp b hb).1.2,λj hj e=>?_⟩) hm2 (IZ _).symm (Ju _).symm ?_ ?_) (jE (QCt hres))
 ·obtain ⟨ob1,h1⟩:=Uz (n:=0) (d:=y) (Nat.zero_le j) (by simpa using hj)
  obtain ⟨i2,ob2,k1,k2,k3,k4⟩:=named j ob1 h1
  obtain ⟨h2,_,_⟩:=hbk i2 ob2 j k3 hj k1
  have h3:=(s.block k3 h2).2.1
  simp only [k1,BH] at e
  rw [<- e] at h3
  exact h3.2 hb
 ·intro i o' h
  rw [QGu] at h
  by_cases hi:i=iw
  ·rw [AY hi] at h
   cases h
   subst hi
   have h1:=s2.ob c.w _ (by rw [hL2,AY rfl])
   refine QME QKx h1 ?_ (s.block g3 hbw).2.1 λt xs e=>?_
   ·rw [hβ c.w hw]
    simp [g1]
   ·have:=QTp c.w t xs (by rw [hL2,AY rfl,e])
    rw [<- this]
    simp [g1]
  ·rw [AX hi] at h
   by_cases hn:∃ j,j < c.bp.length/\ids[j]? = some i
   ·obtain ⟨j,hj,hji⟩:=hn
    obtain ⟨k1,k2,k3⟩:=hbk i o' j h hj hji
    have hjw:j≠c.w:=λe=>by
     subst e
     exact hi (Au (hji.symm.trans g1))
    have h1:=s2.ob j _ (by rw [hL2,AX hjw];exact k2)
    have QaL:β2 j=β i:=by rw [hβ j hj];simp [hji]
    have hown:=(s.block h k1).2.1
    cases o' with
    | row t xs=>
     obtain ⟨h3,h4⟩:=h1
     have h6:τ i=τ2 j:=by
      rw [<- QTp j t xs (by rw [hL2,AX hjw];exact k2)]
      simp [hji]
     exact ⟨by rw [h6];exact QCY h3 λb hb=>by rw [h4 b hb,QaL];exact hown,λb hb=>by rw [<- QaL];exact h4 b (by rw [<- h6];exact hb)⟩
    | mp kt vt es=>
     obtain ⟨_,h3,h4⟩:=h1
     rw [QaL] at h3 h4
     exact ⟨hown,h3,h4⟩
    | lp c q=>
     obtain ⟨_,_,_,b',x',_,h5⟩:=YF k2
     exact absurd h5.symm QC9
    | var t con=>
     obtain ⟨_,⟨cs,T,h2,h3⟩,h4⟩:=h1
     rw [QaL] at h2 h4
     refine ⟨hown,⟨cs,T,h2,?_⟩,h4⟩
     have h5:=RR.map hback (RR.tau (τ':=λj=>τ ((ids[j]?).getD 0)) (λi t xs hr=>QTp i t xs hr) h3)
     rwa [QH9 (λi j hij=>by
      obtain ⟨_,h⟩:=bC hij
      simpa using h) con (k3 t con rfl)] at h5
   ·have:=MX.map (f:=some) s2.gx hm2 rfl h (s.ob i o' h) λb hb=>QZH b (Qcx i o' b h hb λj hj hji=>hn ⟨j,hj,hji⟩)
    rwa [Gi] at this
 ·intro j j' o1 o1' b2 h h' hb1 hb2
  rw [QGu] at h h'
  have iF:∀ {j o},(if j=iw then some (jS c.bp c.w z) else lk j st.l)=some o->blk β τ j o=some b2->∃ o0,lk j st.l=some o0/\blk β τ j o0=some b2:=by
   intro j o hh hb2
   by_cases hj:j=iw
   ·rw [AY hj] at hh
    subst hj
    obtain rfl:=Au hh
    refine ⟨_,g3,?_⟩
    rw [hbw,<- hb2]
    cases hz:jS c.bp c.w z with
    | var t con=>rfl
    | row t xs=>
     rw [hz] at QTo
     obtain ⟨ys,e,_⟩:=bV QTo.symm
     rw [e] at hbw
     exact hbw.symm
    | mp kt vt es=>rfl
    | lp c q=>rfl
   ·rw [AX hj] at hh
    exact ⟨o,hh,hb2⟩
  obtain ⟨o0,k1,k2⟩:=iF h hb1
  obtain ⟨o0',k1',k2'⟩:=iF h' hb2
  exact s.dj j j' o0 o0' b2 k1 k1' k2 k2'
theorem Sm.QZT (s:Sm w0 M0 N M β τ st a as w) {d:Nat} {XL:Ob} (hl:lk d st.l=some XL):Sm w0 M0 N (Xf M β τ [(d,XL)]) β τ (OX d st) a as w:=by
 have inv:∀ {b o},Xf M β τ [(d,XL)] b o->M b o\/blk β τ d XL=some b:=by
  rintro b o (m | ⟨j,ob,h1,h2⟩)
  ·exact .inl m
  ·rw [Bl] at h1
   split at h1
   ·rename_i e
    subst e
    cases h1
    exact .inr h2
   ·simp [lk] at h1
 have hext:Ext M w (Xf M β τ [(d,XL)]) w:=aO
 refine s.gen (f:=R5 d) hext s.J6 (λb o m=>(inv m).elim (s.mlt b o) λh=>(s.block hl h).1) (λb o m=>(inv m).elim (s.Fu b o) λh=>.inr (s.block hl h).2.1.1) (λb hk=>⟨rfl,λo m=>(inv m).elim (λh=>h) λh=>((s.block hl h).2.1.2 hk).elim⟩) (Zb d) rfl rfl ?_ ?_
 ·intro id ob h
  obtain ⟨hne,o,h1,rfl⟩:=JW h
  exact MX.map hext (Zb d) (sG hne) h1 (s.ob id o h1) λb hb=>⟨rfl,λo' m=>(inv m).elim (λh=>h) λh=>(hne (s.dj id d o XL b h1 hl hb h)).elim⟩
 ·intro id id' ob Ij b h h' hb hb'
  obtain ⟨_,o,h1,rfl⟩:=JW h
  obtain ⟨_,o',h1',rfl⟩:=JW h'
  rw [TU] at hb hb'
  exact s.dj id id' o o' b h1 h1' hb hb'
theorem xQ (s:Sm w0 M0 N M β τ st a as w) {d:Nat} {u:Ty} {xs:List u.den} (hl:lk d st.l=some (.row u xs)) {t:Ty}:∀ {i:Nat} {ps:List (Nat×Operand)} {ys:List t.den},Zp d u xs t st.s i ps=some ys->
  ∃ vs:List Value,ps.map (λp=>(p.1,a.eval p.2))=(vs.zipIdx i).map (λx=>(x.2,x.1))/\vs.length=ys.length/\(∀ v∈vs,v.cells.size=t.n)/\Seq (EA (Xf M β τ [(d,.row u xs)]) w t) (vs.flatMap λv=>v.cells.toList) ys
 | i,[],ys,h=>by simp [Zp] at h;subst h;exact ⟨[],by simp [Seq]⟩
 | i,(j,x)::r,ys,h=>by
  unfold Zp at h
  obtain ⟨hc,h0⟩:=BU h
  clear h
  have hij:=Aa hc
  subst hij
  have hx:=CG s.glob s.fr (some t) x
  obtain ⟨v,hv0,h0⟩:=AO.1 h0
  obtain ⟨y,hy,h1⟩:=AO.1 h0
  obtain ⟨ys',hys,h2⟩:=AO.1 h1
  cases h2
  obtain rfl:=TV.FE hy
  obtain ⟨vs,e1,e2,e3,e4⟩:=xQ s hl hys
  have hm:Gq (QLQ d) st.l β τ [(d,.row u xs)] β τ:=by
   intro i j ob hf hi
   unfold QLQ at hf
   cases hb:Nat.beq i d with
   | false=>rw [hb] at hf;cases hf
   | true=>
    rw [hb] at hf
    have:=Aa hb
    subst this
    cases hf
    obtain rfl:=Au (hi.symm.trans hl)
    exact ⟨_,by simp [Bl],rfl,rfl,rfl⟩
  have nH:∀ id ob,lk id [(d,Ob.row u xs)]=some ob->MX (ownB w0 M0) M w β τ [(d,.row u xs)] id ob:=by
   intro id ob h
   rw [Bl] at h
   split at h
   ·rename_i e
    subst e
    cases h
    exact s.ob id _ hl
   ·simp [lk] at h
  obtain ⟨cs,hv,hr⟩:=Qh nH 6 hv0 (RR.map hm hx)
  have hcells:(a.eval x).cells=cs.toArray:=by rw [hv];exact toV_cells hr
  refine ⟨a.eval x::vs,by simp [e1,List.zipIdx_cons],by simp [e2],?_,?_⟩
  ·intro v hv'
   rcases List.mem_cons.1 hv' with rfl | hv'
   ·rw [hcells];simpa using hr.length
   ·exact e3 v hv'
  ·simp only [List.flatMap_cons]
   exact ⟨_,_,rfl,by rw [hcells];exact hr,e4⟩
theorem wB {t:TypeId} {n:Nat} {parts:List (Nat×Operand)}:PC (λβ (k:((e:Ty)×List e.den)->Option β)=>Xl E t n parts id st λe z=>k ⟨e,z⟩):=by
 unfold Xl
 split
 ·refine PC.bind (X:=(e:Ty)×List e.den) λty=>?_
  split
  ·exact PC.bind λys=>PC.bif (PC.ret _) PC.none
  ·exact PC.none
 ·exact PC.none
theorem yZ (hE:CJ P E) (s:Sm w0 M0 N M β τ st a as w) (hd:∀ d,o.dst=some d->d < N) (hid:lk id st.l=none) {T:TypeId} {n:Nat} {parts:Array (Nat×Operand)} (hop:o.op=.buildSlice T n parts) {old:Nat} {e:Ty} {ys:List e.den}
  (h:Xl E T n parts.toList old st (λe z=>some (⟨e,z⟩:(e:Ty)×List e.den))=some ⟨e,ys⟩):Gives P Q w0 M0 N o a as w (OX old st) id (.row id) (some (.row e ys)):=by
 unfold Xl at h
 split at h
 rotate_left
 ·cases h
 rename_i u xs hl
 obtain ⟨ty,hty,h⟩:=AO.1 h
 have hT:=hE.tab _ _ hty
 have he:execOp a.eval o=(do pure (Next.value (<- Instr.buildSlice T n (parts.map λ(i,x)=>(i,a.eval x))))):=by simp only [execOp,hop]
 have hparts:(parts.map λ(i,x)=>(i,a.eval x)).toList=parts.toList.map λp=>(p.1,a.eval p.2):=by simp
 cases ty with
 | slice e'=>
  simp only at h
  obtain ⟨ys',hys,h⟩:=AO.1 h
  obtain ⟨hc,h⟩:=BU h
  cases h
  simp only [AP] at hc
  have hlen:List.length ys=n:=Aa hc.1
  have hn:=Ak hc.2.1
  obtain ⟨e',hu,hl'⟩:=hT.slice
  obtain ⟨ie,hie,hes,hez,_⟩:=(hE.tab _ _ hl').info
  obtain ⟨vs,e1,e2,e3,e4⟩:=xQ s hl hys
  have e2':vs.length=n:=by rw [e2];exact hlen
  have hpos:=Ak hc.2.2.1
  have hsm:=Ak hc.2.2.2
  have key:∃ cells:Array Value,(Instr.buildSlice T n (parts.map λ(i,x)=>(i,a.eval x))).run P w=.ok (.slice (some ⟨w.heap.size,0,none⟩) n n) (w.alloc (.cells cells e'))/\cells.toList=vs.flatMap λv=>v.cells.toList:=by
   by_cases hp:n * ie.size=0
   ·have hn0:n=0:=by
     rw [hes] at hp
     rcases Nat.mul_eq_zero.1 hp with h | h <;> omega
    have hvs:vs=[]:=Ar (by rw [e2',hn0])
    subst hvs
    have hpz:parts = #[]:=by
     have:parts.toList=[]:=by simpa using e1
     exact Array.toList_eq_nil_iff.1 this
    subst hpz hn0
    exact ⟨(Array.range 0).map λ_=>default,by simp [Instr.buildSlice,run_underlying hu,sizeOf,typeInfo,hie,newRow,Instr.fill],by simp⟩
   ·have QBl:=Great.fill_whole (s:=ie.size) (by omega) vs ((Array.range (n * ie.size)).map ((toV e (zeroCells e)).cells[· % (toV e (zeroCells e)).cells.size]!)) (by rw [hes];exact e3) (by simp [e2'])
    exact ⟨_,run_buildSlice w T e' n _ _ ie _ hu hie hez (by rw [hes];omega) hp (by rw [hparts,e1];exact QBl),by simp⟩
  obtain ⟨cells,hrun,hcells⟩:=key
  have hrl:(vs.flatMap λv=>v.cells.toList).length=n * e.n:=by rw [e4.length (λ_ _ r=>r.length),hlen]
  have s':=s.QZT hl
  refine bB (M':=Xf M β τ [(old,.row u xs)]) s' hd (by rw [bF];split;rfl;rw [hid];rfl) (zq s' _) ?_ (CP he hrun)
  have:=uK (T:=e') (cap:=n) s'.mlt (cells:=cells) (by omega) (by simp only [maxLen];omega) (by rw [<- Array.length_toList,hcells,hrl]) e4 (λi hi=>by rw [<- hcells];simp)
  rw [hlen] at this
  exact this
 | _=>simp at h
theorem LW.mono {b0 b1:Nat->Prop} {t:Ty} {xs:List t.den} {v:Value} (h:LW b0 M w t xs v) (hb:∀ b,LV v=some b->b0 b->b1 b):LW b1 M w t xs v:=by
 obtain ⟨a,cap,row,rfl,h1,h2,h3,h4,h5⟩:=h
 refine ⟨a,cap,row,rfl,h1,h2,h3,h4,λa0 ha hc=>?_⟩
 obtain ⟨b,cur,T,rfl,g1,g2⟩:=h5 a0 ha hc
 subst ha
 exact ⟨b,cur,T,rfl,hb b (by simp [LV];omega) g1,g2⟩
theorem LW.LV {b0:Nat->Prop} {t:Ty} {xs:List t.den} {v:Value} (h:LW b0 M w t xs v) {b:Nat} (hb:LV v=some b):b0 b:=by
 obtain ⟨a,cap,row,rfl,h1,h2,h3,h4,h5⟩:=h
 cases a with
 | none=>simp [Go.Lift.LV] at hb
 | some a0=>
  by_cases hc:cap=0
  ·simp [Go.Lift.LV,hc] at hb
  ·obtain ⟨b',cur,T,e,g1,g2⟩:=h5 a0 rfl (by omega)
   subst e
   simp [Go.Lift.LV,hc] at hb
   subst hb
   exact g1
theorem uF {L L':List (Nat×Ob)}:∀ {ps:List Pt} {x:dW ps} {us:List Value},ps.all isHole=true->Ou M w β τ L (nL ps x) us->Ou M w β' τ' L' (nL ps x) us
 | [],_,[],_,_=>trivial
 | [],_,_::_,_,r=>r.elim
 | .hole t::ps,x,[],h,r=>r.elim
 | .hole t::ps,x,u::us,h,r=>⟨r.1,uF (ps:=ps) (by simpa [isHole] using h) r.2⟩
 | .fix _::_,_,_,h,_=>by simp [isHole] at h
 | .ag _ _::_,_,_,h,_=>by simp [isHole] at h
 | .pr _ _::_,_,_,h,_=>by simp [isHole] at h
def QYo (M0:Bs) (M:Own) (w:World) (v:Value):Bs:={ M:=M0.M,M1:=M,w1:=w,kp:=λb=>b < w.heap.size/\LV v≠some b }
theorem rV (hE:CJ P E) (s:Cu w0 M0 N st a as w) (hd:∀ d,o.dst=some d->d < N) {f:Operand} {args:Array Operand} {ts:Array TypeId} {g:FuncId} {caps:RV} {c:Yv} (hop:o.op=.call { callee:=.value f,args:=args,argTypes:=ts })
  (hf:DT none f st.s=.OH g caps) (hc:lk g E.ow=some c) {d:Nat} (hdst:o.dst=some d) {q:(e:Ty)×List e.den×Option Nat} (h:dG E c args ts caps st (λe z old=>some ⟨e,z,old⟩)=some q) (K:Act->World->Prop)
  (hK:∀ a' w',Cu w0 M0 N (Jd (addN (newId st d) (.row q.1 q.2.1) (Dh (newId st d) (JV q.2.2 st))) (some d) (.row (newId st d))) a' as w'->K a' w'):o.wp P a w K Q:=by
 obtain ⟨M,β,τ,s⟩:=s
 unfold dG at h
 split at h
 rotate_left
 ·cases h
 rename_i sx xs t us hargs hts
 obtain ⟨hcc,h⟩:=BU h
 simp only [AP] at hcc
 obtain ⟨X,hX,h⟩:=AO.1 h
 obtain ⟨y,hy,h⟩:=AO.1 h
 obtain ⟨z,hz,h⟩:=AO.1 h
 cases h
 dsimp only at hK
 obtain ⟨hrow,nH⟩:=y5 s hX (CG s.glob s.fr _ sx)
 have rW:=CG s.glob s.fr none f
 rw [hf] at rW
 simp only [RR] at rW
 obtain ⟨_,us',e,hcap⟩:=rW
 simp only [List.cons.injEq,and_true] at e
 obtain rfl:us'=[]:=hcap
 have hlen:xs.length=us.length:=Aa hcc.1
 have hrel:=ZK s (tab:=E.tab) hlen
 rw [yQ hy] at hrel
 have hrun:(execOp a.eval o).run P w=.ok (.enter g (a.eval sx::xs.map a.eval).toArray) w:=by
  simp only [execOp,hop,resolve,e,Deferred.ofValue,Sem.run_bind,Sem.run_pure,Result.andThen_ok,invoke]
  rw [show (#[]++Array.map a.eval args++(#[]:Array Value))=(a.eval sx::xs.map a.eval).toArray by rw [<- Array.toArray_toList (xs:=args),hargs];simp]
  exact (hE.ow g c hc).enters _ w
 have hbk:∀ b,LV (a.eval sx)=some b->b < w.heap.size/\ownB w0 M0 b:=λb hb=>by
  obtain ⟨i,ob,_,h2,h3⟩:=nH b hb
  exact ⟨(s.block h2 h3).1,(s.block h2 h3).2.1⟩
 have start:∀ m,(a.eval sx::xs.map a.eval).length<=m->Sm w0 (QYo M0 M w (a.eval sx)) m M (λ_=>(LV (a.eval sx)).getD 0) (λ_=>a.eval sx) (uX c.e c.fp X.1 y) (FM (a.eval sx::xs.map a.eval) m) [] w:=λm hm=>{
  df:=KC λ_ h=>h.elim
  sz:=by simp [FM] at hm ⊢;omega
  J6:=s.J6
  mlt:=s.mlt
  Yn:=s.Yn
  gk:=s.gk
  gx:=Ext.refl M w
  kp:=λb h=>⟨⟨rfl,h.1⟩,λ_ m=>m⟩
  Fu:=s.Fu
  fr:=λi rv h=>by
   have hr:Ou M w (λ_=>(LV (a.eval sx)).getD 0) (λ_=>a.eval sx) [(0,Ob.row c.e X.1)] (.row 0::nL c.fp y) (a.eval sx::xs.map a.eval):=⟨by
    simp only [RR]
    refine ⟨rfl,_,_,_,rfl,?_,by rw [Bl,AY rfl],rfl⟩
    obtain ⟨_,_,_,e1,_⟩:=hrow
    rw [e1]
    rfl,uF hcc.2 hrel⟩
   obtain ⟨_,h1⟩:=aA 0 (.row 0::nL c.fp y) rv h
   obtain ⟨u,hu,r⟩:=jD hr (by simpa using h1)
   exact ⟨u,enter_at (by simpa using hu),r⟩
  fs:=trivial
  ob:=λid ob h=>by
   simp only [uX,Bl] at h
   split at h
   ·rename_i hi
    cases h
    refine ⟨hrow.mono λb hb h1=>⟨h1.1,λh2=>h2.2 hb⟩,λb hb=>by simp [hb]⟩
   ·cases h
  dj:=λi j ob Ij b h h' _ _=>by
   simp only [uX,Bl] at h h'
   split at h
   ·split at h'
    ·rename_i h1 h2;rw [h1,h2]
    ·cases h'
   ·cases h }
 unfold Oper.wp
 rw [hrun,Oper.upon_enter]
 refine ((hE.ow g c hc).calls w0 _ M _ _ w _ X.1 y z (by
  have:=(Zv hrel)
  rw [tF] at this
  simp [this]) start hz).mono ?_
 rintro e' w' ⟨u,M',β2,τ2,N',a',rfl,s2,hu⟩
 have QOQ:=s2.ob 0 _ (by rw [Bl,AY rfl])
 simp only [MX] at QOQ
 rw [<- hu] at QOQ
 have hoth:∀ b,b < w.heap.size->LV (a.eval sx)≠some b->w'.heap[b]? = w.heap[b]?/\∀ o,M' b o->M b o:=λb h1 h2=>⟨(s2.kp b ⟨h1,h2⟩).1.1,(s2.kp b ⟨h1,h2⟩).2⟩
 have hx':LW (ownB w0 M0) M' w' c.e z u:=QOQ.1.mono λb _ h1=>⟨h1.1,λh2=>by
  have h3:=(s.kp b h2).1.2
  exact h1.2 ⟨h3,λh4=>(hbk b h4).2.2 h2⟩⟩
 have key:∀ (st1:St),Sm w0 M0 N M β τ st1 a as w->(∀ j ob,lk j st1.l=some ob->(∀ i,X.2=some i->j≠i)/\∃ XL,lk j st.l=some XL/\blk β τ j ob=blk β τ j XL)->lk (newId st d) st1.l=none->
   Cu w0 M0 N (Jd (addN (newId st d) (.row c.e z) st1) (some d) (.row (newId st d))) (a.put o.dst u) as w':=by
  intro st1 s1 hsub hfree
  have s3:=s1.QKR (ob:=.row c.e z) (bn:=(LV u).getD 0) (v:=u) hfree s2.gx s2.J6 s2.mlt s2.Fu (λb k=>hoth b (s.kp b k).1.2 λhw=>(hbk b hw).2.2 k) (λj ob b hl hb=>by
   obtain ⟨hne,XL,hl0,hb0⟩:=hsub j ob hl
   rw [hb0] at hb
   have hlt:=(s.block hl0 hb).1
   have hnw:LV (a.eval sx)≠some b:=λhw=>by
    obtain ⟨i',Ij,h1,h2,h3⟩:=nH b hw
    exact hne i' h1 (s.dj j i' XL Ij b hl0 h2 hb h3)
   refine ⟨(hoth b hlt hnw).1,(hoth b hlt hnw).2,λhw=>?_⟩
   exact (QOQ.1.LV hw).2 ⟨hlt,hnw⟩) (λβ' τ' h1 h2 hm=>⟨by rw [h2];exact hx',λb hb=>by rw [h2] at hb;rw [h1];simp [hb]⟩)
  rw [hdst]
  refine ⟨_,_,_,s3.set (some d) (λi hi=>by cases hi;exact hd d hdst) ?_⟩
  simp only [RR,addN]
  refine ⟨rfl,u,c.e,z,rfl,?_,by simp [Bl],by simp⟩
  obtain ⟨_,_,_,e1,_⟩:=hx'
  rw [e1]
  rfl
 refine hK _ _ (key _ ?_ ?_ (Vt _ _))
 ·cases X.2 with
  | none=>exact s.Dh _
  | some i'=>exact (s.kill i').Dh _
 ·intro j ob hl
  have free:∀ (st2:St),lk j (Dh (newId st d) st2).l=some ob->∃ XL,lk j st2.l=some XL/\blk β τ j ob=blk β τ j XL:=by
   intro st2 hl
   unfold Dh at hl
   split at hl
   ·exact ⟨ob,hl,rfl⟩
   ·obtain ⟨_,XL,h1,rfl⟩:=JW hl
    exact ⟨XL,h1,TU _ _⟩
  obtain ⟨XL,h1,h2⟩:=free _ hl
  cases hx2:X.2 with
  | none=>
   rw [hx2] at h1
   exact ⟨(λi hi=>by cases hi),XL,h1,h2⟩
  | some i'=>
   rw [hx2] at h1
   obtain ⟨hne,ob1,h3,rfl⟩:=JW h1
   exact ⟨(λi hi=>by cases hi;exact hne),ob1,h3,by rw [h2,TU]⟩
end
end Go.Lift
