import Derived.Test.YtbgmjjplddddnaaGreatDoorRiM
namespace Go.Lift
open Go.RowKit
section
variable {P:Program} {E:Aj} {Q:Exit->Act->World->Prop} {o:Oper} {w0:World} {M0:Bs} {N:Nat} {M M':Own} {β β':Nat->Nat} {τ τ':Nat->Value} {st st':St} {a:Act} {as:List Act} {w w':World} {id:Nat}
theorem enter_at {args:List Value} {m i:Nat} {u:Value} (h:args[i]? = some u):(A8 args m).tmps[i]? = some u:=by
 have hlt:=(List.getElem?_eq_some_iff.1 h).1
 simp only [A8]
 rw [Array.getElem?_append_left (by simpa using hlt)]
 simpa using h
theorem H8 {L:List (Nat×Ob)}:∀ {A9:List RV} {us:List Value} {i:Nat} {rv:RV},CZ M w β τ L A9 us->A9[i]? = some rv->∃ u,us[i]? = some u/\RR M w β τ L rv .sl [u]
 | [],[],i,rv,_,h=>by simp at h
 | r::rs,u::us,0,rv,h,e=>by simp at e;subst e;exact ⟨u,rfl,h.1⟩
 | r::rs,u::us,i+1,rv,h,e=>by simpa using H8 h.2 (by simpa using e)
 | [],_::_,_,_,h,_=>h.elim
 | _::_,[],_,_,h,_=>h.elim
theorem Fg {L:List (Nat×Ob)}:∀ {A9:List RV} {us:List Value},CZ M w β τ L A9 us->A9.length=us.length
 | [],[],_=>rfl
 | _::_,_::_,h=>by simp [Fg h.2]
 | [],_::_,h=>h.elim
 | _::_,[],h=>h.elim
theorem Fe {L:List (Nat×Ob)}:∀ {A9 XA:List RV} {us us':List Value},CZ M w β τ L A9 us->CZ M w β τ L XA us'->CZ M w β τ L (A9++XA) (us++us')
 | [],_,[],_,_,h=>h
 | _::_,_,_::_,_,h,h'=>⟨h.1,Fe h.2 h'⟩
 | [],_,_::_,_,h,_=>h.elim
 | _::_,_,[],_,h,_=>h.elim
theorem Hq {L:List (Nat×Ob)}:∀ {r:RV} {A9:List RV} {us:List Value},FE r=some A9->RR M w β τ L r .li us->CZ M w β τ L A9 us:=by
 intro r
 induction r with
 | unit=>
  intro A9 us h r
  cases h
  have:us=[]:=r
  subst this
  trivial
 | pair x y PN ihy=>
  intro A9 us h r
  simp only [RR] at r
  obtain ⟨u,us',rfl,r1,r2⟩:=r
  simp only [FE] at h
  obtain ⟨rs,h1,h⟩:=Option.bind_eq_some_iff.1 h
  cases h
  exact ⟨r1,ihy h1 r2⟩
 | _=>intro A9 us h;cases h
theorem FM (s:Sm w0 M0 N M β τ st a as w) {tab:List (TypeId×Ty)}:∀ {xs:List Operand} {ts:List TypeId},xs.length=ts.length->CZ M w β τ st.l ((xs.zip ts).map fun p=>Ad (lk p.2 tab) p.1 st.s) (xs.map a.eval)
 | [],[],_=>trivial
 | x::xs,t::ts,h=>⟨AP s.glob s.fr _ x,FM s (by simpa using h)⟩
 | [],_::_,h=>by simp at h
 | _::_,[],h=>by simp at h
theorem RR.Yz {L:List (Nat×Ob)} (h:∀ (id:Nat) (t:Ty) (xs:List t.den),lk id L=some (.row t xs)->τ' id=τ id):∀ {rv:RV} {m:Mo} {cs:List Value},RR M w β τ L rv m cs->RR M w β τ' L rv m cs:=by
 intro rv
 induction rv with
 | any=>intro m cs r;cases m <;> exact r
 | nil t=>intro m cs r;cases m <;> exact r
 | val v=>intro m cs r;cases m <;> exact r
 | row id=>intro m cs r;simp only [RR] at r ⊢;obtain ⟨h1,u,t,xs,e,ho,hl,hu⟩:=r;exact ⟨h1,u,t,xs,e,ho,hl,by rw [h id t xs hl];exact hu⟩
 | sub id lo hi=>intro m cs r;simp only [RR] at r ⊢;obtain ⟨h1,u,t,xs,e,ho,hl,h2,h3,hu⟩:=r;exact ⟨h1,u,t,xs,e,ho,hl,h2,h3,by rw [h id t xs hl];exact hu⟩
 | loc id p=>intro m cs r;simpa only [RR] using r
 | Dn f c ih=>intro m cs r;simp only [RR] at r ⊢;obtain ⟨h1,us,e,r⟩:=r;exact ⟨h1,us,e,ih r⟩
 | unit=>intro m cs r;cases m <;> exact r
 | pair a b iha ihb=>
  intro m cs r
  cases m with
  | sl=>exact r
  | li=>simp only [RR] at r ⊢;obtain ⟨u,us,e,r1,r2⟩:=r;exact ⟨u,us,e,iha r1,ihb r2⟩
  | ce t=>simp only [RR] at r ⊢;obtain ⟨ta,tb,c1,c2,e1,e2,r1,r2⟩:=r;exact ⟨ta,tb,c1,c2,e1,e2,iha r1,ihb r2⟩
 | agg t r ih=>intro m cs r;simp only [RR] at r ⊢;obtain ⟨h1,h2,c,e,r⟩:=r;exact ⟨h1,h2,c,e,ih r⟩
 | CW r ih=>intro m cs r;simp only [RR] at r ⊢;obtain ⟨h1,us,e,r⟩:=r;exact ⟨h1,us,e,ih r⟩
 | mp id=>intro m cs r;simpa only [RR] using r
 | yl id=>intro m cs r;simpa only [RR] using r
theorem Eu:∀ {n:Nat} {bs:List Bt} {d:EJ bs} {j:Nat} {ob:Ob},lk j (EH n bs d)=some ob->n<=j/\j < n+bs.length/\(EH n bs d)[j - n]? = some (j,ob)/\∃ (b:Bt) (x:b.D),b∈bs/\ob=Tv b x
 | _,[],_,_,_,h=>by simp [EH,lk] at h
 | n,b::bs,d,j,ob,h=>by
  simp only [EH,AF] at h
  split at h
  ·rename_i e
   subst e
   cases h
   exact ⟨Nat.le_refl _,by simp,by simp [EH],b,d.1,by simp,rfl⟩
  ·obtain ⟨h1,h2,h3,b',x,h4,h5⟩:=Eu h
   refine ⟨by omega,by simp;omega,?_,b',x,by simp [h4],h5⟩
   rw [show j - n=(j - (n+1))+1 by omega]
   simpa [EH] using h3
theorem Dt:∀ {n:Nat} {bs:List Bt} {d:EJ bs} {j:Nat},n<=j->j < n+bs.length->∃ ob,lk j (EH n bs d)=some ob
 | _,[],_,_,h1,h2=>by simp at h2;omega
 | n,b::bs,d,j,h1,h2=>by
  simp only [EH,AF]
  split
  ·exact ⟨_,rfl⟩
  ·exact Dt (by omega) (by simp at h2;omega)
theorem Mt:∀ {n:Nat} {bs:List Bt} {d:EJ bs} {j:Nat} {t:Ty} {xs:List t.den},Ez bs d=true->lk j (EH n bs d)=some (.row t xs)->1<=xs.length
 | _,[],_,_,_,_,_,h=>by simp [EH,lk] at h
 | n,b::bs,d,j,t,xs,hr,h=>by
  simp only [EH,AF] at h
  split at h
  ·cases b with
   | row t'=>
    cases h
    simp only [Ez,Bool.and_eq_true] at hr
    exact Nat.le_of_ble_eq_true hr.1
   | _=>cases h
  ·cases b with
   | row t'=>simp only [Ez,Bool.and_eq_true] at hr;exact Mt hr.2 h
   | _=>exact Mt (bs:=bs) (d:=d.2) hr h
theorem OQ {b0:Nat->Prop} {t:Ty} {xs:List t.den} {v:Value} (h:Bw b0 M w t xs v) (hn:1<=xs.length):∃ b,Bp v=some b:=by
 obtain ⟨a,cap,row,rfl,h1,h2,h3,_⟩:=h
 cases a with
 | none=>have:=h3 rfl;omega
 | some a=>exact ⟨a.block,by simp [Bp];omega⟩
theorem OP {b0 Tp:Nat->Prop} {t:Ty} {xs:List t.den} {v:Value} (h:Bw b0 M w t xs v) (hb:∀ b,Bp v=some b->Tp b):Bw Tp M w t xs v:=by
 obtain ⟨a,cap,row,rfl,h1,h2,h3,h4,h5⟩:=h
 refine ⟨a,cap,row,rfl,h1,h2,h3,h4,fun a0 ha hc=>?_⟩
 obtain ⟨b,cur,T,e,_,g⟩:=h5 a0 ha hc
 exact ⟨b,cur,T,e,hb b (by rw [ha,e];simp [Bp];omega),g⟩
theorem TL {b0 Tp:Nat->Prop} {M':Own} {w':World} {t t':Ty} {xs:List t.den} {ys:List t'.den} {v:Value} (h:Bw b0 M w t xs v) (h':Bw Tp M' w' t' ys v):xs.length=ys.length:=by
 obtain ⟨a,cap,row,e,_⟩:=h
 obtain ⟨a',cap',row',e',_⟩:=h'
 rw [e] at e'
 simp only [Value.slice.injEq] at e'
 exact e'.2.1
theorem Ny {b:Bt} {x:b.D} {c:RV} {q:LQ}:Tv b x≠.lp c q:=by cases b <;> intro h <;> cases h
theorem RL {b:Bt} {x:b.D} {t:Ty} {con:RV} (hb:Pj b=true) (h:Tv b x=.var t con):Cc con=true:=by
 cases b with
 | var t' p=>
  cases h
  cases p with
  | hole t=>rfl
  | fix r=>exact hb
 | mp=>cases h
 | row=>cases h
theorem MI:∀ {n:Nat} {bs:List Bt} {d:EJ bs} {w:Nat} {z:wD bs w} {ob:Ob},lk (n+w) (EH n bs d)=some ob->(∀ t xs xs',IK bs w z=.row t xs->ob=.row t xs'->List.length xs=List.length xs')->(IK bs w z).shape=ob.shape
 | _,[],_,_,z,_,_,_=>nomatch z
 | n,b::bs,d,0,z,ob,h,hl=>by
  simp [EH,AF] at h
  subst h
  cases b with
  | row t=>
   have:=hl t z d.1 rfl rfl
   simp only [IK,Tv,Ob.shape,this]
  | _=>rfl
 | n,b::bs,d,w+1,z,ob,h,hl=>by
  simp only [EH,AF] at h
  rw [if_neg (by omega),show n+(w+1)=(n+1)+w by omega] at h
  exact MI (w:=w) (z:=z) h hl
theorem P9:∀ {bs:List Bt} {w:Nat} (_:wD bs w),w < bs.length
 | [],_,z=>nomatch z
 | _::_,0,_=>by simp
 | _::bs,w+1,z=>by have:=P9 (bs:=bs) (w:=w) z;simp;omega
theorem Tk {b0 Tp:Nat->Prop} {L L':List (Nat×Ob)} {id':Nat}:∀ {bs:List Bt} {n:Nat} {z:wD bs n},KH bs n=true->CF b0 M w β τ L id (IK bs n z)->β' id'=β id->Tp (β' id')->(∀ t xs,IK bs n z=.row t xs->τ' id'=τ id)->CF Tp M w β' τ' L' id' (IK bs n z)
 | [],_,z,_,_,_,_,_=>nomatch z
 | b::_,0,z,hf,h,he,hb,ht=>by
  simp only [IK] at h ⊢
  cases b with
  | var t p=>
   cases p with
   | hole t'=>
    obtain ⟨_,⟨cs,T,h1,h2⟩,h3⟩:=h
    exact ⟨hb,⟨cs,T,by rw [he];exact h1,h2⟩,by rw [he];exact h3⟩
   | fix r=>simp [KH,U0] at hf
  | mp kt vt=>
   obtain ⟨_,⟨arr,clock,h1,h2⟩,h3⟩:=h
   exact ⟨hb,⟨arr,clock,by rw [he];exact h1,h2⟩,by rw [he];exact h3⟩
  | row t=>
   obtain ⟨h1,h2⟩:=h
   have ht:=ht t z rfl
   exact ⟨by rw [ht];exact OP h1 fun b hb'=>by rw [h2 b hb',← he];exact hb,fun b hb'=>by rw [he];exact h2 b (by rw [← ht];exact hb')⟩
 | _::bs,n+1,z,hf,h,he,hb,ht=>Tk (bs:=bs) (n:=n) (z:=z) hf h he hb ht
theorem Mr {α γ:Type} (g:Nat->α->γ) (i:Nat):∀ (s:List (Nat×α)),lk i (s.map fun p=>(p.1,g p.1 p.2))=(lk i s).map (g i)
 | []=>rfl
 | p::s=>by
  simp only [List.map_cons,AF]
  split
  ·rename_i e
   subst e
   rw [AF,if_pos rfl]
   rfl
  ·rename_i e
   rw [AF,if_neg e]
   exact Mr g i s
def Uv (β:Nat->Nat) (τ:Nat->Value) (p:Nat×Ob):Value:=match p.2 with
 | .row _ _=>τ p.1
 | .mp _ _ _=>.map (some (β p.1))
 | _=>.pointer (some ⟨β p.1,0,none⟩)
def XH (β:Nat->Nat) (τ:Nat->Value) (l:List (Nat×Ob)):Act:={ tmps:=(l.map (Uv β τ)).toArray,defers:=[] }
theorem N9 {t:Ty} {con:RV}:Ce (Ob.var t con).shape []=some (0,t):=by
 simp only [Ob.shape,Ce]
 cases t <;> rfl
def MQ (M0:Bs) (M:Own) (w:World) (β:Nat->Nat) (n:Nat):Bs:={ M:=M0.M,M1:=M,w1:=w,kp:=fun b=>b < w.heap.size/\∀ j,j < n->b≠β j }
theorem Ta (s:Sm w0 M0 N M β τ st a as w) {c:ED} {x:Gf c.fp} {y:EJ c.bp} {us:List Value} {m:Nat} (hl:st.l=EH 0 c.bp y) (hr:CZ M w β τ st.l (Jh c.fp x) us) (hm:us.length<=m) :
  Sm w0 (MQ M0 M w β c.bp.length) m M β τ (Gu c x y) (A8 us m) [XH β τ (EH 0 c.bp y)] w where
 df:=Bj fun _ h=>h.elim
 sz:=by simp [A8];omega
 Bc:=s.Bc
 mlt:=s.mlt
 Eh:=s.Eh
 gk:=s.gk
 gx:=Ext.refl M w
 kp:=fun b h=>⟨⟨rfl,h.1⟩,fun _ m=>m⟩
 Az:=s.Az
 fr:=fun i rv h=>by
  obtain ⟨_,h1⟩:=Fq 0 (Jh c.fp x) rv h
  obtain ⟨u,hu,r⟩:=H8 hr (by simpa using h1)
  exact ⟨u,enter_at (by simpa using hu),by simp only [Gu];rw [← hl];exact r⟩
 fs:=by
  refine ⟨fun i rv h=>?_,trivial⟩
  simp only [Uu] at h
  rw [Mr] at h
  cases hi:lk i (EH 0 c.bp y) with
  | none=>rw [hi] at h;cases h
  | some ob=>
   rw [hi] at h
   cases h
   obtain ⟨_,_,h3,b,d,_,rfl⟩:=Eu hi
   refine ⟨Uv β τ (i,Tv b d),by simpa [XH] using congrArg (Option.map (Uv β τ)) h3,?_⟩
   simp only [Gu]
   cases b with
   | var t p=>exact KV hi N9
   | mp kt vt=>simp only [Ll,Tv,RR];exact ⟨rfl,_,kt,vt,d,rfl,rfl,hi,rfl⟩
   | row t=>
    simp only [Ll,Tv,RR]
    obtain ⟨⟨a,cap,row,e,_⟩,_⟩:=s.ob i _ (by rw [hl];exact hi)
    exact ⟨rfl,_,t,d,rfl,by simp only [Uv,e];rfl,hi,rfl⟩
 ob:=fun id ob h=>by
  simp only [Gu] at h ⊢
  have Jc:=s.ob id ob (by rw [hl];exact h)
  obtain ⟨_,h2,_,b,d,_,rfl⟩:=Eu h
  have hn:∀ b,ownB w0 M0 b->b=β id->ownB w0 (MQ M0 M w β c.bp.length) b:=fun b h1 h3=>⟨h1.1,fun h4=>h4.2 id (by simpa using h2) h3⟩
  cases b with
  | var t p=>
   obtain ⟨h4,h5,h6⟩:=Jc
   exact ⟨hn _ h4 rfl,by rw [hl] at h5;exact h5,h6⟩
  | mp kt vt=>
   obtain ⟨h4,h5,h6⟩:=Jc
   exact ⟨hn _ h4 rfl,h5,h6⟩
  | row t=>
   obtain ⟨h4,h5⟩:=Jc
   refine ⟨?_,h5⟩
   obtain ⟨a,cap,row,e,g1,g2,g3,g4,g6⟩:=h4
   refine ⟨a,cap,row,e,g1,g2,g3,g4,fun a0 ha hc=>?_⟩
   obtain ⟨b,cur,T,e',k1,k2⟩:=g6 a0 ha hc
   exact ⟨b,cur,T,e',hn b k1 (h5 b (by rw [e,ha,e'];simp [Bp];omega)),k2⟩
 dj:=fun i j ob BS b h1 h2=>s.dj i j ob BS b (by rw [hl];exact h1) (by rw [hl];exact h2)
theorem OJ {f:Nat->Option Nat} {L L':List (Nat×Ob)} (h:BJ f L β τ L' β' τ'):∀ {A9:List RV} {us:List Value},CZ M w β τ L A9 us->CZ M w β' τ' L' (A9.map (AZ f)) us
 | [],[],_=>trivial
 | _::_,_::_,r=>⟨RR.map h r.1,OJ h r.2⟩
 | [],_::_,r=>r.elim
 | _::_,[],r=>r.elim
theorem KZ:∀ {ps:List Pt} {x:Gf ps},(Jh ps x).length=ps.length
 | [],_=>rfl
 | _::ps,x=>by simp [Jh,KZ (ps:=ps)]
theorem Od {b0:Nat} {L:List (Nat×Ob)}:∀ {rs:List Ty} {r:AL rs} {us:List Value},CY b0 M w rs [] r us->CZ M w β τ L (Qk rs r) us
 | [],_,us,h=>by
  simp only [CY] at h
  subst h
  trivial
 | [t],r,us,h=>by
  obtain ⟨u,rfl,h⟩:=h
  exact ⟨⟨u,rfl,Cg h rfl⟩,trivial⟩
 | t::t'::ts,r,us,h=>by
  obtain ⟨u,us',rfl,h1,h2⟩:=h
  exact ⟨⟨u,rfl,Cg h1 rfl⟩,Od (rs:=t'::ts) h2⟩
theorem TG {c:ED} {args:Array Operand} {ts:Array TypeId} {caps:RV} {α:Type} {k:Nat->Ob->RV->Option α} {q:α} (h:Jk E c args ts caps st k=some q) :
  args.size=ts.size/\TF c=true/\∃ cs x y z r id,FE caps=some cs/\
   NS c.fp ((((args.toList.zip ts.toList).map fun p=>Ad (lk p.2 E.tab) p.1 st.s)++cs).map (AZ fun id=>Cx id (EP st.l (((args.toList.zip ts.toList).map fun p=>Ad (lk p.2 E.tab) p.1 st.s)++cs)) 0))=some x/\
   VJ 0 c.bp (Dy (fun id=>Cx id (EP st.l (((args.toList.zip ts.toList).map fun p=>Ad (lk p.2 E.tab) p.1 st.s)++cs)) 0) st.l (EP st.l (((args.toList.zip ts.toList).map fun p=>Ad (lk p.2 E.tab) p.1 st.s)++cs)) 0)=some y/\Ez c.bp y=true/\
   c.F x y=some (z,r)/\(EP st.l (((args.toList.zip ts.toList).map fun p=>Ad (lk p.2 E.tab) p.1 st.s)++cs))[c.w]? = some id/\k id (IK c.bp c.w z) (Fh (Qk c.rs r))=some q:=by
 unfold Jk at h
 obtain ⟨h1,h⟩:=AA h
 simp only [Bool.and_eq_true] at h1
 obtain ⟨cs,h2,h⟩:=Option.bind_eq_some_iff.1 h
 unfold Un at h
 obtain ⟨x,h3,h⟩:=Option.bind_eq_some_iff.1 h
 obtain ⟨y,h4,h⟩:=Option.bind_eq_some_iff.1 h
 obtain ⟨hne,h⟩:=AA h
 obtain ⟨⟨z,r⟩,h5,h⟩:=Option.bind_eq_some_iff.1 h
 obtain ⟨id,h6,h⟩:=Option.bind_eq_some_iff.1 h
 rw [QT] at h6
 exact ⟨Nat.eq_of_beq_eq_true h1.1,h1.2,cs,x,y,z,r,id,h2,h3,h4,hne,h5,h6,h⟩
theorem M7 {c:ED} {args:Array Operand} {ts:Array TypeId} {caps:RV}:PC (fun β (k:Nat×Ob×RV->Option β)=>Jk E c args ts caps st fun id ob rv=>k (id,ob,rv)):=by
 unfold Jk Un
 exact PC.bif (PC.bind fun cs=>PC.bind (X:=Nat×Ob×RV) fun x=>PC.bind (X:=Nat×Ob×RV) fun y=>PC.bif (PC.bind fun r=>PC.bind fun id=>PC.ret _) PC.none) PC.none
theorem I6 (hE:AQ P E) (s:Sm w0 M0 N M β τ st a as w) {f:Operand} {args:Array Operand} {ts:Array TypeId} {g:FuncId} {caps:RV} {c:ED} (hop:o.op=.call { callee:=.value f,args:=args,argTypes:=ts })
  (hf:Ad none f st.s=.Dn g caps) (hc:lk g E.rcs=some c) {id:Nat} {ob:Ob} {rv:RV} (h:Jk E c args ts caps st (fun id ob rv=>some (id,ob,rv))=some (id,ob,rv)) (K:Act->World->Prop)
  (hK:∀ M' v w',Sm w0 M0 N M' β τ (Ai id ob st) a as w'->RR M' w' β τ (Ai id ob st).l rv .sl [v]->K (a.put o.dst v) w'):(lk id st.l).isSome=true/\o.wp P a w K Q:=by
 obtain ⟨hsz,hB,cs,x,y,z,r,id',hcs,hx,hy,hne,hF,hid,e⟩:=TG h
 simp only [Option.some.injEq,Prod.mk.injEq] at e
 obtain ⟨e1,rfl,rfl⟩:=e
 subst e1
 generalize Tq:((args.toList.zip ts.toList).map fun p=>Ad (lk p.2 E.tab) p.1 st.s)++cs=A9 at hx hy hid
 generalize Wd:EP st.l A9=ids at hx hy hid
 have KM:=AP s.glob s.fr none f
 rw [hf] at KM
 simp only [RR] at KM
 obtain ⟨_,us,e,hcap⟩:=KM
 simp only [List.cons.injEq,and_true] at e
 have hrel:CZ M w β τ st.l A9 (args.toList.map a.eval++us):=by
  rw [← Tq]
  exact Fe (FM s (by simpa using hsz)) (Hq hcs hcap)
 have s1:=s.ren ids
 have hL:(Gd ids st).l=EH 0 c.bp y:=Ru hy
 have hm:BJ (fun id=>Cx id ids 0) st.l β τ (Gd ids st).l (fun j=>β ((ids[j]?).getD 0)) (fun j=>τ ((ids[j]?).getD 0)):=by
  intro i j ob hf hl
  obtain ⟨_,h⟩:=F4 hf
  simp only [Nat.sub_zero] at h
  exact ⟨_,Kr ids 0 j i ob (Nat.zero_le _) (by simpa using h) hf hl,DR _ _,by simp [h],by simp [h]⟩
 have Li:=OJ hm hrel
 rw [MN hx] at Li
 have hrec:=hE.rcs g c hc
 have hrun:(execOp a.eval o).run P w=.ok (.enter g (args.toList.map a.eval++us).toArray) w:=by
  simp only [execOp,hop,resolve,e,Deferred.ofValue,Sem.run_bind,Sem.run_pure,Result.andThen_ok,invoke]
  rw [show (#[]++Array.map a.eval args++us.toArray)=(args.toList.map a.eval++us).toArray by simp [← Array.toList_map]]
  exact hrec.enters _ w
 have hw:=P9 z
 have named:∀ j BS,lk j (EH 0 c.bp y)=some BS->∃ i EU,ids[j]? = some i/\Cx i ids 0=some j/\lk i st.l=some EU/\BS=Au (fun id=>Cx id ids 0) EU:=by
  intro j BS h
  rw [← hL] at h
  obtain ⟨_,i,EU,h1,h2⟩:=M8 ids 0 j BS h
  exact ⟨i,EU,by simpa using h1,h2⟩
 obtain ⟨Ya,Q6⟩:=Dt (n:=0) (d:=y) (Nat.zero_le c.w) (by simpa using hw)
 obtain ⟨iw,EU,g1,g2,g3,g4⟩:=named c.w Ya Q6
 obtain rfl:iw=id':=Option.some.inj (g1.symm.trans hid)
 refine ⟨by rw [g3];rfl,?_⟩
 unfold Oper.wp
 rw [hrun,Oper.upon_enter]
 refine (hrec.calls w0 _ M _ _ _ w _ x y z r hne ((Fg Li).symm.trans KZ) (fun m hm=>Ta s1 hL Li hm) hF).mono ?_
 rintro e w' ⟨us',M',β2,τ2,N',a',rfl,s2,⟨hβ,hτ⟩,hres⟩
 have hL2:∀ j,lk j (Dw c.w (IK c.bp c.w z) (EH 0 c.bp y))=if j=c.w then some (IK c.bp c.w z) else lk j (EH 0 c.bp y):=fun j=>by
  rw [CG,Q6]
  rfl
 have Yj:∀ j BS,lk j (Dw c.w (IK c.bp c.w z) (EH 0 c.bp y))=some BS->j < c.bp.length:=by
  intro j BS h
  rw [hL2] at h
  split at h
  ·rename_i e;rw [e];exact hw
  ·simpa using (Eu h).2.1
 have SG:(IK c.bp c.w z).shape=Ya.shape:=MI (n:=0) (d:=y) (by rw [Nat.zero_add];exact Q6) fun t xs xs' e1 e2=>by
  have k1:=(s2.ob c.w (.row t xs) (by rw [hL2,if_pos rfl,e1])).1
  have k2:=(s1.ob c.w (.row t xs') (by rw [hL,Q6,e2])).1
  rw [hτ c.w t xs' (by rw [Q6,e2])] at k1
  exact TL k1 k2
 have Ve:(IK c.bp c.w z).shape=EU.shape:=by
  rw [SG,g4,DR]
 have hblk:∀ i o' j,lk i st.l=some o'->ids[j]? = some i->lk j (EH 0 c.bp y)=some (Au (fun id=>Cx id ids 0) o')->blk β τ i o'=some (β i):=by
  intro i o' j hl hi h1
  cases o' with
  | var t c=>rfl
  | mp kt vt es=>rfl
  | lp c q=>rfl
  | row t xs=>
   obtain ⟨k1,k2⟩:=s.ob i _ hl
   obtain ⟨b,hb⟩:=OQ k1 (Mt hne h1)
   simp only [blk]
   rw [hb,k2 b hb]
 have Xz:∀ (i:Nat) (BS:Ob) (b:Nat),lk i st.l=some BS->blk β τ i BS=some b->(∀ j,j < c.bp.length->ids[j]?≠some i)->(MQ M0 M w (fun j=>β ((ids[j]?).getD 0)) c.bp.length).kp b:=by
  intro i BS b hl hb hn
  refine ⟨(s.block hl hb).1,fun j hj hbj=>?_⟩
  obtain ⟨N7,h1⟩:=Dt (n:=0) (d:=y) (Nat.zero_le j) (by simpa using hj)
  obtain ⟨i2,U8,k1,k2,k3,k4⟩:=named j N7 h1
  obtain ⟨_,_,_,b',x',_,h5⟩:=Eu h1
  have hb2:blk β τ i2 U8=some b:=by
   rw [hbj]
   simp only [k1,Option.getD_some]
   exact hblk i2 U8 j k3 k1 (by rw [h1,k4])
  have:=s.dj i i2 BS U8 b hl k3 hb hb2
  subst this
  exact hn j hj k1
 have Wh:∀ b,(MQ M0 M w (fun j=>β ((ids[j]?).getD 0)) c.bp.length).kp b->w'.heap[b]? = w.heap[b]?/\∀ o,M' b o->M b o:=fun b h=>⟨(s2.kp b h).1.1,(s2.kp b h).2⟩
 have Qz:∀ j,lk j (Ai iw (IK c.bp c.w z) st).l=if j=iw then some (IK c.bp c.w z) else lk j st.l:=fun j=>by
  simp only [Ai]
  rw [CG,g3]
  rfl
 have hm2:BJ some st.l β τ (Ai iw (IK c.bp c.w z) st).l β τ:=by
  intro i j o' hf' hi
  cases hf'
  by_cases h:i=iw
  ·subst h
   obtain rfl:=Option.some.inj (hi.symm.trans g3)
   exact ⟨_,by rw [Qz,if_pos rfl],Ve,rfl,rfl⟩
  ·exact ⟨o',by rw [Qz,if_neg h];exact hi,rfl,rfl,rfl⟩
 have hback:BJ (fun j=>ids[j]?) (Dw c.w (IK c.bp c.w z) (EH 0 c.bp y)) β2 (fun j=>τ ((ids[j]?).getD 0)) (Ai iw (IK c.bp c.w z) st).l β τ:=by
  intro j i BS hf' hl'
  have hf':ids[j]? = some i:=hf'
  have hj:=Yj j BS hl'
  rw [hL2] at hl'
  by_cases Va:j=c.w
  ·rw [if_pos Va] at hl'
   cases hl'
   have:i=iw:=by rw [Va] at hf';exact Option.some.inj (hf'.symm.trans g1)
   subst this
   exact ⟨_,by rw [Qz,if_pos rfl],rfl,by rw [hβ j hj];simp [hf'],by simp [hf']⟩
  ·rw [if_neg Va] at hl'
   obtain ⟨i',o0,k1,k2,k3,k4⟩:=named j BS hl'
   obtain rfl:=Option.some.inj (hf'.symm.trans k1)
   have hne:i≠iw:=fun e=>by
    subst e
    exact Va (Option.some.inj (k2.symm.trans g2))
   exact ⟨o0,by rw [Qz,if_neg hne];exact k3,by rw [k4,DR],by rw [hβ j hj];simp [hf'],by simp [hf']⟩
 have Vf:∀ (j:Nat) (t:Ty) (xs:List t.den),lk j (Dw c.w (IK c.bp c.w z) (EH 0 c.bp y))=some (.row t xs)->τ ((ids[j]?).getD 0)=τ2 j:=by
  intro j t xs h
  rw [hL2] at h
  split at h
  ·rename_i e
   subst e
   rw [Option.some.inj h] at SG
   obtain ⟨ys,e,_⟩:=GN SG.symm
   exact (hτ c.w t ys (by rw [Q6,e])).symm
  ·exact (hτ j t xs h).symm
 have hbk:∀ i o' j,lk i st.l=some o'->j < c.bp.length->ids[j]? = some i->blk β τ i o'=some (β i)/\lk j (EH 0 c.bp y)=some (Au (fun id=>Cx id ids 0) o')/\∀ t con,o'=.var t con->Cc (AZ (fun id=>Cx id ids 0) con)=true:=by
  intro i o' j hl hj hi
  obtain ⟨N7,h1⟩:=Dt (n:=0) (d:=y) (Nat.zero_le j) (by simpa using hj)
  obtain ⟨i2,U8,k1,k2,k3,k4⟩:=named j N7 h1
  obtain rfl:=Option.some.inj (hi.symm.trans k1)
  obtain rfl:=Option.some.inj (hl.symm.trans k3)
  obtain ⟨_,_,_,b',x',hb',h5⟩:=Eu h1
  rw [k4] at h5
  refine ⟨?_,by rw [h1,k4],?_⟩
  ·exact hblk i o' j hl hi (by rw [h1,k4])
  ·rintro t con rfl
   have hall:c.bp.all Pj=true:=by
    simp only [TF,Bool.and_eq_true] at hB
    exact hB.1
   exact RL (List.all_eq_true.1 hall b' hb') h5.symm
 obtain ⟨hbw,_,_⟩:=hbk iw EU c.w g3 hw g1
 have SF:KH c.bp c.w=true:=by
  simp only [TF,Bool.and_eq_true] at hB
  exact hB.2
 refine hK M' _ w' (s.gen (f:=some) s2.gx s2.Bc s2.mlt s2.Az (fun b hb=>Wh b ⟨(s.kp b hb).1.2,fun j hj e=>?_⟩) hm2 (BP _).symm (Bh _).symm ?_ ?_) (H9 (Od hres))
 ·obtain ⟨N7,h1⟩:=Dt (n:=0) (d:=y) (Nat.zero_le j) (by simpa using hj)
  obtain ⟨i2,U8,k1,k2,k3,k4⟩:=named j N7 h1
  obtain ⟨h2,_,_⟩:=hbk i2 U8 j k3 hj k1
  have h3:=(s.block k3 h2).2.1
  simp only [k1,Option.getD_some] at e
  rw [← e] at h3
  exact h3.2 hb
 ·intro i o' h
  rw [Qz] at h
  by_cases hi:i=iw
  ·rw [if_pos hi] at h
   cases h
   subst hi
   have h1:=s2.ob c.w _ (by rw [hL2,if_pos rfl])
   refine Tk SF h1 ?_ (s.block g3 hbw).2.1 fun t xs e=>?_
   ·rw [hβ c.w hw]
    simp [g1]
   ·have:=Vf c.w t xs (by rw [hL2,if_pos rfl,e])
    rw [← this]
    simp [g1]
  ·rw [if_neg hi] at h
   by_cases hn:∃ j,j < c.bp.length/\ids[j]? = some i
   ·obtain ⟨j,hj,hji⟩:=hn
    obtain ⟨k1,k2,k3⟩:=hbk i o' j h hj hji
    have Va:j≠c.w:=fun e=>by
     subst e
     exact hi (Option.some.inj (hji.symm.trans g1))
    have h1:=s2.ob j _ (by rw [hL2,if_neg Va];exact k2)
    have Xc:β2 j=β i:=by rw [hβ j hj];simp [hji]
    have hown:=(s.block h k1).2.1
    cases o' with
    | row t xs=>
     obtain ⟨h3,h4⟩:=h1
     have h6:τ i=τ2 j:=by
      rw [← Vf j t xs (by rw [hL2,if_neg Va];exact k2)]
      simp [hji]
     exact ⟨by rw [h6];exact OP h3 fun b hb=>by rw [h4 b hb,Xc];exact hown,fun b hb=>by rw [← Xc];exact h4 b (by rw [← h6];exact hb)⟩
    | mp kt vt es=>
     obtain ⟨_,h3,h4⟩:=h1
     rw [Xc] at h3 h4
     exact ⟨hown,h3,h4⟩
    | lp c q=>
     obtain ⟨_,_,_,b',x',_,h5⟩:=Eu k2
     exact absurd h5.symm Ny
    | var t con=>
     obtain ⟨_,⟨cs,T,h2,h3⟩,h4⟩:=h1
     rw [Xc] at h2 h4
     refine ⟨hown,⟨cs,T,h2,?_⟩,h4⟩
     have h5:=RR.map hback (RR.Yz (τ':=fun j=>τ ((ids[j]?).getD 0)) (fun i t xs hr=>Vf i t xs hr) h3)
     rwa [RH (fun i j hij=>by
      obtain ⟨_,h⟩:=F4 hij
      simpa using h) con (k3 t con rfl)] at h5
   ·have:=CF.map (f:=some) s2.gx hm2 rfl h (s.ob i o' h) fun b hb=>Wh b (Xz i o' b h hb fun j hj hji=>hn ⟨j,hj,hji⟩)
    rwa [BI] at this
 ·intro j j' o1 Y2 b2 h h' hb1 hb2
  rw [Qz] at h h'
  have Hf:∀ {j o},(if j=iw then some (IK c.bp c.w z) else lk j st.l)=some o->blk β τ j o=some b2->∃ o0,lk j st.l=some o0/\blk β τ j o0=some b2:=by
   intro j o hh hb2
   by_cases hj:j=iw
   ·rw [if_pos hj] at hh
    subst hj
    obtain rfl:=Option.some.inj hh
    refine ⟨_,g3,?_⟩
    rw [hbw,← hb2]
    cases hz:IK c.bp c.w z with
    | var t con=>rfl
    | row t xs=>
     rw [hz] at Ve
     obtain ⟨ys,e,_⟩:=GN Ve.symm
     rw [e] at hbw
     exact hbw.symm
    | mp kt vt es=>rfl
    | lp c q=>rfl
   ·rw [if_neg hj] at hh
    exact ⟨o,hh,hb2⟩
  obtain ⟨o0,k1,k2⟩:=Hf h hb1
  obtain ⟨RP,k1',k2'⟩:=Hf h' hb2
  exact s.dj j j' o0 RP b2 k1 k1' k2 k2'
theorem Sm.Wt (s:Sm w0 M0 N M β τ st a as w) {d:Nat} {EU:Ob} (hl:lk d st.l=some EU):Sm w0 M0 N (Ei M β τ [(d,EU)]) β τ (CV d st) a as w:=by
 have inv:∀ {b o},Ei M β τ [(d,EU)] b o->M b o∨blk β τ d EU=some b:=by
  rintro b o (m | ⟨j,ob,h1,h2⟩)
  ·exact .inl m
  ·rw [AF] at h1
   split at h1
   ·rename_i e
    subst e
    cases h1
    exact .inr h2
   ·simp [lk] at h1
 have hext:Ext M w (Ei M β τ [(d,EU)]) w:=Fx
 refine s.gen (f:=DJ d) hext s.Bc (fun b o m=>(inv m).elim (s.mlt b o) fun h=>(s.block hl h).1) (fun b o m=>(inv m).elim (s.Az b o) fun h=>.inr (s.block hl h).2.1.1) (fun b hk=>⟨rfl,fun o m=>(inv m).elim (fun h=>h) fun h=>((s.block hl h).2.1.2 hk).elim⟩) (FV d) rfl rfl ?_ ?_
 ·intro id ob h
  obtain ⟨hne,o,h1,rfl⟩:=BZ h
  exact CF.map hext (FV d) (KQ hne) h1 (s.ob id o h1) fun b hb=>⟨rfl,fun o' m=>(inv m).elim (fun h=>h) fun h=>(hne (s.dj id d o EU b h1 hl hb h)).elim⟩
 ·intro id id' ob BS b h h' hb hb'
  obtain ⟨_,o,h1,rfl⟩:=BZ h
  obtain ⟨_,o',h1',rfl⟩:=BZ h'
  rw [Dc] at hb hb'
  exact s.dj id id' o o' b h1 h1' hb hb'
theorem Lv (s:Sm w0 M0 N M β τ st a as w) {d:Nat} {u:Ty} {xs:List u.den} (hl:lk d st.l=some (.row u xs)) {t:Ty}:∀ {i:Nat} {ps:List (Nat×Operand)} {ys:List t.den},FZ d u xs t st.s i ps=some ys->
  ∃ vs:List Value,ps.map (fun p=>(p.1,a.eval p.2))=(vs.zipIdx i).map (fun x=>(x.2,x.1))/\vs.length=ys.length/\(∀ v∈vs,v.cells.size=t.n)/\Seq (Ao (Ei M β τ [(d,.row u xs)]) w t) (vs.flatMap fun v=>v.cells.toList) ys
 | i,[],ys,h=>by simp [FZ] at h;subst h;exact ⟨[],by simp [Seq]⟩
 | i,(j,x)::r,ys,h=>by
  unfold FZ at h
  obtain ⟨hc,h0⟩:=AA h
  clear h
  have hij:=Nat.eq_of_beq_eq_true hc
  subst hij
  have hx:=AP s.glob s.fr (some t) x
  obtain ⟨v,hv0,h0⟩:=Option.bind_eq_some_iff.1 h0
  obtain ⟨y,hy,h1⟩:=Option.bind_eq_some_iff.1 h0
  obtain ⟨ys',hys,h2⟩:=Option.bind_eq_some_iff.1 h1
  cases h2
  obtain rfl:=TV.Aq hy
  obtain ⟨vs,e1,e2,e3,e4⟩:=Lv s hl hys
  have hm:BJ (Sn d) st.l β τ [(d,.row u xs)] β τ:=by
   intro i j ob hf hi
   unfold Sn at hf
   cases hb:Nat.beq i d with
   | false=>rw [hb] at hf;cases hf
   | true=>
    rw [hb] at hf
    have:=Nat.eq_of_beq_eq_true hb
    subst this
    cases hf
    obtain rfl:=Option.some.inj (hi.symm.trans hl)
    exact ⟨_,by simp [AF],rfl,rfl,rfl⟩
  have Jc:∀ id ob,lk id [(d,Ob.row u xs)]=some ob->CF (ownB w0 M0) M w β τ [(d,.row u xs)] id ob:=by
   intro id ob h
   rw [AF] at h
   split at h
   ·rename_i e
    subst e
    cases h
    exact s.ob id _ hl
   ·simp [lk] at h
  obtain ⟨cs,hv,hr⟩:=Ch Jc 6 hv0 (RR.map hm hx)
  have hcells:(a.eval x).cells=cs.toArray:=by rw [hv];exact toV_cells hr
  refine ⟨a.eval x::vs,by simp [e1,List.zipIdx_cons],by simp [e2],?_,?_⟩
  ·intro v hv'
   rcases List.mem_cons.1 hv' with rfl | hv'
   ·rw [hcells];simpa using hr.length
   ·exact e3 v hv'
  ·simp only [List.flatMap_cons]
   exact ⟨_,_,rfl,by rw [hcells];exact hr,e4⟩
theorem LY {t:TypeId} {n:Nat} {parts:List (Nat×Operand)}:PC (fun β (k:((e:Ty)×List e.den)->Option β)=>El E t n parts id st fun e z=>k ⟨e,z⟩):=by
 unfold El
 split
 ·refine PC.bind (X:=(e:Ty)×List e.den) fun ty=>?_
  split
  ·exact PC.bind fun ys=>PC.bif (PC.ret _) PC.none
  ·exact PC.none
 ·exact PC.none
theorem MR (hE:AQ P E) (s:Sm w0 M0 N M β τ st a as w) (hd:∀ d,o.dst=some d->d < N) (hid:lk id st.l=none) {T:TypeId} {n:Nat} {parts:Array (Nat×Operand)} (hop:o.op=.buildSlice T n parts) {old:Nat} {e:Ty} {ys:List e.den}
  (h:El E T n parts.toList old st (fun e z=>some (⟨e,z⟩:(e:Ty)×List e.den))=some ⟨e,ys⟩):Gives P Q w0 M0 N o a as w (CV old st) id (.row id) (some (.row e ys)):=by
 unfold El at h
 split at h
 rotate_left
 ·cases h
 rename_i u xs hl
 obtain ⟨ty,hty,h⟩:=Option.bind_eq_some_iff.1 h
 have hT:=hE.tab _ _ hty
 have he:execOp a.eval o=(do pure (Next.value (← Instr.buildSlice T n (parts.map fun (i,x)=>(i,a.eval x))))):=by simp only [execOp,hop]
 have hparts:(parts.map fun (i,x)=>(i,a.eval x)).toList=parts.toList.map fun p=>(p.1,a.eval p.2):=by simp
 cases ty with
 | slice e'=>
  simp only at h
  obtain ⟨ys',hys,h⟩:=Option.bind_eq_some_iff.1 h
  obtain ⟨hc,h⟩:=AA h
  cases h
  simp only [Bool.and_eq_true] at hc
  have hlen:List.length ys=n:=Nat.eq_of_beq_eq_true hc.1
  have hn:=Nat.le_of_ble_eq_true hc.2.1
  obtain ⟨e',hu,hl'⟩:=hT.slice
  obtain ⟨ie,hie,hes,SE,_⟩:=(hE.tab _ _ hl').info
  obtain ⟨vs,e1,e2,e3,e4⟩:=Lv s hl hys
  have e2':vs.length=n:=by rw [e2];exact hlen
  have hpos:=Nat.le_of_ble_eq_true hc.2.2.1
  have hsm:=Nat.le_of_ble_eq_true hc.2.2.2
  have key:∃ cells:Array Value,(Instr.buildSlice T n (parts.map fun (i,x)=>(i,a.eval x))).run P w=.ok (.slice (some ⟨w.heap.size,0,none⟩) n n) (w.alloc (.cells cells e'))/\cells.toList=vs.flatMap fun v=>v.cells.toList:=by
   by_cases hp:n * ie.size=0
   ·have hn0:n=0:=by
     rw [hes] at hp
     rcases Nat.mul_eq_zero.1 hp with h | h <;> omega
    have hvs:vs=[]:=List.eq_nil_of_length_eq_zero (by rw [e2',hn0])
    subst hvs
    have hpz:parts = #[]:=by
     have:parts.toList=[]:=by simpa using e1
     exact Array.toList_eq_nil_iff.1 this
    subst hpz hn0
    exact ⟨(Array.range 0).map fun _=>default,by simp [Instr.buildSlice,run_underlying hu,sizeOf,typeInfo,hie,newRow,Instr.fill],by simp⟩
   ·have Nl:=Great.fill_whole (s:=ie.size) (by omega) vs ((Array.range (n * ie.size)).map ((toV e (zeroCells e)).cells[· % (toV e (zeroCells e)).cells.size]!)) (by rw [hes];exact e3) (by simp [e2'])
    exact ⟨_,run_buildSlice w T e' n _ _ ie _ hu hie SE (by rw [hes];omega) hp (by rw [hparts,e1];exact Nl),by simp⟩
  obtain ⟨cells,hrun,hcells⟩:=key
  have hrl:(vs.flatMap fun v=>v.cells.toList).length=n * e.n:=by rw [e4.length (fun _ _ r=>r.length),hlen]
  have s':=s.Wt hl
  refine F3 (M':=Ei M β τ [(old,.row u xs)]) s' hd (by rw [F6];split;rfl;rw [hid];rfl) (Mj s' _) ?_ (AU he hrun)
  have:=Kv (T:=e') (cap:=n) s'.mlt (cells:=cells) (by omega) (by simp only [maxLen];omega) (by rw [← Array.length_toList,hcells,hrl]) e4 (fun i hi=>by rw [← hcells];simp)
  rw [hlen] at this
  exact this
 | _=>simp at h
theorem Bw.mono {b0 b1:Nat->Prop} {t:Ty} {xs:List t.den} {v:Value} (h:Bw b0 M w t xs v) (hb:∀ b,Bp v=some b->b0 b->b1 b):Bw b1 M w t xs v:=by
 obtain ⟨a,cap,row,rfl,h1,h2,h3,h4,h5⟩:=h
 refine ⟨a,cap,row,rfl,h1,h2,h3,h4,fun a0 ha hc=>?_⟩
 obtain ⟨b,cur,T,rfl,g1,g2⟩:=h5 a0 ha hc
 subst ha
 exact ⟨b,cur,T,rfl,hb b (by simp [Bp];omega) g1,g2⟩
theorem Bw.Bp {b0:Nat->Prop} {t:Ty} {xs:List t.den} {v:Value} (h:Bw b0 M w t xs v) {b:Nat} (hb:Bp v=some b):b0 b:=by
 obtain ⟨a,cap,row,rfl,h1,h2,h3,h4,h5⟩:=h
 cases a with
 | none=>simp [Go.Lift.Bp] at hb
 | some a0=>
  by_cases hc:cap=0
  ·simp [Go.Lift.Bp,hc] at hb
  ·obtain ⟨b',cur,T,e,g1,g2⟩:=h5 a0 rfl (by omega)
   subst e
   simp [Go.Lift.Bp,hc] at hb
   subst hb
   exact g1
theorem Kq {L L':List (Nat×Ob)}:∀ {ps:List Pt} {x:Gf ps} {us:List Value},ps.all isHole=true->CZ M w β τ L (Jh ps x) us->CZ M w β' τ' L' (Jh ps x) us
 | [],_,[],_,_=>trivial
 | [],_,_::_,_,r=>r.elim
 | .hole t::ps,x,[],h,r=>r.elim
 | .hole t::ps,x,u::us,h,r=>⟨r.1,Kq (ps:=ps) (by simpa [isHole] using h) r.2⟩
 | .fix _::_,_,_,h,_=>by simp [isHole] at h
def WL (M0:Bs) (M:Own) (w:World) (v:Value):Bs:={ M:=M0.M,M1:=M,w1:=w,kp:=fun b=>b < w.heap.size/\Bp v≠some b }
theorem KL (hE:AQ P E) (s:Aa w0 M0 N st a as w) (hd:∀ d,o.dst=some d->d < N) {f:Operand} {args:Array Operand} {ts:Array TypeId} {g:FuncId} {caps:RV} {c:K7} (hop:o.op=.call { callee:=.value f,args:=args,argTypes:=ts })
  (hf:Ad none f st.s=.Dn g caps) (hc:lk g E.ow=some c) {d:Nat} (hdst:o.dst=some d) {q:(e:Ty)×List e.den×Option Nat} (h:GZ E c args ts caps st (fun e z old=>some ⟨e,z,old⟩)=some q) (K:Act->World->Prop)
  (hK:∀ a' w',Aa w0 M0 N (BQ (addN (newId st d) (.row q.1 q.2.1) (Ah (newId st d) (BX q.2.2 st))) (some d) (.row (newId st d))) a' as w'->K a' w'):o.wp P a w K Q:=by
 obtain ⟨M,β,τ,s⟩:=s
 unfold GZ at h
 split at h
 rotate_left
 ·cases h
 rename_i sx xs t us hargs hts
 obtain ⟨hcc,h⟩:=AA h
 simp only [Bool.and_eq_true] at hcc
 obtain ⟨X,hX,h⟩:=Option.bind_eq_some_iff.1 h
 obtain ⟨y,hy,h⟩:=Option.bind_eq_some_iff.1 h
 obtain ⟨z,hz,h⟩:=Option.bind_eq_some_iff.1 h
 cases h
 dsimp only at hK
 obtain ⟨hrow,Jc⟩:=Ma s hX (AP s.glob s.fr _ sx)
 have KM:=AP s.glob s.fr none f
 rw [hf] at KM
 simp only [RR] at KM
 obtain ⟨_,us',e,hcap⟩:=KM
 simp only [List.cons.injEq,and_true] at e
 obtain rfl:us'=[]:=hcap
 have hlen:xs.length=us.length:=Nat.eq_of_beq_eq_true hcc.1
 have hrel:=FM s (tab:=E.tab) hlen
 rw [MN hy] at hrel
 have hrun:(execOp a.eval o).run P w=.ok (.enter g (a.eval sx::xs.map a.eval).toArray) w:=by
  simp only [execOp,hop,resolve,e,Deferred.ofValue,Sem.run_bind,Sem.run_pure,Result.andThen_ok,invoke]
  rw [show (#[]++Array.map a.eval args++(#[]:Array Value))=(a.eval sx::xs.map a.eval).toArray by rw [← Array.toArray_toList (xs:=args),hargs];simp]
  exact (hE.ow g c hc).enters _ w
 have hbk:∀ b,Bp (a.eval sx)=some b->b < w.heap.size/\ownB w0 M0 b:=fun b hb=>by
  obtain ⟨i,ob,_,h2,h3⟩:=Jc b hb
  exact ⟨(s.block h2 h3).1,(s.block h2 h3).2.1⟩
 have start:∀ m,(a.eval sx::xs.map a.eval).length<=m->Sm w0 (WL M0 M w (a.eval sx)) m M (fun _=>(Bp (a.eval sx)).getD 0) (fun _=>a.eval sx) (K5 c.e c.fp X.1 y) (A8 (a.eval sx::xs.map a.eval) m) [] w:=fun m hm=>{
  df:=Bj fun _ h=>h.elim
  sz:=by simp [A8] at hm ⊢;omega
  Bc:=s.Bc
  mlt:=s.mlt
  Eh:=s.Eh
  gk:=s.gk
  gx:=Ext.refl M w
  kp:=fun b h=>⟨⟨rfl,h.1⟩,fun _ m=>m⟩
  Az:=s.Az
  fr:=fun i rv h=>by
   have hr:CZ M w (fun _=>(Bp (a.eval sx)).getD 0) (fun _=>a.eval sx) [(0,Ob.row c.e X.1)] (.row 0::Jh c.fp y) (a.eval sx::xs.map a.eval):=⟨by
    simp only [RR]
    refine ⟨rfl,_,_,_,rfl,?_,by rw [AF,if_pos rfl],rfl⟩
    obtain ⟨_,_,_,e1,_⟩:=hrow
    rw [e1]
    rfl,Kq hcc.2 hrel⟩
   obtain ⟨_,h1⟩:=Fq 0 (.row 0::Jh c.fp y) rv h
   obtain ⟨u,hu,r⟩:=H8 hr (by simpa using h1)
   exact ⟨u,enter_at (by simpa using hu),r⟩
  fs:=trivial
  ob:=fun id ob h=>by
   simp only [K5,AF] at h
   split at h
   ·rename_i hi
    cases h
    refine ⟨hrow.mono fun b hb h1=>⟨h1.1,fun h2=>h2.2 hb⟩,fun b hb=>by simp [hb]⟩
   ·cases h
  dj:=fun i j ob BS b h h' _ _=>by
   simp only [K5,AF] at h h'
   split at h
   ·split at h'
    ·rename_i h1 h2;rw [h1,h2]
    ·cases h'
   ·cases h }
 unfold Oper.wp
 rw [hrun,Oper.upon_enter]
 refine ((hE.ow g c hc).calls w0 _ M _ _ w _ X.1 y z (by
  have:=(Fg hrel)
  rw [KZ] at this
  simp [this]) start hz).mono ?_
 rintro e' w' ⟨u,M',β2,τ2,N',a',rfl,s2,hu⟩
 have UK:=s2.ob 0 _ (by rw [AF,if_pos rfl])
 simp only [CF] at UK
 rw [← hu] at UK
 have hoth:∀ b,b < w.heap.size->Bp (a.eval sx)≠some b->w'.heap[b]? = w.heap[b]?/\∀ o,M' b o->M b o:=fun b h1 h2=>⟨(s2.kp b ⟨h1,h2⟩).1.1,(s2.kp b ⟨h1,h2⟩).2⟩
 have hx':Bw (ownB w0 M0) M' w' c.e z u:=UK.1.mono fun b _ h1=>⟨h1.1,fun h2=>by
  have h3:=(s.kp b h2).1.2
  exact h1.2 ⟨h3,fun h4=>(hbk b h4).2.2 h2⟩⟩
 have key:∀ (st1:St),Sm w0 M0 N M β τ st1 a as w->(∀ j ob,lk j st1.l=some ob->(∀ i,X.2=some i->j≠i)/\∃ EU,lk j st.l=some EU/\blk β τ j ob=blk β τ j EU)->lk (newId st d) st1.l=none->
   Aa w0 M0 N (BQ (addN (newId st d) (.row c.e z) st1) (some d) (.row (newId st d))) (a.put o.dst u) as w':=by
  intro st1 s1 hsub hfree
  have s3:=s1.Ql (ob:=.row c.e z) (bn:=(Bp u).getD 0) (v:=u) hfree s2.gx s2.Bc s2.mlt s2.Az (fun b k=>hoth b (s.kp b k).1.2 fun hw=>(hbk b hw).2.2 k) (fun j ob b hl hb=>by
   obtain ⟨hne,EU,hl0,hb0⟩:=hsub j ob hl
   rw [hb0] at hb
   have hlt:=(s.block hl0 hb).1
   have hnw:Bp (a.eval sx)≠some b:=fun hw=>by
    obtain ⟨i',BS,h1,h2,h3⟩:=Jc b hw
    exact hne i' h1 (s.dj j i' EU BS b hl0 h2 hb h3)
   refine ⟨(hoth b hlt hnw).1,(hoth b hlt hnw).2,fun hw=>?_⟩
   exact (UK.1.Bp hw).2 ⟨hlt,hnw⟩) (fun β' τ' h1 h2 hm=>⟨by rw [h2];exact hx',fun b hb=>by rw [h2] at hb;rw [h1];simp [hb]⟩)
  rw [hdst]
  refine ⟨_,_,_,s3.set (some d) (fun i hi=>by cases hi;exact hd d hdst) ?_⟩
  simp only [RR,addN]
  refine ⟨rfl,u,c.e,z,rfl,?_,by simp [AF],by simp⟩
  obtain ⟨_,_,_,e1,_⟩:=hx'
  rw [e1]
  rfl
 refine hK _ _ (key _ ?_ ?_ (D5 _ _))
 ·cases X.2 with
  | none=>exact s.Ah _
  | some i'=>exact (s.kill i').Ah _
 ·intro j ob hl
  have free:∀ (st2:St),lk j (Ah (newId st d) st2).l=some ob->∃ EU,lk j st2.l=some EU/\blk β τ j ob=blk β τ j EU:=by
   intro st2 hl
   unfold Ah at hl
   split at hl
   ·exact ⟨ob,hl,rfl⟩
   ·obtain ⟨_,EU,h1,rfl⟩:=BZ hl
    exact ⟨EU,h1,Dc _ _⟩
  obtain ⟨EU,h1,h2⟩:=free _ hl
  cases hx2:X.2 with
  | none=>
   rw [hx2] at h1
   exact ⟨(fun i hi=>by cases hi),EU,h1,h2⟩
  | some i'=>
   rw [hx2] at h1
   obtain ⟨hne,N7,h3,rfl⟩:=BZ h1
   exact ⟨(fun i hi=>by cases hi;exact hne),N7,h3,by rw [h2,Dc]⟩
end
end Go.Lift
