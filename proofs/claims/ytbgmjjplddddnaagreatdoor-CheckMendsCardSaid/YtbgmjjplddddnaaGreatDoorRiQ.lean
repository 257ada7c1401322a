import Derived.Test.YtbgmjjplddddnaaGreatDoorRiM
set_option linter.unusedSimpArgs false
namespace Go.Lift
open Go.RowKit
section
variable {P:Program} {E:Bn} {Q:Exit->Act->World->Prop} {o:Oper} {w0:World} {M0:Bs} {N:Nat} {M M':Own} {β β':Nat->Nat} {τ τ':Nat->Value} {st st':St} {a:Act} {as:List Act} {w w':World} {id:Nat}
theorem enter_at {args:List Value} {m i:Nat} {u:Value} (h:args[i]? = some u):(CK args m).tmps[i]? = some u:=by
 have hlt:=(Ap.1 h).1
 simp only [CK]
 rw [Array.getElem?_append_left (by simpa using hlt)]
 simpa using h
theorem JB {L:List (Nat×Ob)}:∀ {CO:List RV} {us:List Value} {i:Nat} {rv:RV},Dh M w β τ L CO us->CO[i]? = some rv->∃ u,us[i]? = some u/\RR M w β τ L rv .sl [u]
 | [],[],i,rv,_,h=>by simp at h
 | r::rs,u::us,0,rv,h,e=>by simp at e;subst e;exact ⟨u,rfl,h.1⟩
 | r::rs,u::us,i+1,rv,h,e=>by simpa using JB h.2 (by simpa using e)
 | [],_::_,_,_,h,_=>h.elim
 | _::_,[],_,_,h,_=>h.elim
theorem Gm {L:List (Nat×Ob)}:∀ {CO:List RV} {us:List Value},Dh M w β τ L CO us->CO.length=us.length
 | [],[],_=>rfl
 | _::_,_::_,h=>by simp [Gm h.2]
 | [],_::_,h=>h.elim
 | _::_,[],h=>h.elim
theorem Gl {L:List (Nat×Ob)}:∀ {CO Xz:List RV} {us us':List Value},Dh M w β τ L CO us->Dh M w β τ L Xz us'->Dh M w β τ L (CO++Xz) (us++us')
 | [],_,[],_,_,h=>h
 | _::_,_,_::_,_,h,h'=>⟨h.1,Gl h.2 h'⟩
 | [],_,_::_,_,h,_=>h.elim
 | _::_,_,[],_,h,_=>h.elim
theorem Iy {L:List (Nat×Ob)}:∀ {r:RV} {CO:List RV} {us:List Value},GJ r=some CO->RR M w β τ L r .li us->Dh M w β τ L CO us:=by
 intro r
 induction r with
 | unit=>
  intro CO us h r
  cases h
  have:us=[]:=r
  subst this
  trivial
 | pair x y QN ihy=>
  intro CO us h r
  simp only [RR] at r
  obtain ⟨u,us',rfl,r1,r2⟩:=r
  simp only [GJ] at h
  obtain ⟨rs,h1,h⟩:=AO.1 h
  cases h
  exact ⟨r1,ihy h1 r2⟩
 | _=>intro CO us h;cases h
theorem GU (s:Sm w0 M0 N M β τ st a as w) {tab:List (TypeId×Ty)}:∀ {xs:List Operand} {ts:List TypeId},xs.length=ts.length->Dh M w β τ st.l ((xs.zip ts).map fun p=>Bf (lk p.2 tab) p.1 st.s) (xs.map a.eval)
 | [],[],_=>trivial
 | x::xs,t::ts,h=>⟨BR s.glob s.fr _ x,GU s (by simpa using h)⟩
 | [],_::_,h=>by simp at h
 | _::_,[],h=>by simp at h
theorem RR.Zm {L:List (Nat×Ob)} (h:∀ (id:Nat) (t:Ty) (xs:List t.den),lk id L=some (.row t xs)->τ' id=τ id):∀ {rv:RV} {m:Mo} {cs:List Value},RR M w β τ L rv m cs->RR M w β τ' L rv m cs:=by
 intro rv
 induction rv with
 | any=>intro m cs r;cases m <;> exact r
 | nil t=>intro m cs r;cases m <;> exact r
 | val v=>intro m cs r;cases m <;> exact r
 | row id=>intro m cs r;simp only [RR] at r ⊢;obtain ⟨h1,u,t,xs,e,ho,hl,hu⟩:=r;exact ⟨h1,u,t,xs,e,ho,hl,by rw [h id t xs hl];exact hu⟩
 | sub id lo hi=>intro m cs r;simp only [RR] at r ⊢;obtain ⟨h1,u,t,xs,e,ho,hl,h2,h3,hu⟩:=r;exact ⟨h1,u,t,xs,e,ho,hl,h2,h3,by rw [h id t xs hl];exact hu⟩
 | loc id p=>intro m cs r;simpa only [RR] using r
 | Ee f c ih=>intro m cs r;simp only [RR] at r ⊢;obtain ⟨h1,us,e,r⟩:=r;exact ⟨h1,us,e,ih r⟩
 | unit=>intro m cs r;cases m <;> exact r
 | pair a b iha ihb=>
  intro m cs r
  cases m with
  | sl=>exact r
  | li=>simp only [RR] at r ⊢;obtain ⟨u,us,e,r1,r2⟩:=r;exact ⟨u,us,e,iha r1,ihb r2⟩
  | ce t=>simp only [RR] at r ⊢;obtain ⟨ta,tb,c1,c2,e1,e2,r1,r2⟩:=r;exact ⟨ta,tb,c1,c2,e1,e2,iha r1,ihb r2⟩
 | agg t r ih=>intro m cs r;simp only [RR] at r ⊢;obtain ⟨h1,h2,c,e,r⟩:=r;exact ⟨h1,h2,c,e,ih r⟩
 | Db r ih=>intro m cs r;simp only [RR] at r ⊢;obtain ⟨h1,us,e,r⟩:=r;exact ⟨h1,us,e,ih r⟩
 | mp id=>intro m cs r;simpa only [RR] using r
 | yl id=>intro m cs r;simpa only [RR] using r
theorem F3:∀ {n:Nat} {bs:List Bt} {d:FH bs} {j:Nat} {ob:Ob},lk j (FE n bs d)=some ob->n<=j/\j < n+bs.length/\(FE n bs d)[j - n]? = some (j,ob)/\∃ (b:Bt) (x:b.D),b∈bs/\ob=Uv b x
 | _,[],_,_,_,h=>by simp [FE,lk] at h
 | n,b::bs,d,j,ob,h=>by
  simp only [FE,BN] at h
  split at h
  ·rename_i e
   subst e
   cases h
   exact ⟨Nat.le_refl _,by simp,by simp [FE],b,d.1,by simp,rfl⟩
  ·obtain ⟨h1,h2,h3,b',x,h4,h5⟩:=F3 h
   refine ⟨by omega,by simp;omega,?_,b',x,by simp [h4],h5⟩
   rw [show j - n=(j - (n+1))+1 by omega]
   simpa [FE] using h3
theorem Ej:∀ {n:Nat} {bs:List Bt} {d:FH bs} {j:Nat},n<=j->j < n+bs.length->∃ ob,lk j (FE n bs d)=some ob
 | _,[],_,_,h1,h2=>by simp at h2;omega
 | n,b::bs,d,j,h1,h2=>by
  simp only [FE,BN]
  split
  ·exact ⟨_,rfl⟩
  ·exact Ej (by omega) (by simp at h2;omega)
theorem Nu:∀ {n:Nat} {bs:List Bt} {d:FH bs} {j:Nat} {t:Ty} {xs:List t.den},F7 bs d=true->lk j (FE n bs d)=some (.row t xs)->1<=xs.length
 | _,[],_,_,_,_,_,h=>by simp [FE,lk] at h
 | n,b::bs,d,j,t,xs,hr,h=>by
  simp only [FE,BN] at h
  split at h
  ·cases b with
   | row t'=>
    cases h
    simp only [F7,AP] at hr
    exact Ak hr.1
   | _=>cases h
  ·cases b with
   | row t'=>simp only [F7,AP] at hr;exact Nu hr.2 h
   | _=>exact Nu (bs:=bs) (d:=d.2) hr h
theorem PV {b0:Nat->Prop} {t:Ty} {xs:List t.den} {v:Value} (h:DJ b0 M w t xs v) (hn:1<=xs.length):∃ b,C8 v=some b:=by
 obtain ⟨a,cap,row,rfl,h1,h2,h3,_⟩:=h
 cases a with
 | none=>have:=h3 rfl;omega
 | some a=>exact ⟨a.block,by simp [C8];omega⟩
theorem PU {b0 Us:Nat->Prop} {t:Ty} {xs:List t.den} {v:Value} (h:DJ b0 M w t xs v) (hb:∀ b,C8 v=some b->Us b):DJ Us M w t xs v:=by
 obtain ⟨a,cap,row,rfl,h1,h2,h3,h4,h5⟩:=h
 refine ⟨a,cap,row,rfl,h1,h2,h3,h4,fun a0 ha hc=>?_⟩
 obtain ⟨b,cur,T,e,_,g⟩:=h5 a0 ha hc
 exact ⟨b,cur,T,e,hb b (by rw [ha,e];simp [C8];omega),g⟩
theorem UW {b0 Us:Nat->Prop} {M':Own} {w':World} {t t':Ty} {xs:List t.den} {ys:List t'.den} {v:Value} (h:DJ b0 M w t xs v) (h':DJ Us M' w' t' ys v):xs.length=ys.length:=by
 obtain ⟨a,cap,row,e,_⟩:=h
 obtain ⟨a',cap',row',e',_⟩:=h'
 rw [e] at e'
 simp only [Value.slice.injEq] at e'
 exact e'.2.1
theorem Oy {b:Bt} {x:b.D} {c:RV} {q:LQ}:Uv b x≠.lp c q:=by cases b <;> intro h <;> cases h
theorem SG {b:Bt} {x:b.D} {t:Ty} {con:RV} (hb:Qd b=true) (h:Uv b x=.var t con):Dk con=true:=by
 cases b with
 | var t' p=>
  cases h
  cases p with
  | hole t=>rfl
  | fix r=>exact hb
 | mp=>cases h
 | row=>cases h
theorem NI:∀ {n:Nat} {bs:List Bt} {d:FH bs} {w:Nat} {z:wD bs w} {ob:Ob},lk (n+w) (FE n bs d)=some ob->(∀ t xs xs',JJ bs w z=.row t xs->ob=.row t xs'->List.length xs=List.length xs')->(JJ bs w z).shape=ob.shape
 | _,[],_,_,z,_,_,_=>nomatch z
 | n,b::bs,d,0,z,ob,h,hl=>by
  simp [FE,BN] at h
  subst h
  cases b with
  | row t=>
   have:=hl t z d.1 rfl rfl
   simp only [JJ,Uv,Ob.shape,this]
  | _=>rfl
 | n,b::bs,d,w+1,z,ob,h,hl=>by
  simp only [FE,BN] at h
  rw [AX (by omega),show n+(w+1)=(n+1)+w by omega] at h
  exact NI (w:=w) (z:=z) h hl
theorem Qt:∀ {bs:List Bt} {w:Nat} (_:wD bs w),w < bs.length
 | [],_,z=>nomatch z
 | _::_,0,_=>by simp
 | _::bs,w+1,z=>by have:=Qt (bs:=bs) (w:=w) z;simp;omega
theorem Uo {b0 Us:Nat->Prop} {L L':List (Nat×Ob)} {id':Nat}:∀ {bs:List Bt} {n:Nat} {z:wD bs n},K8 bs n=true->DN b0 M w β τ L id (JJ bs n z)->β' id'=β id->Us (β' id')->(∀ t xs,JJ bs n z=.row t xs->τ' id'=τ id)->DN Us M w β' τ' L' id' (JJ bs n z)
 | [],_,z,_,_,_,_,_=>nomatch z
 | b::_,0,z,hf,h,he,hb,ht=>by
  simp only [JJ] at h ⊢
  cases b with
  | var t p=>
   cases p with
   | hole t'=>
    obtain ⟨_,⟨cs,T,h1,h2⟩,h3⟩:=h
    exact ⟨hb,⟨cs,T,by rw [he];exact h1,h2⟩,by rw [he];exact h3⟩
   | fix r=>simp [K8,Vp] at hf
  | mp kt vt=>
   obtain ⟨_,⟨arr,clock,h1,h2⟩,h3⟩:=h
   exact ⟨hb,⟨arr,clock,by rw [he];exact h1,h2⟩,by rw [he];exact h3⟩
  | row t=>
   obtain ⟨h1,h2⟩:=h
   have ht:=ht t z rfl
   exact ⟨by rw [ht];exact PU h1 fun b hb'=>by rw [h2 b hb',← he];exact hb,fun b hb'=>by rw [he];exact h2 b (by rw [← ht];exact hb')⟩
 | _::bs,n+1,z,hf,h,he,hb,ht=>Uo (bs:=bs) (n:=n) (z:=z) hf h he hb ht
theorem Ns {α γ:Type} (g:Nat->α->γ) (i:Nat):∀ (s:List (Nat×α)),lk i (s.map fun p=>(p.1,g p.1 p.2))=(lk i s).map (g i)
 | []=>rfl
 | p::s=>by
  simp only [List.map_cons,BN]
  split
  ·rename_i e
   subst e
   rw [BN,AY rfl]
   rfl
  ·rename_i e
   rw [BN,AX e]
   exact Ns g i s
def Vk (β:Nat->Nat) (τ:Nat->Value) (p:Nat×Ob):Value:=match p.2 with
 | .row _ _=>τ p.1
 | .mp _ _ _=>.map (some (β p.1))
 | _=>.pointer (some ⟨β p.1,0,none⟩)
def X7 (β:Nat->Nat) (τ:Nat->Value) (l:List (Nat×Ob)):Act:={ tmps:=(l.map (Vk β τ)).toArray,defers:=[] }
theorem O5 {t:Ty} {con:RV}:Dl (Ob.var t con).shape []=some (0,t):=by
 simp only [Ob.shape,Dl]
 cases t <;> rfl
def NS (M0:Bs) (M:Own) (w:World) (β:Nat->Nat) (n:Nat):Bs:={ M:=M0.M,M1:=M,w1:=w,kp:=fun b=>b < w.heap.size/\∀ j,j < n->b≠β j }
theorem Uh (s:Sm w0 M0 N M β τ st a as w) {c:FB} {x:IC c.fp} {y:FH c.bp} {us:List Value} {m:Nat} (hl:st.l=FE 0 c.bp y) (hr:Dh M w β τ st.l (KU c.fp x) us) (hm:us.length<=m) :
  Sm w0 (NS M0 M w β c.bp.length) m M β τ (IY c x y) (CK us m) [X7 β τ (FE 0 c.bp y)] w where
 df:=Cw fun _ h=>h.elim
 sz:=by simp [CK];omega
 Cq:=s.Cq
 mlt:=s.mlt
 Fg:=s.Fg
 gk:=s.gk
 gx:=Ext.refl M w
 kp:=fun b h=>⟨⟨rfl,h.1⟩,fun _ m=>m⟩
 CJ:=s.CJ
 fr:=fun i rv h=>by
  obtain ⟨_,h1⟩:=Gs 0 (KU c.fp x) rv h
  obtain ⟨u,hu,r⟩:=JB hr (by simpa using h1)
  exact ⟨u,enter_at (by simpa using hu),by simp only [IY];rw [← hl];exact r⟩
 fs:=by
  refine ⟨fun i rv h=>?_,trivial⟩
  simp only [Vj] at h
  rw [Ns] at h
  cases hi:lk i (FE 0 c.bp y) with
  | none=>rw [hi] at h;cases h
  | some ob=>
   rw [hi] at h
   cases h
   obtain ⟨_,_,h3,b,d,_,rfl⟩:=F3 hi
   refine ⟨Vk β τ (i,Uv b d),by simpa [X7] using congrArg (Option.map (Vk β τ)) h3,?_⟩
   simp only [IY]
   cases b with
   | var t p=>exact LV hi O5
   | mp kt vt=>simp only [Mr,Uv,RR];exact ⟨rfl,_,kt,vt,d,rfl,rfl,hi,rfl⟩
   | row t=>
    simp only [Mr,Uv,RR]
    obtain ⟨⟨a,cap,row,e,_⟩,_⟩:=s.ob i _ (by rw [hl];exact hi)
    exact ⟨rfl,_,t,d,rfl,by simp only [Vk,e];rfl,hi,rfl⟩
 ob:=fun id ob h=>by
  simp only [IY] at h ⊢
  have KP:=s.ob id ob (by rw [hl];exact h)
  obtain ⟨_,h2,_,b,d,_,rfl⟩:=F3 h
  have hn:∀ b,ownB w0 M0 b->b=β id->ownB w0 (NS M0 M w β c.bp.length) b:=fun b h1 h3=>⟨h1.1,fun h4=>h4.2 id (by simpa using h2) h3⟩
  cases b with
  | var t p=>
   obtain ⟨h4,h5,h6⟩:=KP
   exact ⟨hn _ h4 rfl,by rw [hl] at h5;exact h5,h6⟩
  | mp kt vt=>
   obtain ⟨h4,h5,h6⟩:=KP
   exact ⟨hn _ h4 rfl,h5,h6⟩
  | row t=>
   obtain ⟨h4,h5⟩:=KP
   refine ⟨?_,h5⟩
   obtain ⟨a,cap,row,e,g1,g2,g3,g4,g6⟩:=h4
   refine ⟨a,cap,row,e,g1,g2,g3,g4,fun a0 ha hc=>?_⟩
   obtain ⟨b,cur,T,e',k1,k2⟩:=g6 a0 ha hc
   exact ⟨b,cur,T,e',hn b k1 (h5 b (by rw [e,ha,e'];simp [C8];omega)),k2⟩
 dj:=fun i j ob Ci b h1 h2=>s.dj i j ob Ci b (by rw [hl];exact h1) (by rw [hl];exact h2)
theorem PL {f:Nat->Option Nat} {L L':List (Nat×Ob)} (h:CX f L β τ L' β' τ'):∀ {CO:List RV} {us:List Value},Dh M w β τ L CO us->Dh M w β' τ' L' (CO.map (Ba f)) us
 | [],[],_=>trivial
 | _::_,_::_,r=>⟨RR.map h r.1,PL h r.2⟩
 | [],_::_,r=>r.elim
 | _::_,[],r=>r.elim
theorem LZ:∀ {ps:List Pt} {x:IC ps},(KU ps x).length=ps.length
 | [],_=>rfl
 | _::ps,x=>by simp [KU,LZ (ps:=ps)]
theorem Pk {b0:Nat} {L:List (Nat×Ob)}:∀ {rs:List Ty} {r:BP rs} {us:List Value},Df b0 M w rs [] r us->Dh M w β τ L (Rh rs r) us
 | [],_,us,h=>by
  simp only [Df] at h
  subst h
  trivial
 | [t],r,us,h=>by
  obtain ⟨u,rfl,h⟩:=h
  exact ⟨⟨u,rfl,Dm h rfl⟩,trivial⟩
 | t::t'::ts,r,us,h=>by
  obtain ⟨u,us',rfl,h1,h2⟩:=h
  exact ⟨⟨u,rfl,Dm h1 rfl⟩,Pk (rs:=t'::ts) h2⟩
theorem UN {c:FB} {args:Array Operand} {ts:Array TypeId} {caps:RV} {α:Type} {k:Nat->Ob->RV->Option α} {q:α} (h:KX E c args ts caps st k=some q) :
  args.size=ts.size/\UM c=true/\∃ cs x y z r id,GJ caps=some cs/\
   OT c.fp ((((args.toList.zip ts.toList).map fun p=>Bf (lk p.2 E.tab) p.1 st.s)++cs).map (Ba fun id=>D7 id (FM st.l (((args.toList.zip ts.toList).map fun p=>Bf (lk p.2 E.tab) p.1 st.s)++cs)) 0))=some x/\
   WA 0 c.bp (Ep (fun id=>D7 id (FM st.l (((args.toList.zip ts.toList).map fun p=>Bf (lk p.2 E.tab) p.1 st.s)++cs)) 0) st.l (FM st.l (((args.toList.zip ts.toList).map fun p=>Bf (lk p.2 E.tab) p.1 st.s)++cs)) 0)=some y/\F7 c.bp y=true/\
   c.F x y=some (z,r)/\(FM st.l (((args.toList.zip ts.toList).map fun p=>Bf (lk p.2 E.tab) p.1 st.s)++cs))[c.w]? = some id/\k id (JJ c.bp c.w z) (Gn (Rh c.rs r))=some q:=by
 unfold KX at h
 obtain ⟨h1,h⟩:=BL h
 simp only [AP] at h1
 obtain ⟨cs,h2,h⟩:=AO.1 h
 unfold Vd at h
 obtain ⟨x,h3,h⟩:=AO.1 h
 obtain ⟨y,h4,h⟩:=AO.1 h
 obtain ⟨hne,h⟩:=BL h
 obtain ⟨⟨z,r⟩,h5,h⟩:=AO.1 h
 obtain ⟨id,h6,h⟩:=AO.1 h
 rw [RG] at h6
 exact ⟨Aa h1.1,h1.2,cs,x,y,z,r,id,h2,h3,h4,hne,h5,h6,h⟩
theorem N9 {c:FB} {args:Array Operand} {ts:Array TypeId} {caps:RV}:PC (fun β (k:Nat×Ob×RV->Option β)=>KX E c args ts caps st fun id ob rv=>k (id,ob,rv)):=by
 unfold KX Vd
 exact PC.bif (PC.bind fun cs=>PC.bind (X:=Nat×Ob×RV) fun x=>PC.bind (X:=Nat×Ob×RV) fun y=>PC.bif (PC.bind fun r=>PC.bind fun id=>PC.ret _) PC.none) PC.none
theorem Jr (hE:BS P E) (s:Sm w0 M0 N M β τ st a as w) {f:Operand} {args:Array Operand} {ts:Array TypeId} {g:FuncId} {caps:RV} {c:FB} (hop:o.op=.call { callee:=.value f,args:=args,argTypes:=ts })
  (hf:Bf none f st.s=.Ee g caps) (hc:lk g E.rcs=some c) {id:Nat} {ob:Ob} {rv:RV} (h:KX E c args ts caps st (fun id ob rv=>some (id,ob,rv))=some (id,ob,rv)) (K:Act->World->Prop)
  (hK:∀ M' v w',Sm w0 M0 N M' β τ (Bl id ob st) a as w'->RR M' w' β τ (Bl id ob st).l rv .sl [v]->K (a.put o.dst v) w'):(lk id st.l).isSome=true/\o.wp P a w K Q:=by
 obtain ⟨hsz,hB,cs,x,y,z,r,id',hcs,hx,hy,hne,hF,hid,e⟩:=UN h
 simp only [Ac,Prod.mk.injEq] at e
 obtain ⟨e1,rfl,rfl⟩:=e
 subst e1
 generalize Ut:((args.toList.zip ts.toList).map fun p=>Bf (lk p.2 E.tab) p.1 st.s)++cs=CO at hx hy hid
 generalize Xg:FM st.l CO=ids at hx hy hid
 have LC:=BR s.glob s.fr none f
 rw [hf] at LC
 simp only [RR] at LC
 obtain ⟨_,us,e,hcap⟩:=LC
 simp only [List.cons.injEq,and_true] at e
 have hrel:Dh M w β τ st.l CO (args.toList.map a.eval++us):=by
  rw [← Ut]
  exact Gl (GU s (by simpa using hsz)) (Iy hcs hcap)
 have s1:=s.ren ids
 have hL:(IB ids st).l=FE 0 c.bp y:=S9 hy
 have hm:CX (fun id=>D7 id ids 0) st.l β τ (IB ids st).l (fun j=>β ((ids[j]?).getD 0)) (fun j=>τ ((ids[j]?).getD 0)):=by
  intro i j ob hf hl
  obtain ⟨_,h⟩:=G5 hf
  simp only [Nat.sub_zero] at h
  exact ⟨_,Lr ids 0 j i ob (Nat.zero_le _) (by simpa using h) hf hl,EK _ _,by simp [h],by simp [h]⟩
 have Ml:=PL hm hrel
 rw [NP hx] at Ml
 have hrec:=hE.rcs g c hc
 have hrun:(execOp a.eval o).run P w=.ok (.enter g (args.toList.map a.eval++us).toArray) w:=by
  simp only [execOp,hop,resolve,e,Deferred.ofValue,Sem.run_bind,Sem.run_pure,Result.andThen_ok,invoke]
  rw [show (#[]++Array.map a.eval args++us.toArray)=(args.toList.map a.eval++us).toArray by simp [← Array.toList_map]]
  exact hrec.enters _ w
 have hw:=Qt z
 have named:∀ j Ci,lk j (FE 0 c.bp y)=some Ci->∃ i FR,ids[j]? = some i/\D7 i ids 0=some j/\lk i st.l=some FR/\Ci=Bz (fun id=>D7 id ids 0) FR:=by
  intro j Ci h
  rw [← hL] at h
  obtain ⟨_,i,FR,h1,h2⟩:=OA ids 0 j Ci h
  exact ⟨i,FR,by simpa using h1,h2⟩
 obtain ⟨ZL,R3⟩:=Ej (n:=0) (d:=y) (Nat.zero_le c.w) (by simpa using hw)
 obtain ⟨iw,FR,g1,g2,g3,g4⟩:=named c.w ZL R3
 obtain rfl:iw=id':=Ar (g1.symm.trans hid)
 refine ⟨by rw [g3];rfl,?_⟩
 unfold Oper.wp
 rw [hrun,Oper.upon_enter]
 refine (hrec.calls w0 _ M _ _ _ w _ x y z r hne ((Gm Ml).symm.trans LZ) (fun m hm=>Uh s1 hL Ml hm) hF).mono ?_
 rintro e w' ⟨us',M',β2,τ2,N',a',rfl,s2,⟨hβ,hτ⟩,hres⟩
 have hL2:∀ j,lk j (En c.w (JJ c.bp c.w z) (FE 0 c.bp y))=if j=c.w then some (JJ c.bp c.w z) else lk j (FE 0 c.bp y):=fun j=>by
  rw [DR,R3]
  rfl
 have ZW:∀ j Ci,lk j (En c.w (JJ c.bp c.w z) (FE 0 c.bp y))=some Ci->j < c.bp.length:=by
  intro j Ci h
  rw [hL2] at h
  split at h
  ·rename_i e;rw [e];exact hw
  ·simpa using (F3 h).2.1
 have TW:(JJ c.bp c.w z).shape=ZL.shape:=NI (n:=0) (d:=y) (by rw [Nat.zero_add];exact R3) fun t xs xs' e1 e2=>by
  have k1:=(s2.ob c.w (.row t xs) (by rw [hL2,AY rfl,e1])).1
  have k2:=(s1.ob c.w (.row t xs') (by rw [hL,R3,e2])).1
  rw [hτ c.w t xs' (by rw [R3,e2])] at k1
  exact UW k1 k2
 have WW:(JJ c.bp c.w z).shape=FR.shape:=by
  rw [TW,g4,EK]
 have hblk:∀ i o' j,lk i st.l=some o'->ids[j]? = some i->lk j (FE 0 c.bp y)=some (Bz (fun id=>D7 id ids 0) o')->blk β τ i o'=some (β i):=by
  intro i o' j hl hi h1
  cases o' with
  | var t c=>rfl
  | mp kt vt es=>rfl
  | lp c q=>rfl
  | row t xs=>
   obtain ⟨k1,k2⟩:=s.ob i _ hl
   obtain ⟨b,hb⟩:=PV k1 (Nu hne h1)
   simp only [blk]
   rw [hb,k2 b hb]
 have Yl:∀ (i:Nat) (Ci:Ob) (b:Nat),lk i st.l=some Ci->blk β τ i Ci=some b->(∀ j,j < c.bp.length->ids[j]?≠some i)->(NS M0 M w (fun j=>β ((ids[j]?).getD 0)) c.bp.length).kp b:=by
  intro i Ci b hl hb hn
  refine ⟨(s.block hl hb).1,fun j hj hbj=>?_⟩
  obtain ⟨O1,h1⟩:=Ej (n:=0) (d:=y) (Nat.zero_le j) (by simpa using hj)
  obtain ⟨i2,Vx,k1,k2,k3,k4⟩:=named j O1 h1
  obtain ⟨_,_,_,b',x',_,h5⟩:=F3 h1
  have hb2:blk β τ i2 Vx=some b:=by
   rw [hbj]
   simp only [k1,BG]
   exact hblk i2 Vx j k3 k1 (by rw [h1,k4])
  have:=s.dj i i2 Ci Vx b hl k3 hb hb2
  subst this
  exact hn j hj k1
 have Xh:∀ b,(NS M0 M w (fun j=>β ((ids[j]?).getD 0)) c.bp.length).kp b->w'.heap[b]? = w.heap[b]?/\∀ o,M' b o->M b o:=fun b h=>⟨(s2.kp b h).1.1,(s2.kp b h).2⟩
 have Rx:∀ j,lk j (Bl iw (JJ c.bp c.w z) st).l=if j=iw then some (JJ c.bp c.w z) else lk j st.l:=fun j=>by
  simp only [Bl]
  rw [DR,g3]
  rfl
 have hm2:CX some st.l β τ (Bl iw (JJ c.bp c.w z) st).l β τ:=by
  intro i j o' hf' hi
  cases hf'
  by_cases h:i=iw
  ·subst h
   obtain rfl:=Ar (hi.symm.trans g3)
   exact ⟨_,by rw [Rx,AY rfl],WW,rfl,rfl⟩
  ·exact ⟨o',by rw [Rx,AX h];exact hi,rfl,rfl,rfl⟩
 have hback:CX (fun j=>ids[j]?) (En c.w (JJ c.bp c.w z) (FE 0 c.bp y)) β2 (fun j=>τ ((ids[j]?).getD 0)) (Bl iw (JJ c.bp c.w z) st).l β τ:=by
  intro j i Ci hf' hl'
  have hf':ids[j]? = some i:=hf'
  have hj:=ZW j Ci hl'
  rw [hL2] at hl'
  by_cases WT:j=c.w
  ·rw [AY WT] at hl'
   cases hl'
   have:i=iw:=by rw [WT] at hf';exact Ar (hf'.symm.trans g1)
   subst this
   exact ⟨_,by rw [Rx,AY rfl],rfl,by rw [hβ j hj];simp [hf'],by simp [hf']⟩
  ·rw [AX WT] at hl'
   obtain ⟨i',o0,k1,k2,k3,k4⟩:=named j Ci hl'
   obtain rfl:=Ar (hf'.symm.trans k1)
   have hne:i≠iw:=fun e=>by
    subst e
    exact WT (Ar (k2.symm.trans g2))
   exact ⟨o0,by rw [Rx,AX hne];exact k3,by rw [k4,EK],by rw [hβ j hj];simp [hf'],by simp [hf']⟩
 have WX:∀ (j:Nat) (t:Ty) (xs:List t.den),lk j (En c.w (JJ c.bp c.w z) (FE 0 c.bp y))=some (.row t xs)->τ ((ids[j]?).getD 0)=τ2 j:=by
  intro j t xs h
  rw [hL2] at h
  split at h
  ·rename_i e
   subst e
   rw [Ar h] at TW
   obtain ⟨ys,e,_⟩:=Hq TW.symm
   exact (hτ c.w t ys (by rw [R3,e])).symm
  ·exact (hτ j t xs h).symm
 have hbk:∀ i o' j,lk i st.l=some o'->j < c.bp.length->ids[j]? = some i->blk β τ i o'=some (β i)/\lk j (FE 0 c.bp y)=some (Bz (fun id=>D7 id ids 0) o')/\∀ t con,o'=.var t con->Dk (Ba (fun id=>D7 id ids 0) con)=true:=by
  intro i o' j hl hj hi
  obtain ⟨O1,h1⟩:=Ej (n:=0) (d:=y) (Nat.zero_le j) (by simpa using hj)
  obtain ⟨i2,Vx,k1,k2,k3,k4⟩:=named j O1 h1
  obtain rfl:=Ar (hi.symm.trans k1)
  obtain rfl:=Ar (hl.symm.trans k3)
  obtain ⟨_,_,_,b',x',hb',h5⟩:=F3 h1
  rw [k4] at h5
  refine ⟨?_,by rw [h1,k4],?_⟩
  ·exact hblk i o' j hl hi (by rw [h1,k4])
  ·rintro t con rfl
   have hall:c.bp.all Qd=true:=by
    simp only [UM,AP] at hB
    exact hB.1
   exact SG (List.all_eq_true.1 hall b' hb') h5.symm
 obtain ⟨hbw,_,_⟩:=hbk iw FR c.w g3 hw g1
 have TU:K8 c.bp c.w=true:=by
  simp only [UM,AP] at hB
  exact hB.2
 refine hK M' _ w' (s.gen (f:=some) s2.gx s2.Cq s2.mlt s2.CJ (fun b hb=>Xh b ⟨(s.kp b hb).1.2,fun j hj e=>?_⟩) hm2 (Cg _).symm (Cv _).symm ?_ ?_) (JC (Pk hres))
 ·obtain ⟨O1,h1⟩:=Ej (n:=0) (d:=y) (Nat.zero_le j) (by simpa using hj)
  obtain ⟨i2,Vx,k1,k2,k3,k4⟩:=named j O1 h1
  obtain ⟨h2,_,_⟩:=hbk i2 Vx j k3 hj k1
  have h3:=(s.block k3 h2).2.1
  simp only [k1,BG] at e
  rw [← e] at h3
  exact h3.2 hb
 ·intro i o' h
  rw [Rx] at h
  by_cases hi:i=iw
  ·rw [AY hi] at h
   cases h
   subst hi
   have h1:=s2.ob c.w _ (by rw [hL2,AY rfl])
   refine Uo TU h1 ?_ (s.block g3 hbw).2.1 fun t xs e=>?_
   ·rw [hβ c.w hw]
    simp [g1]
   ·have:=WX c.w t xs (by rw [hL2,AY rfl,e])
    rw [← this]
    simp [g1]
  ·rw [AX hi] at h
   by_cases hn:∃ j,j < c.bp.length/\ids[j]? = some i
   ·obtain ⟨j,hj,hji⟩:=hn
    obtain ⟨k1,k2,k3⟩:=hbk i o' j h hj hji
    have WT:j≠c.w:=fun e=>by
     subst e
     exact hi (Ar (hji.symm.trans g1))
    have h1:=s2.ob j _ (by rw [hL2,AX WT];exact k2)
    have YN:β2 j=β i:=by rw [hβ j hj];simp [hji]
    have hown:=(s.block h k1).2.1
    cases o' with
    | row t xs=>
     obtain ⟨h3,h4⟩:=h1
     have h6:τ i=τ2 j:=by
      rw [← WX j t xs (by rw [hL2,AX WT];exact k2)]
      simp [hji]
     exact ⟨by rw [h6];exact PU h3 fun b hb=>by rw [h4 b hb,YN];exact hown,fun b hb=>by rw [← YN];exact h4 b (by rw [← h6];exact hb)⟩
    | mp kt vt es=>
     obtain ⟨_,h3,h4⟩:=h1
     rw [YN] at h3 h4
     exact ⟨hown,h3,h4⟩
    | lp c q=>
     obtain ⟨_,_,_,b',x',_,h5⟩:=F3 k2
     exact absurd h5.symm Oy
    | var t con=>
     obtain ⟨_,⟨cs,T,h2,h3⟩,h4⟩:=h1
     rw [YN] at h2 h4
     refine ⟨hown,⟨cs,T,h2,?_⟩,h4⟩
     have h5:=RR.map hback (RR.Zm (τ':=fun j=>τ ((ids[j]?).getD 0)) (fun i t xs hr=>WX i t xs hr) h3)
     rwa [SC (fun i j hij=>by
      obtain ⟨_,h⟩:=G5 hij
      simpa using h) con (k3 t con rfl)] at h5
   ·have:=DN.map (f:=some) s2.gx hm2 rfl h (s.ob i o' h) fun b hb=>Xh b (Yl i o' b h hb fun j hj hji=>hn ⟨j,hj,hji⟩)
    rwa [CW] at this
 ·intro j j' o1 Zp b2 h h' hb1 hb2
  rw [Rx] at h h'
  have Iq:∀ {j o},(if j=iw then some (JJ c.bp c.w z) else lk j st.l)=some o->blk β τ j o=some b2->∃ o0,lk j st.l=some o0/\blk β τ j o0=some b2:=by
   intro j o hh hb2
   by_cases hj:j=iw
   ·rw [AY hj] at hh
    subst hj
    obtain rfl:=Ar hh
    refine ⟨_,g3,?_⟩
    rw [hbw,← hb2]
    cases hz:JJ c.bp c.w z with
    | var t con=>rfl
    | row t xs=>
     rw [hz] at WW
     obtain ⟨ys,e,_⟩:=Hq WW.symm
     rw [e] at hbw
     exact hbw.symm
    | mp kt vt es=>rfl
    | lp c q=>rfl
   ·rw [AX hj] at hh
    exact ⟨o,hh,hb2⟩
  obtain ⟨o0,k1,k2⟩:=Iq h hb1
  obtain ⟨SK,k1',k2'⟩:=Iq h' hb2
  exact s.dj j j' o0 SK b2 k1 k1' k2 k2'
theorem Sm.Xq (s:Sm w0 M0 N M β τ st a as w) {d:Nat} {FR:Ob} (hl:lk d st.l=some FR):Sm w0 M0 N (Fh M β τ [(d,FR)]) β τ (Da d st) a as w:=by
 have inv:∀ {b o},Fh M β τ [(d,FR)] b o->M b o∨blk β τ d FR=some b:=by
  rintro b o (m | ⟨j,ob,h1,h2⟩)
  ·exact .inl m
  ·rw [BN] at h1
   split at h1
   ·rename_i e
    subst e
    cases h1
    exact .inr h2
   ·simp [lk] at h1
 have hext:Ext M w (Fh M β τ [(d,FR)]) w:=Gw
 refine s.gen (f:=EG d) hext s.Cq (fun b o m=>(inv m).elim (s.mlt b o) fun h=>(s.block hl h).1) (fun b o m=>(inv m).elim (s.CJ b o) fun h=>.inr (s.block hl h).2.1.1) (fun b hk=>⟨rfl,fun o m=>(inv m).elim (fun h=>h) fun h=>((s.block hl h).2.1.2 hk).elim⟩) (Gc d) rfl rfl ?_ ?_
 ·intro id ob h
  obtain ⟨hne,o,h1,rfl⟩:=Cm h
  exact DN.map hext (Gc d) (LJ hne) h1 (s.ob id o h1) fun b hb=>⟨rfl,fun o' m=>(inv m).elim (fun h=>h) fun h=>(hne (s.dj id d o FR b h1 hl hb h)).elim⟩
 ·intro id id' ob Ci b h h' hb hb'
  obtain ⟨_,o,h1,rfl⟩:=Cm h
  obtain ⟨_,o',h1',rfl⟩:=Cm h'
  rw [EW] at hb hb'
  exact s.dj id id' o o' b h1 h1' hb hb'
theorem M4 (s:Sm w0 M0 N M β τ st a as w) {d:Nat} {u:Ty} {xs:List u.den} (hl:lk d st.l=some (.row u xs)) {t:Ty}:∀ {i:Nat} {ps:List (Nat×Operand)} {ys:List t.den},Gh d u xs t st.s i ps=some ys->
  ∃ vs:List Value,ps.map (fun p=>(p.1,a.eval p.2))=(vs.zipIdx i).map (fun x=>(x.2,x.1))/\vs.length=ys.length/\(∀ v∈vs,v.cells.size=t.n)/\Seq (Br (Fh M β τ [(d,.row u xs)]) w t) (vs.flatMap fun v=>v.cells.toList) ys
 | i,[],ys,h=>by simp [Gh] at h;subst h;exact ⟨[],by simp [Seq]⟩
 | i,(j,x)::r,ys,h=>by
  unfold Gh at h
  obtain ⟨hc,h0⟩:=BL h
  clear h
  have hij:=Aa hc
  subst hij
  have hx:=BR s.glob s.fr (some t) x
  obtain ⟨v,hv0,h0⟩:=AO.1 h0
  obtain ⟨y,hy,h1⟩:=AO.1 h0
  obtain ⟨ys',hys,h2⟩:=AO.1 h1
  cases h2
  obtain rfl:=TV.Bv hy
  obtain ⟨vs,e1,e2,e3,e4⟩:=M4 s hl hys
  have hm:CX (UA d) st.l β τ [(d,.row u xs)] β τ:=by
   intro i j ob hf hi
   unfold UA at hf
   cases hb:Nat.beq i d with
   | false=>rw [hb] at hf;cases hf
   | true=>
    rw [hb] at hf
    have:=Aa hb
    subst this
    cases hf
    obtain rfl:=Ar (hi.symm.trans hl)
    exact ⟨_,by simp [BN],rfl,rfl,rfl⟩
  have KP:∀ id ob,lk id [(d,Ob.row u xs)]=some ob->DN (ownB w0 M0) M w β τ [(d,.row u xs)] id ob:=by
   intro id ob h
   rw [BN] at h
   split at h
   ·rename_i e
    subst e
    cases h
    exact s.ob id _ hl
   ·simp [lk] at h
  obtain ⟨cs,hv,hr⟩:=Dn KP 6 hv0 (RR.map hm hx)
  have hcells:(a.eval x).cells=cs.toArray:=by rw [hv];exact toV_cells hr
  refine ⟨a.eval x::vs,by simp [e1,List.zipIdx_cons],by simp [e2],?_,?_⟩
  ·intro v hv'
   rcases List.mem_cons.1 hv' with rfl | hv'
   ·rw [hcells];simpa using hr.length
   ·exact e3 v hv'
  ·simp only [List.flatMap_cons]
   exact ⟨_,_,rfl,by rw [hcells];exact hr,e4⟩
theorem MZ {t:TypeId} {n:Nat} {parts:List (Nat×Operand)}:PC (fun β (k:((e:Ty)×List e.den)->Option β)=>Fp E t n parts id st fun e z=>k ⟨e,z⟩):=by
 unfold Fp
 split
 ·refine PC.bind (X:=(e:Ty)×List e.den) fun ty=>?_
  split
  ·exact PC.bind fun ys=>PC.bif (PC.ret _) PC.none
  ·exact PC.none
 ·exact PC.none
theorem NT (hE:BS P E) (s:Sm w0 M0 N M β τ st a as w) (hd:∀ d,o.dst=some d->d < N) (hid:lk id st.l=none) {T:TypeId} {n:Nat} {parts:Array (Nat×Operand)} (hop:o.op=.buildSlice T n parts) {old:Nat} {e:Ty} {ys:List e.den}
  (h:Fp E T n parts.toList old st (fun e z=>some (⟨e,z⟩:(e:Ty)×List e.den))=some ⟨e,ys⟩):Gives P Q w0 M0 N o a as w (Da old st) id (.row id) (some (.row e ys)):=by
 unfold Fp at h
 split at h
 rotate_left
 ·cases h
 rename_i u xs hl
 obtain ⟨ty,hty,h⟩:=AO.1 h
 have hT:=hE.tab _ _ hty
 have he:execOp a.eval o=(do pure (Next.value (← Instr.buildSlice T n (parts.map fun (i,x)=>(i,a.eval x))))):=by simp only [execOp,hop]
 have hparts:(parts.map fun (i,x)=>(i,a.eval x)).toList=parts.toList.map fun p=>(p.1,a.eval p.2):=by simp
 cases ty with
 | slice e'=>
  simp only at h
  obtain ⟨ys',hys,h⟩:=AO.1 h
  obtain ⟨hc,h⟩:=BL h
  cases h
  simp only [AP] at hc
  have hlen:List.length ys=n:=Aa hc.1
  have hn:=Ak hc.2.1
  obtain ⟨e',hu,hl'⟩:=hT.slice
  obtain ⟨ie,hie,hes,TS,_⟩:=(hE.tab _ _ hl').info
  obtain ⟨vs,e1,e2,e3,e4⟩:=M4 s hl hys
  have e2':vs.length=n:=by rw [e2];exact hlen
  have hpos:=Ak hc.2.2.1
  have hsm:=Ak hc.2.2.2
  have key:∃ cells:Array Value,(Instr.buildSlice T n (parts.map fun (i,x)=>(i,a.eval x))).run P w=.ok (.slice (some ⟨w.heap.size,0,none⟩) n n) (w.alloc (.cells cells e'))/\cells.toList=vs.flatMap fun v=>v.cells.toList:=by
   by_cases hp:n * ie.size=0
   ·have hn0:n=0:=by
     rw [hes] at hp
     rcases Nat.mul_eq_zero.1 hp with h | h <;> omega
    have hvs:vs=[]:=Aq (by rw [e2',hn0])
    subst hvs
    have hpz:parts = #[]:=by
     have:parts.toList=[]:=by simpa using e1
     exact Array.toList_eq_nil_iff.1 this
    subst hpz hn0
    exact ⟨(Array.range 0).map fun _=>default,by simp [Instr.buildSlice,run_underlying hu,sizeOf,typeInfo,hie,newRow,Instr.fill],by simp⟩
   ·have Oj:=Great.fill_whole (s:=ie.size) (by omega) vs ((Array.range (n * ie.size)).map ((toV e (zeroCells e)).cells[· % (toV e (zeroCells e)).cells.size]!)) (by rw [hes];exact e3) (by simp [e2'])
    exact ⟨_,run_buildSlice w T e' n _ _ ie _ hu hie TS (by rw [hes];omega) hp (by rw [hparts,e1];exact Oj),by simp⟩
  obtain ⟨cells,hrun,hcells⟩:=key
  have hrl:(vs.flatMap fun v=>v.cells.toList).length=n * e.n:=by rw [e4.length (fun _ _ r=>r.length),hlen]
  have s':=s.Xq hl
  refine Gz (M':=Fh M β τ [(old,.row u xs)]) s' hd (by rw [G7];split;rfl;rw [hid];rfl) (Nn s' _) ?_ (BU he hrun)
  have:=Lv (T:=e') (cap:=n) s'.mlt (cells:=cells) (by omega) (by simp only [maxLen];omega) (by rw [← Array.length_toList,hcells,hrl]) e4 (fun i hi=>by rw [← hcells];simp)
  rw [hlen] at this
  exact this
 | _=>simp at h
theorem DJ.mono {b0 b1:Nat->Prop} {t:Ty} {xs:List t.den} {v:Value} (h:DJ b0 M w t xs v) (hb:∀ b,C8 v=some b->b0 b->b1 b):DJ b1 M w t xs v:=by
 obtain ⟨a,cap,row,rfl,h1,h2,h3,h4,h5⟩:=h
 refine ⟨a,cap,row,rfl,h1,h2,h3,h4,fun a0 ha hc=>?_⟩
 obtain ⟨b,cur,T,rfl,g1,g2⟩:=h5 a0 ha hc
 subst ha
 exact ⟨b,cur,T,rfl,hb b (by simp [C8];omega) g1,g2⟩
theorem DJ.C8 {b0:Nat->Prop} {t:Ty} {xs:List t.den} {v:Value} (h:DJ b0 M w t xs v) {b:Nat} (hb:C8 v=some b):b0 b:=by
 obtain ⟨a,cap,row,rfl,h1,h2,h3,h4,h5⟩:=h
 cases a with
 | none=>simp [Go.Lift.C8] at hb
 | some a0=>
  by_cases hc:cap=0
  ·simp [Go.Lift.C8,hc] at hb
  ·obtain ⟨b',cur,T,e,g1,g2⟩:=h5 a0 rfl (by omega)
   subst e
   simp [Go.Lift.C8,hc] at hb
   subst hb
   exact g1
theorem Lp {L L':List (Nat×Ob)}:∀ {ps:List Pt} {x:IC ps} {us:List Value},ps.all isHole=true->Dh M w β τ L (KU ps x) us->Dh M w β' τ' L' (KU ps x) us
 | [],_,[],_,_=>trivial
 | [],_,_::_,_,r=>r.elim
 | .hole t::ps,x,[],h,r=>r.elim
 | .hole t::ps,x,u::us,h,r=>⟨r.1,Lp (ps:=ps) (by simpa [isHole] using h) r.2⟩
 | .fix _::_,_,_,h,_=>by simp [isHole] at h
def XR (M0:Bs) (M:Own) (w:World) (v:Value):Bs:={ M:=M0.M,M1:=M,w1:=w,kp:=fun b=>b < w.heap.size/\C8 v≠some b }
theorem LB (hE:BS P E) (s:Bb w0 M0 N st a as w) (hd:∀ d,o.dst=some d->d < N) {f:Operand} {args:Array Operand} {ts:Array TypeId} {g:FuncId} {caps:RV} {c:MF} (hop:o.op=.call { callee:=.value f,args:=args,argTypes:=ts })
  (hf:Bf none f st.s=.Ee g caps) (hc:lk g E.ow=some c) {d:Nat} (hdst:o.dst=some d) {q:(e:Ty)×List e.den×Option Nat} (h:H6 E c args ts caps st (fun e z old=>some ⟨e,z,old⟩)=some q) (K:Act->World->Prop)
  (hK:∀ a' w',Bb w0 M0 N (Ch (addN (newId st d) (.row q.1 q.2.1) (Bj (newId st d) (Ck q.2.2 st))) (some d) (.row (newId st d))) a' as w'->K a' w'):o.wp P a w K Q:=by
 obtain ⟨M,β,τ,s⟩:=s
 unfold H6 at h
 split at h
 rotate_left
 ·cases h
 rename_i sx xs t us hargs hts
 obtain ⟨hcc,h⟩:=BL h
 simp only [AP] at hcc
 obtain ⟨X,hX,h⟩:=AO.1 h
 obtain ⟨y,hy,h⟩:=AO.1 h
 obtain ⟨z,hz,h⟩:=AO.1 h
 cases h
 dsimp only at hK
 obtain ⟨hrow,KP⟩:=Nb s hX (BR s.glob s.fr _ sx)
 have LC:=BR s.glob s.fr none f
 rw [hf] at LC
 simp only [RR] at LC
 obtain ⟨_,us',e,hcap⟩:=LC
 simp only [List.cons.injEq,and_true] at e
 obtain rfl:us'=[]:=hcap
 have hlen:xs.length=us.length:=Aa hcc.1
 have hrel:=GU s (tab:=E.tab) hlen
 rw [NP hy] at hrel
 have hrun:(execOp a.eval o).run P w=.ok (.enter g (a.eval sx::xs.map a.eval).toArray) w:=by
  simp only [execOp,hop,resolve,e,Deferred.ofValue,Sem.run_bind,Sem.run_pure,Result.andThen_ok,invoke]
  rw [show (#[]++Array.map a.eval args++(#[]:Array Value))=(a.eval sx::xs.map a.eval).toArray by rw [← Array.toArray_toList (xs:=args),hargs];simp]
  exact (hE.ow g c hc).enters _ w
 have hbk:∀ b,C8 (a.eval sx)=some b->b < w.heap.size/\ownB w0 M0 b:=fun b hb=>by
  obtain ⟨i,ob,_,h2,h3⟩:=KP b hb
  exact ⟨(s.block h2 h3).1,(s.block h2 h3).2.1⟩
 have start:∀ m,(a.eval sx::xs.map a.eval).length<=m->Sm w0 (XR M0 M w (a.eval sx)) m M (fun _=>(C8 (a.eval sx)).getD 0) (fun _=>a.eval sx) (MC c.e c.fp X.1 y) (CK (a.eval sx::xs.map a.eval) m) [] w:=fun m hm=>{
  df:=Cw fun _ h=>h.elim
  sz:=by simp [CK] at hm ⊢;omega
  Cq:=s.Cq
  mlt:=s.mlt
  Fg:=s.Fg
  gk:=s.gk
  gx:=Ext.refl M w
  kp:=fun b h=>⟨⟨rfl,h.1⟩,fun _ m=>m⟩
  CJ:=s.CJ
  fr:=fun i rv h=>by
   have hr:Dh M w (fun _=>(C8 (a.eval sx)).getD 0) (fun _=>a.eval sx) [(0,Ob.row c.e X.1)] (.row 0::KU c.fp y) (a.eval sx::xs.map a.eval):=⟨by
    simp only [RR]
    refine ⟨rfl,_,_,_,rfl,?_,by rw [BN,AY rfl],rfl⟩
    obtain ⟨_,_,_,e1,_⟩:=hrow
    rw [e1]
    rfl,Lp hcc.2 hrel⟩
   obtain ⟨_,h1⟩:=Gs 0 (.row 0::KU c.fp y) rv h
   obtain ⟨u,hu,r⟩:=JB hr (by simpa using h1)
   exact ⟨u,enter_at (by simpa using hu),r⟩
  fs:=trivial
  ob:=fun id ob h=>by
   simp only [MC,BN] at h
   split at h
   ·rename_i hi
    cases h
    refine ⟨hrow.mono fun b hb h1=>⟨h1.1,fun h2=>h2.2 hb⟩,fun b hb=>by simp [hb]⟩
   ·cases h
  dj:=fun i j ob Ci b h h' _ _=>by
   simp only [MC,BN] at h h'
   split at h
   ·split at h'
    ·rename_i h1 h2;rw [h1,h2]
    ·cases h'
   ·cases h }
 unfold Oper.wp
 rw [hrun,Oper.upon_enter]
 refine ((hE.ow g c hc).calls w0 _ M _ _ w _ X.1 y z (by
  have:=(Gm hrel)
  rw [LZ] at this
  simp [this]) start hz).mono ?_
 rintro e' w' ⟨u,M',β2,τ2,N',a',rfl,s2,hu⟩
 have VA:=s2.ob 0 _ (by rw [BN,AY rfl])
 simp only [DN] at VA
 rw [← hu] at VA
 have hoth:∀ b,b < w.heap.size->C8 (a.eval sx)≠some b->w'.heap[b]? = w.heap[b]?/\∀ o,M' b o->M b o:=fun b h1 h2=>⟨(s2.kp b ⟨h1,h2⟩).1.1,(s2.kp b ⟨h1,h2⟩).2⟩
 have hx':DJ (ownB w0 M0) M' w' c.e z u:=VA.1.mono fun b _ h1=>⟨h1.1,fun h2=>by
  have h3:=(s.kp b h2).1.2
  exact h1.2 ⟨h3,fun h4=>(hbk b h4).2.2 h2⟩⟩
 have key:∀ (st1:St),Sm w0 M0 N M β τ st1 a as w->(∀ j ob,lk j st1.l=some ob->(∀ i,X.2=some i->j≠i)/\∃ FR,lk j st.l=some FR/\blk β τ j ob=blk β τ j FR)->lk (newId st d) st1.l=none->
   Bb w0 M0 N (Ch (addN (newId st d) (.row c.e z) st1) (some d) (.row (newId st d))) (a.put o.dst u) as w':=by
  intro st1 s1 hsub hfree
  have s3:=s1.Ri (ob:=.row c.e z) (bn:=(C8 u).getD 0) (v:=u) hfree s2.gx s2.Cq s2.mlt s2.CJ (fun b k=>hoth b (s.kp b k).1.2 fun hw=>(hbk b hw).2.2 k) (fun j ob b hl hb=>by
   obtain ⟨hne,FR,hl0,hb0⟩:=hsub j ob hl
   rw [hb0] at hb
   have hlt:=(s.block hl0 hb).1
   have hnw:C8 (a.eval sx)≠some b:=fun hw=>by
    obtain ⟨i',Ci,h1,h2,h3⟩:=KP b hw
    exact hne i' h1 (s.dj j i' FR Ci b hl0 h2 hb h3)
   refine ⟨(hoth b hlt hnw).1,(hoth b hlt hnw).2,fun hw=>?_⟩
   exact (VA.1.C8 hw).2 ⟨hlt,hnw⟩) (fun β' τ' h1 h2 hm=>⟨by rw [h2];exact hx',fun b hb=>by rw [h2] at hb;rw [h1];simp [hb]⟩)
  rw [hdst]
  refine ⟨_,_,_,s3.set (some d) (fun i hi=>by cases hi;exact hd d hdst) ?_⟩
  simp only [RR,addN]
  refine ⟨rfl,u,c.e,z,rfl,?_,by simp [BN],by simp⟩
  obtain ⟨_,_,_,e1,_⟩:=hx'
  rw [e1]
  rfl
 refine hK _ _ (key _ ?_ ?_ (Es _ _))
 ·cases X.2 with
  | none=>exact s.Bj _
  | some i'=>exact (s.kill i').Bj _
 ·intro j ob hl
  have free:∀ (st2:St),lk j (Bj (newId st d) st2).l=some ob->∃ FR,lk j st2.l=some FR/\blk β τ j ob=blk β τ j FR:=by
   intro st2 hl
   unfold Bj at hl
   split at hl
   ·exact ⟨ob,hl,rfl⟩
   ·obtain ⟨_,FR,h1,rfl⟩:=Cm hl
    exact ⟨FR,h1,EW _ _⟩
  obtain ⟨FR,h1,h2⟩:=free _ hl
  cases hx2:X.2 with
  | none=>
   rw [hx2] at h1
   exact ⟨(fun i hi=>by cases hi),FR,h1,h2⟩
  | some i'=>
   rw [hx2] at h1
   obtain ⟨hne,O1,h3,rfl⟩:=Cm h1
   exact ⟨(fun i hi=>by cases hi;exact hne),O1,h3,by rw [h2,EW]⟩
end
end Go.Lift
