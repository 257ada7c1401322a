import Derived.Test.YtbgmjjplddddnaaGreatDoorRiY
set_option linter.unusedSimpArgs false
namespace Go.Lift
open Go.RowKit
section
variable {P:Program} {E:Bn} {Q:Exit->Act->World->Prop} {o:Oper} {w0:World} {M0:Bs} {N:Nat} {M M':Own} {β:Nat->Nat} {τ:Nat->Value} {st st':St} {a:Act} {as:List Act} {w w':World} {id:Nat}
def Y3 (w0:World) (M0:Bs) (st:St) (rv:RV) (v:Value) (as:List Act) (w:World):Prop:=∃ M β τ N a,Sm w0 M0 N M β τ st a as w/\RR M w β τ st.l rv .sl [v]
def Ur (P:Program) (w0:World) (H:(α:Type)->[DecidableEq α]->Tg->St->(St->RV->Option α)->Option α):Prop:=
 (∀ (M0:Bs) (α:Type) [DecidableEq α] (f:FuncId) (st:St) (k:St->RV->Option α) (r:α) (args:List Value) (as:List Act) (w:World),H α (.fn f) st k=some r->st.s.length=args.length->(∀ m,args.length<=m->Bb w0 M0 m st (CK args m) as w)->
  (∀ (args:Array Value) (w:World),(callFunc f args).run P w=.ok (.enter f args) w)/\
  ∀ R:Ending->World->Prop,(∀ st' rv v w',k st' rv=some r->Y3 w0 M0 st' rv v as w'->R (.returned v) w')->Calls P f args.toArray w R)/\
 ∀ (M0:Bs) (α:Type) [DecidableEq α] (st:St) (k:St->RV->Option α) (r:α) (n N l:Nat) (a:Act) (as:List Act) (w:World) (t:Nat×RV×LQ),H α .yl st k=some r->Pj st=some t->YB N t.2.2->Bb w0 M0 N st a (Sn l::as) w->
  ∀ R:Ending->World->Prop,(∀ st' rv v w',k st' rv=some r->Y3 w0 M0 st' rv v as w'->R (.returned v) w')->
   t.2.2.assign.wpIn (JX (some l)) n P (Exit.then (fun a₁ w₁=>∃ w₂,(Instr.beginRound l).run P w₁=.ok () w₂/\t.2.2.body.wpIn (JX (some l)) n P (roundPost P l R) a₁ w₂) (fun _ _ _=>False)) a w
theorem RL (lt:LT) (d:Nat) (args:List RV) (st:St):Go.Lift.push lt d args st={ s:=(args.zipIdx 0).map fun p=>(p.2,p.1),l:=st.l,k:=(st.b,match lk d lt.keep with | some ks=>DX st.s ks | none=>st.s)::st.k,b:=(st.b+d+1) * 4096 }:=Bo _ _
theorem Sm.push (s:Sm w0 M0 N M β τ st a as w) {lt:LT} {d:Nat} {CO:List RV} {args:List Value} (hr:Dh M w β τ st.l CO args) {m:Nat} (hm:args.length<=m):Sm w0 M0 m M β τ (Go.Lift.push lt d CO st) (CK args m) (a::as) w:=by
 rw [RL]
 exact {
  df:=Cw s.df.1
  sz:=by simp [CK];omega
  Cq:=s.Cq
  mlt:=s.mlt
  Fg:=s.Fg
  gk:=s.gk
  gx:=s.gx
  kp:=s.kp
  CJ:=s.CJ
  fr:=fun i rv h=>by
   obtain ⟨_,h1⟩:=Gs 0 CO rv h
   obtain ⟨u,hu,r⟩:=JB hr (by simpa using h1)
   exact ⟨u,enter_at (by simpa using hu),r⟩
  fs:=by
   refine ⟨?_,s.fs⟩
   dsimp only
   split
   ·exact fun i rv h=>s.fr i rv (EH _ _ _ _ h)
   ·exact s.fr
  ob:=s.ob
  dj:=s.dj }
theorem Sm.pop {N':Nat} {a':Act} (s:Sm w0 M0 N' M β τ st a' (a::as) w) (hdf:Uz w0 M0 a.defers) (hsz:a.tmps.size=N):Sm w0 M0 N M β τ (Go.Lift.pop st) a as w/\(Go.Lift.pop st).l=st.l:=by
 have hfs:=s.fs
 unfold Go.Lift.pop
 cases hk:st.k with
 | nil=>rw [hk] at hfs;exact hfs.elim
 | cons p k=>
  rw [hk] at hfs
  exact ⟨{ df:=hdf,sz:=hsz,Cq:=s.Cq,mlt:=s.mlt,Fg:=s.Fg,gk:=s.gk,gx:=s.gx,kp:=s.kp,CJ:=s.CJ,fr:=hfs.1,fs:=hfs.2,ob:=s.ob,dj:=s.dj },rfl⟩
theorem J2 (s:Bb w0 M0 N st a as w) (hd:∀ d,o.dst=some d->d < N) {H:(α:Type)->[DecidableEq α]->Tg->St->(St->RV->Option α)->Option α} (hH:Ur P w0 H) {α:Type} [DecidableEq α] {k:St->Option α} {r:α} {lt:LT} {f:Operand} {args:Array Operand} {argTypes:Array TypeId} {g:FuncId} {caps:RV} {cs:List RV}
  (hop:o.op=.call { callee:=.value f,args:=args,argTypes:=argTypes }) (hf:Bf none f st.s=.Ee g caps) (hsz:Nat.beq args.size argTypes.size=true) (hcs:GJ caps=some cs) {tab:List (TypeId×Ty)}
  (h:H α (.fn g) (push lt (o.dst.getD 0) ((args.toList.zip argTypes.toList).map (fun p=>Bf (lk p.2 tab) p.1 st.s)++cs) st) (fun st' rv=>k (Ch (pop st') o.dst rv))=some r):Pv P Q w0 M0 N o a as w k r:=by
 obtain ⟨M,β,τ,s⟩:=s
 intro K hK
 have LC:=BR s.glob s.fr none f
 rw [hf] at LC
 simp only [RR] at LC
 obtain ⟨_,us,e,hcap⟩:=LC
 simp only [List.cons.injEq,and_true] at e
 have hlen:args.toList.length=argTypes.toList.length:=by simpa using Aa hsz
 have hrel:=Gl (GU s (tab:=tab) hlen) (Iy hcs hcap)
 obtain ⟨hent,hcall⟩:=hH.1 M0 α g _ _ r (args.toList.map a.eval++us) (a::as) w h (by
  have:=Gm hrel
  simp only [RL,Aw,List.length_zipIdx]
  exact this) fun m hm=>⟨M,β,τ,s.push hrel hm⟩
 have hrun:(execOp a.eval o).run P w=.ok (.enter g (args.toList.map a.eval++us).toArray) w:=by
  simp only [execOp,hop,resolve,e,Deferred.ofValue,Sem.run_bind,Sem.run_pure,Result.andThen_ok,invoke]
  rw [show (#[]++Array.map a.eval args++us.toArray)=(args.toList.map a.eval++us).toArray by simp [← Array.toList_map]]
  exact hent _ w
 unfold Oper.wp
 rw [hrun,Oper.upon_enter]
 refine hcall _ ?_
 rintro st' rv v w' hk ⟨M',β',τ',N',a',s',hr⟩
 obtain ⟨s2,hl⟩:=s'.pop s.df s.sz
 exact hK _ _ _ hk ⟨M',β',τ',s2.set o.dst hd (by rw [hl];exact hr)⟩
theorem RP (hE:BS P E) (s:Bb w0 M0 N st a as w) (hd:∀ d,o.dst=some d->d < N) {α:Type} {k:St->Option α} {r:α} {f:Operand} {args:Array Operand} {ts:Array TypeId} {g:FuncId} {caps:RV} {c:FB} (hop:o.op=.call { callee:=.value f,args:=args,argTypes:=ts })
  (hf:Bf none f st.s=.Ee g caps) (hc:lk g E.rcs=some c) (h:(KX E c args ts caps st fun id ob rv=>k (Ch (Bl id ob st) o.dst rv))=some r):Pv P Q w0 M0 N o a as w k r:=by
 obtain ⟨M,β,τ,s⟩:=s
 intro K hK
 obtain ⟨⟨i,ob,rv⟩,h1,h2⟩:=N9 (E:=E) (st:=st) _ (fun q:Nat×Ob×RV=>k (Ch (Bl q.1 q.2.1 st) o.dst q.2.2)) _ h
 exact (Jr (Q:=Q) hE s hop hf hc (h1 _ some) K fun M' v w' s' r'=>hK _ _ _ h2 ⟨M',β,τ,s'.set o.dst hd r'⟩).2
def Sy (P:Program) (ro:Option Nat) (n:Nat) (Q:Exit->Act->World->Prop) (w0:World) (M0:Bs) (N:Nat) (o:Oper) (a:Act) (as:List Act) (w:World) {α:Type} (k:St->Option α) (r:α):Prop:=
 ∀ K:Act->World->Prop,(∀ st' a' w',k st'=some r->Bb w0 M0 N st' a' as w'->K a' w')->o.wpIn (JX ro) n P a w K Q
theorem Pv.QO {ro:Option Nat} {n:Nat} (hro:ro=none∨Lc o) {α:Type} {k:St->Option α} {r:α} (h:Pv P Q w0 M0 N o a as w k r):Sy P ro n Q w0 M0 N o a as w k r:=
 fun K hK=>Ia hro (h K hK)
theorem PD (lt:LT) (d id:Nat) (con:RV) (q:LQ) (args:List RV) (st:St):UK lt d id con q args st={ s:=L8 q.ps.toList args (GA 0 con),l:=st.l,k:=(0,[(0,.yl id)])::(st.b,match lk d lt.keep with | some ks=>DX st.s ks | none=>st.s)::st.k,b:=(st.b+d+1) * 4096 }:=Bo _ _
theorem Kt (s:Bb w0 M0 N st a as w) (hd:∀ d,o.dst=some d->d < N) {H:(α:Type)->[DecidableEq α]->Tg->St->(St->RV->Option α)->Option α} (hH:Ur P w0 H) {α:Type} [DecidableEq α] {k:St->Option α} {r:α} {lt:LT} {f:Operand} {args:Array Operand} {argTypes:Array TypeId} {id:Nat} {con:RV} {q:LQ} {ro:Option Nat} {n:Nat}
  (hop:o.op=.call { callee:=.value f,args:=args,argTypes:=argTypes }) (hf:Bf none f st.s=.yl id) (hl:lk id st.l=some (.lp con q)) (hsz:args.size=argTypes.size) (hps:args.size=q.ps.size) {tab:List (TypeId×Ty)}
  (h:H α .yl (UK lt (o.dst.getD 0) id con q ((args.toList.zip argTypes.toList).map (fun p=>Bf (lk p.2 tab) p.1 st.s)) st) (fun st' rv=>k (Ch (pop st') o.dst rv))=some r):Sy P ro n Q w0 M0 N o a as w k r:=by
 obtain ⟨M,β,τ,s⟩:=s
 intro K hK
 have LC:=BR s.glob s.fr none f
 rw [hf] at LC
 simp only [RR] at LC
 obtain ⟨_,u,CQ,q',e,_,hl',hu⟩:=LC
 simp only [List.cons.injEq,and_true] at e
 rw [← e] at hu
 obtain ⟨_,⟨r0,g1,⟨g2,e1,e2,e3,e4,e5⟩,m,g3⟩,_⟩:=s.ob id _ hl
 have hrel:=GU s (tab:=tab) (xs:=args.toList) (ts:=argTypes.toList) (by simpa using hsz)
 have hrun:(execOp a.eval o).run P w=.ok (.round (β id) r0.fn ((q.ps.toList.zip (args.toList.map a.eval)).foldl (fun t p=>t.setIfInBounds p.1 p.2) r0.tmps) q.assign q.body) w:=by
  simp only [execOp,hop,resolve,hu,Deferred.ofValue,Sem.run_bind,Sem.run_pure,Result.andThen_ok,invoke]
  have hy:=run_yield (P:=P) (args:=args.map a.eval) g1 (by rw [e1];simpa using hps)
  simp only [Array.empty_append]
  rw [hy,e1,e2,e3]
  congr 2
  rw [← Array.foldl_toList,Array.toList_zip,Array.toList_map]
 refine ⟨fun _ _=>trivial,?_⟩
 rw [show o.semAt (JX ro).round a.eval=execOp a.eval o from Oper.semAt_eq _ _ _ (fun c hc=>by rw [hop] at hc;cases hc),hrun,Oper.uponIn_round]
 refine ⟨fun hd=>absurd hd (by simp [JX]),roundIn_of_wpIn trivial ?_⟩
 refine hH.2 M0 α _ _ r (n - 1) r0.tmps.size (β id) _ (a::as) w (id,con,q) h ?_ g2 ⟨M,β,τ,?_⟩ _ ?_
 ·rw [PD]
  simp [Pj,lk,hl]
 ·rw [PD]
  have hbase:Ie M w β τ st.l (GA 0 con) { tmps:=r0.tmps,defers:=[] }:=fun i rv hi=>by
   obtain ⟨_,u',h1,h2⟩:=Sd g3 i rv hi
   refine ⟨u',?_,h2⟩
   rw [Nat.sub_zero,List.getElem?_take] at h1
   split at h1
   ·simpa using h1
   ·cases h1
  have hsize:∀ (l:List (Tmp×Value)) (t:Array Value),(l.foldl (fun t p=>t.setIfInBounds p.1 p.2) t).size=t.size:=by
   intro l
   induction l with
   | nil=>intro t;rfl
   | cons p l ih=>intro t;rw [List.foldl_cons,ih];simp
  exact {
   df:=Cw s.df.1
   sz:=hsize _ _
   Cq:=s.Cq
   mlt:=s.mlt
   Fg:=s.Fg
   gk:=s.gk
   gx:=s.gx
   kp:=s.kp
   CJ:=s.CJ
   fr:=PZ hrel g2.1.1 hbase
   fs:=by
    refine ⟨fun i rv hi=>?_,?_,s.fs⟩
    ·rw [BN] at hi
     split at hi
     ·rename_i ei
      try dsimp only at ei
      subst ei
      cases hi
      refine ⟨_,rfl,?_⟩
      simp only [RR]
      exact ⟨rfl,_,con,q,rfl,rfl,hl,rfl⟩
     ·simp [lk] at hi
    ·dsimp only
     split
     ·exact fun i rv h=>s.fr i rv (EH _ _ _ _ h)
     ·exact s.fr
   ob:=s.ob
   dj:=s.dj }
 ·rintro st' rv v w' hk ⟨M',β',τ',N',a',s',hr⟩
  obtain ⟨s2,hl2⟩:=s'.pop s.df s.sz
  exact hK _ _ _ hk ⟨M',β',τ',s2.set o.dst hd (by rw [hl2];exact hr)⟩
theorem Ky (hE:BS P E) (s:Bb w0 M0 N st a as w) (hd:∀ d,o.dst=some d->d < N) {H:(α:Type)->[DecidableEq α]->Tg->St->(St->RV->Option α)->Option α} (hH:Ur P w0 H) {lt:LT} {α:Type} [DecidableEq α] {k:St->Option α} {r:α} {ro:Option Nat} {n:Nat} (hro:ro=none∨Lc o) (h:Dc E (H α) lt o st k=some r) :
  Sy P ro n Q w0 M0 N o a as w k r:=by
 have dflt:(match o.dst with | some _=>Lj E o st k | none=>none)=some r->Sy P ro n Q w0 M0 N o a as w k r:=by
  intro h
  split at h
  ·exact (EL hE s hd h).QO hro
  ·cases h
 cases hop:o.op with
 | store t x y=>
  cases hdst:o.dst with
  | none=>exact (Ph hE s hop hdst h).QO hro
  | some d=>refine dflt ?_;rw [hdst];simpa only [Dc,hop,hdst] using h
 | mapUpdate t m x y=>
  cases hdst:o.dst with
  | none=>exact (SF hE s hop hdst h).QO hro
  | some d=>refine dflt ?_;rw [hdst];simpa only [Dc,hop,hdst] using h
 | binOp op t x y u=>
  cases hdst:o.dst with
  | none=>simp [Dc,hop,hdst] at h
  | some d=>
   cases y with
   | const v=>
    simp only [Dc,hop,hdst] at h
    exact (Qc hE s hd hop hdst h fun h=>EL hE s hd h).QO hro
   | _=>refine dflt ?_;rw [hdst];simpa only [Dc,hop,hdst] using h
 | convert src dst x=>
  cases hdst:o.dst with
  | none=>simp [Dc,hop,hdst] at h
  | some d=>
   simp only [Dc,hop,hdst] at h
   exact (Qm hE s hd hop hdst h fun h=>EL hE s hd h).QO hro
 | call c=>
  obtain ⟨callee,args,argTypes⟩:=c
  cases callee with
  | builtin b=>
   cases b with
   | append=>
    cases hdst:o.dst with
    | some d=>
     cases YM:lt.fork.any (Nat.beq d) with
     | true=>
      simp only [Dc,hop,hdst,YM,AL] at h
      exact (QG hE s hd hop hdst h).QO hro
     | false=>exact (Ih hE s hd hop hdst YM h).QO hro
    | none=>simp [Dc,hop,hdst] at h
   | clear=>
    cases hdst:o.dst with
    | some d=>refine dflt ?_;rw [hdst];simpa only [Dc,hop,hdst] using h
    | none=>
     simp only [Dc,hop,hdst] at h
     exact (Rn hE s hop hdst h).QO hro
   | _=>
    refine dflt ?_
    cases hdst:o.dst with
    | some d=>simpa only [Dc,hop,hdst] using h
    | none=>simp [Dc,hop,hdst] at h
  | invoke r m=>
   refine dflt ?_
   cases hdst:o.dst with
   | some d=>simpa only [Dc,hop,hdst] using h
   | none=>simp [Dc,hop,hdst] at h
  | value f=>
   cases hdst:o.dst with
   | none=>
    simp only [Dc,hop,hdst] at h
    split at h
    ·rename_i g caps heq
     split at h
     ·rename_i c hc
      exact (RP hE s hd hop heq hc (by rw [hdst];exact h)).QO hro
     split at h
     ·rename_i hd'
      cases hd'
     split at h
     ·exact (EL hE s hd h).QO hro
     ·obtain ⟨hsz,h⟩:=BL h
      obtain ⟨cs,hcs,h⟩:=AO.1 h
      exact (J2 s hd hH hop heq hsz hcs (by rw [hdst];exact h)).QO hro
    ·rename_i id heq
     split at h
     ·rename_i con q hl
      split at h
      ·obtain ⟨hsz,h⟩:=BL h
       simp only [AP] at hsz
       exact Kt s hd hH hop heq hl (Aa hsz.1) (Aa hsz.2) (by rw [hdst];exact h)
      ·cases h
     ·cases h
    ·cases h
   | some d=>
    simp only [Dc,hop,hdst] at h
    split at h
    ·rename_i g caps heq
     split at h
     ·rename_i c hc
      exact (RP hE s hd hop heq hc (by rw [hdst];exact h)).QO hro
     split at h
     ·rename_i c d' hc hd'
      cases hd'
      obtain ⟨q,h1,h2⟩:=LA (E:=E) (st:=st) _ (fun q:(e:Ty)×List e.den×Option Nat=>k (Ch (addN (newId st d) (.row q.1 q.2.1) (Bj (newId st d) (Ck q.2.2 st))) (some d) (.row (newId st d)))) _ (by simpa only [Bo] using h)
      exact Pv.QO hro fun K hK=>LB hE s hd hop heq hc hdst (h1 _ some) K fun a' w' s'=>hK _ _ _ h2 s'
     split at h
     ·exact (EL hE s hd h).QO hro
     ·obtain ⟨hsz,h⟩:=BL h
      obtain ⟨cs,hcs,h⟩:=AO.1 h
      exact (J2 s hd hH hop heq hsz hcs (by rw [hdst];exact h)).QO hro
    ·rename_i id heq
     split at h
     ·rename_i con q hl
      split at h
      ·obtain ⟨hsz,h⟩:=BL h
       simp only [AP] at hsz
       exact Kt s hd hH hop heq hl (Aa hsz.1) (Aa hsz.2) (by rw [hdst];exact h)
      ·cases h
     ·cases h
    ·cases h
 | _=>
  refine dflt ?_
  cases hdst:o.dst with
  | some d=>simpa only [Dc,hop,hdst] using h
  | none=>simp [Dc,hop,hdst] at h
theorem Jo (hE:BS P E) (s:Bb w0 M0 N st a as w) (hd:∀ d,o.dst=some d->d < N) {H:(α:Type)->[DecidableEq α]->Tg->St->(St->RV->Option α)->Option α} (hH:Ur P w0 H) {lt:LT} {α:Type} [DecidableEq α] {k:St->Option α} {r:α} {ro:Option Nat} {n:Nat} (hro:ro=none∨Lc o) (h:Wn E (H α) lt o st k=some r) :
  Sy P ro n Q w0 M0 N o a as w k r:=by
 unfold Wn at h
 split at h
 ·exact Ky hE s hd hH hro h
 ·obtain ⟨st',h',s'⟩:=CV _ _ _ h s
  exact Ky hE s' hd hH hro h'
theorem JE (g:Nat) (b:Bool):∀ (s:List (Nat×RV)),lk g s=some (.val ⟨.bool,b⟩)->Ez g b s=s
 | [],h=>by simp [lk] at h
 | (j,x)::r,h=>by
  rw [BN] at h
  simp only [Ez]
  split at h
  ·rename_i e
   subst e
   cases h
   simp
  ·rename_i e
   have:Nat.beq g j=false:=by cases hb:Nat.beq g j with | false=>rfl | true=>exact absurd (Aa hb) e
   simp only [this,AJ,JE g b r h]
theorem Q5 {lt:LT} {c:Operand} {b:Bool} {st:St} (h:Bf (some .bool) c st.s=.val ⟨.bool,b⟩):U4 lt c b st=st:=by
 unfold U4
 split
 ·rename_i i
  have hl:lk i st.s=some (.val ⟨.bool,b⟩):=by
   simp only [Bf] at h
   cases hl:lk i st.s with
   | none=>rw [hl] at h;cases h
   | some rv=>rw [hl] at h;exact congrArg some h
  rw [JE i b st.s hl]
  cases lt.cnd.any (Nat.beq i) <;> rfl
 ·rfl
theorem Po (s:Sm w0 M0 N M β τ st a as w) {ops:Array Oper} {j g:Nat} {b:Bool} (hg:(ops[j]?).bind (·.dst)=some g) (hl:lk g st.s=some (.val ⟨.bool,b⟩)):yielded ops a.tmps j=some b:=by
 obtain ⟨u,hu,u',e,hv⟩:=s.fr g _ hl
 cases e
 have hb:=hv.bool
 simp [yielded,hg,hu,hb]
theorem Le (hE:BS P E) {H:(α:Type)->[DecidableEq α]->Tg->St->(St->RV->Option α)->Option α} (hH:Ur P w0 H) {lt:LT} {ops:Array Oper} {α:Type} [DecidableEq α] {k:St->Option α} {r:α} {ro:Option Nat} {n:Nat} (hro:ro=none∨∀ o∈ops.toList,Lc o) (hQ:∀ st a w,k st=some r->Bb w0 M0 N st a as w->Q .normal a w):∀ (l:List Oper) (st:St) (a:Act) (w:World),(∀ o∈l,o∈ops.toList)->
  Jp E (H α) lt ops l st k=some r->Bb w0 M0 N st a as w->(∀ o∈l,∀ d,o.dst=some d->d < N)->wpListIn (JX ro) n P ops Q l a w
 | [],st,a,w,_,h,s,_=>hQ st a w h s
 | o::rest,st,a,w,hm,h,s,hd=>by
  refine wpListIn_step fun K hK=>?_
  have hdf:ro=none∨Lc o:=hro.imp id fun h=>h o (hm o (by simp))
  have hK':∀ st' a' w',Jp E (H α) lt ops rest st' k=some r->Bb w0 M0 N st' a' as w'->K a' w':=fun st' a' w' h' s'=>hK a' w' (Le hE hH hro hQ rest st' a' w' (fun o' ho'=>hm o' (by simp [ho'])) h' s' fun o' ho'=>hd o' (by simp [ho']))
  have hdo:=hd o (by simp)
  simp only [Jp] at h
  split at h
  ·rename_i hg
   simp only [Region.wanted,hg,if_true]
   exact Jo (Q:=Q) hE s hdo hH hdf h K hK'
  ·rename_i j want hg
   split at h
   ·rename_i g hgd
    split at h
    ·rename_i b hlk
     obtain ⟨M,β,τ,s⟩:=s
     have hy:=Po s hgd hlk
     have run:Wn E (H α) lt o st (fun st=>Jp E (H α) lt ops rest st k)=some r->Region.wanted o (yielded ops a.tmps)=true->(if Region.wanted o (yielded ops a.tmps) then o.wpIn (JX ro) n P a w K Q else (∀ f,o.about P w a.eval=some f->(JX ro).fn f)/\K (a.put o.dst undef) w):=by
      intro h hw
      rw [AY hw]
      exact Jo (Q:=Q) hE ⟨M,β,τ,s⟩ hdo hH hdf h K hK'
     have skip:Jp E (H α) lt ops rest (Ch st o.dst (.Db .unit)) k=some r->Region.wanted o (yielded ops a.tmps)=false->(if Region.wanted o (yielded ops a.tmps) then o.wpIn (JX ro) n P a w K Q else (∀ f,o.about P w a.eval=some f->(JX ro).fn f)/\K (a.put o.dst undef) w):=by
      intro h hw
      rw [AX (by simp [hw])]
      exact ⟨fun _ _=>trivial,hK' _ _ _ h ⟨M,β,τ,s.set o.dst hdo JH⟩⟩
     cases b with
     | true=>
      rw [JE g true st.s hlk] at h
      cases want with
      | true=>exact run h (by simp [Region.wanted,hg,hy])
      | false=>exact skip h (by simp [Region.wanted,hg,hy])
     | false=>
      rw [JE g false st.s hlk] at h
      cases want with
      | true=>exact skip h (by simp [Region.wanted,hg,hy])
      | false=>exact run h (by simp [Region.wanted,hg,hy])
    ·rename_i hlk
     obtain ⟨M,β,τ,s⟩:=s
     have hy:=JK s hgd hlk
     have hw:Region.wanted o (yielded ops a.tmps)=false:=by simp [Region.wanted,hg,hy]
     rw [AX (by simp [hw])]
     exact ⟨fun _ _=>trivial,hK' _ _ _ h ⟨M,β,τ,s.set o.dst hdo JH⟩⟩
    ·cases h
   ·cases h
theorem Qg (s:Bb w0 M0 N st a as w) (lt:LT) (c:Code):Bb w0 M0 N (Qf lt c st) a as w:=by
 unfold Qf
 split
 ·split
  ·obtain ⟨M,β,τ,s⟩:=s
   exact ⟨M,β,τ,s.DX _⟩
  ·exact s
 ·exact s
theorem Jg (s:Bb w0 M0 N st a as w) (lt:LT) (c:Code):Bb w0 M0 N (Ga lt c st) a as w:=by
 unfold Ga
 split
 ·split
  ·exact (KH _ s).canon _
  ·exact s
 ·exact s
theorem QH {lt:LT} {rg:Nat} {α:Type} {r:α} {k:St->Option α} (h:Nh lt rg st k=some r) (s:Bb w0 M0 N st a as w):∃ st',k st'=some r/\Bb w0 M0 N st' a as w:=by
 unfold Nh at h
 split at h
 ·exact CV _ _ _ h s
 ·exact ⟨st,h,s⟩
theorem UJ (lt:LT) (id:Nat) (ps:Array Tmp) (assign body:Code) (cs:List RV) (st:St):∃ k1 k2:List (Nat×RV),(∀ i rv,lk i k1=some rv->lk i st.s=some rv)/\(∀ i rv,lk i k2=some rv->lk i st.s=some rv)/\(∀ p∈k1,∃ rv,lk p.1 st.s=some rv)/\
  RJ lt id ps assign body cs st={ s:=((.yl id::cs).zipIdx 0).map fun p=>(p.2,p.1),l:=(id,.lp (JU k1 0 (maxS k1)) ⟨ps,assign,body,lt,.ready,none⟩)::st.l,k:=(0,[(0,.yl id)])::(st.b,k2)::st.k,b:=(st.b+4001) * 4096 }:=by
 unfold RJ
 rw [Bo]
 split
 ·rename_i k1 k2 _
  exact ⟨DX st.s k1,DX st.s k2,fun i rv h=>EH _ _ _ _ h,fun i rv h=>EH _ _ _ _ h,fun p hp=>by
   obtain ⟨v,hv⟩:=Jk hp
   exact ⟨v,EH _ _ _ _ hv⟩,rfl⟩
 ·exact ⟨st.s,st.s,fun _ _ h=>h,fun _ _ h=>h,fun p hp=>Jk hp,rfl⟩
theorem PG (s:Bb w0 M0 N st a as w) {H:(α:Type)->[DecidableEq α]->Tg->St->(St->RV->Option α)->Option α} (hH:Ur P w0 H) {α:Type} [DecidableEq α] {r:α} {lt:LT} {g:Operand} {ps:Array Tmp} {assign body:Code} {n:Nat}
  (hN:YB N ⟨ps,assign,body,lt,.ready,none⟩) {kn:St->Option α} {kx:Nat->St->Option α} {kr:St->Option α}
  (hn:∀ Ic st a w,Sub M0 Ic->kn st=some r->Bb w0 Ic N st a as w->Q .normal a w) (hx:∀ Ic j st a w,Sub M0 Ic->kx j st=some r->Bb w0 Ic N st a as w->Q (.exit j) a w) (hr:∀ Ic st a w,Sub M0 Ic->kr st=some r->Bb w0 Ic N st a as w->Q .ret a w)
  (h:(E5 (newId st 4000) fun id=>match Bf none g (Bj id st).s with
   | .Ee f caps=>(GJ caps).bind fun cs=>H α (.fn f) (RJ lt id ps assign body cs (Bj id st)) fun st' _=>Kg kn kx kr st'
   | _=>none)=some r):(Code.rangeFunc g ps assign body).wpIn (JX none) n P Q a w:=by
 rw [Bo] at h
 obtain ⟨M,β,τ,s⟩:=s
 have sf:=s.Bj (newId st 4000)
 have hid:=Es (newId st 4000) st
 generalize newId st 4000=id at h sf hid
 generalize Bj id st=st0 at h sf hid
 split at h
 rotate_left
 ·cases h
 rename_i f caps hf
 obtain ⟨cs,hcs,h⟩:=AO.1 h
 have LC:=BR sf.glob sf.fr none g
 rw [hf] at LC
 simp only [RR] at LC
 obtain ⟨_,us,e,hcap⟩:=LC
 simp only [List.cons.injEq,and_true] at e
 have hrel:=Iy hcs hcap
 refine wpIn_rangeFunc fun fn _=>?_
 obtain ⟨k1,k2,hk1,hk2,hk3,hpush⟩:=UJ lt id ps assign body cs st0
 rw [hpush] at h
 let D:=w.heap.size
 let l:=w.heap.size+1
 let N8:Loop:={ state:=.ready,pending:=none,fn,tmps:=a.tmps,params:=ps,assign,body,defers:=w.heap.size }
 let w1:=(w.alloc (.deferred (some []))).alloc (.loop N8)
 have hw1:w1=(w.alloc (.deferred (some []))).alloc (.loop N8):=rfl
 have hL:w1.heap[l]? = some (.loop N8):=by
  have:=World.alloc_heap_new (w.alloc (.deferred (some []))) (.loop N8)
  rwa [World.size_alloc] at this
 have hD:w1.heap[D]? = some (.deferred (some [])):=(Below.heap_alloc _ _ _ (by simp [D])).trans (World.alloc_heap_new w _)
 have s1:Sm w0 M0 N M β τ st0 a as w1:=by
  have:=sf.grow (Gr.alloc sf.mlt (.deferred (some [])))
  exact this.grow (Gr.alloc this.mlt (.loop N8))
 have hsz:w0.heap.size<=w.heap.size:=sf.Cq.size
 have hold:∀ id ob b,lk id st0.l=some ob->blk β τ id ob=some b->b < w.heap.size:=fun id ob b h1 h2=>(sf.block h1 h2).1
 have Xi:∀ b,M0.kp b->b < w.heap.size:=fun b k=>(sf.kp b k).1.2
 have ZA:∀ b o,M b o->b < w.heap.size:=sf.mlt
 have s2:=s1.marked (D:=D) hsz (fun k=>by have:=Xi _ k;omega) hD (fun o m=>by have:=ZA _ _ m;omega) (fun id ob hl hb=>by have:=hold id ob _ hl hb;omega)
 have hsub:=s1.Ui D
 have hmr:∀ p∈k1,p.1 < a.tmps.size:=fun p hp=>by
  obtain ⟨rv,h1⟩:=hk3 p hp
  obtain ⟨u,h2,_⟩:=s2.fr _ _ h1
  exact (Al.1 h2).1
 have hcon:RR M w1 β τ st0.l (JU k1 0 (maxS k1)) .li (N8.tmps.toList.take (maxS k1)):=by
  have hfr:Ie M w1 β τ st0.l k1 a:=fun i rv hi=>s1.fr i rv (hk1 i rv hi)
  have:=Q6 hfr (maxS k1) 0 (by have:=RF hmr;omega)
  simpa using this
 have hlq:U1 ⟨ps,assign,body,lt,.ready,none⟩ N8:=⟨by have:=s.sz;show YB a.tmps.size _;rw [this];exact hN,rfl,rfl,rfl,rfl,rfl⟩
 have s3:=s2.Ri (id:=id) (ob:=.lp (JU k1 0 (maxS k1)) ⟨ps,assign,body,lt,.ready,none⟩) (bn:=l) (v:=undef) hid (Ext.refl _ _) s2.Cq s2.mlt s2.CJ (fun _ _=>⟨rfl,fun _ m=>m⟩)
  (fun j ob b hl hb=>⟨rfl,fun _ m=>m,fun e=>by
   have h1:=hold j ob b hl hb
   simp only [Nw,Ac] at e
   omega⟩)
  (fun β' τ' h1 _ hm=>⟨by rw [h1];exact ⟨by show w0.heap.size<=w.heap.size+1;omega,fun k=>k.elim (fun k=>by have:=Xi _ k;omega) (fun e=>by simp only [l,D] at e;omega)⟩,⟨N8,by rw [h1];exact hL,hlq,maxS k1,hcon.keep hm⟩,fun o m=>by rw [h1] at m;have:=ZA _ _ m;omega⟩)
 have hne:∀ j o,lk j st0.l=some o->j≠id:=fun j o h1 e=>by rw [e,hid] at h1;cases h1
 have hmk:CX some st0.l β τ ((id,Ob.lp (JU k1 0 (maxS k1)) ⟨ps,assign,body,lt,.ready,none⟩)::st0.l) (fun j=>if j=id then l else β j) (fun j=>if j=id then undef else τ j):=by
  intro i j o hf' hl'
  cases hf'
  have:=hne i o hl'
  exact ⟨o,by rw [BN,AX this];exact hl',rfl,AX this,AX this⟩
 have ZO:RR M w1 (fun j=>if j=id then l else β j) (fun j=>if j=id then undef else τ j) ((id,Ob.lp (JU k1 0 (maxS k1)) ⟨ps,assign,body,lt,.ready,none⟩)::st0.l) (.yl id) .sl [.func (.yield l) #[] #[]]:=by
  simp only [RR]
  exact ⟨rfl,_,_,_,rfl,rfl,by rw [BN,AY rfl],by simp⟩
 have Ml:Dh M w1 (fun j=>if j=id then l else β j) (fun j=>if j=id then undef else τ j) ((id,Ob.lp (JU k1 0 (maxS k1)) ⟨ps,assign,body,lt,.ready,none⟩)::st0.l) (.yl id::cs) (.func (.yield l) #[] #[]::us):=by
  refine ⟨ZO,?_⟩
  have hcap1:RR M w1 β τ st0.l caps .li us:=by
   have h1:=Gr.alloc sf.mlt (.deferred (some []))
   have h2:=Gr.alloc h1.lt (.loop N8)
   exact (hcap.ext h1.ext).ext h2.ext
  exact Iy hcs (hcap1.keep hmk)
 have Zl:∀ m,(Value.func (.yield l) #[] #[]::us).length<=m->Bb w0 (WB M0 M w1 D) m { s:=((.yl id::cs).zipIdx 0).map fun p=>(p.2,p.1),l:=(id,.lp (JU k1 0 (maxS k1)) ⟨ps,assign,body,lt,.ready,none⟩)::st0.l,k:=(0,[(0,.yl id)])::(st0.b,k2)::st0.k,b:=(st0.b+4001) * 4096 }
   (CK (Value.func (.yield l) #[] #[]::us) m) (Sn l::{ a with defers:=mark D::a.defers }::as) w1:=fun m hm=>⟨M,_,_,{
  df:=Cw s2.df.1
  sz:=by simp only [CK,Array.size_append,List.size_toArray,Array.size_replicate];omega
  Cq:=s3.Cq
  mlt:=s3.mlt
  Fg:=s3.Fg
  gk:=s3.gk
  gx:=s3.gx
  kp:=s3.kp
  CJ:=s3.CJ
  fr:=fun i rv h=>by
   obtain ⟨_,h1⟩:=Gs 0 (.yl id::cs) rv h
   obtain ⟨u,hu,r⟩:=JB Ml (by simpa using h1)
   exact ⟨u,enter_at (by simpa using hu),r⟩
  fs:=by
   refine ⟨fun i rv hi=>?_,fun i rv hi=>?_,s3.fs⟩
   ·rw [BN] at hi
    split at hi
    ·rename_i ei
     try dsimp only at ei
     subst ei
     cases hi
     exact ⟨_,rfl,ZO⟩
    ·simp [lk] at hi
   ·exact s3.fr i rv (hk2 i rv hi)
  ob:=s3.ob
  dj:=s3.dj }⟩
 obtain ⟨hent,hcall⟩:=hH.1 _ α f _ _ r (Value.func (.yield l) #[] #[]::us) _ w1 h (by simp only [Aw,List.length_zipIdx];exact Gm Ml) Zl
 refine ⟨l,[mark D],w1,{ target:=.fn (.func f) us.toArray,args:=#[.func (.yield l) #[] #[]] },w1,f,(Value.func (.yield l) #[] #[]::us).toArray,w1,run_enterLoop_outer _ _ _ _ _,?_,fun _ _=>trivial,?_,fun hd=>absurd hd (by simp [JX]),J3.2 (hcall _ ?_)⟩
 ·simp only [resolve,e]
  simp [go_sem]
 ·simp only [invoke,go_sem]
  rw [show (#[.func (.yield l) #[] #[]]++us.toArray:Array Value)=(Value.func (.yield l) #[] #[]::us).toArray by simp]
  exact hent _ w1
 ·rintro st' rv v w3 hk ⟨M3,β3,τ3,N3,a3,s4,_⟩
  unfold Kg at hk
  obtain ⟨t,ht,hk⟩:=AO.1 hk
  obtain ⟨hβ,hlt,r3,hr3,⟨_,_,_,_,q4,q5⟩,_⟩:=OM s4 ht
  have hbk:blk β3 τ3 t.1 (Ob.lp t.2.1 t.2.2)=some l:=by simp only [blk,hβ]
  obtain ⟨b1,b2,b3,_⟩:=s4.block hlt hbk
  have s5:=(s4.kill t.1).Xx (.loop { r3 with state:=.exhausted }) b2.1 b2.2 b3 (fun j ob hj hb=>by
   obtain ⟨hne,o0,h1,rfl⟩:=Cm hj
   rw [EW] at hb
   exact hne (s4.dj j t.1 o0 _ l h1 hlt hb hbk))
  obtain ⟨s6,_⟩:=s5.pop (N:=1) (Cw s2.df.1) rfl
  obtain ⟨s7,_⟩:=s6.pop (N:=N) s2.df s2.sz
  have fin:t.2.2.state≠.busy->(Instr.endLoop l).run P w3=.ok t.2.2.jump (w3.putObj l (.loop { r3 with state:=.exhausted })):=fun hb=>by
   rw [← q5]
   exact run_endLoop hr3 (by rw [q4];exact hb)
  split at hk
  ·rename_i h1 h2
   refine ⟨_,_,fin (by rw [h1];simp),?_⟩
   rw [h2]
   exact hn _ _ _ _ hsub hk ⟨M3,β3,τ3,s7⟩
  ·rename_i h1 h2
   refine ⟨_,_,fin (by rw [h1];simp),?_⟩
   rw [h2]
   exact wpIn_ret (hr _ _ _ _ hsub hk ⟨M3,β3,τ3,s7⟩)
  ·rename_i j h1 h2
   refine ⟨_,_,fin (by rw [h1];simp),?_⟩
   rw [h2]
   exact wpIn_exit (hx _ j _ _ _ hsub hk ⟨M3,β3,τ3,s7⟩)
  ·cases hk
theorem Ou (hE:BS P E) {H:(α:Type)->[DecidableEq α]->Tg->St->(St->RV->Option α)->Option α} (hH:Ur P w0 H) {lt:LT} {ops:Array Oper} {α:Type} [DecidableEq α] {kn:St->Option α} {r:α} {ro:Option Nat} {n:Nat} (hro:ro=none∨∀ o∈ops.toList,Lc o) (hd:∀ o∈ops.toList,∀ d,o.dst=some d->d < N)
  (hQ:∀ st a w,kn st=some r->Bb w0 M0 N st a as w->Q .normal a w) {st:St} {a:Act} {w:World} (h:Tk E (H α) lt ops st kn=some r) (s:Bb w0 M0 N st a as w):wpAnyIn (JX ro) n P .any ops Q ops.size (Array.replicate ops.size false) a w:=by
 unfold Tk at h
 split at h
 ·rename_i o ho
  obtain ⟨hok,h⟩:=BL h
  obtain ⟨hbk0,h⟩:=BL h
  obtain ⟨st',h',s'⟩:=CV _ _ _ h s
  obtain ⟨CU,rfl⟩:∃ CU,ops=Array.push CU o:=by
   rw [Array.back?_eq_some_iff] at ho
   exact ho
  rw [Array.pop_push] at hbk0 h'
  simp only [Tj,Array.pop_push,AP] at hok
  obtain ⟨k1,k2,k3,k4⟩:=hok
  have hg:o.guard=none:=by
   cases hg:o.guard with
   | none=>rfl
   | some _=>simp [hg] at k1
  have hmem:∀ (i:Nat) (x:Oper),CU[i]? = some x->x∈(CU.push o).toList:=fun i x hx=>by
   rw [Array.toList_push]
   exact List.mem_append_left _ (Array.mem_toList_iff.2 (Array.mem_of_getElem? hx))
  have ho':o∈(CU.push o).toList:=by simp
  have hS:=J5 (P:=P) (Q:=RA P ro n o Q) hE hbk0 (fun i x hx=>hd x (hmem i x hx)) (fun st a w hk s=>Jo (n:=n) hE s (hd o ho') hH (hro.imp id fun h=>h o ho') hk (fun a w=>Q .normal a w) fun st' a' w' hk' s'=>hQ st' a' w' hk' s') h' s'
  have hz:∀ m i,EC (Array.replicate m false) i=false:=by
   intro m i
   unfold EC
   by_cases hi:i < m <;> simp [hi]
  have hc0:∀ m n,cnt (EC (Array.replicate m false)) n=0:=by
   intro m n
   induction n with
   | zero=>rfl
   | succ n ih=>simp [cnt,ih,hz]
  have:=Wd (P:=P) (Q:=Q) (n:=n) hro k2 (fun j hj=>List.all_eq_true.1 k3 j (List.mem_range.2 hj)) hg (fun i x j YW hx hgx=>by
   have:=List.all_eq_true.1 k4 x (Array.mem_toList_iff.2 (Array.mem_of_getElem? hx))
   rw [hgx] at this
   exact Nat.lt_of_lt_of_le (Nat.lt_succ_self _) (Ak this)) CU.size (Array.replicate CU.size false) a w (by simp) (fun i m hi=>by rw [EI,hz] at hi;cases hi) (by rw [hc0];omega) hS
  rw [show Array.replicate (CU.push o).size false=(Array.replicate CU.size false).push false by simp [Array.replicate_succ],Array.size_push]
  exact this
 ·cases h
theorem II (hE:BS P E) (Nf:Nat) {H:(α:Type)->[DecidableEq α]->Tg->St->(St->RV->Option α)->Option α} (hH:Ur P w0 H) {lt:LT} {α:Type} [DecidableEq α] {r:α} (ro:Option Nat) (n:Nat):∀ (c:Code),CB N c=true->(ro=none∨Gd c=true)->∀ (M0:Bs) (kn:St->Option α) (kx:Nat->St->Option α) (kr:St->Option α) (Q:Exit->Act->World->Prop),
  (∀ Ic st a w,Sub M0 Ic->kn st=some r->Bb w0 Ic N st a as w->Q .normal a w)->(∀ Ic j st a w,Sub M0 Ic->kx j st=some r->Bb w0 Ic N st a as w->Q (.exit j) a w)->(∀ Ic st a w,Sub M0 Ic->kr st=some r->Bb w0 Ic N st a as w->Q .ret a w)->
  ∀ st a w,DW E (H α) lt Nf c kn kx kr st=some r->Bb w0 M0 N st a as w->c.wpIn (JX ro) n P Q a w:=by
 intro c
 induction c with
 | skip=>intro _ _ M0 kn kx kr Q hn hx hr st a w h s;exact wpIn_skip (hn M0 st a w (.refl _) h s)
 | region id ops draw=>
  intro hd hnr M0 kn kx kr Q hn hx hr st0 a w h0 s0
  simp only [CB] at hd
  simp only [DW] at h0
  have hdf:ro=none∨∀ o∈ops.toList,Lc o:=hnr.imp (fun h=>h) fun h o ho=>VT h ho
  have hn':∀ st a w,kn st=some r->Bb w0 M0 N st a as w->Q .normal a w:=fun st a w h s=>hn M0 st a w (.refl _) h s
  obtain ⟨st,h,s⟩:=QH h0 s0
  clear h0 s0
  cases draw with
  | false=>
   simp only [AJ] at h
   exact wpIn_region_list (Le hE hH hdf hn' _ st a w (fun _ h=>h) h s fun o ho=>Nc hd ho)
  | true=>
   simp only [AL] at h
   cases Xk:lt.ZI.any (Nat.beq id) with
   | true=>
    rw [Xk,AL] at h
    exact wpIn_region_any hE.mx (Ou hE hH hdf (fun o ho=>Nc hd ho) hn' h (by obtain ⟨M,β,τ,s⟩:=s;exact ⟨M,β,τ,s.grow (Gr.drew s.mlt)⟩))
   | false=>
   rw [Xk,AJ] at h
   obtain ⟨hok,h⟩:=BL h
   obtain ⟨st',h',s'⟩:=CV _ _ _ h s
   exact wpIn_region_any hE.mx (GD hdf _ _ _ _ (J5 hE hok (fun i o ho=>Nc hd (Array.mem_toList_iff.2 (Array.mem_of_getElem? ho))) hn' h' (by obtain ⟨M,β,τ,s'⟩:=s';exact ⟨M,β,τ,s'.grow (Gr.drew s'.mlt)⟩)))
 | seq a b iha ihb=>
  intro hd hnr M0 kn kx kr Q hn hx hr st ac w h s
  simp only [CB,AP] at hd
  simp only [Gd,AP] at hnr
  simp only [DW] at h
  refine wpIn_seq (iha hd.1 (hnr.imp id (·.1)) M0 _ kx kr _ ?_ ?_ ?_ st ac w h s)
  ·intro M1 st' a' w' hs1 h' s'
   have next:∀ Vg,DW E (H α) lt Nf b kn kx kr Vg=some r->Bb w0 M1 N Vg a' as w'->b.wpIn (JX ro) n P Q a' w':=fun Vg h'' s''=>
    ihb hd.2 (hnr.imp id (·.2)) M1 kn kx kr Q (fun M2 st a w hs2=>hn M2 st a w (hs1.trans hs2)) (fun M2 j st a w hs2=>hx M2 j st a w (hs1.trans hs2)) (fun M2 st a w hs2=>hr M2 st a w (hs1.trans hs2)) Vg a' w' h'' s''
   unfold Sb at h'
   cases hj:Te lt b with
   | true=>
    rw [hj] at h'
    exact next _ h' (Jg s' _ _)
   | false=>
    rw [hj] at h'
    exact next _ h' (Qg s' _ _)
  ·intro M1 j st' a' w' hs1 h' s';exact hx M1 j st' a' w' hs1 h' s'
  ·intro M1 st' a' w' hs1 h' s';exact hr M1 st' a' w' hs1 h' s'
 | cond c x y QN ihy=>
  intro hd hnr M0 kn kx kr Q hn hx hr st a w h s
  simp only [CB,AP] at hd
  simp only [Gd,AP] at hnr
  simp only [DW] at h
  split at h
  ·rename_i t heq
   have hv:a.eval c=.bool t:=by
    obtain ⟨M,β,τ,s⟩:=s
    have:=BR s.glob s.fr (some .bool) c
    rw [heq] at this
    obtain ⟨u,e,hv⟩:=this
    simp only [List.cons.injEq,and_true] at e
    rw [e]
    exact hv.bool
   refine wpIn_cond hv ?_
   cases t with
   | true=>
    rw [Q5 heq] at h
    exact QN hd.1 (hnr.imp id (·.1)) M0 kn kx kr Q hn hx hr st a w h s
   | false=>
    rw [Q5 heq] at h
    exact ihy hd.2 (hnr.imp id (·.2)) M0 kn kx kr Q hn hx hr st a w h s
  ·cases h
 | block id c ih=>
  intro hd hnr M0 kn kx kr Q hn hx hr st a w h s
  simp only [CB] at hd
  simp only [Gd] at hnr
  simp only [DW] at h
  refine wpIn_block (ih hd hnr M0 kn _ kr _ ?_ ?_ ?_ st a w h s)
  ·intro M1 st' a' w' hs1 h' s';exact hn M1 st' a' w' hs1 h' s'
  ·intro M1 j st' a' w' hs1 h' s'
   simp only [Exit.inBlock]
   cases hb:Nat.beq j id with
   | true=>
    have:=Aa hb
    subst this
    simp only [hb,AL] at h'
    simpa using hn M1 st' a' w' hs1 h' s'
   | false=>
    have hne:j≠id:=fun h=>by subst h;simp at hb
    simp only [hb,AJ] at h'
    simpa [hne] using hx M1 j st' a' w' hs1 h' s'
  ·intro M1 st' a' w' hs1 h' s';exact hr M1 st' a' w' hs1 h' s'
 | loop c ih=>
  intro hd hnr M0 kn kx kr Q hn hx hr st a w h s
  simp only [CB] at hd
  simp only [Gd] at hnr
  simp only [DW] at h
  refine wpIn_loop_rounds Nf ?_
  have key:∀ (m:Nat) (M1:Bs) (st:St) (a:Act) (w:World),Sub M0 M1->Ot (fun self st=>DW E (H α) lt Nf c (fun st=>self (Ga lt c st)) kx kr st) m st=some r->Bb w0 M1 N st a as w->Code.roundsIn (JX ro) n P c Q m a w:=by
   intro m
   induction m with
   | zero=>intro M1 st a w _ h _;cases h
   | succ m Zd=>
    intro M1 st a w hs1 h s
    rw [roundsIn_succ]
    refine ih hd hnr M1 _ kx kr _ ?_ ?_ ?_ st a w h s
    ·intro M2 st' a' w' hs2 h' s'
     exact Zd M2 _ a' w' (hs1.trans hs2) h' (Jg s' _ _)
    ·intro M2 j st' a' w' hs2 h' s';exact hx M2 j st' a' w' (hs1.trans hs2) h' s'
    ·intro M2 st' a' w' hs2 h' s';exact hr M2 st' a' w' (hs1.trans hs2) h' s'
  exact key Nf M0 _ a w (.refl _) h (Jg s _ _)
 | exit id=>intro _ _ M0 kn kx kr Q hn hx hr st a w h s;exact wpIn_exit (hx M0 id st a w (.refl _) h s)
 | ret=>intro _ _ M0 kn kx kr Q hn hx hr st a w h s;exact wpIn_ret (hr M0 st a w (.refl _) h s)
 | rangeFunc g ps x y _ _=>
  intro hd hnr M0 kn kx kr Q hn hx hr st a w h s
  rcases hnr with rfl | hnr
  ·simp only [CB,AP] at hd
   simp only [DW] at h
   exact PG (lt:=lt) s hH ⟨⟨hd.1,hd.2.1,hd.2.2.1⟩,hd.2.2.2.1,hd.2.2.2.2⟩ hn hx hr h
  ·cases hnr
 | scope _=>intro _ _ _ kn kx kr Q hn hx hr st a w h s;simp [DW] at h
 | label _=>intro _ _ _ kn kx kr Q hn hx hr st a w h s;simp [DW] at h
 | goto _=>intro _ _ _ kn kx kr Q hn hx hr st a w h s;simp [DW] at h
 | refuse _=>intro _ _ _ kn kx kr Q hn hx hr st a w h s;simp [DW] at h
theorem Ho (hE:BS P E) (s:Sm w0 M0 N M β τ st a as w):∀ (rs:List ResultVar) (CO:List RV),FX E st rs=some CO->
  ∃ us:List Value,(rs.mapM (Ls a.tmps)).run P w=.ok us w/\Dh M w β τ st.l CO us
 | [],CO,h=>by simp [FX] at h;subst h;exact ⟨[],by simp,trivial⟩
 | .tmp t::r,CO,h=>by
  simp only [FX] at h
  obtain ⟨rv,Ut,h⟩:=AO.1 h
  obtain ⟨ws,hw,h⟩:=AO.1 h
  cases h
  obtain ⟨us,h1,h2⟩:=Ho hE s r ws hw
  obtain ⟨u,hu,hv⟩:=s.fr _ _ Ut
  refine ⟨u::us,?_,hv,h2⟩
  simp only [List.mapM_cons,Ls,Sem.run_bind,Sem.run_pure,Result.andThen_ok,h1]
  simp [Array.getD_eq_getD_getElem?,hu]
 | .cell t T::r,CO,h=>by
  simp only [FX] at h
  split at h
  ·rename_i i heq
   split at h
   ·rename_i ty con hl
    obtain ⟨hc,h⟩:=BL h
    obtain ⟨ws,hw,h⟩:=AO.1 h
    cases h
    obtain ⟨us,h1,h2⟩:=Ho hE s r ws hw
    obtain ⟨u,hu,hv⟩:=s.fr _ _ heq
    obtain ⟨O1,off,t',hl',ho,hval⟩:=Fy hv
    rw [hl] at hl'
    cases hl'
    have hz:Bc ty []=some (0,ty):=by cases ty <;> rfl
    simp only [Ob.shape,Dl,hz,Ac,Prod.mk.injEq] at ho
    obtain ⟨rfl,rfl⟩:=ho
    obtain ⟨_,⟨cs,T',hb,rc⟩,_⟩:=s.ob i _ hl
    refine ⟨toV ty cs::us,?_,rc.L9,h2⟩
    simp only [List.mapM_cons,Ls,Sem.run_bind]
    have:=LP (hE.tab _ _ (BQ hc)) (off:=0) rc (fun j hj=>by rw [cell_of_row _ _ _ _ _ _ hb];simp)
    simp only [Instr.loadAt,Instr.sureAddr,Sem.run_bind,Sem.run_pure,Result.andThen_ok] at this
    simp only [Array.getD_eq_getD_getElem?,hu,BG,hval,asAddr,Sem.run_pure,Result.andThen_ok]
    rw [this]
    simp [h1]
   ·cases h
  ·cases h
theorem Ey {fn:Func} {us:List Value} {tmps:Array Value} (h:(fn.results.toList.mapM (Ls tmps)).run P w=.ok us w):(results fn tmps).run P w=.ok (OD us) w:=by
 unfold results
 rw [Array.mapM_eq_mapM_toList]
 unfold Ls at h
 simp only [Sem.run_bind,Sem.run_map]
 erw [h]
 rfl
theorem Fj (hE:BS P E) (Nf:Nat) {H:(α:Type)->[DecidableEq α]->Tg->St->(St->RV->Option α)->Option α} (hH:Ur P w0 H) {lt:LT} {α:Type} [DecidableEq α] {r:α} {f:FuncId} {fn:Func} {c:Code} (hf:P.funcs[f]? = some fn) (hb:fn.body=some c) (hd:CB fn.ntmps c=true) {fin:St->Option α} {args:List Value} {R:Ending->World->Prop}
  (h:DW E (H α) lt Nf c fin (fun _ _=>none) fin st=some r) (s:Bb w0 M0 fn.ntmps st (CK args fn.ntmps) as w)
  (hR:∀ st a w',fin st=some r->Bb w0 M0 fn.ntmps st a as w'->∃ v,(results fn a.tmps).run P w'=.ok v w'/\R (.returned v) w'):Calls P f args.toArray w R:=by
 obtain ⟨M,β,τ,s⟩:=s
 refine NV hf hb ?_
 have s0:Sm w0 { M0 with Uu:=M0.kp } fn.ntmps M β τ st (CK args fn.ntmps) as w:=
  { df:=Cw fun _ h=>h,sz:=s.sz,Cq:=s.Cq,mlt:=s.mlt,Fg:=s.Fg,gk:=s.gk,gx:=s.gx,kp:=s.kp,CJ:=s.CJ,fr:=s.fr,fs:=s.fs,ob:=s.ob,dj:=s.dj }
 have Xc:∀ (M1:Bs) (st:St) (a:Act) (w':World),Sub { M0 with Uu:=M0.kp } M1->fin st=some r->Bb w0 M1 fn.ntmps st a as w'->
   ∃ l:List Nat,a.defers=l.map mark/\l.Nodup/\(∀ D∈l,w'.heap[D]? = some (.deferred (some [])))/\∃ v,(results fn a.tmps).run P (GL w' l)=.ok v (GL w' l)/\R (.returned v) (GL w' l):=by
  intro M1 st a w' hs h ⟨M',β',τ',s'⟩
  obtain ⟨_,l,e,nd,hl⟩:=s'.df
  have hh:∀ D∈l,w'.heap[D]? = some (.deferred (some [])):=fun D hD=>(s'.kp D (hl D hD).2.1.1).1.1.trans (hl D hD).2.2.1
  have s1:=(s'.V8 (M0:={ M0 with Uu:=M0.kp }) (a':={ a with defers:=[] }) hs rfl (Cw fun _ h=>h))
  have s2:Sm w0 M0 fn.ntmps M' β' τ' st { a with defers:=[] } as w':=
   { df:=Cw s.df.1,sz:=s1.sz,Cq:=s1.Cq,mlt:=s1.mlt,Fg:=s1.Fg,gk:=s1.gk,gx:=s1.gx,kp:=s1.kp,CJ:=s1.CJ,fr:=s1.fr,fs:=s1.fs,ob:=s1.ob,dj:=s1.dj }
  have s3:=s2.takes l fun D hD=>by
   obtain ⟨g1,g2,g3,g4⟩:=hl D hD
   refine ⟨g1,fun k=>g2.2 (by rw [hs.k0];exact k),fun o m=>g4 o ((s'.kp D g2.1).2 o m),fun id ob h1 h2=>(s'.block h1 h2).2.1.2 g2.1⟩
  obtain ⟨v,h1,h2⟩:=hR st { a with defers:=[] } (GL w' l) h ⟨M',β',τ',s3⟩
  exact ⟨l,e,nd,hh,v,h1,h2⟩
 refine (wpIn_wide (n:=0)).1 (II hE Nf hH none 0 c hd (.inl rfl) _ fin (fun _ _=>none) fin _ ?_ ?_ ?_ st _ w h ⟨M,β,τ,s0⟩)
 ·intro M1 st a w' hs h s;exact Xc M1 st a w' hs h s
 ·intro M1 j st a w' hs h s;cases h
 ·intro M1 st a w' hs h s;exact Xc M1 st a w' hs h s
theorem Jh (hE:BS P E) (Nf:Nat):∀ n,Ur P w0 (fun α _=>hnd (α:=α) E Nf n)
 | 0=>⟨fun M0 α _ f st k r args as w h=>by simp [hnd] at h,fun M0 α _ st k r n N l a as w t h=>by simp [hnd] at h⟩
 | n+1=>by
  refine ⟨fun M0 α _ f st k r args as w h hlen hs=>?_,fun M0 α _ st k r m N l a as w t h ht hN hs R hR=>?_⟩
  ·simp only [hnd] at h
   split at h
   ·rename_i fn lt hl
    obtain ⟨hf,hn,hdst⟩:=hE.inl _ _ _ hl
    split at h
    ·rename_i c hb
     obtain ⟨Yg,h⟩:=BL h
     have hle:args.length<=fn.ntmps:=by rw [← hlen];exact Ak Yg
     refine ⟨enters_of hf hb hn,fun R hR=>Fj hE Nf (Jh hE Nf n) hf hb (hdst c hb) h (hs fn.ntmps hle) ?_⟩
     intro st a w' h s
     obtain ⟨M,β,τ,s⟩:=s
     obtain ⟨CO,h1,h2⟩:=AO.1 h
     obtain ⟨us,h3,h4⟩:=Ho hE s _ _ h1
     exact ⟨_,Ey h3,hR _ _ _ _ h2 ⟨M,β,τ,_,a,s,JC h4⟩⟩
    ·cases h
   ·cases h
  ·simp only [hnd,ht,AA] at h
   obtain ⟨⟨hps,hda,hdb⟩,hra,hrb⟩:=hN
   have fin:∀ (jump:Option Code) (b:Bool) (M1:Bs) (st:St) (a:Act) (w':World),jump.isNone=b->Sub M0 M1->Oh jump b k st=some r->Bb w0 M1 N st a (Sn l::as) w'->∃ v w'',(Instr.endRound l jump).run P w'=.ok v w''/\R (.returned v) w'':=by
    rintro jump b M1 st a w' hj hs1 h ⟨M',β',τ',s'⟩
    unfold Oh at h
    obtain ⟨t1,ht1,h⟩:=AO.1 h
    obtain ⟨hβ,hl1,r1,hr1,⟨q1,q2,q3,q4,q5,q6⟩,_⟩:=OM s' ht1
    split at h
    rotate_left
    ·cases h
    have hst:(if jump.isNone then LoopState.ready else .done)=bif b then .ready else .done:=by subst hj;cases jump <;> rfl
    have s2:=s'.V6 (r:=r1) (q':={ t1.2.2 with state:=bif b then .ready else .done,jump:=jump }) (r':={ r1 with state:=if jump.isNone then .ready else .done,pending:=jump }) hl1 (by rw [hβ];exact hr1) rfl ⟨q1,q2,q3,q4,hst,rfl⟩
    obtain ⟨s3,hl3⟩:=s2.pop (N:=1) (Cw s'.df.1) rfl
    refine ⟨_,_,run_endRound jump hr1,hR _ _ _ _ h ⟨M',β',τ',1,Sn l,?_,?_⟩⟩
    ·rw [hβ] at s3
     exact s3.V8 hs1 rfl (Cw (by obtain ⟨_,_,_,s0⟩:=hs;exact s0.df.1))
    ·rw [hj]
     exact ⟨_,rfl,Bu.CG⟩
   refine II hE Nf (Jh hE Nf n) (some l) m t.2.2.assign hda (.inr hra) M0 _ _ _ _ ?_ ?_ ?_ st a w h hs
   ·rintro M1 st1 a1 w1 hs1 h1 ⟨M',β',τ',s1⟩
    unfold TF at h1
    obtain ⟨t1,ht1,h1⟩:=AO.1 h1
    obtain ⟨hβ,hl1,r1,hr1,⟨q1,q2,q3,q4,q5,q6⟩,_⟩:=OM s1 ht1
    split at h1
    rotate_left
    ·cases h1
    rename_i hq
    have s2:=s1.V6 (r:=r1) (q':={ t1.2.2 with state:=.busy }) (r':={ r1 with state:=.busy }) hl1 (by rw [hβ];exact hr1) rfl ⟨q1,q2,q3,q4,rfl,q6⟩
    rw [hβ] at s2
    refine ⟨_,run_beginRound hr1 (by rw [q5];exact hq),?_⟩
    refine II hE Nf (Jh hE Nf n) (some l) m t.2.2.body hdb (.inr hrb) M1 _ _ _ _ ?_ ?_ ?_ _ a1 _ h1 ⟨M',β',τ',s2⟩
    ·intro M2 st2 a2 w2 hs2 h2 s2;exact fin none true M2 st2 a2 w2 rfl (hs1.trans hs2) h2 s2
    ·intro M2 j st2 a2 w2 hs2 h2 s2;exact fin (some (.exit j)) false M2 st2 a2 w2 rfl (hs1.trans hs2) h2 s2
    ·intro M2 st2 a2 w2 hs2 h2 s2;exact fin (some .ret) false M2 st2 a2 w2 rfl (hs1.trans hs2) h2 s2
   ·intro M1 j st a w _ h _;cases h
   ·intro M1 st a w _ h _;cases h
end
end Go.Lift
