import Derived.Test.YtjcnhegjiffgpaaGreatDoorRiY
set_option linter.unusedSimpArgs false
namespace Go.Lift
open Go.RowKit
section
variable {P:Program} {E:CO} {Q:Exit->Act->World->Prop} {o:Oper} {w0:World} {M0:Bs} {N:Nat} {M M':Own} {β:Nat->Nat} {τ:Nat->Value} {st st':St} {a:Act} {as:List Act} {w w':World} {id:Nat}
def Ret (w0:World) (M0:Bs) (st:St) (rv:RV) (v:Value) (as:List Act) (w:World):Prop:=∃ M β τ N a,Sm w0 M0 N M β τ st a as w/\RR M w β τ st.l rv .sl [v]
def HOk (P:Program) (w0:World) (H:(α:Type)->[DecidableEq α]->Tg->St->(St->RV->Option α)->Option α):Prop:=
 (∀ (M0:Bs) (α:Type) [DecidableEq α] (f:FuncId) (st:St) (k:St->RV->Option α) (r:α) (args:List Value) (as:List Act) (w:World),H α (.fn f) st k=some r->st.s.length=args.length->(∀ m,args.length<=m->Cu w0 M0 m st (FM args m) as w)->
  (∀ (args:Array Value) (w:World),(callFunc f args).run P w=.ok (.enter f args) w)/\
  ∀ R:Ending->World->Prop,(∀ st' rv v w',k st' rv=some r->Ret w0 M0 st' rv v as w'->R (.returned v) w')->Calls P f args.toArray w R)/\
 ∀ (M0:Bs) (α:Type) [DecidableEq α] (st:St) (k:St->RV->Option α) (r:α) (n N l:Nat) (a:Act) (as:List Act) (w:World) (t:Nat×RV×LQ),H α .yl st k=some r->QCs st=some t->LqN N t.2.2->Cu w0 M0 N st a (QHr l::as) w->
  ∀ R:Ending->World->Prop,(∀ st' rv v w',k st' rv=some r->Ret w0 M0 st' rv v as w'->R (.returned v) w')->
   t.2.2.assign.wpIn (uw (some l)) n P (Exit.then (λa₁ w₁=>∃ w₂,(Instr.beginRound l).run P w₁=.ok () w₂/\t.2.2.body.wpIn (uw (some l)) n P (roundPost P l R) a₁ w₂) (λ_ _ _=>False)) a w
theorem QFt (lt:LT) (d:Nat) (args:List RV) (st:St):Go.Lift.push lt d args st={ s:=(args.zipIdx 0).map λp=>(p.2,p.1),l:=st.l,k:=(st.b,match lk d lt.keep with | some ks=>OB st.s ks | none=>st.s)::st.k,b:=(st.b+d+1) * 4096 }:=EO _ _
theorem Sm.push (s:Sm w0 M0 N M β τ st a as w) {lt:LT} {d:Nat} {Gl:List RV} {args:List Value} (hr:Ou M w β τ st.l Gl args) {m:Nat} (hm:args.length<=m):Sm w0 M0 m M β τ (Go.Lift.push lt d Gl st) (FM args m) (a::as) w:=by
 rw [QFt]
 exact {
  df:=KC s.df.1
  sz:=by simp [FM];omega
  J6:=s.J6
  mlt:=s.mlt
  Yn:=s.Yn
  gk:=s.gk
  gx:=s.gx
  kp:=s.kp
  Fu:=s.Fu
  fr:=λi rv h=>by
   obtain ⟨_,h1⟩:=aA 0 Gl rv h
   obtain ⟨u,hu,r⟩:=jD hr (by simpa using h1)
   exact ⟨u,enter_at (by simpa using hu),r⟩
  fs:=by
   refine ⟨?_,s.fs⟩
   dsimp only
   split
   ·exact λi rv h=>s.fr i rv (R6 _ _ _ _ h)
   ·exact s.fr
  ob:=s.ob
  dj:=s.dj }
theorem Sm.pop {N':Nat} {a':Act} (s:Sm w0 M0 N' M β τ st a' (a::as) w) (hdf:QMV w0 M0 a.defers) (hsz:a.tmps.size=N):Sm w0 M0 N M β τ (Go.Lift.pop st) a as w/\(Go.Lift.pop st).l=st.l:=by
 have hfs:=s.fs
 unfold Go.Lift.pop
 cases hk:st.k with
 | nil=>rw [hk] at hfs;exact hfs.elim
 | cons p k=>
  rw [hk] at hfs
  exact ⟨{ df:=hdf,sz:=hsz,J6:=s.J6,mlt:=s.mlt,Yn:=s.Yn,gk:=s.gk,gx:=s.gx,kp:=s.kp,Fu:=s.Fu,fr:=hfs.1,fs:=hfs.2,ob:=s.ob,dj:=s.dj },rfl⟩
theorem l6 (s:Cu w0 M0 N st a as w) (hd:∀ d,o.dst=some d->d < N) {H:(α:Type)->[DecidableEq α]->Tg->St->(St->RV->Option α)->Option α} (hH:HOk P w0 H) {α:Type} [DecidableEq α] {k:St->Option α} {r:α} {lt:LT} {f:Operand} {args:Array Operand} {argTypes:Array TypeId} {g:FuncId} {caps:RV} {cs:List RV}
  (hop:o.op=.call { callee:=.value f,args:=args,argTypes:=argTypes }) (hf:DT none f st.s=.OH g caps) (hsz:Nat.beq args.size argTypes.size=true) (hcs:Yl caps=some cs) {tab:List (TypeId×Ty)}
  (h:H α (.fn g) (push lt (o.dst.getD 0) ((args.toList.zip argTypes.toList).map (λp=>DT (lk p.2 tab) p.1 st.s)++cs) st) (λst' rv=>k (Jd (pop st') o.dst rv))=some r):ROp P Q w0 M0 N o a as w k r:=by
 obtain ⟨M,β,τ,s⟩:=s
 intro K hK
 have rW:=CG s.glob s.fr none f
 rw [hf] at rW
 simp only [RR] at rW
 obtain ⟨_,us,e,hcap⟩:=rW
 simp only [List.cons.injEq,and_true] at e
 have hlen:args.toList.length=argTypes.toList.length:=by simpa using Aa hsz
 have hrel:=Zu (ZK s (tab:=tab) hlen) (iL hcs hcap)
 obtain ⟨hent,hcall⟩:=hH.1 M0 α g _ _ r (args.toList.map a.eval++us) (a::as) w h (by
  have:=Zv hrel
  simp only [QFt,Ay,List.length_zipIdx]
  exact this) λm hm=>⟨M,β,τ,s.push hrel hm⟩
 have hrun:(execOp a.eval o).run P w=.ok (.enter g (args.toList.map a.eval++us).toArray) w:=by
  simp only [execOp,hop,resolve,e,Deferred.ofValue,Sem.run_bind,Sem.run_pure,Result.andThen_ok,invoke]
  rw [show (#[]++Array.map a.eval args++us.toArray)=(args.toList.map a.eval++us).toArray by simp [<- Array.toList_map]]
  exact hent _ w
 unfold Oper.wp
 rw [hrun,Oper.upon_enter]
 refine hcall _ ?_
 rintro st' rv v w' hk ⟨M',β',τ',N',a',s',hr⟩
 obtain ⟨s2,hl⟩:=s'.pop s.df s.sz
 exact hK _ _ _ hk ⟨M',β',τ',s2.set o.dst hd (by rw [hl];exact hr)⟩
theorem QFy (hE:CJ P E) (s:Cu w0 M0 N st a as w) (hd:∀ d,o.dst=some d->d < N) {α:Type} {k:St->Option α} {r:α} {f:Operand} {args:Array Operand} {ts:Array TypeId} {g:FuncId} {caps:RV} {c:UO} (hop:o.op=.call { callee:=.value f,args:=args,argTypes:=ts })
  (hf:DT none f st.s=.OH g caps) (hc:lk g E.rcs=some c) (h:(nQ E c args ts caps st λid ob rv=>k (Jd (Dv id ob st) o.dst rv))=some r):ROp P Q w0 M0 N o a as w k r:=by
 obtain ⟨M,β,τ,s⟩:=s
 intro K hK
 obtain ⟨⟨i,ob,rv⟩,h1,h2⟩:=QAJ (E:=E) (st:=st) _ (λq:Nat×Ob×RV=>k (Jd (Dv q.1 q.2.1 st) o.dst q.2.2)) _ h
 exact (lF (Q:=Q) hE s hop hf hc (h1 _ some) K λM' v w' s' r'=>hK _ _ _ h2 ⟨M',β,τ,s'.set o.dst hd r'⟩).2
def QJd (P:Program) (ro:Option Nat) (n:Nat) (Q:Exit->Act->World->Prop) (w0:World) (M0:Bs) (N:Nat) (o:Oper) (a:Act) (as:List Act) (w:World) {α:Type} (k:St->Option α) (r:α):Prop:=
 ∀ K:Act->World->Prop,(∀ st' a' w',k st'=some r->Cu w0 M0 N st' a' as w'->K a' w')->o.wpIn (uw ro) n P a w K Q
theorem ROp.inR {ro:Option Nat} {n:Nat} (hro:ro=none\/QAD o) {α:Type} {k:St->Option α} {r:α} (h:ROp P Q w0 M0 N o a as w k r):QJd P ro n Q w0 M0 N o a as w k r:=
 λK hK=>uq hro (h K hK)
theorem QCL (lt:LT) (d id:Nat) (con:RV) (q:LQ) (args:List RV) (st:St):QLZ lt d id con q args st={ s:=uS q.ps.toList args (Yc 0 con),l:=st.l,k:=(0,[(0,.yl id)])::(st.b,match lk d lt.keep with | some ks=>OB st.s ks | none=>st.s)::st.k,b:=(st.b+d+1) * 4096 }:=EO _ _
theorem qm (s:Cu w0 M0 N st a as w) (hd:∀ d,o.dst=some d->d < N) {H:(α:Type)->[DecidableEq α]->Tg->St->(St->RV->Option α)->Option α} (hH:HOk P w0 H) {α:Type} [DecidableEq α] {k:St->Option α} {r:α} {lt:LT} {f:Operand} {args:Array Operand} {argTypes:Array TypeId} {id:Nat} {con:RV} {q:LQ} {ro:Option Nat} {n:Nat}
  (hop:o.op=.call { callee:=.value f,args:=args,argTypes:=argTypes }) (hf:DT none f st.s=.yl id) (hl:lk id st.l=some (.lp con q)) (hsz:args.size=argTypes.size) (hps:args.size=q.ps.size) {tab:List (TypeId×Ty)}
  (h:H α .yl (QLZ lt (o.dst.getD 0) id con q ((args.toList.zip argTypes.toList).map (λp=>DT (lk p.2 tab) p.1 st.s)) st) (λst' rv=>k (Jd (pop st') o.dst rv))=some r):QJd P ro n Q w0 M0 N o a as w k r:=by
 obtain ⟨M,β,τ,s⟩:=s
 intro K hK
 have rW:=CG s.glob s.fr none f
 rw [hf] at rW
 simp only [RR] at rW
 obtain ⟨_,u,Fz,q',e,_,hl',hu⟩:=rW
 simp only [List.cons.injEq,and_true] at e
 rw [<- e] at hu
 obtain ⟨_,⟨r0,g1,⟨g2,e1,e2,e3,e4,e5⟩,m,g3⟩,_⟩:=s.ob id _ hl
 have hrel:=ZK s (tab:=tab) (xs:=args.toList) (ts:=argTypes.toList) (by simpa using hsz)
 have hrun:(execOp a.eval o).run P w=.ok (.round (β id) r0.fn ((q.ps.toList.zip (args.toList.map a.eval)).foldl (λt p=>t.setIfInBounds p.1 p.2) r0.tmps) q.assign q.body) w:=by
  simp only [execOp,hop,resolve,hu,Deferred.ofValue,Sem.run_bind,Sem.run_pure,Result.andThen_ok,invoke]
  have hy:=run_yield (P:=P) (args:=args.map a.eval) g1 (by rw [e1];simpa using hps)
  simp only [Array.empty_append]
  rw [hy,e1,e2,e3]
  congr 2
  rw [<- Array.foldl_toList,Array.toList_zip,Array.toList_map]
 refine ⟨λ_ _=>trivial,?_⟩
 rw [show o.semAt (uw ro).round a.eval=execOp a.eval o from Oper.semAt_eq _ _ _ (λc hc=>by rw [hop] at hc;cases hc),hrun,Oper.uponIn_round]
 refine ⟨λhd=>absurd hd (by simp [uw]),roundIn_of_wpIn trivial ?_⟩
 refine hH.2 M0 α _ _ r (n - 1) r0.tmps.size (β id) _ (a::as) w (id,con,q) h ?_ g2 ⟨M,β,τ,?_⟩ _ ?_
 ·rw [QCL]
  simp [QCs,lk,hl]
 ·rw [QCL]
  have hbase:fq M w β τ st.l (Yc 0 con) { tmps:=r0.tmps,defers:=[] }:=λi rv hi=>by
   obtain ⟨_,u',h1,h2⟩:=QHc g3 i rv hi
   refine ⟨u',?_,h2⟩
   rw [Nat.sub_zero,List.getElem?_take] at h1
   split at h1
   ·simpa using h1
   ·cases h1
  have hsize:∀ (l:List (Tmp×Value)) (t:Array Value),(l.foldl (λt p=>t.setIfInBounds p.1 p.2) t).size=t.size:=by
   intro l
   induction l with
   | nil=>intro t;rfl
   | cons p l ih=>intro t;rw [List.foldl_cons,ih];simp
  exact {
   df:=KC s.df.1
   sz:=hsize _ _
   J6:=s.J6
   mlt:=s.mlt
   Yn:=s.Yn
   gk:=s.gk
   gx:=s.gx
   kp:=s.kp
   Fu:=s.Fu
   fr:=QCg hrel g2.1.1 hbase
   fs:=by
    refine ⟨λi rv hi=>?_,?_,s.fs⟩
    ·rw [Bl] at hi
     split at hi
     ·rename_i ei
      try dsimp only at ei
      subst ei
      cases hi
      refine ⟨_,rfl,?_⟩
      simp only [RR]
      exact ⟨rfl,_,con,q,rfl,rfl,hl,rfl⟩
     ·simp [lk] at hi
    ·dsimp only
     split
     ·exact λi rv h=>s.fr i rv (R6 _ _ _ _ h)
     ·exact s.fr
   ob:=s.ob
   dj:=s.dj }
 ·rintro st' rv v w' hk ⟨M',β',τ',N',a',s',hr⟩
  obtain ⟨s2,hl2⟩:=s'.pop s.df s.sz
  exact hK _ _ _ hk ⟨M',β',τ',s2.set o.dst hd (by rw [hl2];exact hr)⟩
theorem rA (hE:CJ P E) (s:Cu w0 M0 N st a as w) (hd:∀ d,o.dst=some d->d < N) {H:(α:Type)->[DecidableEq α]->Tg->St->(St->RV->Option α)->Option α} (hH:HOk P w0 H) {lt:LT} {α:Type} [DecidableEq α] {k:St->Option α} {r:α} {ro:Option Nat} {n:Nat} (hro:ro=none\/QAD o) (h:PV E (H α) lt o st k=some r) :
  QJd P ro n Q w0 M0 N o a as w k r:=by
 have dflt:(match o.dst with | some _=>tZ E o st k | none=>none)=some r->QJd P ro n Q w0 M0 N o a as w k r:=by
  intro h
  split at h
  ·exact (SX hE s hd h).inR hro
  ·cases h
 cases hop:o.op with
 | store t x y=>
  cases hdst:o.dst with
  | none=>exact (QCl hE s hop hdst h).inR hro
  | some d=>refine dflt ?_;rw [hdst];simpa only [PV,hop,hdst] using h
 | mapUpdate t m x y=>
  cases hdst:o.dst with
  | none=>exact (QHB hE s hop hdst h).inR hro
  | some d=>refine dflt ?_;rw [hdst];simpa only [PV,hop,hdst] using h
 | binOp op t x y u=>
  cases hdst:o.dst with
  | none=>simp [PV,hop,hdst] at h
  | some d=>
   cases y with
   | const v=>
    simp only [PV,hop,hdst] at h
    exact (QE1 hE s hd hop hdst h λh=>SX hE s hd h).inR hro
   | _=>refine dflt ?_;rw [hdst];simpa only [PV,hop,hdst] using h
 | convert src dst x=>
  cases hdst:o.dst with
  | none=>simp [PV,hop,hdst] at h
  | some d=>
   simp only [PV,hop,hdst] at h
   exact (QEQ hE s hd hop hdst h λh=>SX hE s hd h).inR hro
 | call c=>
  obtain ⟨callee,args,argTypes⟩:=c
  cases callee with
  | builtin b=>
   cases b with
   | append=>
    cases hdst:o.dst with
    | some d=>
     exact (gL hE s hd hop hdst h).inR hro
    | none=>simp [PV,hop,hdst] at h
   | clear=>
    cases hdst:o.dst with
    | some d=>refine dflt ?_;rw [hdst];simpa only [PV,hop,hdst] using h
    | none=>
     simp only [PV,hop,hdst] at h
     exact (QGg hE s hop hdst h).inR hro
   | _=>
    refine dflt ?_
    cases hdst:o.dst with
    | some d=>simpa only [PV,hop,hdst] using h
    | none=>simp [PV,hop,hdst] at h
  | invoke r m=>
   refine dflt ?_
   cases hdst:o.dst with
   | some d=>simpa only [PV,hop,hdst] using h
   | none=>simp [PV,hop,hdst] at h
  | value f=>
   cases hdst:o.dst with
   | none=>
    simp only [PV,hop,hdst] at h
    split at h
    ·rename_i g caps heq
     split at h
     ·rename_i c hc
      exact (QFy hE s hd hop heq hc (by rw [hdst];exact h)).inR hro
     split at h
     ·rename_i hd'
      cases hd'
     split at h
     ·exact (SX hE s hd h).inR hro
     ·obtain ⟨hsz,h⟩:=BU h
      obtain ⟨cs,hcs,h⟩:=AO.1 h
      exact (l6 s hd hH hop heq hsz hcs (by rw [hdst];exact h)).inR hro
    ·rename_i id heq
     split at h
     ·rename_i con q hl
      split at h
      ·obtain ⟨hsz,h⟩:=BU h
       simp only [AP] at hsz
       exact qm s hd hH hop heq hl (Aa hsz.1) (Aa hsz.2) (by rw [hdst];exact h)
      ·cases h
     ·cases h
    ·cases h
   | some d=>
    simp only [PV,hop,hdst] at h
    split at h
    ·rename_i g caps heq
     split at h
     ·rename_i c hc
      exact (QFy hE s hd hop heq hc (by rw [hdst];exact h)).inR hro
     split at h
     ·rename_i c d' hc hd'
      cases hd'
      obtain ⟨q,h1,h2⟩:=rU (E:=E) (st:=st) _ (λq:(e:Ty)×List e.den×Option Nat=>k (Jd (addN (newId st d) (.row q.1 q.2.1) (Dh (newId st d) (JV q.2.2 st))) (some d) (.row (newId st d)))) _ (by simpa only [EO] using h)
      exact ROp.inR hro λK hK=>rV hE s hd hop heq hc hdst (h1 _ some) K λa' w' s'=>hK _ _ _ h2 s'
     split at h
     ·exact (SX hE s hd h).inR hro
     ·obtain ⟨hsz,h⟩:=BU h
      obtain ⟨cs,hcs,h⟩:=AO.1 h
      exact (l6 s hd hH hop heq hsz hcs (by rw [hdst];exact h)).inR hro
    ·rename_i id heq
     split at h
     ·rename_i con q hl
      split at h
      ·obtain ⟨hsz,h⟩:=BU h
       simp only [AP] at hsz
       exact qm s hd hH hop heq hl (Aa hsz.1) (Aa hsz.2) (by rw [hdst];exact h)
      ·cases h
     ·cases h
    ·cases h
 | _=>
  refine dflt ?_
  cases hdst:o.dst with
  | some d=>simpa only [PV,hop,hdst] using h
  | none=>simp [PV,hop,hdst] at h
theorem xL (hE:CJ P E) (s:Cu w0 M0 N st a as w) (hd:∀ d,o.dst=some d->d < N) {H:(α:Type)->[DecidableEq α]->Tg->St->(St->RV->Option α)->Option α} (hH:HOk P w0 H) {lt:LT} {α:Type} [DecidableEq α] {k:St->Option α} {r:α} {ro:Option Nat} {n:Nat} (hro:ro=none\/QAD o) (h:opR E (H α) lt o st k=some r) :
  QJd P ro n Q w0 M0 N o a as w k r:=by
 unfold opR at h
 split at h
 ·exact rA hE s hd hH hro h
 ·obtain ⟨st',h',s'⟩:=II _ _ _ h s
  exact rA hE s' hd hH hro h'
theorem jH (g:Nat) (b:Bool):∀ (s:List (Nat×RV)),lk g s=some (.val ⟨.bool,b⟩)->V9 g b s=s
 | [],h=>by simp [lk] at h
 | (j,x)::r,h=>by
  rw [Bl] at h
  simp only [V9]
  split at h
  ·rename_i e
   subst e
   cases h
   simp
  ·rename_i e
   have:Nat.beq g j=false:=by cases hb:Nat.beq g j with | false=>rfl | true=>exact absurd (Aa hb) e
   simp only [this,AJ,jH g b r h]
theorem QFF {lt:LT} {c:Operand} {b:Bool} {st:St} (h:DT (some .bool) c st.s=.val ⟨.bool,b⟩):QOI lt c b st=st:=by
 unfold QOI
 split
 ·rename_i i
  have hl:lk i st.s=some (.val ⟨.bool,b⟩):=by
   simp only [DT] at h
   cases hl:lk i st.s with
   | none=>rw [hl] at h;cases h
   | some rv=>rw [hl] at h;exact congrArg some h
  rw [jH i b st.s hl]
  cases lt.cnd.any (Nat.beq i) <;> rfl
 ·rfl
theorem QCx (s:Sm w0 M0 N M β τ st a as w) {ops:Array Oper} {j g:Nat} {b:Bool} (hg:(ops[j]?).bind (·.dst)=some g) (hl:lk g st.s=some (.val ⟨.bool,b⟩)):yielded ops a.tmps j=some b:=by
 obtain ⟨u,hu,u',e,hv⟩:=s.fr g _ hl
 cases e
 have hb:=hv.bool
 simp [yielded,hg,hu,hb]
theorem tO (hE:CJ P E) {H:(α:Type)->[DecidableEq α]->Tg->St->(St->RV->Option α)->Option α} (hH:HOk P w0 H) {lt:LT} {ops:Array Oper} {α:Type} [DecidableEq α] {k:St->Option α} {r:α} {ro:Option Nat} {n:Nat} (hro:ro=none\/∀ o∈ops.toList,QAD o) (hQ:∀ st a w,k st=some r->Cu w0 M0 N st a as w->Q .normal a w):∀ (l:List Oper) (st:St) (a:Act) (w:World),(∀ o∈l,o∈ops.toList)->
  kZ E (H α) lt ops l st k=some r->Cu w0 M0 N st a as w->(∀ o∈l,∀ d,o.dst=some d->d < N)->wpListIn (uw ro) n P ops Q l a w
 | [],st,a,w,_,h,s,_=>hQ st a w h s
 | o::rest,st,a,w,hm,h,s,hd=>by
  refine wpListIn_step λK hK=>?_
  have hdf:ro=none\/QAD o:=hro.imp id λh=>h o (hm o (by simp))
  have hK':∀ st' a' w',kZ E (H α) lt ops rest st' k=some r->Cu w0 M0 N st' a' as w'->K a' w':=λst' a' w' h' s'=>hK a' w' (tO hE hH hro hQ rest st' a' w' (λo' ho'=>hm o' (by simp [ho'])) h' s' λo' ho'=>hd o' (by simp [ho']))
  have hdo:=hd o (by simp)
  simp only [kZ] at h
  split at h
  ·rename_i hg
   simp only [Region.wanted,hg,if_true]
   exact xL (Q:=Q) hE s hdo hH hdf h K hK'
  ·rename_i j want hg
   split at h
   ·rename_i g hgd
    split at h
    ·rename_i b hlk
     obtain ⟨M,β,τ,s⟩:=s
     have hy:=QCx s hgd hlk
     have run:opR E (H α) lt o st (λst=>kZ E (H α) lt ops rest st k)=some r->Region.wanted o (yielded ops a.tmps)=true->(if Region.wanted o (yielded ops a.tmps) then o.wpIn (uw ro) n P a w K Q else (∀ f,o.about P w a.eval=some f->(uw ro).fn f)/\K (a.put o.dst undef) w):=by
      intro h hw
      rw [AY hw]
      exact xL (Q:=Q) hE ⟨M,β,τ,s⟩ hdo hH hdf h K hK'
     have skip:kZ E (H α) lt ops rest (Jd st o.dst (.Oj .unit)) k=some r->Region.wanted o (yielded ops a.tmps)=false->(if Region.wanted o (yielded ops a.tmps) then o.wpIn (uw ro) n P a w K Q else (∀ f,o.about P w a.eval=some f->(uw ro).fn f)/\K (a.put o.dst undef) w):=by
      intro h hw
      rw [AX (by simp [hw])]
      exact ⟨λ_ _=>trivial,hK' _ _ _ h ⟨M,β,τ,s.set o.dst hdo jN⟩⟩
     cases b with
     | true=>
      rw [jH g true st.s hlk] at h
      cases want with
      | true=>exact run h (by simp [Region.wanted,hg,hy])
      | false=>exact skip h (by simp [Region.wanted,hg,hy])
     | false=>
      rw [jH g false st.s hlk] at h
      cases want with
      | true=>exact skip h (by simp [Region.wanted,hg,hy])
      | false=>exact run h (by simp [Region.wanted,hg,hy])
    ·rename_i hlk
     obtain ⟨M,β,τ,s⟩:=s
     have hy:=jU s hgd hlk
     have hw:Region.wanted o (yielded ops a.tmps)=false:=by simp [Region.wanted,hg,hy]
     rw [AX (by simp [hw])]
     exact ⟨λ_ _=>trivial,hK' _ _ _ h ⟨M,β,τ,s.set o.dst hdo jN⟩⟩
    ·cases h
   ·cases h
theorem QEA (s:Cu w0 M0 N st a as w) (lt:LT) (c:Code):Cu w0 M0 N (QE9 lt c st) a as w:=by
 unfold QE9
 split
 ·split
  ·obtain ⟨M,β,τ,s⟩:=s
   exact ⟨M,β,τ,s.OB _⟩
  ·exact s
 ·exact s
theorem kK (s:Cu w0 M0 N st a as w) (lt:LT) (c:Code):Cu w0 M0 N (dH lt c st) a as w:=by
 unfold dH
 split
 ·split
  ·exact (mY _ s).canon _
  ·exact s
 ·exact s
theorem QDe {lt:LT} {rg:Nat} {α:Type} {r:α} {k:St->Option α} (h:zm lt rg st k=some r) (s:Cu w0 M0 N st a as w):∃ st',k st'=some r/\Cu w0 M0 N st' a as w:=by
 unfold zm at h
 split at h
 ·exact II _ _ _ h s
 ·exact ⟨st,h,s⟩
theorem QLY (lt:LT) (id:Nat) (ps:Array Tmp) (assign body:Code) (cs:List RV) (st:St):∃ k1 k2:List (Nat×RV),(∀ i rv,lk i k1=some rv->lk i st.s=some rv)/\(∀ i rv,lk i k2=some rv->lk i st.s=some rv)/\(∀ p∈k1,∃ rv,lk p.1 st.s=some rv)/\
  QFs lt id ps assign body cs st={ s:=((.yl id::cs).zipIdx 0).map λp=>(p.2,p.1),l:=(id,.lp (jf k1 0 (maxS k1)) ⟨ps,assign,body,lt,.ready,none⟩)::st.l,k:=(0,[(0,.yl id)])::(st.b,k2)::st.k,b:=(st.b+4001) * 4096 }:=by
 unfold QFs
 rw [EO]
 split
 ·rename_i k1 k2 _
  exact ⟨OB st.s k1,OB st.s k2,λi rv h=>R6 _ _ _ _ h,λi rv h=>R6 _ _ _ _ h,λp hp=>by
   obtain ⟨v,hv⟩:=kR hp
   exact ⟨v,R6 _ _ _ _ hv⟩,rfl⟩
 ·exact ⟨st.s,st.s,λ_ _ h=>h,λ_ _ h=>h,λp hp=>kR hp,rfl⟩
theorem QCP (s:Cu w0 M0 N st a as w) {H:(α:Type)->[DecidableEq α]->Tg->St->(St->RV->Option α)->Option α} (hH:HOk P w0 H) {α:Type} [DecidableEq α] {r:α} {lt:LT} {g:Operand} {ps:Array Tmp} {assign body:Code} {n:Nat}
  (hN:LqN N ⟨ps,assign,body,lt,.ready,none⟩) {kn:St->Option α} {kx:Nat->St->Option α} {kr:St->Option α}
  (hn:∀ fU st a w,Sub M0 fU->kn st=some r->Cu w0 fU N st a as w->Q .normal a w) (hx:∀ fU j st a w,Sub M0 fU->kx j st=some r->Cu w0 fU N st a as w->Q (.exit j) a w) (hr:∀ fU st a w,Sub M0 fU->kr st=some r->Cu w0 fU N st a as w->Q .ret a w)
  (h:(XZ (newId st 4000) λid=>match DT none g (Dh id st).s with
   | .OH f caps=>(Yl caps).bind λcs=>H α (.fn f) (QFs lt id ps assign body cs (Dh id st)) λst' _=>qE kn kx kr st'
   | _=>none)=some r):(Code.rangeFunc g ps assign body).wpIn (uw none) n P Q a w:=by
 rw [EO] at h
 obtain ⟨M,β,τ,s⟩:=s
 have sf:=s.Dh (newId st 4000)
 have hid:=Vt (newId st 4000) st
 generalize newId st 4000=id at h sf hid
 generalize Dh id st=st0 at h sf hid
 split at h
 rotate_left
 ·cases h
 rename_i f caps hf
 obtain ⟨cs,hcs,h⟩:=AO.1 h
 have rW:=CG sf.glob sf.fr none g
 rw [hf] at rW
 simp only [RR] at rW
 obtain ⟨_,us,e,hcap⟩:=rW
 simp only [List.cons.injEq,and_true] at e
 have hrel:=iL hcs hcap
 refine wpIn_rangeFunc λfn _=>?_
 obtain ⟨k1,k2,hk1,hk2,hk3,hpush⟩:=QLY lt id ps assign body cs st0
 rw [hpush] at h
 let D:=w.heap.size
 let l:=w.heap.size+1
 let QAI:Loop:={ state:=.ready,pending:=none,fn,tmps:=a.tmps,params:=ps,assign,body,defers:=w.heap.size }
 let w1:=(w.alloc (.deferred (some []))).alloc (.loop QAI)
 have hw1:w1=(w.alloc (.deferred (some []))).alloc (.loop QAI):=rfl
 have hL:w1.heap[l]? = some (.loop QAI):=by
  have:=World.alloc_heap_new (w.alloc (.deferred (some []))) (.loop QAI)
  rwa [World.size_alloc] at this
 have hD:w1.heap[D]? = some (.deferred (some [])):=(Below.heap_alloc _ _ _ (by simp [D])).trans (World.alloc_heap_new w _)
 have s1:Sm w0 M0 N M β τ st0 a as w1:=by
  have:=sf.grow (Gr.alloc sf.mlt (.deferred (some [])))
  exact this.grow (Gr.alloc this.mlt (.loop QAI))
 have hsz:w0.heap.size<=w.heap.size:=sf.J6.size
 have hold:∀ id ob b,lk id st0.l=some ob->blk β τ id ob=some b->b < w.heap.size:=λid ob b h1 h2=>(sf.block h1 h2).1
 have QZI:∀ b,M0.kp b->b < w.heap.size:=λb k=>(sf.kp b k).1.2
 have hMl:∀ b o,M b o->b < w.heap.size:=sf.mlt
 have s2:=s1.marked (D:=D) hsz (λk=>by have:=QZI _ k;omega) hD (λo m=>by have:=hMl _ _ m;omega) (λid ob hl hb=>by have:=hold id ob _ hl hb;omega)
 have hsub:=s1.QM3 D
 have hmr:∀ p∈k1,p.1 < a.tmps.size:=λp hp=>by
  obtain ⟨rv,h1⟩:=hk3 p hp
  obtain ⟨u,h2,_⟩:=s2.fr _ _ h1
  exact (Am.1 h2).1
 have hcon:RR M w1 β τ st0.l (jf k1 0 (maxS k1)) .li (QAI.tmps.toList.take (maxS k1)):=by
  have hfr:fq M w1 β τ st0.l k1 a:=λi rv hi=>s1.fr i rv (hk1 i rv hi)
  have:=QFI hfr (maxS k1) 0 (by have:=QFj hmr;omega)
  simpa using this
 have hlq:QMh ⟨ps,assign,body,lt,.ready,none⟩ QAI:=⟨by have:=s.sz;show LqN a.tmps.size _;rw [this];exact hN,rfl,rfl,rfl,rfl,rfl⟩
 have s3:=s2.QKR (id:=id) (ob:=.lp (jf k1 0 (maxS k1)) ⟨ps,assign,body,lt,.ready,none⟩) (bn:=l) (v:=undef) hid (Ext.refl _ _) s2.J6 s2.mlt s2.Fu (λ_ _=>⟨rfl,λ_ m=>m⟩)
  (λj ob b hl hb=>⟨rfl,λ_ m=>m,λe=>by
   have h1:=hold j ob b hl hb
   simp only [QA9,Ac] at e
   omega⟩)
  (λβ' τ' h1 _ hm=>⟨by rw [h1];exact ⟨by show w0.heap.size<=w.heap.size+1;omega,λk=>k.elim (λk=>by have:=QZI _ k;omega) (λe=>by simp only [l,D] at e;omega)⟩,⟨QAI,by rw [h1];exact hL,hlq,maxS k1,hcon.keep hm⟩,λo m=>by rw [h1] at m;have:=hMl _ _ m;omega⟩)
 have hne:∀ j o,lk j st0.l=some o->j≠id:=λj o h1 e=>by rw [e,hid] at h1;cases h1
 have hmk:Gq some st0.l β τ ((id,Ob.lp (jf k1 0 (maxS k1)) ⟨ps,assign,body,lt,.ready,none⟩)::st0.l) (λj=>if j=id then l else β j) (λj=>if j=id then undef else τ j):=by
  intro i j o hf' hl'
  cases hf'
  have:=hne i o hl'
  exact ⟨o,by rw [Bl,AX this];exact hl',rfl,AX this,AX this⟩
 have ryl:RR M w1 (λj=>if j=id then l else β j) (λj=>if j=id then undef else τ j) ((id,Ob.lp (jf k1 0 (maxS k1)) ⟨ps,assign,body,lt,.ready,none⟩)::st0.l) (.yl id) .sl [.func (.yield l) #[] #[]]:=by
  simp only [RR]
  exact ⟨rfl,_,_,_,rfl,rfl,by rw [Bl,AY rfl],by simp⟩
 have wZ:Ou M w1 (λj=>if j=id then l else β j) (λj=>if j=id then undef else τ j) ((id,Ob.lp (jf k1 0 (maxS k1)) ⟨ps,assign,body,lt,.ready,none⟩)::st0.l) (.yl id::cs) (.func (.yield l) #[] #[]::us):=by
  refine ⟨ryl,?_⟩
  have hcap1:RR M w1 β τ st0.l caps .li us:=by
   have h1:=Gr.alloc sf.mlt (.deferred (some []))
   have h2:=Gr.alloc h1.lt (.loop QAI)
   exact (hcap.ext h1.ext).ext h2.ext
  exact iL hcs (hcap1.keep hmk)
 have sim:∀ m,(Value.func (.yield l) #[] #[]::us).length<=m->Cu w0 (QSi M0 M w1 D) m { s:=((.yl id::cs).zipIdx 0).map λp=>(p.2,p.1),l:=(id,.lp (jf k1 0 (maxS k1)) ⟨ps,assign,body,lt,.ready,none⟩)::st0.l,k:=(0,[(0,.yl id)])::(st0.b,k2)::st0.k,b:=(st0.b+4001) * 4096 }
   (FM (Value.func (.yield l) #[] #[]::us) m) (QHr l::{ a with defers:=mark D::a.defers }::as) w1:=λm hm=>⟨M,_,_,{
  df:=KC s2.df.1
  sz:=by simp only [FM,Array.size_append,List.size_toArray,Array.size_replicate];omega
  J6:=s3.J6
  mlt:=s3.mlt
  Yn:=s3.Yn
  gk:=s3.gk
  gx:=s3.gx
  kp:=s3.kp
  Fu:=s3.Fu
  fr:=λi rv h=>by
   obtain ⟨_,h1⟩:=aA 0 (.yl id::cs) rv h
   obtain ⟨u,hu,r⟩:=jD wZ (by simpa using h1)
   exact ⟨u,enter_at (by simpa using hu),r⟩
  fs:=by
   refine ⟨λi rv hi=>?_,λi rv hi=>?_,s3.fs⟩
   ·rw [Bl] at hi
    split at hi
    ·rename_i ei
     try dsimp only at ei
     subst ei
     cases hi
     exact ⟨_,rfl,ryl⟩
    ·simp [lk] at hi
   ·exact s3.fr i rv (hk2 i rv hi)
  ob:=s3.ob
  dj:=s3.dj }⟩
 obtain ⟨hent,hcall⟩:=hH.1 _ α f _ _ r (Value.func (.yield l) #[] #[]::us) _ w1 h (by simp only [Ay,List.length_zipIdx];exact Zv wZ) sim
 refine ⟨l,[mark D],w1,{ target:=.fn (.func f) us.toArray,args:=#[.func (.yield l) #[] #[]] },w1,f,(Value.func (.yield l) #[] #[]::us).toArray,w1,run_enterLoop_outer _ _ _ _ _,?_,λ_ _=>trivial,?_,λhd=>absurd hd (by simp [uw]),l7.2 (hcall _ ?_)⟩
 ·simp only [resolve,e]
  simp [go_sem]
 ·simp only [invoke,go_sem]
  rw [show (#[.func (.yield l) #[] #[]]++us.toArray:Array Value)=(Value.func (.yield l) #[] #[]::us).toArray by simp]
  exact hent _ w1
 ·rintro st' rv v w3 hk ⟨M3,β3,τ3,N3,a3,s4,_⟩
  unfold qE at hk
  obtain ⟨t,ht,hk⟩:=AO.1 hk
  obtain ⟨hβ,hlt,r3,hr3,⟨_,_,_,_,q4,q5⟩,_⟩:=QAb s4 ht
  have hbk:blk β3 τ3 t.1 (Ob.lp t.2.1 t.2.2)=some l:=by simp only [blk,hβ]
  obtain ⟨b1,b2,b3,_⟩:=s4.block hlt hbk
  have s5:=(s4.kill t.1).QZm (.loop { r3 with state:=.exhausted }) b2.1 b2.2 b3 (λj ob hj hb=>by
   obtain ⟨hne,o0,h1,rfl⟩:=JW hj
   rw [TU] at hb
   exact hne (s4.dj j t.1 o0 _ l h1 hlt hb hbk))
  obtain ⟨s6,_⟩:=s5.pop (N:=1) (KC s2.df.1) rfl
  obtain ⟨s7,_⟩:=s6.pop (N:=N) s2.df s2.sz
  have fin:t.2.2.state≠.busy->(Instr.endLoop l).run P w3=.ok t.2.2.jump (w3.putObj l (.loop { r3 with state:=.exhausted })):=λhb=>by
   rw [<- q5]
   exact run_endLoop hr3 (by rw [q4];exact hb)
  split at hk
  ·rename_i h1 h2
   refine ⟨_,_,fin (by rw [h1];simp),?_⟩
   rw [h2]
   exact hn _ _ _ _ hsub hk ⟨M3,β3,τ3,s7⟩
  ·rename_i h1 h2
   refine ⟨_,_,fin (by rw [h1];simp),?_⟩
   rw [h2]
   exact wpIn_ret (hr _ _ _ _ hsub hk ⟨M3,β3,τ3,s7⟩)
  ·rename_i j h1 h2
   refine ⟨_,_,fin (by rw [h1];simp),?_⟩
   rw [h2]
   exact wpIn_exit (hx _ j _ _ _ hsub hk ⟨M3,β3,τ3,s7⟩)
  ·cases hk
theorem dh (hE:CJ P E) (Nf:Nat) {H:(α:Type)->[DecidableEq α]->Tg->St->(St->RV->Option α)->Option α} (hH:HOk P w0 H) {lt:LT} {α:Type} [DecidableEq α] {r:α} (ro:Option Nat) (n:Nat):∀ (c:Code),EZ N c=true->(ro=none\/Zh c=true)->∀ (M0:Bs) (kn:St->Option α) (kx:Nat->St->Option α) (kr:St->Option α) (Q:Exit->Act->World->Prop),
  (∀ fU st a w,Sub M0 fU->kn st=some r->Cu w0 fU N st a as w->Q .normal a w)->(∀ fU j st a w,Sub M0 fU->kx j st=some r->Cu w0 fU N st a as w->Q (.exit j) a w)->(∀ fU st a w,Sub M0 fU->kr st=some r->Cu w0 fU N st a as w->Q .ret a w)->
  ∀ st a w,Om E (H α) lt Nf c kn kx kr st=some r->Cu w0 M0 N st a as w->c.wpIn (uw ro) n P Q a w:=by
 intro c
 induction c with
 | skip=>intro _ _ M0 kn kx kr Q hn hx hr st a w h s;exact wpIn_skip (hn M0 st a w (.refl _) h s)
 | region id ops draw=>
  intro hd hnr M0 kn kx kr Q hn hx hr st0 a w h0 s0
  simp only [EZ] at hd
  simp only [Om] at h0
  have hdf:ro=none\/∀ o∈ops.toList,QAD o:=hnr.imp (λh=>h) λh o ho=>QOi h ho
  have hn':∀ st a w,kn st=some r->Cu w0 M0 N st a as w->Q .normal a w:=λst a w h s=>hn M0 st a w (.refl _) h s
  obtain ⟨st,h,s⟩:=QDe h0 s0
  clear h0 s0
  cases draw with
  | false=>
   simp only [AJ] at h
   exact wpIn_region_list (tO hE hH hdf hn' _ st a w (λ_ h=>h) h s λo ho=>QFM hd ho)
  | true=>
   simp only [AL] at h
   obtain ⟨hok,h⟩:=BU h
   obtain ⟨st',h',s'⟩:=II _ _ _ h s
   exact wpIn_region_any hE.mx (Ye hdf _ _ _ _ (QBY hE hok (λi o ho=>QFM hd (Array.mem_toList_iff.2 (Array.mem_of_getElem? ho))) hn' h' (by obtain ⟨M,β,τ,s'⟩:=s';exact ⟨M,β,τ,s'.grow (Gr.drew s'.mlt)⟩)))
 | seq a b iha ihb=>
  intro hd hnr M0 kn kx kr Q hn hx hr st ac w h s
  simp only [EZ,AP] at hd
  simp only [Zh,AP] at hnr
  simp only [Om] at h
  refine wpIn_seq (iha hd.1 (hnr.imp id (·.1)) M0 _ kx kr _ ?_ ?_ ?_ st ac w h s)
  ·intro M1 st' a' w' hs1 h' s'
   have next:∀ QP2,Om E (H α) lt Nf b kn kx kr QP2=some r->Cu w0 M1 N QP2 a' as w'->b.wpIn (uw ro) n P Q a' w':=λQP2 h'' s''=>
    ihb hd.2 (hnr.imp id (·.2)) M1 kn kx kr Q (λM2 st a w hs2=>hn M2 st a w (hs1.trans hs2)) (λM2 j st a w hs2=>hx M2 j st a w (hs1.trans hs2)) (λM2 st a w hs2=>hr M2 st a w (hs1.trans hs2)) QP2 a' w' h'' s''
   unfold QLq at h'
   cases hj:QL6 lt b with
   | true=>
    rw [hj] at h'
    exact next _ h' (kK s' _ _)
   | false=>
    rw [hj] at h'
    exact next _ h' (QEA s' _ _)
  ·intro M1 j st' a' w' hs1 h' s';exact hx M1 j st' a' w' hs1 h' s'
  ·intro M1 st' a' w' hs1 h' s';exact hr M1 st' a' w' hs1 h' s'
 | cond c x y ihx ihy=>
  intro hd hnr M0 kn kx kr Q hn hx hr st a w h s
  simp only [EZ,AP] at hd
  simp only [Zh,AP] at hnr
  simp only [Om] at h
  split at h
  ·rename_i t heq
   have hv:a.eval c=.bool t:=by
    obtain ⟨M,β,τ,s⟩:=s
    have:=CG s.glob s.fr (some .bool) c
    rw [heq] at this
    obtain ⟨u,e,hv⟩:=this
    simp only [List.cons.injEq,and_true] at e
    rw [e]
    exact hv.bool
   refine wpIn_cond hv ?_
   cases t with
   | true=>
    rw [QFF heq] at h
    exact ihx hd.1 (hnr.imp id (·.1)) M0 kn kx kr Q hn hx hr st a w h s
   | false=>
    rw [QFF heq] at h
    exact ihy hd.2 (hnr.imp id (·.2)) M0 kn kx kr Q hn hx hr st a w h s
  ·cases h
 | block id c ih=>
  intro hd hnr M0 kn kx kr Q hn hx hr st a w h s
  simp only [EZ] at hd
  simp only [Zh] at hnr
  simp only [Om] at h
  refine wpIn_block (ih hd hnr M0 kn _ kr _ ?_ ?_ ?_ st a w h s)
  ·intro M1 st' a' w' hs1 h' s';exact hn M1 st' a' w' hs1 h' s'
  ·intro M1 j st' a' w' hs1 h' s'
   simp only [Exit.inBlock]
   cases hb:Nat.beq j id with
   | true=>
    have:=Aa hb
    subst this
    simp only [hb,AL] at h'
    simpa using hn M1 st' a' w' hs1 h' s'
   | false=>
    have hne:j≠id:=λh=>by subst h;simp at hb
    simp only [hb,AJ] at h'
    simpa [hne] using hx M1 j st' a' w' hs1 h' s'
  ·intro M1 st' a' w' hs1 h' s';exact hr M1 st' a' w' hs1 h' s'
 | loop c ih=>
  intro hd hnr M0 kn kx kr Q hn hx hr st a w h s
  simp only [EZ] at hd
  simp only [Zh] at hnr
  simp only [Om] at h
  refine wpIn_loop_rounds Nf ?_
  have key:∀ (m:Nat) (M1:Bs) (st:St) (a:Act) (w:World),Sub M0 M1->Bd (λself st=>Om E (H α) lt Nf c (λst=>self (dH lt c st)) kx kr st) m st=some r->Cu w0 M1 N st a as w->Code.roundsIn (uw ro) n P c Q m a w:=by
   intro m
   induction m with
   | zero=>intro M1 st a w _ h _;cases h
   | succ m ihm=>
    intro M1 st a w hs1 h s
    rw [roundsIn_succ]
    refine ih hd hnr M1 _ kx kr _ ?_ ?_ ?_ st a w h s
    ·intro M2 st' a' w' hs2 h' s'
     exact ihm M2 _ a' w' (hs1.trans hs2) h' (kK s' _ _)
    ·intro M2 j st' a' w' hs2 h' s';exact hx M2 j st' a' w' (hs1.trans hs2) h' s'
    ·intro M2 st' a' w' hs2 h' s';exact hr M2 st' a' w' (hs1.trans hs2) h' s'
  exact key Nf M0 _ a w (.refl _) h (kK s _ _)
 | exit id=>intro _ _ M0 kn kx kr Q hn hx hr st a w h s;exact wpIn_exit (hx M0 id st a w (.refl _) h s)
 | ret=>intro _ _ M0 kn kx kr Q hn hx hr st a w h s;exact wpIn_ret (hr M0 st a w (.refl _) h s)
 | rangeFunc g ps x y _ _=>
  intro hd hnr M0 kn kx kr Q hn hx hr st a w h s
  rcases hnr with rfl | hnr
  ·simp only [EZ,AP] at hd
   simp only [Om] at h
   exact QCP (lt:=lt) s hH ⟨⟨hd.1,hd.2.1,hd.2.2.1⟩,hd.2.2.2.1,hd.2.2.2.2⟩ hn hx hr h
  ·cases hnr
 | scope _=>intro _ _ _ kn kx kr Q hn hx hr st a w h s;simp [Om] at h
 | label _=>intro _ _ _ kn kx kr Q hn hx hr st a w h s;simp [Om] at h
 | goto _=>intro _ _ _ kn kx kr Q hn hx hr st a w h s;simp [Om] at h
 | refuse _=>intro _ _ _ kn kx kr Q hn hx hr st a w h s;simp [Om] at h
theorem bU (hE:CJ P E) (s:Sm w0 M0 N M β τ st a as w):∀ (rs:List ResultVar) (Gl:List RV),XQ E st rs=some Gl->
  ∃ us:List Value,(rs.mapM (uH a.tmps)).run P w=.ok us w/\Ou M w β τ st.l Gl us
 | [],Gl,h=>by simp [XQ] at h;subst h;exact ⟨[],by simp,trivial⟩
 | .tmp t::r,Gl,h=>by
  simp only [XQ] at h
  obtain ⟨rv,hrv,h⟩:=AO.1 h
  obtain ⟨ws,hw,h⟩:=AO.1 h
  cases h
  obtain ⟨us,h1,h2⟩:=bU hE s r ws hw
  obtain ⟨u,hu,hv⟩:=s.fr _ _ hrv
  refine ⟨u::us,?_,hv,h2⟩
  simp only [List.mapM_cons,uH,Sem.run_bind,Sem.run_pure,Result.andThen_ok,h1]
  simp [Array.getD_eq_getD_getElem?,hu]
 | .cell t T::r,Gl,h=>by
  simp only [XQ] at h
  split at h
  ·rename_i i heq
   split at h
   ·rename_i ty con hl
    obtain ⟨hc,h⟩:=BU h
    obtain ⟨ws,hw,h⟩:=AO.1 h
    cases h
    obtain ⟨us,h1,h2⟩:=bU hE s r ws hw
    obtain ⟨u,hu,hv⟩:=s.fr _ _ heq
    obtain ⟨ob1,off,t',hl',ho,hval⟩:=YB hv
    rw [hl] at hl'
    cases hl'
    have hz:C8 ty []=some (0,ty):=by cases ty <;> rfl
    simp only [Ob.shape,SV,hz,Ac,Prod.mk.injEq] at ho
    obtain ⟨rfl,rfl⟩:=ho
    obtain ⟨_,⟨cs,T',hb,rc⟩,_⟩:=s.ob i _ hl
    refine ⟨toV ty cs::us,?_,rc.uT,h2⟩
    simp only [List.mapM_cons,uH,Sem.run_bind]
    have:=sM (hE.tab _ _ (Bu hc)) (off:=0) rc (λj hj=>by rw [cell_of_row _ _ _ _ _ _ hb];simp)
    simp only [Instr.loadAt,Instr.sureAddr,Sem.run_bind,Sem.run_pure,Result.andThen_ok] at this
    simp only [Array.getD_eq_getD_getElem?,hu,BH,hval,asAddr,Sem.run_pure,Result.andThen_ok]
    rw [this]
    simp [h1]
   ·cases h
  ·cases h
theorem V8 {fn:Func} {us:List Value} {tmps:Array Value} (h:(fn.results.toList.mapM (uH tmps)).run P w=.ok us w):(results fn tmps).run P w=.ok (QAO us) w:=by
 unfold results
 rw [Array.mapM_eq_mapM_toList]
 unfold uH at h
 simp only [Sem.run_bind,Sem.run_map]
 erw [h]
 rfl
theorem Xj (hE:CJ P E) (Nf:Nat) {H:(α:Type)->[DecidableEq α]->Tg->St->(St->RV->Option α)->Option α} (hH:HOk P w0 H) {lt:LT} {α:Type} [DecidableEq α] {r:α} {f:FuncId} {fn:Func} {c:Code} (hf:P.funcs[f]? = some fn) (hb:fn.body=some c) (hd:EZ fn.ntmps c=true) {fin:St->Option α} {args:List Value} {R:Ending->World->Prop}
  (h:Om E (H α) lt Nf c fin (λ_ _=>none) fin st=some r) (s:Cu w0 M0 fn.ntmps st (FM args fn.ntmps) as w)
  (hR:∀ st a w',fin st=some r->Cu w0 M0 fn.ntmps st a as w'->∃ v,(results fn a.tmps).run P w'=.ok v w'/\R (.returned v) w'):Calls P f args.toArray w R:=by
 obtain ⟨M,β,τ,s⟩:=s
 refine yh hf hb ?_
 have s0:Sm w0 { M0 with kp0:=M0.kp } fn.ntmps M β τ st (FM args fn.ntmps) as w:=
  { df:=KC λ_ h=>h,sz:=s.sz,J6:=s.J6,mlt:=s.mlt,Yn:=s.Yn,gk:=s.gk,gx:=s.gx,kp:=s.kp,Fu:=s.Fu,fr:=s.fr,fs:=s.fs,ob:=s.ob,dj:=s.dj }
 have QZ7:∀ (M1:Bs) (st:St) (a:Act) (w':World),Sub { M0 with kp0:=M0.kp } M1->fin st=some r->Cu w0 M1 fn.ntmps st a as w'->
   ∃ l:List Nat,a.defers=l.map mark/\l.Nodup/\(∀ D∈l,w'.heap[D]? = some (.deferred (some [])))/\∃ v,(results fn a.tmps).run P (Yt w' l)=.ok v (Yt w' l)/\R (.returned v) (Yt w' l):=by
  intro M1 st a w' hs h ⟨M',β',τ',s'⟩
  obtain ⟨_,l,e,nd,hl⟩:=s'.df
  have hh:∀ D∈l,w'.heap[D]? = some (.deferred (some [])):=λD hD=>(s'.kp D (hl D hD).2.1.1).1.1.trans (hl D hD).2.2.1
  have s1:=(s'.QRR (M0:={ M0 with kp0:=M0.kp }) (a':={ a with defers:=[] }) hs rfl (KC λ_ h=>h))
  have s2:Sm w0 M0 fn.ntmps M' β' τ' st { a with defers:=[] } as w':=
   { df:=KC s.df.1,sz:=s1.sz,J6:=s1.J6,mlt:=s1.mlt,Yn:=s1.Yn,gk:=s1.gk,gx:=s1.gx,kp:=s1.kp,Fu:=s1.Fu,fr:=s1.fr,fs:=s1.fs,ob:=s1.ob,dj:=s1.dj }
  have s3:=s2.takes l λD hD=>by
   obtain ⟨g1,g2,g3,g4⟩:=hl D hD
   refine ⟨g1,λk=>g2.2 (by rw [hs.k0];exact k),λo m=>g4 o ((s'.kp D g2.1).2 o m),λid ob h1 h2=>(s'.block h1 h2).2.1.2 g2.1⟩
  obtain ⟨v,h1,h2⟩:=hR st { a with defers:=[] } (Yt w' l) h ⟨M',β',τ',s3⟩
  exact ⟨l,e,nd,hh,v,h1,h2⟩
 refine (wpIn_wide (n:=0)).1 (dh hE Nf hH none 0 c hd (.inl rfl) _ fin (λ_ _=>none) fin _ ?_ ?_ ?_ st _ w h ⟨M,β,τ,s0⟩)
 ·intro M1 st a w' hs h s;exact QZ7 M1 st a w' hs h s
 ·intro M1 j st a w' hs h s;cases h
 ·intro M1 st a w' hs h s;exact QZ7 M1 st a w' hs h s
theorem kL (hE:CJ P E) (Nf:Nat):∀ n,HOk P w0 (λα _=>hnd (α:=α) E Nf n)
 | 0=>⟨λM0 α _ f st k r args as w h=>by simp [hnd] at h,λM0 α _ st k r n N l a as w t h=>by simp [hnd] at h⟩
 | n+1=>by
  refine ⟨λM0 α _ f st k r args as w h hlen hs=>?_,λM0 α _ st k r m N l a as w t h ht hN hs R hR=>?_⟩
  ·simp only [hnd] at h
   split at h
   ·rename_i fn lt hl
    obtain ⟨hf,hn,hdst⟩:=hE.inl _ _ _ hl
    split at h
    ·rename_i c hb
     obtain ⟨Qcs,h⟩:=BU h
     have hle:args.length<=fn.ntmps:=by rw [<- hlen];exact Ak Qcs
     refine ⟨enters_of hf hb hn,λR hR=>Xj hE Nf (kL hE Nf n) hf hb (hdst c hb) h (hs fn.ntmps hle) ?_⟩
     intro st a w' h s
     obtain ⟨M,β,τ,s⟩:=s
     obtain ⟨Gl,h1,h2⟩:=AO.1 h
     obtain ⟨us,h3,h4⟩:=bU hE s _ _ h1
     exact ⟨_,V8 h3,hR _ _ _ _ h2 ⟨M,β,τ,_,a,s,jE h4⟩⟩
    ·cases h
   ·cases h
  ·simp only [hnd,ht,AA] at h
   obtain ⟨⟨hps,hda,hdb⟩,hra,hrb⟩:=hN
   have fin:∀ (jump:Option Code) (b:Bool) (M1:Bs) (st:St) (a:Act) (w':World),jump.isNone=b->Sub M0 M1->QBb jump b k st=some r->Cu w0 M1 N st a (QHr l::as) w'->∃ v w'',(Instr.endRound l jump).run P w'=.ok v w''/\R (.returned v) w'':=by
    rintro jump b M1 st a w' hj hs1 h ⟨M',β',τ',s'⟩
    unfold QBb at h
    obtain ⟨t1,ht1,h⟩:=AO.1 h
    obtain ⟨hβ,hl1,r1,hr1,⟨q1,q2,q3,q4,q5,q6⟩,_⟩:=QAb s' ht1
    split at h
    rotate_left
    ·cases h
    have hst:(if jump.isNone then LoopState.ready else .done)=bif b then .ready else .done:=by subst hj;cases jump <;> rfl
    have s2:=s'.QRM (r:=r1) (q':={ t1.2.2 with state:=bif b then .ready else .done,jump:=jump }) (r':={ r1 with state:=if jump.isNone then .ready else .done,pending:=jump }) hl1 (by rw [hβ];exact hr1) rfl ⟨q1,q2,q3,q4,hst,rfl⟩
    obtain ⟨s3,hl3⟩:=s2.pop (N:=1) (KC s'.df.1) rfl
    refine ⟨_,_,run_endRound jump hr1,hR _ _ _ _ h ⟨M',β',τ',1,QHr l,?_,?_⟩⟩
    ·rw [hβ] at s3
     exact s3.QRR hs1 rfl (KC (by obtain ⟨_,_,_,s0⟩:=hs;exact s0.df.1))
    ·rw [hj]
     exact ⟨_,rfl,EF.Ew⟩
   refine dh hE Nf (kL hE Nf n) (some l) m t.2.2.assign hda (.inr hra) M0 _ _ _ _ ?_ ?_ ?_ st a w h hs
   ·rintro M1 st1 a1 w1 hs1 h1 ⟨M',β',τ',s1⟩
    unfold QKY at h1
    obtain ⟨t1,ht1,h1⟩:=AO.1 h1
    obtain ⟨hβ,hl1,r1,hr1,⟨q1,q2,q3,q4,q5,q6⟩,_⟩:=QAb s1 ht1
    split at h1
    rotate_left
    ·cases h1
    rename_i hq
    have s2:=s1.QRM (r:=r1) (q':={ t1.2.2 with state:=.busy }) (r':={ r1 with state:=.busy }) hl1 (by rw [hβ];exact hr1) rfl ⟨q1,q2,q3,q4,rfl,q6⟩
    rw [hβ] at s2
    refine ⟨_,run_beginRound hr1 (by rw [q5];exact hq),?_⟩
    refine dh hE Nf (kL hE Nf n) (some l) m t.2.2.body hdb (.inr hrb) M1 _ _ _ _ ?_ ?_ ?_ _ a1 _ h1 ⟨M',β',τ',s2⟩
    ·intro M2 st2 a2 w2 hs2 h2 s2;exact fin none true M2 st2 a2 w2 rfl (hs1.trans hs2) h2 s2
    ·intro M2 j st2 a2 w2 hs2 h2 s2;exact fin (some (.exit j)) false M2 st2 a2 w2 rfl (hs1.trans hs2) h2 s2
    ·intro M2 st2 a2 w2 hs2 h2 s2;exact fin (some .ret) false M2 st2 a2 w2 rfl (hs1.trans hs2) h2 s2
   ·intro M1 j st a w _ h _;cases h
   ·intro M1 st a w _ h _;cases h
end
end Go.Lift
