import Derived.Test.YtjcnhegjiffgpaaGreatDoorRiW
import Derived.Great.BuildSlice
set_option linter.unusedSimpArgs false
namespace Go.Lift
open Go.RowKit
section
variable {P:Program} {E:CO} {Q:Exit->Act->World->Prop} {o:Oper} {w0:World} {M0:Bs} {N:Nat} {M M':Own} {β:Nat->Nat} {τ:Nat->Value} {st st':St} {a:Act} {as:List Act} {w w':World} {id:Nat} {rv:RV} {ob:Option Ob}
theorem QCz {L:List (Nat×Ob)}:∀ {t:Ty} {z:t.den},D6 t=some z->RR M w β τ L (jV t z) (.ce t) (zeroCells t):=by
 intro t
 induction t with
 | slice e=>intro z h;exact ⟨rfl,rfl⟩
 | pair x y ihx ihy=>
  intro z h
  have h':=h
  simp only [D6,AO] at h
  obtain ⟨z1,h1,z2,h2,h⟩:=h
  cases h
  simp only [jV]
  cases x.wY||y.wY with
  | true=>
   simp only [AL,RR]
   exact ⟨x,y,_,_,rfl,rfl,ihx h1,ihy h2⟩
  | false=>exact ⟨.inl rfl,Jf h'⟩
 | _=>intro z h;exact ⟨.inl rfl,Jf h⟩
theorem kJ (s:Sm w0 M0 N M β τ st a as w) (hd:∀ d,o.dst=some d->d < N) (hid:lk id st.l=none) {ty:Ty} {con:RV} {cs:List Value} {T:TypeId} (hr:RR M w β τ st.l con (.ce ty) cs)
  (hrun:(execOp a.eval o).run P w=.ok (.value (.pointer (some ⟨w.heap.size,0,none⟩))) (w.alloc (.cells cs.toArray T))):Gives P Q w0 M0 N o a as w st id (.loc id []) (some (.var ty con)):=by
 have s1:=s.addVar (T:=T) hid hr
 refine YR hrun ⟨_,_,_,s1.set o.dst hd ?_⟩
 simp only [addN]
 have hz:C8 ty []=some (0,ty):=by cases ty <;> rfl
 have:=sO (M:=M) (w:=w.alloc (.cells cs.toArray T)) (β:=λj=>if j=id then w.heap.size else β j) (τ:=λj=>if j=id then undef else τ j) (i:=id) (p:=[]) (L:=(id,Ob.var ty con)::st.l) (ob:=.var ty con) (off:=0) (t':=ty) (by simp [Bl]) hz
 simpa using this
theorem bB (s:Sm w0 M0 N M β τ st a as w) (hd:∀ d,o.dst=some d->d < N) (hid:lk id st.l=none) {t:Ty} {xs:List t.den} {v:Value} {w':World} (g:Gr M w M' w') (hr:LW (w.heap.size<=·) M' w' t xs v)
  (hrun:(execOp a.eval o).run P w=.ok (.value v) w'):Gives P Q w0 M0 N o a as w st id (.row id) (some (.row t xs)):=by
 have s1:=s.QDI hid g hr
 refine YR hrun ⟨_,_,_,s1.set o.dst hd ?_⟩
 simp only [RR,addN]
 refine ⟨rfl,v,t,xs,rfl,?_,by simp [Bl],by simp⟩
 obtain ⟨a,cap,row,rfl,_⟩:=hr
 rfl
theorem yS (hE:CJ P E) (s:Sm w0 M0 N M β τ st a as w) (hd:∀ d,o.dst=some d->d < N) (hid:lk id st.l=none) {t:TypeId} (hop:o.op=.alloc t) (h:FZ E o st id (λrv ob=>some (rv,ob))=some (rv,ob)):Gives P Q w0 M0 N o a as w st id rv ob:=by
 simp only [FZ,hop] at h
 obtain ⟨ty,hty,h⟩:=AO.1 h
 obtain ⟨i,hi,hs,hzi,_⟩:=(hE.tab _ _ hty).info
 have run:(execOp a.eval o).run P w=.ok (.value (.pointer (some ⟨w.heap.size,0,none⟩))) (w.alloc (.cells (toV ty (zeroCells ty)).cells t)):=by
  simp [execOp,hop,Instr.alloc,zeroValue,typeInfo,hi,hzi,newVar,newRow]
 cases hh:QBq ty with
 | true=>
  simp only [hh] at h
  cases h
  have hr:RR M w β τ st.l .any (.ce ty) (zeroCells ty):=by
   cases ty <;> simp [QBq] at hh <;> exact ⟨rfl,by simp [zeroCells,Value.oneCell']⟩
  rw [hr.cells] at run
  exact kJ (T:=t) s hd hid hr run
 | false=>
  simp only [hh] at h
  obtain ⟨z,hz,h⟩:=AO.1 h
  cases h
  have hr:=QCz (M:=M) (w:=w) (β:=β) (τ:=τ) (L:=st.l) hz
  rw [hr.cells] at run
  exact kJ (T:=t) s hd hid hr run
theorem sU (s:Sm w0 M0 N M β τ st a as w) (hd:∀ d,o.dst=some d->d < N) (hid:lk id st.l=none) {t:TypeId} (hop:o.op=.makeMap t none) (h:FZ E o st id (λrv ob=>some (rv,ob))=some (rv,ob)):Gives P Q w0 M0 N o a as w st id rv ob:=by
 simp only [FZ,hop] at h
 obtain ⟨ty,hty,h⟩:=AO.1 h
 split at h
 ·rename_i kt vt
  cases h
  have s1:=s.QSj (kt:=kt) (vt:=vt) (clock:=0) hid
  refine YR (v:=.map (some w.heap.size)) (w':=w.alloc (.map #[] 0)) (by simp [execOp,hop,Instr.makeMap,newObj,Sem.run]) ⟨_,_,_,s1.set o.dst hd ?_⟩
  simp only [RR,addN]
  exact ⟨rfl,_,kt,vt,[],rfl,rfl,by simp [Bl],by simp⟩
 ·cases h
theorem QDz {L:List (Nat×Ob)} {i:Nat} {u:Value} (r:RR M w β τ L (.mp i) .sl [u]):∃ kt vt es,lk i L=some (.mp kt vt es)/\u=.map (some (β i)):=by
 simp only [RR] at r
 obtain ⟨_,u',kt,vt,es,e,_,hl,hu⟩:=r
 cases e
 exact ⟨kt,vt,es,hl,hu⟩
theorem QCu {t:Ty} (hf:t.flat=true) {x:t.den} {v:Value} {M1 M2:Own} {w1 w2:World} (h:EF M1 w1 t x v):EF M2 w2 t x v:=by
 obtain ⟨cs,hu,hr⟩:=h
 exact ⟨cs,hu,hr.flat hf⟩
theorem vH (hE:CJ P E) (s:Sm w0 M0 N M β τ st a as w) (hd:∀ d,o.dst=some d->d < N) {t:TypeId} {m x:Operand} {c:Bool} (hop:o.op=.lookup t m x c) (h:FZ E o st id (λrv ob=>some (rv,ob))=some (rv,ob)):Gives P Q w0 M0 N o a as w st id rv ob:=by
 simp only [FZ,hop,QFf] at h
 have hm:=CG s.glob s.fr none m
 have ex:execOp a.eval o=(do pure (Next.value (<- Instr.lookup t (a.eval m) (a.eval x) c))):=by simp only [execOp,hop]
 split at h
 ·rename_i i heq
  rw [heq] at hm
  obtain ⟨kt,vt,es,hl,hu⟩:=QDz hm
  simp only [hl] at h
  obtain ⟨hc,h⟩:=BU h
  simp only [AP] at hc
  obtain ⟨v,h1,h2⟩:=F4 6 _ _ _ _ h
  obtain ⟨k,hk,h3⟩:=AO.1 h2
  obtain ⟨z,hz,h4⟩:=AO.1 h3
  obtain rfl:=TV.FE hk
  have hv:=Qh s.ob 6 (h1 _ some) (CG s.glob s.fr (some kt) x)
  obtain ⟨_,⟨arr,clock,hb,he⟩,_⟩:=s.ob i _ hl
  obtain ⟨u,hrun,hok⟩:=QDu hE.tab hc.2 (hE.tab _ _ (Bu hc.1)) hv hb he hz c
  rw [<- hu] at hrun
  cases c with
  | false=>
   obtain ⟨rfl,rfl⟩:=Prod.mk.inj (Au h4)
   exact DY s hd (v:=u) (CP ex (by simpa using hrun)) ⟨u,rfl,hok⟩
  | true=>
   obtain ⟨rfl,rfl⟩:=Prod.mk.inj (Au h4)
   refine DY s hd (v:=.tuple #[u,.bool (bf k z es).2]) (CP ex (by simpa using hrun)) ?_
   simp only [RR]
   exact ⟨trivial,[u,.bool (bf k z es).2],rfl,u,_,rfl,⟨u,rfl,hok⟩,_,_,rfl,⟨_,rfl,EF.Ew⟩,rfl⟩
 ·cases h
theorem QDN (s:Sm w0 M0 N M β τ st a as w) (hd:∀ d,o.dst=some d->d < N) (hid:lk id st.l=none) {t:TypeId} {x:Operand} (hop:o.op=.box t x) (h:FZ E o st id (λrv ob=>some (rv,ob))=some (rv,ob)):Gives P Q w0 M0 N o a as w st id rv ob:=by
 simp only [FZ,hop] at h
 obtain ⟨ty,hty,h⟩:=AO.1 h
 obtain ⟨c,hc1,h⟩:=AO.1 h
 cases h
 obtain ⟨cs,hv,hr⟩:=toC_ok hc1 (CG s.glob s.fr (some ty) x)
 have hc:=hr.cells
 refine kJ (T:=t) s hd hid hr ?_
 simp [execOp,hop,Instr.box,newVar,newRow,hv,hc]
theorem nM (hE:CJ P E) (s:Sm w0 M0 N M β τ st a as w) (hd:∀ d,o.dst=some d->d < N) {x:Operand} (hop:o.op=.nilCheck x) (h:FZ E o st id (λrv ob=>some (rv,ob))=some (rv,ob)):Gives P Q w0 M0 N o a as w st id rv ob:=by
 simp only [FZ,hop] at h
 have hx:=CG s.glob s.fr (lk o.type E.tab) x
 split at h
 ·rename_i i p heq
  cases h
  rw [heq] at hx
  obtain ⟨ob1,off,t',hl,ho,hu⟩:=YB hx
  exact DY s hd (v:=a.eval x) (by simp only [execOp,hop,hu];rfl) hx
 ·rename_i f c heq
  cases h
  rw [heq] at hx
  have hx':=hx
  simp only [RR] at hx
  obtain ⟨_,us,e,_⟩:=hx
  simp only [List.cons.injEq,and_true] at e
  exact DY s hd (v:=a.eval x) (by simp only [execOp,hop,e];rfl) hx'
 ·exact He hE s hd h
theorem QOm {L:List (Nat×Ob)}:∀ {r rv:RV} {i:Nat} {us:List Value},QOl r i=some rv->RR M w β τ L r .li us->∃ u,us[i]? = some u/\RR M w β τ L rv .sl [u]:=by
 intro r rv i
 fun_induction QOl r i with
 | case1 x y=>
  intro us h r
  cases h
  simp only [RR] at r
  obtain ⟨u,us',rfl,r1,_⟩:=r
  exact ⟨u,rfl,r1⟩
 | case2 x y n ih=>
  intro us h r
  simp only [RR] at r
  obtain ⟨u,us',rfl,_,r2⟩:=r
  simpa using ih h r2
 | case3=>intro us h;cases h
theorem rG (s:Sm w0 M0 N M β τ st a as w) (hd:∀ d,o.dst=some d->d < N) {x:Operand} {i:Nat} (hop:o.op=.extract x i) (h:FZ E o st id (λrv ob=>some (rv,ob))=some (rv,ob)):Gives P Q w0 M0 N o a as w st id rv ob:=by
 simp only [FZ,hop] at h
 have hx:=CG s.glob s.fr (lk o.type E.tab) x
 split at h
 ·rename_i r heq
  rw [heq] at hx
  obtain ⟨rv',h1,h⟩:=AO.1 h
  cases h
  simp only [RR] at hx
  obtain ⟨_,us,e,hr⟩:=hx
  simp only [List.cons.injEq,and_true] at e
  obtain ⟨u,hu,hr'⟩:=QOm h1 hr
  refine DY s hd (v:=u) ?_ hr'
  simp [execOp,hop,e,Instr.extract,hu]
 ·cases h
theorem QBU {L:List (Nat×Ob)}:∀ {Gl:List RV} {us:List Value},Gl.length=us.length->(∀ (i:Nat) rv u,Gl[i]? = some rv->us[i]? = some u->RR M w β τ L rv .sl [u])->RR M w β τ L (chain Gl) .li us
 | [],[],_,_=>rfl
 | rv::Gl,u::us,hl,h=>by
  simp only [chain,RR]
  exact ⟨u,us,rfl,h 0 rv u rfl rfl,QBU (by simpa using hl) λi rv' u' h1 h2=>h (i+1) rv' u' (by simpa using h1) (by simpa using h2)⟩
 | [],_::_,hl,_=>by simp at hl
 | _::_,[],hl,_=>by simp at hl
theorem nJ (s:Sm w0 M0 N M β τ st a as w) (hd:∀ d,o.dst=some d->d < N) {f:FuncId} {first caps:Array Operand} (hop:o.op=.makeFunc (.func f) first caps) (h:FZ E o st id (λrv ob=>some (rv,ob))=some (rv,ob)):Gives P Q w0 M0 N o a as w st id rv ob:=by
 simp only [FZ,hop] at h
 obtain ⟨hc,h⟩:=BU h
 cases h
 have hf:first = #[]:=by simpa using hc
 subst hf
 refine DY s hd (v:=.func (.func f) #[] (caps.map a.eval)) ?_ ?_
 ·simp [execOp,hop,Instr.makeFunc]
 ·simp only [RR]
  refine ⟨rfl,caps.toList.map a.eval,by rw [<- List.map_toArray,Array.toArray_toList],QBU (by simp) λi rv' u h1 h2=>?_⟩
  rw [List.getElem?_map,Option.map_eq_some_iff] at h1 h2
  obtain ⟨x,hx,rfl⟩:=h1
  obtain ⟨x',hx',rfl⟩:=h2
  rw [hx] at hx'
  cases hx'
  exact CG s.glob s.fr none x
theorem QBQ (s:Sm w0 M0 N M β τ st a as w) {place:Nat->Option (Nat×Nat)}:∀ {t:Ty} {i:Nat} {ps:List (Nat×Operand)} {y:RV} {pre:List Value},H8 st.s t i ps=some y->Places place i pre.length t->
  ∃ cs,Instr.fill place (pre++zeroCells t).toArray (ps.map λp=>(p.1,a.eval p.2))=some (pre++cs).toArray/\RR M w β τ st.l y (.ce t) cs:=by
 intro t
 induction t with
 | unit=>
  intro i ps y pre h _
  cases ps with
  | nil=>cases h;exact ⟨[],by simp [Instr.fill,zeroCells],rfl,rfl⟩
  | cons p r=>simp [H8] at h
 | pair c b iha ihb=>
  intro i ps y pre h hp
  obtain ⟨hp1,hp2⟩:=hp
  have skip:∀ {ps':List (Nat×Operand)} {x:c.den} {y':RV},D6 c=some x->H8 st.s b (i+1) ps'=some y'->
    ∃ cs,Instr.fill place (pre++zeroCells (.pair c b)).toArray (ps'.map λp=>(p.1,a.eval p.2))=some (pre++cs).toArray/\RR M w β τ st.l (.pair (jV c x) y') (.ce (.pair c b)) cs:=by
   intro ps' x y' hx hy
   have hr:=QCz (M:=M) (w:=w) (β:=β) (τ:=τ) (L:=st.l) hx
   obtain ⟨cs,h1,h2⟩:=ihb (pre:=pre++zeroCells c) hy (by rw [AQ,hr.length];exact hp2)
   refine ⟨zeroCells c++cs,by rw [zeroCells,<- Ab,h1,Ab],?_⟩
   simp only [RR]
   exact ⟨c,b,zeroCells c,cs,rfl,rfl,hr,h2⟩
  cases ps with
  | nil=>
   simp only [H8,AO] at h
   obtain ⟨x,hx,y',hy,h⟩:=h
   cases h
   exact skip hx hy
  | cons p r=>
   obtain ⟨j,op⟩:=p
   unfold H8 at h
   cases hb:Nat.beq i j with
   | false=>
    simp only [hb,AJ,AO] at h
    obtain ⟨x,hx,y',hy,h⟩:=h
    cases h
    exact skip hx hy
   | true=>
    have hij:=Aa hb
    subst hij
    simp only [hb,AL,AO] at h
    obtain ⟨x,hxx,y',hy,h⟩:=h
    cases h
    obtain ⟨cx,hv,hr⟩:=toC_ok hxx (CG s.glob s.fr (some c) op)
    have hcells:(a.eval op).cells=cx.toArray:=by rw [hv];exact hr.cells
    obtain ⟨cs,h1,h2⟩:=ihb (pre:=pre++cx) hy (by rw [AQ,hr.length];exact hp2)
    refine ⟨cx++cs,?_,?_⟩
    ·simp only [List.map_cons,zeroCells]
     rw [KD (old:=zeroCells c) (by rw [CU];exact hp1) (by rw [hcells,CU];simpa using hr.length) rfl,hcells]
     rw [<- Ab,h1,Ab]
    ·simp only [RR]
     exact ⟨c,b,cx,cs,rfl,rfl,hr,h2⟩
 | _=>intro i ps y pre h;cases ps <;> simp [H8] at h
theorem j6 {place:Nat->Option (Nat×Nat)} {arr c:Array Value} {i:Nat} {u:Value} {rest:List (Nat×Value)} (h:Instr.fill place arr ((i,u)::rest)=some c) :
  ∃ off pre old post,place i=some (off,old.length)/\u.cells.size=old.length/\pre.length=off/\arr=(pre++(old++post)).toArray/\Instr.fill place (pre++(u.cells.toList++post)).toArray rest=some c:=by
 have h0:=h
 unfold Instr.fill at h
 split at h
 ·cases h
 ·rename_i off size hp
  split at h
  ·cases h
  ·rename_i hc
   simp only [ne_eq,Bool.or_eq_true,AZ,not_or,Classical.not_not,Nat.not_lt,gt_iff_lt] at hc
   have e1:(arr.toList.take off).length=off:=by simp;omega
   have e2:((arr.toList.drop off).take size).length=size:=by simp;omega
   have e3:arr=(arr.toList.take off++((arr.toList.drop off).take size++(arr.toList.drop off).drop size)).toArray:=by
    rw [List.take_append_drop,List.take_append_drop,Array.toArray_toList]
   refine ⟨off,arr.toList.take off,(arr.toList.drop off).take size,(arr.toList.drop off).drop size,by rw [e2];exact hp,by rw [e2];exact hc.1,e1,e3,?_⟩
   rw [<- KD (i:=i) (old:=(arr.toList.drop off).take size) (by rw [e2];exact hp) (by rw [e2];exact hc.1) e1,<- e3]
   exact h0
theorem QGm {place:Nat->Option (Nat×Nat)} {arr c:Array Value} {i j:Nat} {u v:Value} {r:List (Nat×Value)} (hd:∀ oi si oj sj,place i=some (oi,si)->place j=some (oj,sj)->oi+si<=oj\/oj+sj<=oi)
  (h:Instr.fill place arr ((i,u)::(j,v)::r)=some c):Instr.fill place arr ((j,v)::(i,u)::r)=some c:=by
 obtain ⟨o1,iZ,Zl,V6,p1,s1,l1,e0,hA⟩:=j6 h
 clear h
 subst e0
 obtain ⟨o2,ig,nO,V7,p2,s2,l2,e,h⟩:=j6 hA
 have e':iZ++(u.cells.toList++V6)=ig++(nO++V7):=by simpa using e
 have su:u.cells.toList.length=Zl.length:=by simpa using s1
 rcases hd _ _ _ _ p1 p2 with hlt | hlt
 ·rw [<- Ab] at e'
  rcases List.append_eq_append_iff.1 e' with ⟨mid,g1,g2⟩ | ⟨mid,g1,g2⟩
  ·subst g1
   subst g2
   rw [show iZ++(Zl++(mid++(nO++V7)))=(iZ++Zl++mid)++(nO++V7) by simp]
   rw [KD p2 s2 (by simp only [AQ] at l2 ⊢;omega)]
   rw [show (iZ++Zl++mid)++(v.cells.toList++V7)=iZ++(Zl++(mid++(v.cells.toList++V7))) by simp]
   rw [KD p1 s1 l1]
   rw [show iZ++(u.cells.toList++(mid++(v.cells.toList++V7)))=(iZ++u.cells.toList++mid)++(v.cells.toList++V7) by simp]
   exact h
  ·have hl:=congrArg List.length g1
   simp only [AQ] at hl
   have:mid=[]:=Ar (by omega)
   subst this
   simp only [List.append_nil,List.nil_append] at g1 g2
   subst g1
   subst g2
   rw [show iZ++(Zl++(nO++V7))=(iZ++Zl)++(nO++V7) by simp]
   rw [KD p2 s2 (by simp only [AQ] at l2 ⊢;omega)]
   rw [show (iZ++Zl)++(v.cells.toList++V7)=iZ++(Zl++(v.cells.toList++V7)) by simp]
   rw [KD p1 s1 l1]
   rw [show iZ++(u.cells.toList++(v.cells.toList++V7))=(iZ++u.cells.toList)++(v.cells.toList++V7) by simp]
   exact h
 ·have e2:(ig++nO)++V7=iZ++(u.cells.toList++V6):=by rw [e'];simp
  rcases List.append_eq_append_iff.1 e2 with ⟨mid,g1,g2⟩ | ⟨mid,g1,g2⟩
  ·subst g1
   subst g2
   rw [show (ig++nO++mid)++(Zl++V6)=ig++(nO++(mid++(Zl++V6))) by simp]
   rw [KD p2 s2 l2]
   rw [show ig++(v.cells.toList++(mid++(Zl++V6)))=(ig++v.cells.toList++mid)++(Zl++V6) by simp]
   have sv:v.cells.toList.length=nO.length:=by simpa using s2
   rw [KD p1 s1 (by simp only [AQ] at l1 ⊢;omega)]
   rw [show (ig++v.cells.toList++mid)++(u.cells.toList++V6)=ig++(v.cells.toList++(mid++(u.cells.toList++V6))) by simp]
   exact h
  ·have hl:=congrArg List.length g1
   simp only [AQ] at hl
   have:mid=[]:=Ar (by omega)
   subst this
   simp only [List.append_nil,List.nil_append] at g1 g2
   subst g1
   rw [<- g2] at h
   rw [show (ig++nO)++(Zl++V6)=ig++(nO++(Zl++V6)) by simp]
   rw [KD p2 s2 l2]
   rw [show ig++(v.cells.toList++(Zl++V6))=(ig++v.cells.toList)++(Zl++V6) by simp]
   have sv:v.cells.toList.length=nO.length:=by simpa using s2
   rw [KD p1 s1 (by simp only [AQ] at l1 ⊢;omega)]
   rw [show (ig++v.cells.toList)++(u.cells.toList++V6)=ig++(v.cells.toList++(u.cells.toList++V6)) by simp]
   exact h
theorem wQ {place:Nat->Option (Nat×Nat)} {arr c:Array Value} {p:Nat×Value} {l l':List (Nat×Value)} (h:Instr.fill place arr (p::l)=some c) (hl:∀ arr',Instr.fill place arr' l=some c->Instr.fill place arr' l'=some c):Instr.fill place arr (p::l')=some c:=by
 obtain ⟨o,pre,old,post,h1,h2,h3,e0,h4⟩:=j6 (i:=p.1) (u:=p.2) h
 subst e0
 rw [show p=(p.1,p.2) from rfl,KD h1 h2 h3]
 exact hl _ h4
theorem wR {place:Nat->Option (Nat×Nat)} {c:Array Value} {m:Nat} (hd:∀ i j,i < m->j < m->i≠j->∀ oi si oj sj,place i=some (oi,si)->place j=some (oj,sj)->oi+si<=oj\/oj+sj<=oi) {p:Nat×Value} (hp:p.1 < m) :
  ∀ {l:List (Nat×Value)} {arr:Array Value},(∀ q∈l,q.1 < m)->Instr.fill place arr (vG p l)=some c->Instr.fill place arr (p::l)=some c
 | [],arr,_,h=>h
 | q::r,arr,hl,h=>by
  unfold vG at h
  cases hb:Nat.ble p.1 q.1 with
  | true=>rw [hb] at h;exact h
  | false=>
   rw [hb,AJ] at h
   have hne:p.1≠q.1:=λe=>by rw [e,show Nat.ble q.1 q.1=true from Nat.ble_eq_true_of_le (Nat.le_refl _)] at hb;cases hb
   have h1:=wQ (l':=p::r) h λarr' h'=>wR hd hp (λx hx=>hl x (by simp [hx])) h'
   exact QGm (i:=q.1) (j:=p.1) (u:=q.2) (v:=p.2) (hd _ _ (hl q (by simp)) hp (Ne.symm hne)) h1
theorem QC8 {α:Type} {p x:Nat×α}:∀ {l:List (Nat×α)},x∈vG p l↔x=p\/x∈l
 | []=>by simp [vG]
 | q::r=>by
  unfold vG
  cases Nat.ble p.1 q.1 with
  | true=>simp
  | false=>simp only [AJ,List.mem_cons,QC8 (l:=r)];exact ⟨λh=>by rcases h with h | h | h <;> simp [h],λh=>by rcases h with h | h | h <;> simp [h]⟩
theorem bM {α:Type} {x:Nat×α}:∀ {l:List (Nat×α)},x∈XV l↔x∈l
 | []=>by simp [XV]
 | p::r=>by rw [XV,QC8,bM (l:=r),List.mem_cons]
theorem QBp {α γ:Type} {g:α->γ} {p:Nat×α}:∀ {l:List (Nat×α)},(vG p l).map (λq=>(q.1,g q.2))=vG (p.1,g p.2) (l.map λq=>(q.1,g q.2))
 | []=>rfl
 | q::r=>by
  simp only [vG,List.map_cons]
  cases Nat.ble p.1 q.1 with
  | true=>rfl
  | false=>simp only [AJ,List.map_cons,QBp (l:=r)]
theorem yC {α γ:Type} {g:α->γ}:∀ {l:List (Nat×α)},(XV l).map (λq=>(q.1,g q.2))=XV (l.map λq=>(q.1,g q.2))
 | []=>rfl
 | p::r=>by rw [XV,QBp,yC (l:=r)];rfl
theorem rJ {place:Nat->Option (Nat×Nat)} {c:Array Value} {m:Nat} (hd:∀ i j,i < m->j < m->i≠j->∀ oi si oj sj,place i=some (oi,si)->place j=some (oj,sj)->oi+si<=oj\/oj+sj<=oi) :
  ∀ {l:List (Nat×Value)} {arr:Array Value},(∀ q∈l,q.1 < m)->Instr.fill place arr (XV l)=some c->Instr.fill place arr l=some c
 | [],_,_,h=>h
 | p::r,arr,hl,h=>wQ (wR hd (hl p (by simp)) (λx hx=>hl x (by simp [bM.1 hx])) h) λarr' h'=>rJ hd (λx hx=>hl x (by simp [hx])) h'
def NY:Ty->Nat
 | .pair _ b=>NY b+1
 | _=>0
theorem QDQ {s:List (Nat×RV)}:∀ {t:Ty} {i:Nat} {ps:List (Nat×Operand)} {y:RV},H8 s t i ps=some y->∀ p∈ps,p.1 < i+NY t:=by
 intro t
 induction t with
 | unit=>
  intro i ps y h p hp
  cases ps with
  | nil=>cases hp
  | cons q r=>simp [H8] at h
 | pair c b iha ihb=>
  intro i ps y h p hp
  cases ps with
  | nil=>cases hp
  | cons q r=>
   obtain ⟨j,op⟩:=q
   unfold H8 at h
   cases hb:Nat.beq i j with
   | false=>
    simp only [hb,AJ,AO] at h
    obtain ⟨x,hx,y',hy,h⟩:=h
    have:=ihb hy p hp
    simp only [NY];omega
   | true=>
    simp only [hb,AL,AO] at h
    obtain ⟨x,hx,y',hy,h⟩:=h
    rcases List.mem_cons.1 hp with rfl | hp
    ·have:=Aa hb
     simp only [NY];omega
    ·have:=ihb hy p hp
     simp only [NY];omega
 | _=>intro i ps y h;cases ps <;> simp [H8] at h
theorem tY {place:Nat->Option (Nat×Nat)}:∀ {t:Ty} {i off:Nat},Places place i off t->∀ k,k < NY t->∀ o n,place (i+k)=some (o,n)->off<=o
 | .pair a b,i,off,⟨h1,h2⟩,k,hk,o,n,h=>by
  cases k with
  | zero=>rw [Nat.add_zero,h1] at h;cases h;exact Nat.le_refl _
  | succ k=>
   have:=tY h2 k (by simp only [NY] at hk;omega) o n (by rw [<- h];congr 1;omega)
   omega
 | .unit,_,_,_,k,hk,_,_,_=>by simp [NY] at hk
 | .int _,_,_,_,k,hk,_,_,_=>by simp [NY] at hk
 | .bool,_,_,_,k,hk,_,_,_=>by simp [NY] at hk
 | .str,_,_,_,k,hk,_,_,_=>by simp [NY] at hk
 | .slice _,_,_,_,k,hk,_,_,_=>by simp [NY] at hk
 | .arr _ _,_,_,_,k,hk,_,_,_=>by simp [NY] at hk
 | .ptr _,_,_,_,k,hk,_,_,_=>by simp [NY] at hk
 | .UJ,_,_,_,k,hk,_,_,_=>by simp [NY] at hk
 | .mp _ _,_,_,_,k,hk,_,_,_=>by simp [NY] at hk
 | .fn,_,_,_,k,hk,_,_,_=>by simp [NY] at hk
 | .nes _,_,_,_,k,hk,_,_,_=>by simp [NY] at hk
theorem Zt {place:Nat->Option (Nat×Nat)}:∀ {t:Ty} {i off:Nat},Places place i off t->∀ k1 k2,k1 < k2->k2 < NY t->∀ o1 n1 o2 n2,place (i+k1)=some (o1,n1)->place (i+k2)=some (o2,n2)->o1+n1<=o2
 | .pair a b,i,off,⟨h1,h2⟩,k1,k2,hk,hk2,o1,n1,o2,n2,g1,g2=>by
  obtain ⟨k2,rfl⟩:∃ k,k2=k+1:=⟨k2 - 1,by omega⟩
  simp only [NY] at hk2
  have g2':place (i+1+k2)=some (o2,n2):=by rw [<- g2];congr 1;omega
  cases k1 with
  | zero=>
   rw [Nat.add_zero,h1] at g1
   cases g1
   exact tY h2 k2 (by omega) o2 n2 g2'
  | succ k1=>exact Zt h2 k1 k2 (by omega) (by omega) o1 n1 o2 n2 (by rw [<- g1];congr 1;omega) g2'
 | .unit,_,_,_,_,k,_,hk,_,_,_,_,_,_=>by simp [NY] at hk
 | .int _,_,_,_,_,k,_,hk,_,_,_,_,_,_=>by simp [NY] at hk
 | .bool,_,_,_,_,k,_,hk,_,_,_,_,_,_=>by simp [NY] at hk
 | .str,_,_,_,_,k,_,hk,_,_,_,_,_,_=>by simp [NY] at hk
 | .slice _,_,_,_,_,k,_,hk,_,_,_,_,_,_=>by simp [NY] at hk
 | .arr _ _,_,_,_,_,k,_,hk,_,_,_,_,_,_=>by simp [NY] at hk
 | .ptr _,_,_,_,_,k,_,hk,_,_,_,_,_,_=>by simp [NY] at hk
 | .UJ,_,_,_,_,k,_,hk,_,_,_,_,_,_=>by simp [NY] at hk
 | .mp _ _,_,_,_,_,k,_,hk,_,_,_,_,_,_=>by simp [NY] at hk
 | .fn,_,_,_,_,k,_,hk,_,_,_,_,_,_=>by simp [NY] at hk
 | .nes _,_,_,_,_,k,_,hk,_,_,_,_,_,_=>by simp [NY] at hk
theorem yc (hE:CJ P E) (s:Sm w0 M0 N M β τ st a as w) (hd:∀ d,o.dst=some d->d < N) {T:TypeId} {parts:Array (Nat×Operand)} (hop:o.op=.build T parts) (h:FZ E o st id (λrv ob=>some (rv,ob))=some (rv,ob)):Gives P Q w0 M0 N o a as w st id rv ob:=by
 simp only [FZ,hop] at h
 obtain ⟨ty,hty,h⟩:=AO.1 h
 cases hv:(Qr st.s (slotsOf o)&&!(agO E o)) with
 | true=>
  simp only [hv,AL] at h
  exact He hE s hd h
 | false=>
 simp only [hv,AJ] at h
 have hT:=hE.tab _ _ hty
 obtain ⟨it,hit,hsz,hzero,_⟩:=hT.info
 have he:execOp a.eval o=(do pure (Next.value (<- Instr.build T (parts.map λ(i,x)=>(i,a.eval x))))):=by simp only [execOp,hop]
 have hparts:(parts.map λ(i,x)=>(i,a.eval x)).toList=parts.toList.map λp=>(p.1,a.eval p.2):=by simp
 have struct:∀ {fs:Array Field},P.underlying T=some (.struct fs)->M9.Ev E.tab fs.toList 0 ty=true->ty.isAgg=true->((H8 st.s ty 0 (XV parts.toList)).bind λr=>some (RV.agg ty r,(none:Option Ob)))=some (rv,ob)->Gives P Q w0 M0 N o a as w st id rv ob:=by
  intro fs hu hfs hag h
  obtain ⟨y,hy,h⟩:=AO.1 h
  cases h
  obtain ⟨places,hp1,hp2⟩:=mU hE.tab (pre:=[]) hfs rfl
  obtain ⟨cs,h1,h2⟩:=QBQ s (place:=(places.toArray[·]?)) (pre:=[]) hy (by simpa using hp2)
  rw [yC] at h1
  replace h1:=rJ (m:=NY ty) (λi j hi hj hne oi si oj sj g1 g2=>by
   have hpl:Places (places.toArray[·]?) 0 0 ty:=by simpa using hp2
   rcases Nat.lt_or_gt_of_ne hne with hij | hij
   ·exact .inl (Zt hpl i j hij hj oi si oj sj (by rw [Nat.zero_add];exact g1) (by rw [Nat.zero_add];exact g2))
   ·exact .inr (Zt hpl j i hij hi oj sj oi si (by rw [Nat.zero_add];exact g2) (by rw [Nat.zero_add];exact g1))) (λq hq=>by
   obtain ⟨p,hp,rfl⟩:=List.mem_map.1 hq
   have:=QDQ hy p (bM.2 hp)
   simpa using this) h1
  refine DY s hd (v:=.agg cs.toArray) (CP he (run_build w T _ cs.toArray ?_)) ?_
  ·simp only [Program.built,hit,hu,hzero,hp1,hparts]
   simp only [List.nil_append] at h1
   rw [toV,AY hag]
   exact h1
  ·unfold RR
   exact ⟨rfl,hag,cs,rfl,h2⟩
 cases ty with
 | arr n e=>simp at h
 | unit=>obtain ⟨fs,hu,⟨hfs,_⟩,_⟩:=hT.unit;exact struct hu hfs rfl h
 | pair c b=>obtain ⟨fs,hu,⟨hfs,_⟩,_⟩:=hT.pair;exact struct hu hfs rfl h
 | _=>
  exfalso
  obtain ⟨y,hy,_⟩:=AO.1 h
  cases hp:XV parts.toList <;> rw [hp] at hy <;> simp [H8] at hy
theorem QHO {L L':List (Nat×Ob)}:∀ {rv:RV} {m:Mo} {cs:List Value},YT rv=true->RR M w β τ L rv m cs->RR M w β τ L' rv m cs:=by
 intro rv
 induction rv with
 | pair x y ihx ihy=>
  intro m cs h r
  simp only [YT,AP] at h
  cases m with
  | sl=>exact r
  | li=>simp only [RR] at r ⊢;obtain ⟨u,us,e,r1,r2⟩:=r;exact ⟨u,us,e,ihx h.1 r1,ihy h.2 r2⟩
  | ce t=>simp only [RR] at r ⊢;obtain ⟨ta,tb,c1,c2,e1,e2,r1,r2⟩:=r;exact ⟨ta,tb,c1,c2,e1,e2,ihx h.1 r1,ihy h.2 r2⟩
 | val v=>intro m cs _ r;cases m <;> exact r
 | unit=>intro m cs _ r;cases m <;> exact r
 | nil e=>intro m cs _ r;cases m <;> exact r
 | _=>intro m cs h r;simp [YT] at h
theorem rQ {L L':List (Nat×Ob)} {rv:RV} {m:Mo} {cs:List Value} (h:PX rv=true) (r:RR M w β τ L rv m cs):RR M w β τ L' rv m cs:=by
 cases rv with
 | val v=>cases m <;> exact r
 | nil e=>cases m <;> exact r
 | agg t r'=>
  simp only [RR] at r ⊢
  obtain ⟨h1,h2,c,e,r⟩:=r
  exact ⟨h1,h2,c,e,QHO h r⟩
 | _=>simp [PX] at h
theorem xR (s:Sm w0 M0 N M β τ st a as w) {t:Ty}:∀ {i:Nat} {ps:List (Nat×Operand)} {ys:List t.den},YS t st.s i ps=some ys->
  ∃ vs:List Value,ps.map (λp=>(p.1,a.eval p.2))=(vs.zipIdx i).map (λx=>(x.2,x.1))/\vs.length=ys.length/\(∀ v∈vs,v.cells.size=t.n)/\Seq (EA M w t) (vs.flatMap λv=>v.cells.toList) ys
 | i,[],ys,h=>by simp [YS] at h;subst h;exact ⟨[],by simp [Seq]⟩
 | i,(j,x)::r,ys,h=>by
  unfold YS at h
  obtain ⟨hc,h0⟩:=BU h
  clear h
  simp only [AP] at hc
  have hij:=Aa hc.1
  subst hij
  have hx:=CG s.glob s.fr (some t) x
  obtain ⟨v,hv0,h0⟩:=AO.1 h0
  obtain ⟨y,hy,h1⟩:=AO.1 h0
  obtain ⟨ys',hys,h2⟩:=AO.1 h1
  cases h2
  obtain rfl:=TV.FE hy
  obtain ⟨vs,e1,e2,e3,e4⟩:=xR s hys
  obtain ⟨cs,hv,hr⟩:=Zq (l:=[]) hc.2 hv0 (rQ hc.2 hx)
  have hcells:(a.eval x).cells=cs.toArray:=by rw [hv];exact toV_cells hr
  refine ⟨a.eval x::vs,by simp [e1,List.zipIdx_cons],by simp [e2],?_,?_⟩
  ·intro v hv'
   rcases List.mem_cons.1 hv' with rfl | hv'
   ·rw [hcells];simpa using hr.length
   ·exact e3 v hv'
  ·simp only [List.flatMap_cons]
   exact ⟨_,_,rfl,by rw [hcells];exact hr,e4⟩
theorem zq (s:Sm w0 M0 N M β τ st a as w) (ob:Obj):Gr M w M (w.alloc ob):=Gr.alloc s.mlt ob
theorem uK (hm:∀ b o,M b o->b < w.heap.size) {t:Ty} {xs:List t.den} {cells:Array Value} {row:List Value} {T:TypeId} {cap:Nat} (h1:List.length xs<=cap) (h2:cap<=maxLen) (hsz:cells.size=cap * t.n) (hs:Seq (EA M w t) row xs)
  (hrow:∀ i,i < row.length->cells[i]? = row[i]?):LW (w.heap.size<=·) M (w.alloc (.cells cells T)) t xs (.slice (some ⟨w.heap.size,0,none⟩) (List.length xs) cap):=by
 have hext:Ext M w M (w.alloc (.cells cells T)):=(Gr.alloc hm _).ext
 refine ⟨some ⟨w.heap.size,0,none⟩,cap,row,rfl,h1,h2,(λh=>by cases h),hs.mono (λ_ _ r=>r.ext hext),λa0 ha hc=>?_⟩
 cases ha
 exact ⟨w.heap.size,cells,T,rfl,Nat.le_refl _,⟨_,kI,heap_alloc_new w _⟩,Nat.le_of_eq hsz.symm,hrow,λo m=>by have:=hm _ _ m;omega⟩
theorem gU (hE:CJ P E) (s:Sm w0 M0 N M β τ st a as w) (hd:∀ d,o.dst=some d->d < N) (hid:lk id st.l=none) {T:TypeId} {n:Nat} {parts:Array (Nat×Operand)} (hop:o.op=.buildSlice T n parts)
  (h:FZ E o st id (λrv ob=>some (rv,ob))=some (rv,ob)):Gives P Q w0 M0 N o a as w st id rv ob:=by
 simp only [FZ,hop] at h
 obtain ⟨ty,hty,h⟩:=AO.1 h
 have hT:=hE.tab _ _ hty
 have he:execOp a.eval o=(do pure (Next.value (<- Instr.buildSlice T n (parts.map λ(i,x)=>(i,a.eval x))))):=by simp only [execOp,hop]
 have hparts:(parts.map λ(i,x)=>(i,a.eval x)).toList=parts.toList.map λp=>(p.1,a.eval p.2):=by simp
 cases ty with
 | slice e=>
  simp only at h
  obtain ⟨ys,hys,h⟩:=AO.1 h
  obtain ⟨hc,h⟩:=BU h
  simp only [AP] at hc
  have hlen:List.length ys=n:=Aa hc.1
  have hn:=Ak hc.2.1
  obtain ⟨e',hu,hl⟩:=hT.slice
  obtain ⟨ie,hie,hes,hez,_⟩:=(hE.tab _ _ hl).info
  obtain ⟨vs,e1,e2,e3,e4⟩:=xR s hys
  have e2':vs.length=n:=by rw [e2];exact hlen
  have hpos:=Ak hc.2.2.1
  have hsm:=Ak hc.2.2.2
  have key:∃ cells:Array Value,(Instr.buildSlice T n (parts.map λ(i,x)=>(i,a.eval x))).run P w=.ok (.slice (some ⟨w.heap.size,0,none⟩) n n) (w.alloc (.cells cells e'))/\cells.toList=vs.flatMap λv=>v.cells.toList:=by
   by_cases hp:n * ie.size=0
   ·have hn0:n=0:=by
     rw [hes] at hp
     rcases Nat.mul_eq_zero.1 hp with h | h <;> omega
    have hvs:vs=[]:=Ar (by rw [e2',hn0])
    subst hvs
    have hpz:parts = #[]:=by
     have:parts.toList=[]:=by simpa using e1
     exact Array.toList_eq_nil_iff.1 this
    subst hpz hn0
    exact ⟨(Array.range 0).map λ_=>default,by simp [Instr.buildSlice,run_underlying hu,sizeOf,typeInfo,hie,newRow,Instr.fill],by simp⟩
   ·have QBl:=Great.fill_whole (s:=ie.size) (by omega) vs ((Array.range (n * ie.size)).map ((toV e (zeroCells e)).cells[· % (toV e (zeroCells e)).cells.size]!)) (by rw [hes];exact e3) (by simp [e2'])
    exact ⟨_,run_buildSlice w T e' n _ _ ie _ hu hie hez (by rw [hes];omega) hp (by rw [hparts,e1];exact QBl),by simp⟩
  obtain ⟨cells,hrun,hcells⟩:=key
  have hrl:(vs.flatMap λv=>v.cells.toList).length=n * e.n:=by rw [e4.length (λ_ _ r=>r.length),hlen]
  have hx:=uK (T:=e') (cap:=n) s.mlt (cells:=cells) (by omega) (by simp only [maxLen];omega) (by rw [<- Array.length_toList,hcells,hrl]) e4 (λi hi=>by rw [<- hcells];simp)
  rw [hlen] at hx
  cases hvl:vlO E o with
  | false=>
   rw [hvl] at h
   cases h
   exact bB (M':=M) s hd hid (zq s _) hx (CP he hrun)
  | true=>
   rw [hvl] at h
   cases h
   have g0:=zq s (.cells cells e')
   have g:Gr M w (λb o=>M b o\/b=w.heap.size) (w.alloc (.cells cells e')):=
    ⟨g0.J6,λb o m=>.inl m,λb o m=>m.elim .inl λe=>.inr (by omega),λb o m=>m.elim (g0.lt b o) λe=>by subst e;simp⟩
   have hv:EF (λb o=>M b o\/b=w.heap.size) (w.alloc (.cells cells e')) (.slice e) ((ys.take ys.length).drop 0) (.slice (some ⟨w.heap.size,0,none⟩) n n):=
    XT hx (λb o m=>.inl m) (λb hb o=>by
     simp only [LV] at hb
     split at hb
     ·cases hb
     ·injection hb with hb;exact .inr hb.symm) (Nat.zero_le _) (Nat.le_refl _) (NA hx)
   rw [List.take_length,List.drop_zero] at hv
   exact YR (CP he hrun) ⟨_,β,τ,(s.grow g).set o.dst hd ⟨_,rfl,hv⟩⟩
 | _=>simp at h
theorem qy (hE:CJ P E) (s:Sm w0 M0 N M β τ st a as w) (hd:∀ d,o.dst=some d->d < N) (hid:lk id st.l=none) {src dst:TypeId} {x:Operand} (hop:o.op=.convert src dst x) (h:FZ E o st id (λrv ob=>some (rv,ob))=some (rv,ob))
  (ha:XU E o st (λrv ob=>some (rv,ob))=some (rv,ob)->Gives P Q w0 M0 N o a as w st id rv ob):Gives P Q w0 M0 N o a as w st id rv ob:=by
 simp only [FZ,hop] at h
 unfold QKg at h
 split at h
 ·rename_i bs hdst heq
  obtain ⟨hc,h⟩:=BU h
  have hx:=CG s.glob s.fr (lk src E.tab) x
  rw [heq] at hx
  obtain ⟨u,e1,hv⟩:=hx
  have hval:a.eval x=u:=by injection e1
  obtain ⟨sb,hs,hxs,l⟩:=hv.str
  have h1:=(hE.tab _ _ (Bu hc)).str
  obtain ⟨e,hu,hee⟩:=(hE.tab _ _ hdst).slice
  have hu8:=(hE.tab _ _ hee).int
  have hz:=run_bytes_of_string (P:=P) w src dst e sb h1 hu hu8
  have hge:=grownCap_ge w sb.size 0 e
  have hcl:=grownCap_le_maxLen w sb.size 0 e l
  have z1:sb.data.size=sb.size:=rfl
  have hsz:(bytesRow sb (grownCap w sb.size 0 e)).size=grownCap w sb.size 0 e:=by
   simp [bytesRow];omega
  have he:execOp a.eval o=(do pure (Next.value (<- convert src dst (a.eval x)))):=by simp only [execOp,hop]
  have hxs':bs=sb.data.toList.map (λb=>(b.toNat:Int)):=hxs
  have hlen:List.length bs=sb.size:=by rw [hxs'];simp [z1]
  generalize hnr:bytesRow sb (grownCap w sb.size 0 e)=nr at hz hsz
  have g:Gr M w M (w.drew.alloc (.cells nr e (nr.size,nr.size+1))):=
   ⟨(Below.refl _ _).drew.alloc (Nat.le_refl _) _,λ_ _ m=>m,λ_ _ m=>.inl m,λb o m=>by have:=s.mlt b o m;simp;omega⟩
  have hrun:=CP (o:=o) (a:=a) he (by rw [hval,hs];exact hz)
  have hrep:=Seq.iY (M:=M) (w:=w.drew.alloc (.cells nr e (nr.size,nr.size+1))) (k:=.u8) (xs:=bs)
   (λy hy=>by
    rw [hxs'] at hy
    obtain ⟨b,_,rfl⟩:=List.mem_map.1 hy
    have:=UInt8.toNat_lt b
    simp [IntKind.min,IntKind.max,IntKind.signed,IntKind.bits];omega)
  have hx:LW (w.heap.size<=·) M (w.drew.alloc (.cells nr e (nr.size,nr.size+1))) (.int .u8) bs (.slice (some ⟨w.heap.size,0,none⟩) sb.size (grownCap w sb.size 0 e)):=by
   refine ⟨some ⟨w.heap.size,0,none⟩,grownCap w sb.size 0 e,bs.map (Value.int .u8),by rw [hlen],by rw [hlen];exact hge,hcl,(λh=>by cases h),hrep,λa0 ha hcap=>?_⟩
   cases ha
   refine ⟨w.heap.size,nr,e,rfl,Nat.le_refl _,⟨_,.inr (Nat.le_refl _),heap_alloc_new w.drew _⟩,by rw [hsz];simp [Ty.n],λi hi=>?_,λo m=>by have:=s.mlt _ _ m;omega⟩
   have hi':i < sb.size:=by rw [<- hlen];simpa using hi
   rw [<- hnr]
   simp only [bytesRow]
   rw [Array.getElem?_append_left (by simp [z1];exact hi')]
   rw [hxs']
   simp
   rfl
  cases hvl:vlO E o with
  | false=>
   rw [hvl] at h
   cases h
   exact bB (M':=M) s hd hid g hx hrun
  | true=>
   rw [hvl] at h
   cases h
   have g2:Gr M w (λb o=>M b o\/b=w.heap.size) (w.drew.alloc (.cells nr e (nr.size,nr.size+1))):=
    ⟨g.J6,λb o m=>.inl m,λb o m=>m.elim .inl λe=>.inr (by omega),λb o m=>m.elim (g.lt b o) λe=>by subst e;simp⟩
   have hv2:EF (λb o=>M b o\/b=w.heap.size) (w.drew.alloc (.cells nr e (nr.size,nr.size+1))) (.slice (.int .u8)) ((List.take (List.length bs) bs).drop 0) (.slice (some ⟨w.heap.size,0,none⟩) sb.size (grownCap w sb.size 0 e)):=
    XT hx (λb o m=>.inl m) (λb hb o=>by
     simp only [LV] at hb
     split at hb
     ·cases hb
     ·injection hb with hb;exact .inr hb.symm) (Nat.zero_le _) (Nat.le_refl _) (NA hx)
   rw [List.take_length,List.drop_zero] at hv2
   exact YR hrun ⟨_,β,τ,(s.grow g2).set o.dst hd ⟨_,rfl,hv2⟩⟩
 ·exact ha h
theorem kS (hE:CJ P E) (s:Sm w0 M0 N M β τ st a as w) (hd:∀ d,o.dst=some d->d < N) (hid:lk id st.l=none) {T:TypeId} {l c:Operand} (hop:o.op=.makeSlice T l c) (h:FZ E o st id (λrv ob=>some (rv,ob))=some (rv,ob)) :
  Gives P Q w0 M0 N o a as w st id rv ob:=by
 simp only [FZ,hop] at h
 obtain ⟨n,hn,h⟩:=AO.1 h
 obtain ⟨m,hm,h⟩:=AO.1 h
 obtain ⟨ty,hty,h⟩:=AO.1 h
 have hT:=hE.tab _ _ hty
 have he:execOp a.eval o=(do pure (Next.value (<- Instr.makeSlice T (a.eval l) (a.eval c)))):=by simp only [execOp,hop]
 obtain ⟨kl,hl,_⟩:=Vx hn (CG s.glob s.fr _ l)
 obtain ⟨kc,hc,_⟩:=Vx hm (CG s.glob s.fr _ c)
 cases ty with
 | slice e=>
  simp only at h
  obtain ⟨hc1,h⟩:=BU h
  obtain ⟨z,hz,h⟩:=AO.1 h
  rw [hE.rep] at h
  cases h
  simp only [AP,AZ] at hc1
  obtain ⟨h0,hnm,hlim,hpos⟩:=hc1
  have hpos:=Ak hpos
  obtain ⟨e',hu,hle⟩:=hT.slice
  obtain ⟨ie,hie,hes,hez,hby⟩:=(hE.tab _ _ hle).info
  obtain ⟨k,rfl⟩:=BL h0
  obtain ⟨j,rfl⟩:=BL (Int.le_trans h0 hnm)
  have hkj:k<=j:=by omega
  have hj:j<=68719476736:=by omega
  have hzs:(toV e (zeroCells e)).cells=(zeroCells e).toArray:=toV_cells (Jf (M:=M) (w:=w) hz)
  have hrun:=run_make (P:=P) w T e' ie _ hu hie hez kl kc (k:Int) (j:Int) h0 hnm (by
   have h1:ie.bytes * j<=2048 * 68719476736:=Nat.mul_le_mul hby hj
   have h2:((ie.bytes * j:Nat):Int)<=281474976710656:=by omega
   rwa [Int.natCast_mul] at h2) (by omega)
  rw [<- hl,<- hc,hzs,hes] at hrun
  simp only [Aj] at hrun ⊢
  have hzl:=CU e
  have hcells:(madeCells (zeroCells e).toArray (j * e.n)).toList=(List.replicate j (zeroCells e)).flatten:=by
   have:=XJ (zeroCells e).toArray (by simp only [List.size_toArray,hzl];exact hpos) j
   simpa only [List.size_toArray,hzl] using this
  generalize madeCells (zeroCells e).toArray (j * e.n)=cells at hrun hcells
  have hrep:EA M w (.arr k e) (zeroCells (.arr k e)) (List.replicate k z):=Jf (t:=.arr k e) (by simp only [D6,hz,AA])
  have hsize:cells.size=j * e.n:=by rw [<- Array.length_toList,hcells];simp [hzl]
  refine bB (M':=M) s hd hid (zq s _) ?_ (CP he hrun)
  have:=uK (T:=e') (cap:=j) s.mlt (cells:=cells) (xs:=List.replicate k z) (row:=(List.replicate k (zeroCells e)).flatten) (by simpa using hkj) (by simp only [maxLen];omega) hsize hrep.2 (λi hi=>by
   rw [<- Array.getElem?_toList,hcells,show List.replicate j (zeroCells e)=List.replicate k (zeroCells e)++List.replicate (j - k) (zeroCells e) by rw [List.replicate_append_replicate];congr 1;omega,List.flatten_append,Ao hi])
  simpa using this
 | _=>simp at h
end
end Go.Lift
