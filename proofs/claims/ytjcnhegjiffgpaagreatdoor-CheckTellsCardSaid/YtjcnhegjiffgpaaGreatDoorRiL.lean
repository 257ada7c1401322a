import Derived.Test.YtjcnhegjiffgpaaGreatDoorRiK
set_option linter.unusedSimpArgs false
namespace Go.Lift
open Go.RowKit
section
variable {P:Program} {E:CO} {Q:Exit->Act->World->Prop} {o:Oper} {w0:World} {M0:Bs} {N:Nat} {M M':Own} {β:Nat->Nat} {τ:Nat->Value} {st st':St} {a:Act} {as:List Act} {w w':World} {id:Nat} {rv:RV} {ob:Option Ob}
def Ou (M:Own) (w:World) (β:Nat->Nat) (τ:Nat->Value) (L:List (Nat×Ob)):List RV->List Value->Prop
 | [],[]=>True
 | r::rs,u::us=>RR M w β τ L r .sl [u]/\Ou M w β τ L rs us
 | _,_=>False
theorem uE {L:List (Nat×Ob)}:∀ {Gl:List RV} {us:List Value},Ou M w β τ L Gl us->RR M w β τ L (chain Gl) .li us
 | [],[],_=>rfl
 | _::_,u::us,h=>by simp only [chain,RR];exact ⟨u,us,rfl,h.1,uE h.2⟩
 | [],_::_,h=>h.elim
 | _::_,[],h=>h.elim
theorem jE {L:List (Nat×Ob)}:∀ {Gl:List RV} {us:List Value},Ou M w β τ L Gl us->RR M w β τ L (Zw Gl) .sl [QAO us]
 | [],[],_=>⟨_,rfl⟩
 | [_],[_],h=>h.1
 | r::r'::rs,u::u'::us,h=>by
  have h1:¬ (u::u'::us).toArray.size=1:=by simp
  simp only [Zw,QAO,dif_neg h1,RR]
  exact ⟨trivial,_,rfl,uE h⟩
 | [],_::_,h=>h.elim
 | _::_,[],h=>h.elim
 | [_],_::_::_,h=>h.2.elim
 | _::_::_,[_],h=>h.2.elim
theorem Qg {b0:Nat} {t:Ty} {o:Bool} {x:t.den} {u:Value} (h:qP b0 M w t o x u) (ho:o=false):EF M w t x u:=by
 subst ho
 cases t <;> exact h
theorem QAM {b0:Nat}:∀ {rs:List Ty} {os:List Bool} {r:Bv rs} {us:List Value},Oq b0 M w rs os r us->(os.filter (λb=>b)).length<=1->
  ((UC id rs os r).2=none/\∀ β τ L,Ou M w β τ L (UC id rs os r).1 us)\/
  ∃ e xs u0,(UC id rs os r).2=some (.row e xs)/\LW (b0<=·) M w e xs u0/\∀ β τ L,lk id L=some (.row e xs)->τ id=u0->Ou M w β τ L (UC id rs os r).1 us
 | [],os,r,us,h,_=>by
  simp only [Oq] at h
  subst h
  exact .inl ⟨rfl,λ_ _ _=>trivial⟩
 | [t],os,r,us,h,_=>by
  obtain ⟨u,rfl,h⟩:=h
  have frozen:os.headD false=false->((UC id [t] os r).2=none/\∀ β τ L,Ou M w β τ L (UC id [t] os r).1 [u]):=by
   intro ho
   have hv:=Qg h ho
   cases os with
   | nil=>cases t <;> exact ⟨rfl,λβ τ L=>⟨⟨u,rfl,hv⟩,trivial⟩⟩
   | cons o os=>
    simp at ho
    subst ho
    cases t <;> exact ⟨rfl,λβ τ L=>⟨⟨u,rfl,hv⟩,trivial⟩⟩
  cases os with
  | nil=>exact .inl (frozen rfl)
  | cons o os=>
   cases o with
   | false=>exact .inl (frozen rfl)
   | true=>
    cases t with
    | slice e=>
     have hx:LW (b0<=·) M w e r u:=h
     refine .inr ⟨e,r,u,rfl,hx,λβ τ L h1 h2=>⟨?_,trivial⟩⟩
     simp only [RR]
     obtain ⟨a,cap,row,rfl,_⟩:=hx
     exact ⟨rfl,_,e,r,rfl,rfl,h1,h2.symm⟩
    | _=>exact .inl ⟨rfl,λβ τ L=>⟨⟨u,rfl,h⟩,trivial⟩⟩
 | t::t'::ts,os,r,us,h,hc=>by
  obtain ⟨u,us',rfl,h1,h2⟩:=h
  have htail:(os.tail.filter (λb=>b)).length<=1:=by
   cases os with
   | nil=>simp
   | cons o os=>cases o <;> simp only [List.tail_cons,List.filter_cons,Bool.false_eq_true,if_false,if_true,Af] at hc ⊢ <;> omega
  have ih:=QAM (os:=os.tail) h2 htail
  have frozen:EF M w t r.1 u->(UC id (t::t'::ts) os r=(.val ⟨t,r.1⟩::(UC id (t'::ts) os.tail r.2).1,(UC id (t'::ts) os.tail r.2).2))->
    ((UC id (t::t'::ts) os r).2=none/\∀ β τ L,Ou M w β τ L (UC id (t::t'::ts) os r).1 (u::us'))\/
    ∃ e xs u0,(UC id (t::t'::ts) os r).2=some (.row e xs)/\LW (b0<=·) M w e xs u0/\∀ β τ L,lk id L=some (.row e xs)->τ id=u0->Ou M w β τ L (UC id (t::t'::ts) os r).1 (u::us'):=by
   intro hv he
   rw [he]
   rcases ih with ⟨g1,g2⟩ | ⟨e,xs,u0,g1,g2,g3⟩
   ·exact .inl ⟨g1,λβ τ L=>⟨⟨u,rfl,hv⟩,g2 β τ L⟩⟩
   ·exact .inr ⟨e,xs,u0,g1,g2,λβ τ L k1 k2=>⟨⟨u,rfl,hv⟩,g3 β τ L k1 k2⟩⟩
  cases os with
  | nil=>exact frozen (Qg h1 rfl) (by cases t <;> rfl)
  | cons o os=>
   cases o with
   | false=>exact frozen (Qg h1 rfl) (by cases t <;> rfl)
   | true=>
    cases t with
    | slice e=>
     have hx:LW (b0<=·) M w e r.1 u:=h1
     have hno:∀ {rs:List Ty} {os:List Bool} {x:Bv rs},(os.filter (λb=>b)).length=0->(UC id rs os x).2=none:=by
      intro rs
      induction rs with
      | nil=>intro os x _;rfl
      | cons t1 rs ih=>
       intro os x h0
       have hd:os.headD false=false:=by
        cases os with
        | nil=>rfl
        | cons o os=>cases o <;> simp at h0 ⊢
       have ht:(os.tail.filter (λb=>b)).length=0:=by
        cases os with
        | nil=>rfl
        | cons o os=>cases o <;> simp at h0 ⊢ <;> simpa using h0
       cases rs with
       | nil=>
        cases os with
        | nil=>cases t1 <;> rfl
        | cons o os=>simp at hd;subst hd;cases t1 <;> rfl
       | cons t2 rs=>
        have:=ih (x:=x.2) ht
        cases os with
        | nil=>cases t1 <;> exact this
        | cons o os=>simp at hd;subst hd;cases t1 <;> exact this
     have h0:(os.filter (λb=>b)).length=0:=by simp at hc ⊢;simpa using hc
     have hn:=hno (x:=r.2) h0
     refine .inr ⟨e,r.1,u,rfl,hx,λβ τ L k1 k2=>⟨?_,?_⟩⟩
     ·simp only [RR]
      obtain ⟨a,cap,row,rfl,_⟩:=hx
      exact ⟨rfl,_,e,r.1,rfl,rfl,k1,k2.symm⟩
     ·rcases ih with ⟨g1,g2⟩ | ⟨e',xs,u0,g1,_⟩
      ·exact g2 β τ L
      ·simp only [List.tail_cons] at g1
       rw [hn] at g1
       cases g1
    | _=>exact frozen h1 rfl
theorem QLr {t:Ty} (h:t.flat=true) {M1 M2:Own} {w1 w2:World}:∀ {cs:List Value} {xs:List t.den},Seq (EA M1 w1 t) cs xs->Seq (EA M2 w2 t) cs xs:=λs=>s.mono λ_ _ r=>r.flat h
theorem mD {M1:Own} (hm:∀ b o,M b o->b < w.heap.size):∀ {rs:List Ty} {os:List Bool} {r:Bv rs} {us:List Value},apart rs os=true->Oq w.heap.size M1 w' rs os r us->Oq w.heap.size M w' rs os r us
 | [],_,_,_,_,h=>h
 | [t],os,r,us,ha,⟨u,hu,h⟩=>by
  refine ⟨u,hu,?_⟩
  simp only [apart,Bool.and_true,Bool.or_eq_true,AP] at ha
  exact one ha h
 | t::t'::ts,os,r,us,ha,⟨u,us',hu,h1,h2⟩=>by
  simp only [apart,AP] at ha
  refine ⟨u,us',hu,one (by simpa only [Bool.or_eq_true,AP] using ha.1) h1,mD hm (rs:=t'::ts) (by simpa only [apart,AP] using ha.2) h2⟩
where
 one {t:Ty} {o:Bool} {x:t.den} {u:Value} (ha:t.flat=true\/o=true/\t.QDd=true) (h:qP w.heap.size M1 w' t o x u):qP w.heap.size M w' t o x u:=by
  rcases ha with ha | ⟨rfl,ha⟩
  ·have:EF M1 w' t x u->EF M w' t x u:=λ⟨cs,e,r⟩=>⟨cs,e,r.flat ha⟩
   cases t with
   | slice e=>simp [Ty.flat] at ha
   | _=>exact this h
  ·cases t with
   | slice e=>
    obtain ⟨a,cap,row,h0,h1,h2,h3,h4,h5⟩:=h
    refine ⟨a,cap,row,h0,h1,h2,h3,QLr ha h4,λa0 ha0 hc=>?_⟩
    obtain ⟨b,cur,T,e1,g1,g2,g3,g4,g5⟩:=h5 a0 ha0 hc
    exact ⟨b,cur,T,e1,g1,g2,g3,g4,λo m=>by have:=hm _ _ m;omega⟩
   | _=>simp [Ty.QDd] at ha
theorem gM {tab:List (TypeId×Ty)} {l:List (Nat×Ob)} {s:List (Nat×RV)}:∀ (xs:List Operand) (ts:List TypeId),PC (λβ k=>Yh (α:=β) tab l s xs ts k)
 | [],[]=>PC.ret _
 | x::xs,t::ts=>by
  simp only [Yh]
  exact PC.comp (G:=λβ v k=>Yh tab l s xs ts λvs=>k (wkV v::vs)) (F4 6 _) λv=>PC.comp (G:=λβ vs k=>k (wkV v::vs)) (gM xs ts) λvs=>PC.ret _
 | [],_::_=>PC.none
 | _::_,[]=>PC.none
theorem qc {tab:List (TypeId×Ty)} (s:Sm w0 M0 N M β τ st a as w) {M1:Own}:∀ {xs:List Operand} {ts:List TypeId} {vs:List TV},(M1=Xf M β τ st.l\/M1=M/\allArgs tab st.s xs ts=true)->Yh tab st.l st.s xs ts some=some vs->UN M1 w vs (xs.map a.eval)
 | [],[],vs,_,h=>by cases h;exact trivial
 | x::xs,t::ts,vs,hv,h=>by
  simp only [Yh] at h
  obtain ⟨v,h1,h2⟩:=F4 6 _ _ _ _ h
  obtain ⟨vs',h3,h4⟩:=gM xs ts _ _ _ h2
  cases h4
  have hx:=CG s.glob s.fr (lk t tab) x
  refine ⟨?_,qc s ?_ (h3 _ some)⟩
  ·rcases hv with rfl | ⟨rfl,hv⟩
   ·exact QMF (Qh s.ob 6 (h1 _ some) hx)
   ·simp only [allArgs,AP] at hv
    exact QMF (Zq hv.1 (h1 _ some) hx)
  ·rcases hv with h | ⟨h,hv⟩
   ·exact .inl h
   ·simp only [allArgs,AP] at hv
    exact .inr ⟨h,hv.2⟩
 | [],_::_,vs,_,h=>by simp [Yh] at h
 | _::_,[],vs,_,h=>by simp [Yh] at h
theorem QKc {fn:Cb} {args:List Operand} {ts:List TypeId}:PC (λβ (k:RV×Option Ob->Option β)=>wC E fn args ts id st λrv ob=>k (rv,ob)):=by
 unfold wC
 exact PC.bif (PC.comp (Y:=RV×Option Ob) (G:=λβ vs k=>(MU fn.ps vs).bind λx=>(fn.F x).bind λr=>k (Zw (UC id fn.rs fn.os r).1,(UC id fn.rs fn.os r).2)) (gM _ _) λvs=>PC.bind (X:=RV×Option Ob) (g:=λβ x k=>(fn.F x).bind λr=>k (Zw (UC id fn.rs fn.os r).1,(UC id fn.rs fn.os r).2)) λx=>PC.bind λr=>PC.ret _) PC.none
theorem QBS (hE:CJ P E) (s:Sm w0 M0 N M β τ st a as w) (hd:∀ d,o.dst=some d->d < N) (hid:lk id st.l=none) {fo:Operand} {args:Array Operand} {ts:Array TypeId} (hop:o.op=.call { callee:=.value fo,args:=args,argTypes:=ts })
  (h:FZ E o st id (λrv ob=>some (rv,ob))=some (rv,ob)):Gives P Q w0 M0 N o a as w st id rv ob:=by
 simp only [FZ,hop] at h
 have rW:=CG s.glob s.fr none fo
 split at h
 rotate_left
 ·cases h
 rename_i f heq
 rw [heq] at rW
 simp only [RR] at rW
 obtain ⟨_,us0,hfe,hcap⟩:=rW
 subst hcap
 simp only [List.cons.injEq,and_true] at hfe
 obtain ⟨fn,hf,h⟩:=AO.1 h
 unfold wC at h
 obtain ⟨hc,h⟩:=BU h
 obtain ⟨vs,h1,h2⟩:=gM _ _ _ _ _ h
 obtain ⟨x,hx,h2⟩:=AO.1 h2
 obtain ⟨r,hr,h2⟩:=AO.1 h2
 simp only [Ac,Prod.mk.injEq] at h2
 obtain ⟨e1,e2⟩:=h2
 have hL:=hE.fs f fn hf
 have hrun:(execOp a.eval o).run P w=.ok (.enter f (args.toList.map a.eval).toArray) w:=by
  simp only [execOp,hop,resolve,hfe,Deferred.ofValue,Sem.run_bind,Sem.run_pure,Result.andThen_ok,invoke]
  rw [show (#[]++Array.map a.eval args++[].toArray)=(args.toList.map a.eval).toArray by simp [<- Array.toList_map]]
  exact hL.enters _ w
 have fin:∀ (M2:Own) (w':World) (us:List Value),Gr M w M2 w'->Oq w.heap.size M2 w' fn.rs fn.os r us->∀ K:Act->World->Prop,(∀ a' w',Cu w0 M0 N (Jd (QMr id ob st) o.dst rv) a' as w'->K a' w')->K (a.put o.dst (QAO us)) w':=by
  intro M2 w' us g he K hK
  rcases QAM (id:=id) he hL.one with ⟨g1,g2⟩ | ⟨e,xs,u0,g1,g2,g3⟩
  ·rw [g1] at e2
   subst e2
   refine hK _ _ ⟨M2,β,τ,(s.grow g).set o.dst hd ?_⟩
   rw [<- e1]
   exact jE (g2 _ _ _)
  ·rw [g1] at e2
   subst e2
   refine hK _ _ ⟨_,_,_,(s.QDI hid g g2).set o.dst hd ?_⟩
   rw [<- e1]
   exact jE (g3 _ _ _ (by simp [addN,Bl]) (by simp))
 intro K hK
 unfold Oper.wp
 rw [hrun,Oper.upon_enter]
 by_cases hv:allArgs E.tab st.s args.toList ts.toList=true
 ·refine (hL.calls w M _ vs x r s.mlt s.glob (qc s (.inr ⟨rfl,hv⟩) (h1 _ some)) hx hr).mono ?_
  rintro e w' ⟨us,M2,rfl,hg,hres⟩
  exact fin M2 w' us hg hres K hK
 ·have ha:apart fn.rs fn.os=true:=by
   rw [Bool.or_eq_true] at hc
   exact hc.resolve_right hv
  refine (hL.calls w (Xf M β τ st.l) _ vs x r s.mall s.glob.all (qc s (.inl rfl) (h1 _ some)) hx hr).mono ?_
  rintro e w' ⟨us,M2,rfl,hg,hres⟩
  exact fin M w' us (wX s hg) (mD s.mlt ha hres) K hK
theorem bO {A:(β:Type)->(RV×Option Ob->Option β)->Option β} (hA:PC A):PC (λβ (k:RV×Option Ob->Option β)=>tJ E o st (λrv=>k (rv,none)) (A β k)):=by
 unfold tJ
 split
 ·split
  ·exact PC.bif (PC.ret _) PC.none
  ·exact PC.bif (PC.ret _) PC.none
  ·exact hA
 ·split
  ·split
   ·exact PC.bif (PC.ret _) PC.none
   ·exact hA
  ·exact hA
 ·split
  ·rename_i e _
   exact PC.bind (X:=RV×Option Ob) λh=>PC.bif (PC.bif (PC.ret _) PC.none) PC.none
  ·exact hA
 ·exact hA
theorem tN:PC (λβ (k:RV×Option Ob->Option β)=>FZ E o st id λrv ob=>k (rv,ob)):=by
 cases hop:o.op with
 | move x=>simp only [FZ,hop];exact PC.ret _
 | assign x=>simp only [FZ,hop];exact PC.ret _
 | pick c x y=>
  simp only [FZ,hop]
  split
  ·exact PC.bif (PC.ret _) (PC.ret _)
  ·exact PC.none
 | alloc t=>
  simp only [FZ,hop]
  refine PC.bind (X:=RV×Option Ob) (g:=λβ ty k=>match QBq ty with
   | true=>k (.loc id [],some (.var ty .any))
   | false=>(D6 ty).bind λz=>k (.loc id [],some (.var ty (jV ty z)))) λty=>?_
  cases QBq ty with
  | true=>exact PC.ret _
  | false=>exact PC.bind λz=>PC.ret _
 | makeMap t hint=>
  cases hint with
  | some x=>simp only [FZ,hop];exact bO LP
  | none=>
   simp only [FZ,hop]
   refine PC.bind (X:=RV×Option Ob) (g:=λβ (ty:Ty) k=>match ty with
    | .mp kt vt=>k (.mp id,some (.mp kt vt []))
    | _=>none) λty=>?_
   cases ty with
   | mp kt vt=>exact PC.ret _
   | _=>exact PC.none
 | lookup t m x c=>
  simp only [FZ,hop,QFf]
  split
  ·split
   ·rename_i kt vt es _
    exact PC.bif (PC.comp (Y:=RV×Option Ob) (G:=λβ v k=>(TV.as kt v).bind λx=>(D6 vt).bind λz=>bif c then k (.Oj (.pair (.val ⟨vt,(bf x z es).1⟩) (.pair (.val ⟨.bool,(bf x z es).2⟩) .unit)),none) else k (.val ⟨vt,(bf x z es).1⟩,none)) (F4 6 _) λv=>PC.bind λx=>PC.bind λz=>PC.bif (PC.ret _) (PC.ret _)) PC.none
   ·exact PC.none
  ·exact PC.none
 | box t x=>simp only [FZ,hop];exact PC.bind (X:=RV×Option Ob) (g:=λβ ty k=>(toC ty (DT (some ty) x st.s)).bind λc=>k (.loc id [],some (.var ty c))) λty=>PC.bind λc=>PC.ret _
 | load T x=>
  simp only [FZ,hop]
  split
  ·split
   ·rename_i ty con _
    exact XM (X:=RV×Option Ob) (g:=λβ t rv k=>bif Cz (lk T E.tab) t then k (ofC t rv,none) else none) (λt rv=>PC.bif (PC.ret _) PC.none) ty con _
   ·split
    ·exact PC.bind λx=>zo (X:=RV×Option Ob) (g:=λβ v k=>bif Cz (lk T E.tab) v.1 then k (.val v,none) else none) λv=>PC.bif (PC.ret _) PC.none
    ·exact PC.none
   ·exact PC.none
   ·exact PC.none
   ·exact PC.none
  ·exact LP
 | nilCheck x=>
  simp only [FZ,hop]
  split
  ·exact PC.ret _
  ·exact PC.ret _
  ·exact LP
 | fieldAddr T x f=>
  simp only [FZ,hop]
  split
  ·rename_i i p _
   exact PC.bind (X:=RV×Option Ob) (g:=λβ ob k=>(QHm ob p).bind λt=>bif Cz (lk T E.tab) t&&(fieldTy t f).isSome then k (.loc i (p++[.TP f]),none) else none) λob=>PC.bind λt=>PC.bif (PC.ret _) PC.none
  ·exact LP
 | field T x f=>
  simp only [FZ,hop]
  split
  ·rename_i t r _
   exact PC.bif (XM (X:=RV×Option Ob) (g:=λβ t' rv k=>k (ofC t' rv,none)) (λt rv=>PC.ret _) t r [.TP f]) PC.none
  ·exact LP
 | indexAddr T x i=>
  simp only [FZ,hop]
  split
  ·rename_i i' p _
   refine PC.bind (X:=RV×Option Ob) (g:=λβ i k=>(lk i' st.l).bind λob=>match QHm ob p with
    | some (.arr n t)=>bif Cz (lk T E.tab) (.arr n t) then (bif decide (0<=i)&&decide (i < (n:Int)) then k (.loc i' (p++[.idx i]),none) else none) else none
    | _=>none) λi=>PC.bind (X:=RV×Option Ob) (g:=λβ ob k=>match QHm ob p with
    | some (.arr n t)=>bif Cz (lk T E.tab) (.arr n t) then (bif decide (0<=i)&&decide (i < (n:Int)) then k (.loc i' (p++[.idx i]),none) else none) else none
    | _=>none) λob=>?_
   split
   ·exact PC.bif (PC.bif (PC.ret _) PC.none) PC.none
   ·exact PC.none
  ·rename_i i' _
   refine PC.bind (X:=RV×Option Ob) (g:=λβ i k=>match lk i' st.l with
    | some (.row t xs)=>bif Cz (lk T E.tab) (.slice t) then (bif decide (0<=i)&&decide (i < (List.length xs:Int)) then k (.loc i' [.idx i],none) else none) else none
    | _=>none) λi=>?_
   split
   ·exact PC.bif (PC.bif (PC.ret _) PC.none) PC.none
   ·exact PC.none
  ·rename_i i' lo hi _
   refine PC.bind (X:=RV×Option Ob) (g:=λβ i k=>match lk i' st.l with
    | some (.row t _)=>bif Cz (lk T E.tab) (.slice t) then (bif decide (0<=i)&&decide (i < (hi:Int) - (lo:Int)) then k (.loc i' [.idx ((lo:Int)+i)],none) else none) else none
    | _=>none) λi=>?_
   split
   ·exact PC.bif (PC.bif (PC.ret _) PC.none) PC.none
   ·exact PC.none
  ·exact LP
 | slice T x lo hi mx=>
  cases mx with
  | some z=>
   cases hi with
   | none=>simp only [FZ,hop];exact bO LP
   | some y=>
    simp only [FZ,hop]
    split
    ·rename_i i' _
     split
     ·rename_i t xs _
      exact PC.bif (PC.bind (X:=RV×Option Ob) (g:=λβ m k=>bif decide (0<=m)&&decide (m<=(List.length xs:Int)) then jg m.toNat (lo.map (DT (some (.int .i64)) · st.s)) ((some y).map (DT (some (.int .i64)) · st.s)) λl h=>k (.sub i' l h,none) else none) λm=>PC.bif (nV (X:=RV×Option Ob) (g:=λβ l h k=>k (.sub i' l h,none)) λl h=>PC.ret _) PC.none) PC.none
     ·exact PC.none
    ·rename_i i' A B _
     split
     ·exact PC.bif (PC.bind (X:=RV×Option Ob) (g:=λβ m k=>bif decide (0<=m)&&decide (m<=((B - A:Nat):Int)) then jg m.toNat (lo.map (DT (some (.int .i64)) · st.s)) ((some y).map (DT (some (.int .i64)) · st.s)) λl h=>k (.sub i' (A+l) (A+h),none) else none) λm=>PC.bif (nV (X:=RV×Option Ob) (g:=λβ l h k=>k (.sub i' (A+l) (A+h),none)) λl h=>PC.ret _) PC.none) PC.none
     ·exact PC.none
    ·exact LP
  | none=>
   simp only [FZ,hop]
   split
   ·split
    ·exact PC.bif (nV (X:=RV×Option Ob) (g:=λβ l h k=>k (.sub _ l h,none)) λl h=>PC.ret _) PC.none
    ·exact PC.none
   ·split
    ·rename_i i' A B _ _ _ _ _
     exact PC.bif (nV (X:=RV×Option Ob) (g:=λβ l h k=>k (.sub i' (A+l) (A+h),none)) λl h=>PC.ret _) PC.none
    ·exact PC.none
   ·exact bO LP
 | extract x i=>
  simp only [FZ,hop]
  split
  ·exact PC.bind λrv=>PC.ret _
  ·exact PC.none
 | makeFunc f first caps=>
  cases f with
  | func f=>simp only [FZ,hop];exact PC.bif (PC.ret _) PC.none
  | _=>simp only [FZ,hop];exact bO LP
 | build t parts=>
  simp only [FZ,hop]
  refine PC.bind (X:=RV×Option Ob) (g:=λβ (ty:Ty) k=>bif Qr st.s (slotsOf o)&&!(agO E o) then XU E o st (λrv ob=>k (rv,ob)) else match ty with
   | .arr _ _=>none
   | ty=>(H8 st.s ty 0 (XV parts.toList)).bind λr=>k (.agg ty r,none)) λty=>PC.bif LP ?_
  split
  ·exact PC.none
  ·exact PC.bind λr=>PC.ret _
 | buildSlice t n parts=>
  simp only [FZ,hop]
  refine PC.bind (X:=RV×Option Ob) (g:=λβ (ty:Ty) k=>match ty with
   | .slice e=>(YS e st.s 0 parts.toList).bind λys=>bif Nat.beq ys.length n&&(Nat.ble n 1000000&&(Nat.ble 1 e.n&&Nat.ble (n * e.n) 1000000)) then (bif vlO E o then k (.val ⟨.slice e,ys⟩,none) else k (.row id,some (.row e ys))) else none
   | _=>none) λty=>?_
  split
  ·exact PC.bind λys=>PC.bif (PC.bif (PC.ret _) (PC.ret _)) PC.none
  ·exact PC.none
 | convert src dst x=>
  simp only [FZ,hop]
  unfold QKg
  split
  ·exact PC.bif (PC.bif (PC.ret _) (PC.ret _)) PC.none
  ·exact LP
 | makeSlice t l c=>
  simp only [FZ,hop]
  refine PC.bind (X:=RV×Option Ob) (g:=λβ n k=>(Yw (DT (some (.int .i64)) c st.s)).bind λm=>(lk t E.tab).bind λty=>match ty with
   | .slice e=>bif decide (0<=n)&&(decide (n<=m)&&(decide (m<=68719476736)&&Nat.ble 1 e.n)) then (D6 e).bind λz=>k (.row id,some (.row e (E.rep e.den n.toNat z))) else none
   | _=>none) λn=>PC.bind (X:=RV×Option Ob) (g:=λβ m k=>(lk t E.tab).bind λty=>match ty with
   | .slice e=>bif decide (0<=n)&&(decide (n<=m)&&(decide (m<=68719476736)&&Nat.ble 1 e.n)) then (D6 e).bind λz=>k (.row id,some (.row e (E.rep e.den n.toNat z))) else none
   | _=>none) λm=>PC.bind (X:=RV×Option Ob) (g:=λβ (ty:Ty) k=>match ty with
   | .slice e=>bif decide (0<=n)&&(decide (n<=m)&&(decide (m<=68719476736)&&Nat.ble 1 e.n)) then (D6 e).bind λz=>k (.row id,some (.row e (E.rep e.den n.toNat z))) else none
   | _=>none) λty=>?_
  split
  ·exact PC.bif (PC.bind λz=>PC.ret _) PC.none
  ·exact PC.none
 | call c=>
  obtain ⟨callee,args,argTypes⟩:=c
  cases callee with
  | value f=>
   simp only [FZ,hop]
   split
   ·exact PC.bind (X:=RV×Option Ob) (g:=λβ fn k=>wC E fn args.toList argTypes.toList id st λrv ob=>k (rv,ob)) λfn=>QKc
   ·exact PC.none
  | _=>simp only [FZ,hop];exact bO LP
 | _=>simp only [FZ,hop];exact bO LP
theorem kX (hE:CJ P E) (s:Sm w0 M0 N M β τ st a as w) (hd:∀ d,o.dst=some d->d < N) (hid:lk id st.l=none) (h:FZ E o st id (λrv ob=>some (rv,ob))=some (rv,ob)):Gives P Q w0 M0 N o a as w st id rv ob:=by
 have iH:∀ (x:Operand),execOp a.eval o=pure (Next.value (a.eval x))->some (DT (lk o.type E.tab) x st.s,(none:Option Ob))=some (rv,ob)->Gives P Q w0 M0 N o a as w st id rv ob:=by
  intro x he hav
  cases hav
  exact DY s hd (v:=a.eval x) (by rw [he];rfl) (CG s.glob s.fr _ x)
 cases hop:o.op with
 | move x=>simp only [FZ,hop] at h;exact iH x (by simp only [execOp,hop]) h
 | assign x=>simp only [FZ,hop] at h;exact iH x (by simp only [execOp,hop]) h
 | pick c x y=>
  simp only [FZ,hop] at h
  have hc:=CG s.glob s.fr (lk o.type E.tab) c
  split at h
  ·rename_i b heq
   rw [heq] at hc
   obtain ⟨u,e,hv⟩:=hc
   simp only [List.cons.injEq,and_true] at e
   have hb:=hv.bool
   rw [<- e] at hb
   cases b with
   | true=>exact iH x (by simp only [execOp,hop,hb,asBool];rfl) h
   | false=>exact iH y (by simp only [execOp,hop,hb,asBool];rfl) h
  ·cases h
 | alloc t=>exact yS hE s hd hid hop h
 | box t x=>exact QDN s hd hid hop h
 | load T x=>exact QC2 hE s hd hop h
 | makeMap t hint=>
  cases hint with
  | some x=>simp only [FZ,hop] at h;exact RH hE s hd (λh=>He hE s hd h) h
  | none=>exact sU s hd hid hop h
 | lookup t m x c=>exact vH hE s hd hop h
 | nilCheck x=>exact nM hE s hd hop h
 | fieldAddr T x f=>exact j4 hE s hd hop h
 | field T x f=>exact zi hE s hd hop h
 | indexAddr T x i=>exact kN hE s hd hop h
 | slice T x lo hi mx=>
  cases mx with
  | some z=>
   cases hi with
   | some y=>exact vO hE s hd hop h
   | none=>simp only [FZ,hop] at h;exact RH hE s hd (λh=>He hE s hd h) h
  | none=>exact QAY hE s hd hop h
 | extract x i=>exact rG s hd hop h
 | makeFunc f first caps=>
  cases f with
  | func f=>exact nJ s hd hop h
  | _=>simp only [FZ,hop] at h;exact RH hE s hd (λh=>He hE s hd h) h
 | build t parts=>exact yc hE s hd hop h
 | buildSlice t n parts=>exact gU hE s hd hid hop h
 | makeSlice t l c=>exact kS hE s hd hid hop h
 | convert src dst x=>exact qy hE s hd hid hop h λh=>He hE s hd h
 | call c=>
  obtain ⟨callee,args,argTypes⟩:=c
  cases callee with
  | value f=>exact QBS hE s hd hid hop h
  | _=>simp only [FZ,hop] at h;exact RH hE s hd (λh=>He hE s hd h) h
 | _=>simp only [FZ,hop] at h;exact RH hE s hd (λh=>He hE s hd h) h
end
end Go.Lift
