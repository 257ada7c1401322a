import Derived.Test.YtjcnhegjiffgpaaGreatDoorLiftG
set_option linter.unusedSimpArgs false
namespace Go.Lift
open Go.RowKit
def QOp (P:Program) (Q:Exit->Act->World->Prop) (o:Oper) (a:Act) (w:World) (M:Own) (β:Nat->Nat) (τ:Nat->Value) (L:List (Nat×Bool×TV)) (av:AV):Prop:=
 ∀ K:Act->World->Prop,(∀ v w' M',Gr M w M' w'->fT M' w' β τ L av v->K (a.put o.dst v) w')->o.wp P a w K Q
def UN (M:Own) (w:World):List TV->List Value->Prop
 | [],[]=>True
 | v::vs,u::us=>EF M w v.1 v.2 u/\UN M w vs us
 | _,_=>False
structure Lifts (P:Program) (f:FuncId) (fn:Fn):Prop where
 enters:∀ (args:Array Value) (w:World),(callFunc f args).run P w=.ok (.enter f args) w
 calls:∀ (w:World) (M:Own) (args:List Value) (vs:List TV) x r,(∀ b o,M b o->b < w.heap.size)->Ww M w->UN M w vs args->MU fn.ps vs=some x->fn.F x=some r->
  Calls P f args.toArray w λe w'=>∃ v M',e=.returned v/\Gr M w M' w'/\∀ β τ L,fT M' w' β τ L (xq fn.rs r) v
structure Yf (P:Program) (E:Env) (el:TypeId->Option TypeId):Prop where
 tab:Ii P E.tab
 el:∀ t e,el t=some e->P.underlying t=some (.slice e)
 fs:∀ f fn,lk f E.fs=some fn->Lifts P f fn
 rep:∀ α n x,E.rep α n x=List.replicate n x
section
variable {P:Program} {Q:Exit->Act->World->Prop} {o:Oper} {a:Act} {w:World} {M:Own} {β:Nat->Nat} {τ:Nat->Value} {L:List (Nat×Bool×TV)} {av:AV}
theorem QFu {v:Value} {w':World} {M':Own} (hr:(execOp a.eval o).run P w=.ok (.value v) w') (hg:Gr M w M' w') (hv:fT M' w' β τ L av v):QOp P Q o a w M β τ L av:=by
 intro K hK
 unfold Oper.wp
 rw [hr]
 exact hK v w' M' hg hv
theorem q_val (hm:∀ b o,M b o->b < w.heap.size) {v:Value} (hr:(execOp a.eval o).run P w=.ok (.value v) w) (hv:fT M w β τ L av v):QOp P Q o a w M β τ L av:=
 QFu hr (Gr.refl hm) hv
theorem QGc {tab:List (TypeId×Ty)} (htab:Ii P tab) {op:BinOp} {t:TypeId} {x y:AV} {vx vy:Value} {xo yo:Operand} (h:UU (lk t tab) op x y some=some av)
  (hx:fT M w β τ L x vx) (hy:fT M w β τ L y vy) :
  ∃ v,(do eqGuard op t xo yo vx vy;binOp op t vx vy:Sem Value).run P w=.ok v w/\fT M w β τ L av v:=by
 cases x with
 | val tx px=>
  obtain ⟨tx,dx⟩:=tx
  cases y with
  | val ty py=>
   obtain ⟨ty,dy⟩:=ty
   have agg:(bif tx.isAgg&&(tx.flat&&(Nat.ble tx.dep 99&&Cz (lk t tab) tx)) then (TV.as tx ⟨ty,dy⟩).bind λb=>(match op with | .eql=>some (AV.val ⟨.bool,R3 tx dx b⟩ .no) | .neq=>some (.val ⟨.bool,!(R3 tx dx b)⟩ .no) | _=>none) else none)=some av->
     ∃ v,(do eqGuard op t xo yo vx vy;binOp op t vx vy:Sem Value).run P w=.ok v w/\fT M w β τ L av v:=by
    intro h
    obtain ⟨hc,h⟩:=BU h
    simp only [AP] at hc
    obtain ⟨h1,h2,h3,h4⟩:=hc
    rw [AO] at h
    obtain ⟨b,hb,h⟩:=h
    obtain ⟨rfl,hb'⟩:=Sigma.mk.inj (TV.FE hb)
    obtain rfl:=eq_of_heq hb'
    have hT:=htab _ _ (Bu h4)
    obtain ⟨cs,ex,rx⟩:=hx.1
    obtain ⟨ds,ey,ry⟩:=hy.1
    simp only at ex rx ey ry
    obtain ⟨r,hr,hiff⟩:=(mH htab (M:=M) (M':=M) (u:=w) (u':=w) _ h2).1 Op.maxDepth t cs ds dx dy w (by have:=Ak h3;simp only [Op.maxDepth];omega) hT rx ry
    have hr':r=R3 ty dx dy:=by rw [Bool.eq_iff_iff,hiff,OJ]
    subst hr'
    rw [<- ex,<- ey] at hr
    have hvx:vx=.agg cs.toArray:=by rw [ex,toV,AY h1]
    have hvy:vy=.agg ds.toArray:=by rw [ey,toV,AY h1]
    have hg:P.eqGuardType P.depth t=false:=by
     cases ty <;> simp [Ty.isAgg] at h1
     ·obtain ⟨_,_,_,h⟩:=hT.arr;exact h
     ·obtain ⟨_,_,_,h⟩:=hT.unit;exact h
     ·obtain ⟨_,_,_,h⟩:=hT.pair;exact h
    have hguard:∀ op',(eqGuard op' t xo yo (.agg cs.toArray) (.agg ds.toArray)).run P w=.ok () w:=by
     intro op'
     simp only [eqGuard]
     cases op' <;> simp [hg]
    subst hvx hvy
    cases op <;> simp only at h <;> (try (cases h;done))
    ·cases h
     refine ⟨_,?_,EF.Ew,trivial⟩
     rw [Sem.run_bind,hguard]
     simp only [Result.andThen_ok,binOp,Sem.run_bind,Op.equal,hr,Sem.run_pure]
    ·cases h
     refine ⟨_,?_,EF.Ew,trivial⟩
     rw [Sem.run_bind,hguard]
     simp only [Result.andThen_ok,binOp,Sem.run_bind,Op.equal,hr,Sem.run_pure]
   cases tx with
   | int kx=>
    cases ty with
    | int ky=>
     obtain ⟨rfl,hm⟩:=hx.1.int
     obtain ⟨rfl,hn⟩:=hy.1.int
     simp only [UU] at h
     obtain ⟨v,hv,r⟩:=QH2 (P:=P) (M:=M) (w:=w) (β:=β) (τ:=τ) (L:=L) (t:=t) h hm
     refine ⟨v,?_,r⟩
     rw [Sem.run_bind]
     have:(eqGuard op t xo yo (.int kx dx) (.int ky dy)).run P w=.ok () w:=by
      simp only [eqGuard]
      cases op <;> simp
     rw [this]
     exact hv
    | _=>simp [UU,Ty.isAgg] at h
   | bool=>
    cases ty with
    | bool=>
     obtain rfl:=hx.1.bool
     obtain rfl:=hy.1.bool
     simp only [UU] at h
     obtain ⟨hc,h⟩:=BU h
     have hu:=(htab _ _ (Bu hc)).bool
     have hguard:∀ op',(eqGuard op' t xo yo (.bool dx) (.bool dy)).run P w=.ok () w:=by
      intro op'
      simp only [eqGuard]
      cases op' <;> simp
     cases op <;> simp only at h <;> (try (cases h;done))
     ·cases h
      exact ⟨_,by rw [Sem.run_bind,hguard];exact run_eql_bool w t dx dy hu,EF.Ew,trivial⟩
     ·cases h
      exact ⟨_,by rw [Sem.run_bind,hguard];exact run_neq_bool w t dx dy hu,EF.Ew,trivial⟩
    | _=>simp [UU,Ty.isAgg] at h
   | str=>
    cases ty with
    | str=>
     obtain ⟨s1,rfl,rfl,l1⟩:=hx.1.str
     obtain ⟨s2,rfl,rfl,l2⟩:=hy.1.str
     simp only [UU] at h
     have hguard:∀ op',(eqGuard op' t xo yo (.string s1) (.string s2)).run P w=.ok () w:=by
      intro op'
      simp only [eqGuard]
      cases op' <;> simp
     have heq:R3 .str (s1.data.toList.map (λb=>(b.toNat:Int))) (s2.data.toList.map (λb=>(b.toNat:Int)))=(s1.toList==s2.toList):=by
      rw [Bool.eq_iff_iff,OJ,beq_iff_eq,ByteArray.toList_eq,ByteArray.toList_eq]
      constructor
      ·intro e
       have hinj:∀ p q:UInt8,(p.toNat:Int)=q.toNat->p=q:=λp q h=>UInt8.toNat_inj.1 (by omega)
       revert e
       generalize s1.data.toList=l1
       generalize s2.data.toList=l2
       intro e
       induction l1 generalizing l2 with
       | nil=>cases l2 with
        | nil=>rfl
        | cons q l2=>simp at e
       | cons p l1 ih=>cases l2 with
        | nil=>simp at e
        | cons q l2=>simp only [List.map_cons,List.cons.injEq] at e;rw [hinj _ _ e.1,ih l2 e.2]
      ·intro e;rw [e]
     cases op <;> simp only at h <;> (try (cases h;done))
     ·obtain ⟨hc,h⟩:=BU h
      cases h
      have hc':=Ak hc
      simp only [Ay,Array.length_toList,lim] at hc'
      have z1:s1.data.size=s1.size:=rfl
      have z2:s2.data.size=s2.size:=rfl
      rw [z1,z2] at hc'
      refine ⟨.string (s1++s2),?_,⟨_,rfl,s1++s2,rfl,?_,?_⟩,trivial⟩
      ·rw [Sem.run_bind,hguard]
       have e1:binOp .add t (.string s1) (.string s2)=Op.stringOp .add s1 s2:=by simp [binOp]
       simp only [Result.andThen_ok,e1,Op.stringOp]
       rw [AX (by simp [IntKind.max,IntKind.signed,IntKind.bits];omega)]
       rfl
      ·simp [ByteArray.data_append]
      ·rw [ByteArray.size_append];simp only [maxLen];omega
     ·cases h
      refine ⟨_,?_,EF.Ew,trivial⟩
      rw [Sem.run_bind,hguard,heq]
      have e1:binOp .eql t (.string s1) (.string s2)=Op.stringOp .eql s1 s2:=by simp [binOp]
      simp only [Result.andThen_ok,e1,Op.stringOp,Sem.run_pure]
     ·cases h
      refine ⟨_,?_,EF.Ew,trivial⟩
      rw [Sem.run_bind,hguard,heq]
      have e1:binOp .neq t (.string s1) (.string s2)=Op.stringOp .neq s1 s2:=by simp [binOp]
      simp only [Result.andThen_ok,e1,Op.stringOp,Sem.run_pure]
    | _=>simp [UU,Ty.isAgg] at h
   | arr n e=>exact agg h
   | unit=>exact agg h
   | pair a b=>exact agg h
   | slice e=>simp [UU,Ty.isAgg] at h
   | ptr e=>simp [UU,Ty.isAgg] at h
   | UJ=>simp [UU,Ty.isAgg] at h
   | mp _ _=>simp [UU,Ty.isAgg] at h
   | fn=>simp [UU,Ty.isAgg] at h
   | nes e=>simp [UU,Ty.isAgg] at h
  | _=>
   exfalso
   cases tx <;> simp [UU] at h
 | _=>simp [UU] at h
theorem QGk {t:TypeId} {ms:Array (String×TypeId)} (hu:P.underlying t=some (.interface ms)) {a:Option (Option (Nat×Int))} {vx:Value} (hx:cu a vx) (w:World):(Op.equal t vx .nilIface).run P w=.ok (Option.isNone a) w:=by
 simp only [Op.equal,Op.maxDepth]
 rw [Op.equalIn,Sem.run_bind,run_underlying hu]
 match a,hx with
 | none,h=>subst h;rfl
 | some none,⟨t',u,h⟩=>subst h;rfl
 | some (some p),h=>subst h;rfl
theorem QH1 {tab:List (TypeId×Ty)} (htab:Ii P tab) {op:BinOp} {t:TypeId} {x:AV} {vx vy:Value} {xo yo:Operand} (hn:zx yo=true) (hv:∀ v,yo=.const v->vy=v) (h:QOS (lk t tab) op x some=some av)
  (hx:fT M w β τ L x vx):∃ v,(do eqGuard op t xo yo vx vy;binOp op t vx vy:Sem Value).run P w=.ok v w/\fT M w β τ L av v:=by
 have hyo:yo=.const .nilIface:=by
  unfold zx at hn
  split at hn
  ·rfl
  ·cases hn
 subst hyo
 have:=hv _ rfl
 subst this
 unfold QOS at h
 split at h
 ·rename_i a _
  obtain ⟨hc,h⟩:=BU h
  obtain ⟨ms,hu⟩:=(htab _ _ (Bu hc)).UJ
  have hx':=hx.1.UJ
  have hguard:∀ op',(eqGuard op' t xo (.const .nilIface) vx .nilIface).run P w=.ok () w:=by
   intro op'
   match a,hx' with
   | none,h=>subst h;simp only [eqGuard];cases op' <;> simp
   | some none,⟨t',u,h⟩=>subst h;simp only [eqGuard];cases op' <;> simp
   | some (some p),h=>subst h;simp only [eqGuard];cases op' <;> simp
  have heq:=QGk (P:=P) hu hx' w
  have hb:∀ (b:Bool),∃ v,v=Value.bool b:=λb=>⟨_,rfl⟩
  have e1:(binOp .eql t vx .nilIface).run P w=.ok (.bool (Option.isNone a)) w:=by
   have:binOp .eql t vx .nilIface=(do pure (.bool (<- Op.equal t vx .nilIface)):Sem Value):=by
    match a,hx' with
    | none,h=>subst h;rfl
    | some none,⟨t',u,h⟩=>subst h;rfl
    | some (some p),h=>subst h;rfl
   rw [this,Sem.run_bind,heq];rfl
  have e2:(binOp .neq t vx .nilIface).run P w=.ok (.bool (!(Option.isNone a))) w:=by
   have:binOp .neq t vx .nilIface=(do pure (.bool (!(<- Op.equal t vx .nilIface))):Sem Value):=by
    match a,hx' with
    | none,h=>subst h;rfl
    | some none,⟨t',u,h⟩=>subst h;rfl
    | some (some p),h=>subst h;rfl
   rw [this,Sem.run_bind,heq];rfl
  cases op <;> simp only at h <;> (try (cases h;done))
  ·cases h
   exact ⟨_,by rw [Sem.run_bind,hguard];exact e1,EF.Ew,trivial⟩
  ·cases h
   exact ⟨_,by rw [Sem.run_bind,hguard];exact e2,EF.Ew,trivial⟩
 ·cases h
theorem QGl {t:TypeId} {ms:Array (String×TypeId)} (hu:P.underlying t=some (.interface ms)) {a:Option (Option (Nat×Int))} {q:Nat×Int} {r:Bool} {vx:Value} (hx:cu a vx) (hq:P.underlying q.1=some (.int .i64)) (hc:(P.info? q.1).map (·.comparable)=some true)
  (he:QL2 a q=some r) (w:World):(Op.equal t vx (.iface q.1 (.int .i64 q.2))).run P w=.ok r w:=by
 match a,hx with
 | none,h=>
  subst h
  cases he
  simp only [Op.equal,Op.maxDepth]
  rw [Op.equalIn,Sem.run_bind,run_underlying hu]
  rfl
 | some none,⟨t',u,h⟩=>cases he
 | some (some p),h=>
  subst h
  obtain ⟨p1,p2⟩:=p
  obtain ⟨q1,q2⟩:=q
  simp only [QL2,Ac] at he
  subst he
  by_cases hp:p1=q1
  ·subst hp
   cases hi:P.info? p1 with
   | none=>simp [hi] at hc
   | some i=>
    have hcc:i.comparable=true:=by simpa [hi] using hc
    have h:∀ d:Nat,(Op.equalIn (d+2) t (.iface p1 (.int .i64 p2)) (.iface p1 (.int .i64 q2))).run P w=.ok (p2==q2) w:=λd=>by
     simp [Op.equalIn,run_underlying hu,run_underlying hq,typeInfo,hi,hcc]
    have e1:(p2==q2)=decide (p2=q2):=by by_cases h2:p2=q2 <;> simp [h2]
    simp only [Op.equal,Op.maxDepth]
    rw [h 9998,e1]
    simp
  ·have:Nat.beq p1 q1=false:=by cases hb:Nat.beq p1 q1 with | false=>rfl | true=>exact absurd (Aa hb) hp
   have h:∀ d:Nat,(Op.equalIn (d+1) t (.iface p1 (.int .i64 p2)) (.iface q1 (.int .i64 q2))).run P w=.ok false w:=λd=>by
    simp [Op.equalIn,run_underlying hu,hp]
   simp only [Op.equal,Op.maxDepth]
   rw [h 9999,this]
   rfl
theorem QH0 {tab:List (TypeId×Ty)} {b:Option (Option (Nat×Int))} {q:Nat×Int} (h:QZP tab b=some q):b=some (some q)/\lk q.1 tab=some (.int .i64):=by
 match b,h with
 | none,h=>cases h
 | some none,h=>cases h
 | some (some q'),h=>
  obtain ⟨h1,h2⟩:=BU (show (bif Cz (lk q'.1 tab) (.int .i64) then some q' else none)=some q from h)
  cases h2
  exact ⟨rfl,Bu h1⟩
theorem QDj {tab:List (TypeId×Ty)} (htab:Ii P tab) {op:BinOp} {t:TypeId} {x y:AV} {vx vy:Value} {xo yo:Operand} {alt:Option AV} (h:rX tab (lk t tab) op x y some alt=some av)
  (hx:fT M w β τ L x vx) (hy:fT M w β τ L y vy) (ha:alt=some av->∃ v,(do eqGuard op t xo yo vx vy;binOp op t vx vy:Sem Value).run P w=.ok v w/\fT M w β τ L av v) :
  ∃ v,(do eqGuard op t xo yo vx vy;binOp op t vx vy:Sem Value).run P w=.ok v w/\fT M w β τ L av v:=by
 unfold rX at h
 split at h
 ·rename_i a _ b _
  obtain ⟨hc,h⟩:=BU h
  obtain ⟨ms,hu⟩:=(htab _ _ (Bu hc)).UJ
  have hx':=hx.1.UJ
  have hy':=hy.1.UJ
  obtain ⟨q,hq,h⟩:=AO.1 h
  obtain ⟨r,hr,hz⟩:=AO.1 h
  obtain ⟨rfl,hq1⟩:=QH0 hq
  have hT:=htab _ _ hq1
  have hy2:vy=.iface q.1 (.int .i64 q.2):=hy'
  subst hy2
  have heq:=QGl (P:=P) hu hx' hT.int (hT.cmp rfl) hr w
  have hguard:∀ op',(eqGuard op' t xo yo vx (.iface q.1 (.int .i64 q.2))).run P w=.ok () w:=by
   intro op'
   match a,hx' with
   | none,h=>subst h;simp only [eqGuard];cases op' <;> simp
   | some none,⟨t',u,h⟩=>subst h;simp only [eqGuard];cases op' <;> simp
   | some (some p),h=>subst h;simp only [eqGuard];cases op' <;> simp
  have e1:(binOp .eql t vx (.iface q.1 (.int .i64 q.2))).run P w=.ok (.bool r) w:=by
   have:binOp .eql t vx (.iface q.1 (.int .i64 q.2))=(do pure (.bool (<- Op.equal t vx (.iface q.1 (.int .i64 q.2)))):Sem Value):=by
    match a,hx' with
    | none,h=>subst h;rfl
    | some none,⟨t',u,h⟩=>subst h;rfl
    | some (some p),h=>subst h;rfl
   rw [this,Sem.run_bind,heq];rfl
  have e2:(binOp .neq t vx (.iface q.1 (.int .i64 q.2))).run P w=.ok (.bool (!r)) w:=by
   have:binOp .neq t vx (.iface q.1 (.int .i64 q.2))=(do pure (.bool (!(<- Op.equal t vx (.iface q.1 (.int .i64 q.2))))):Sem Value):=by
    match a,hx' with
    | none,h=>subst h;rfl
    | some none,⟨t',u,h⟩=>subst h;rfl
    | some (some p),h=>subst h;rfl
   rw [this,Sem.run_bind,heq];rfl
  clear h
  cases op <;> simp only at hz <;> (try (cases hz;done))
  ·cases hz
   exact ⟨_,by rw [Sem.run_bind,hguard];exact e1,EF.Ew,trivial⟩
  ·cases hz
   exact ⟨_,by rw [Sem.run_bind,hguard];exact e2,EF.Ew,trivial⟩
 ·exact ha h
theorem QHE {tab:List (TypeId×Ty)} (htab:Ii P tab) {T:TypeId} {x:AV} {vx:Value} (h:mkI T (lk T tab) x some=some av) (hx:fT M w β τ L x vx) :
  ∃ v,(Instr.makeInterface T vx).run P w=.ok v w/\fT M w β τ L av v:=by
 unfold mkI at h
 split at h
 ·rename_i heq
  split at h
  ·rename_i n _
   cases h
   obtain ⟨rfl,_⟩:=hx.1.int
   have hu:=(htab _ _ heq).int
   refine ⟨.iface T (.int .i64 n),?_,EF.QTv rfl,trivial⟩
   simp only [Instr.makeInterface,Sem.run_bind,run_underlying hu,Result.andThen_ok,Sem.run_pure]
  ·cases h
 ·cases h
theorem QMB {op:UnOp} {x:AV} {vx:Value} (h:unK op x some=some av) (hx:fT M w β τ L x vx):∃ v,(Op.unary op vx).run P w=.ok v w/\fT M w β τ L av v:=by
 cases x with
 | val tx px=>
  obtain ⟨tx,dx⟩:=tx
  cases tx with
  | int kx=>
   obtain ⟨rfl,hm⟩:=hx.1.int
   cases op <;> simp only [unK] at h <;> (try (cases h;done))
   ·cases h;exact ⟨_,rfl,EF.JY (MW _ _),trivial⟩
   ·cases h
    refine ⟨.int kx (bits .xor kx (if kx.signed then -1 else kx.max) dx),?_,?_,trivial⟩
    ·simp only [Op.unary,intBits_xor];rfl
    ·have:=EF.JY (M:=M) (w:=w) (k:=kx) (x:=bits .xor kx (if kx.signed then -1 else kx.max) dx) (UW _ _ _ _)
     simpa using this
  | bool=>
   obtain rfl:=hx.1.bool
   cases op <;> simp [unK] at h
   subst h;exact ⟨_,rfl,EF.Ew,trivial⟩
  | _=>cases op <;> simp [unK] at h
 | _=>cases op <;> simp [unK] at h
theorem QH6 {tab:List (TypeId×Ty)} (htab:Ii P tab) {t ty:TypeId} {x:AV} {vx:Value} (h:QDr (lk t tab) x some=some av) (hx:fT M w β τ L x vx) :
  ∃ v,(Builtin.len_ #[t] ty #[vx]).run P w=.ok v w/\fT M w β τ L av v:=by
 cases x with
 | val tx px=>
  obtain ⟨tx,dx⟩:=tx
  cases tx with
  | slice e=>
   simp only [QDr] at h
   obtain ⟨hc,h⟩:=BU h
   cases h
   obtain ⟨e',hu,_⟩:=QRO htab hc
   obtain ⟨a,cap,row,rfl,h1,h2,_⟩:=hx.1.slice
   refine ⟨_,by simp [Builtin.len_,run_underlying hu];rfl,EF.JY ?_,trivial⟩
   simp only [maxLen] at h2
   have h1':List.length dx<=cap:=h1
   simp [IntKind.min,IntKind.max,IntKind.signed,IntKind.bits]
   omega
  | str=>
   simp only [QDr] at h
   obtain ⟨hc,h⟩:=BU h
   cases h
   have hu:=(htab _ _ (Bu hc)).str
   obtain ⟨s,rfl,rfl,l⟩:=hx.1.str
   have z1:s.data.size=s.size:=rfl
   refine ⟨_,by simp [Builtin.len_,run_underlying hu];rfl,?_,trivial⟩
   simp only [Ay,Array.length_toList,z1]
   refine EF.JY ?_
   simp only [maxLen] at l
   simp [IntKind.min,IntKind.max,IntKind.signed,IntKind.bits]
   omega
  | _=>simp [QDr] at h
 | _=>simp [QDr] at h
theorem QHA (ns:List Int) (h:∀ n∈ns,0<=n/\n<=255):(ns.map λn=>((UInt8.ofNat n.toNat).toNat:Int))=ns:=by
 induction ns with
 | nil=>rfl
 | cons n ns ih=>
  have hn:=h n (by simp)
  rw [List.map_cons,ih (λm hm=>h m (by simp [hm]))]
  congr 1
  simp
  omega
theorem Seq.ints {k:IntKind}:∀ {cs:List Value} {xs:List Int},Seq (EA M w (.int k)) cs xs->cs=xs.map (Value.int k)/\∀ x∈xs,k.min<=x/\x<=k.max
 | _,[],s=>by simp only [Seq] at s;subst s;simp
 | _,x::xs,⟨c1,c2,e,r,s⟩=>by
  obtain ⟨rfl,r⟩:=r
  obtain ⟨h1,h2⟩:=Seq.ints s
  subst e
  exact ⟨by simp [h1],by intro y hy;rcases List.mem_cons.1 hy with rfl | hy;exact r;exact h2 y hy⟩
theorem Seq.iY {k:IntKind}:∀ {xs:List Int},(∀ x∈xs,k.min<=x/\x<=k.max)->Seq (EA M w (.int k)) (xs.map (Value.int k)) xs
 | [],_=>rfl
 | x::xs,h=>⟨[.int k x],xs.map (Value.int k),rfl,⟨rfl,h x (by simp)⟩,Seq.iY λy hy=>h y (by simp [hy])⟩
theorem wL {n:Int} (h0:0<=n) (h1:n < 128):Utf8.encode n=⟨#[UInt8.ofNat n.toNat]⟩/\((UInt8.ofNat n.toNat).toNat:Int)=n:=by
 constructor
 ·have hv:Utf8.valid n=true:=by simp [Utf8.valid];left;omega
  have hlt:n.toNat < 128:=by omega
  simp [Utf8.encode,hv,hlt]
 ·have hlt:n.toNat < 256:=by omega
  simp [Nat.mod_eq_of_lt hlt]
  omega
theorem QDX {tab:List (TypeId×Ty)} (htab:Ii P tab) (hm:∀ b o,M b o->b < w.heap.size) {src dst:TypeId} {x:AV} {vx:Value} (h:QBW (lk src tab) (lk dst tab) x some=some av) (hx:fT M w β τ L x vx) :
  ∃ v w' M',(convert src dst vx).run P w=.ok v w'/\Gr M w M' w'/\fT M' w' β τ L av v:=by
 cases x with
 | val tx px=>
  obtain ⟨tx,dx⟩:=tx
  unfold QBW at h
  split at h <;> (try (cases h;done))
  ·rename_i kd ks n _ hd hx'
   cases hx'
   obtain ⟨hc,h⟩:=BU h
   cases h
   obtain ⟨rfl,_⟩:=hx.1.int
   have h1:=(htab _ _ (Bu hc)).int
   have h2:=(htab _ _ hd).int
   exact ⟨_,w,M,by simp [convert,run_underlying h1,run_underlying h2,Conv.intToInt],Gr.refl hm,EF.JY (MW _ _),trivial⟩
  ·rename_i s _ hd hx'
   cases hx'
   obtain ⟨hc,h⟩:=BU h
   cases h
   obtain ⟨s,rfl,rfl,l⟩:=hx.1.str
   have h1:=(htab _ _ (Bu hc)).str
   have h2:=(htab _ _ hd).str
   exact ⟨.string s,w,M,by simp [convert,run_underlying h1,run_underlying h2],Gr.refl hm,⟨[.string s],rfl,s,rfl,rfl,l⟩,trivial⟩
  ·rename_i s _ hd hx'
   cases hx'
   obtain ⟨hc,h⟩:=BU h
   cases h
   obtain ⟨a,cap,row,rfl,h1,h2,_,hs,hrow⟩:=hx.1.slice
   obtain ⟨e,hu,he⟩:=(htab _ _ (Bu hc)).slice
   have hu8:=(htab _ _ he).int
   have hd':=(htab _ _ hd).str
   obtain ⟨rfl,hr⟩:=hs.ints
   have hr':∀ n∈s,0<=n/\n<=255:=λn hn=>by have:=hr n hn;simpa [IntKind.min,IntKind.max,IntKind.signed,IntKind.bits] using this
   rcases hrow with hrow | ⟨b,o,rfl,hrow⟩
   ·have:s=[]:=Ar hrow
    subst this
    have hz:(convert src dst (.slice a 0 cap)).run P w=.ok (.string ByteArray.empty) w:=by
     cases a with
     | none=>exact run_convert_bytes_nil w src e hu hu8 0 cap dst hd'
     | some a=>
      rw [run_convert_bytes_string w src dst e _ 0 cap hu hu8 hd']
      simp [Conv.bytesToString,loadCells,loadCellsFrom]
    exact ⟨_,w,M,hz,Gr.refl hm,⟨_,rfl,ByteArray.empty,rfl,rfl,by simp [maxLen]⟩,trivial⟩
   ·have hz:=run_convert_bytes_arg (P:=P) w src e hu hu8 b o s.length cap s rfl (λi hi=>by
     have:=(hrow i (by simpa using hi)).1
     rw [this]
     simp [AU hi,Ad]) dst hd'
    refine ⟨_,w,M,hz,Gr.refl hm,⟨_,rfl,_,rfl,?_,?_⟩,trivial⟩
    ·simp only [strOfNums,List.map_map]
     exact (QHA s hr').symm
    ·have h1':List.length s<=cap:=h1
     show (strOfNums s).data.size<=maxLen
     simp [strOfNums];omega
  ·rename_i ks n _ hd hx'
   cases hx'
   obtain ⟨hc,h⟩:=BU h
   cases h
   simp only [AP,AZ] at hc
   obtain ⟨hc,h0,h128⟩:=hc
   obtain ⟨rfl,_⟩:=hx.1.int
   have h1:=(htab _ _ (Bu hc)).int
   have h2:=(htab _ _ hd).str
   have he:=(wL (n:=n) h0 h128).1
   have hn:=(wL (n:=n) h0 h128).2
   refine ⟨.string (Utf8.encode n),w,M,by simp [convert,run_underlying h1,run_underlying h2,Conv.intToString],Gr.refl hm,⟨[.string (Utf8.encode n)],rfl,_,rfl,?_,?_⟩,trivial⟩
   ·rw [he]
    exact congrArg (λx=>[x]) hn.symm
   ·rw [he]
    show (1:Nat)<=maxLen
    simp [maxLen]
  ·rename_i s _ hd hx'
   cases hx'
   obtain ⟨hc,h⟩:=BU h
   cases h
   obtain ⟨s,rfl,rfl,l⟩:=hx.1.str
   have h1:=(htab _ _ (Bu hc)).str
   obtain ⟨e,hu,he⟩:=(htab _ _ hd).slice
   have hu8:=(htab _ _ he).int
   have hz:=run_bytes_of_string (P:=P) w src dst e s h1 hu hu8
   have hge:=grownCap_ge w s.size 0 e
   have hcl:=grownCap_le_maxLen w s.size 0 e l
   have hsz:(bytesRow s (grownCap w s.size 0 e)).size=grownCap w s.size 0 e:=by
    simp [bytesRow];have z1:s.data.size=s.size:=rfl;omega
   have g:Gr M w (λb o=>M b o\/(b=w.heap.size/\o < s.size)) (w.drew.alloc (.cells (bytesRow s (grownCap w s.size 0 e)) e ((bytesRow s (grownCap w s.size 0 e)).size,(bytesRow s (grownCap w s.size 0 e)).size+1))):=
    ⟨(Below.refl _ _).drew.alloc (Nat.le_refl _) _,λ_ _ m=>.inl m,λb o m=>m.elim .inl (λm=>.inr (by omega)),λb o m=>m.elim (λm=>by have:=hm b o m;simp;omega) (λm=>by simp;omega)⟩
   have z1:s.data.size=s.size:=rfl
   refine ⟨_,_,_,hz,g,⟨[.slice (some ⟨w.heap.size,0,none⟩) s.size (grownCap w s.size 0 e)],rfl,some ⟨w.heap.size,0,none⟩,grownCap w s.size 0 e,(s.data.toList.map λb=>Value.int .u8 b.toNat),?_,?_,hcl,(λh=>by cases h),?_,.inr ⟨_,_,rfl,?_⟩⟩,trivial⟩
   ·simp [z1]
   ·simp [z1];exact hge
   ·have:=Seq.iY (M:=λb o=>M b o\/(b=w.heap.size/\o < s.size)) (w:=w.drew.alloc (.cells (bytesRow s (grownCap w s.size 0 e)) e ((bytesRow s (grownCap w s.size 0 e)).size,(bytesRow s (grownCap w s.size 0 e)).size+1))) (k:=.u8) (xs:=s.data.toList.map λb=>(b.toNat:Int))
     (λx hx=>by
      obtain ⟨b,_,rfl⟩:=List.mem_map.1 hx
      have:=UInt8.toNat_lt b
      simp [IntKind.min,IntKind.max,IntKind.signed,IntKind.bits];omega)
    rw [List.map_map] at this
    exact this
   ·intro i hi
    have hi':i < s.size:=by simpa [z1] using hi
    refine ⟨?_,.inr ⟨rfl,by omega⟩⟩
    have hcell:(w.drew.alloc (.cells (bytesRow s (grownCap w s.size 0 e)) e ((bytesRow s (grownCap w s.size 0 e)).size,(bytesRow s (grownCap w s.size 0 e)).size+1))).cell? ⟨w.heap.size,0+i,none⟩=(bytesRow s (grownCap w s.size 0 e))[i]?:=by
     rw [Nat.zero_add]
     exact cell_of_row _ _ _ _ _ _ (heap_alloc_new w.drew _)
    rw [hcell]
    simp only [bytesRow]
    rw [Array.getElem?_append_left (by simp [z1];exact hi')]
    simp
  all_goals (cases h)
 | _=>unfold QBW at h;split at h <;> simp_all
end
end Go.Lift
