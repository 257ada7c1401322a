import Derived.Test.YtbgmjjplddddnaaGreatDoorRiH
import Derived.Test.YtbgmjjplddddnaaGreatDoorLiftR
namespace Go.Lift
open Go.RowKit
def Jw (b0:Nat) (M:Own) (w:World):(t:Ty)->Bool->t.den->Value->Prop
 | .slice e,true,x,u=>Bw (b0<=·) M w e x u
 | t,_,x,u=>Ap M w t x u
def CY (b0:Nat) (M:Own) (w:World):(rs:List Ty)->List Bool->AL rs->List Value->Prop
 | [],_,_,us=>us=[]
 | [t],os,x,us=>∃ u,us=[u]/\Jw b0 M w t (os.headD false) x u
 | t::u::ts,os,x,us=>∃ v vs,us=v::vs/\Jw b0 M w t (os.headD false) x.1 v/\CY b0 M w (u::ts) os.tail x.2 vs
def NC (us:List Value):Value:=if h:us.toArray.size=1 then us.toArray[0] else .tuple us.toArray
structure GV (P:Program) (f:FuncId) (fn:UA):Prop where
 enters:∀ (args:Array Value) (w:World),(callFunc f args).run P w=.ok (.enter f args) w
 one:(fn.os.filter (fun b=>b)).length<=1
 len:fn.os.length=fn.rs.length
 calls:∀ (w:World) (M:Own) (args:List Value) (vs:List TV) x r,(∀ b o,M b o->b < w.heap.size)->EK M w->DU M w vs args->BN fn.ps vs=some x->fn.F x=some r->
  Calls P f args.toArray w fun e w'=>∃ us M',e=.returned (NC us)/\Gr M w M' w'/\CY w.heap.size M' w' fn.rs fn.os r us
def A8 (args:List Value) (m:Nat):Act:={ tmps:=args.toArray++Array.replicate (m - args.toArray.size) undef,defers:=[] }
structure Jy (P:Program) (g:FuncId) (c:ED):Prop where
 enters:∀ (args:Array Value) (w:World),(callFunc g args).run P w=.ok (.enter g args) w
 calls:∀ (w0:World) (M0:Bs) (M:Own) (β:Nat->Nat) (τ:Nat->Value) (as:List Act) (w:World) (args:List Value) (x:Gf c.fp) (y:EJ c.bp) (z:wD c.bp c.w) (r:AL c.rs),Ez c.bp y=true->args.length=c.fp.length->(∀ m,args.length<=m->Sm w0 M0 m M β τ (Gu c x y) (A8 args m) as w)->c.F x y=some (z,r)->
  Calls P g args.toArray w fun e w'=>∃ us M' β' τ' N' a',e=.returned (NC us)/\Sm w0 M0 N' M' β' τ' { s:=[],l:=Dw c.w (IK c.bp c.w z) (EH 0 c.bp y),k:=[],b:=0 } a' [] w'/\((∀ j,j < c.bp.length->β' j=β j)/\∀ j t xs,lk j (EH 0 c.bp y)=some (.row t xs)->τ' j=τ j)/\CY 0 M' w' c.rs [] r us
structure LP (P:Program) (g:FuncId) (c:K7):Prop where
 enters:∀ (args:Array Value) (w:World),(callFunc g args).run P w=.ok (.enter g args) w
 calls:∀ (w0:World) (M0:Bs) (M:Own) (β:Nat->Nat) (τ:Nat->Value) (w:World) (args:List Value) (x:List c.e.den) (y:Gf c.fp) (z:List c.e.den),args.length=c.fp.length+1->(∀ m,args.length<=m->Sm w0 M0 m M β τ (K5 c.e c.fp x y) (A8 args m) [] w)->c.F x y=some z->
  Calls P g args.toArray w fun e w'=>∃ u M' β' τ' N' a',e=.returned u/\Sm w0 M0 N' M' β' τ' { s:=[],l:=[(0,.row c.e z)],k:=[],b:=0 } a' [] w'/\u=τ' 0
structure AQ (P:Program) (E:Aj):Prop where
 tab:BR P E.tab
 fs:∀ f fn,lk f E.fs=some fn->GV P f fn
 rep:∀ α n x,E.rep α n x=List.replicate n x
 mx:P.follows .mixedOrders=true
 inl:∀ f fn lt,lk f E.inl=some (fn,lt)->P.funcs[f]? = some fn/\(fn.name == "runtime.NumGoroutine")=false/\∀ c,fn.body=some c->Av fn.ntmps c=true
 rcs:∀ g c,lk g E.rcs=some c->Jy P g c
 ow:∀ g c,lk g E.ow=some c->LP P g c
section
variable {P:Program} {E:Aj} {Q:Exit->Act->World->Prop} {o:Oper} {w0:World} {M0:Bs} {N:Nat} {M M':Own} {β:Nat->Nat} {τ:Nat->Value} {st st':St} {a:Act} {as:List Act} {w w':World}
theorem AQ.old (hE:AQ P E):FC P E.old (fun _=>none):=
 { tab:=hE.tab,el:=(fun _ _ h=>by cases h),fs:=WY,rep:=hE.rep }
def VI (P:Program) (Q:Exit->Act->World->Prop) (w0:World) (M0:Bs) (N:Nat) (o:Oper) (a:Act) (as:List Act) (w:World) (st':St):Prop:=
 ∀ K:Act->World->Prop,(∀ a' w',Aa w0 M0 N st' a' as w'->K a' w')->o.wp P a w K Q
theorem Ev {v:Value} (hr:(execOp a.eval o).run P w=.ok (.value v) w') (hs:Aa w0 M0 N st' (a.put o.dst v) as w'):VI P Q w0 M0 N o a as w st':=by
 intro K hK
 unfold Oper.wp
 rw [hr]
 exact hK _ _ hs
theorem Sm.glob (s:Sm w0 M0 N M β τ st a as w):EK M w:=
 s.gk.ext (fun b o m=>⟨s.Eh b o m,fun v hv=>by rw [s.Bc.cell (p:=⟨b,o,none⟩) (Em hv)];exact hv⟩) s.Bc
theorem EK.all {M:Own} {w:World} {β:Nat->Nat} {τ:Nat->Value} {L:List (Nat×Ob)} (h:EK M w):EK (Ei M β τ L) w:=h.ext Fx (Below.refl _ _)
theorem AP {L:List (Nat×Ob)} {s:List (Nat×RV)} (hG:EK M w) (h:Gz M w β τ L s a) (ty:Option Ty) (x:Operand):RR M w β τ L (Ad ty x s) .sl [a.eval x]:=by
 unfold Ad
 split
 ·rename_i i
  cases hi:lk i s with
  | none=>exact ⟨_,rfl⟩
  | some rv=>
   obtain ⟨u,hu,r⟩:=h i rv hi
   have:a.eval (.tmp i)=u:=by simp [Act.eval,hu]
   rw [this];exact r
 ·rename_i v
  split
  ·cases hn:EF v with
   | true=>
    have:v=.slice none 0 0:=by
     unfold EF at hn
     split at hn
     ·rfl
     ·cases hn
    simp only [cond_true]
    show [Act.eval a (.const v)]=[.slice none 0 0]
    rw [← this];rfl
   | false=>exact ⟨_,rfl⟩
  ·split
   ·rename_i t _ y hk hr
    exact ⟨v,rfl,OH hk hr⟩
   ·exact ⟨_,rfl⟩
  ·exact ⟨_,rfl⟩
 ·simp only [RR]
  exact ⟨rfl,[],rfl,rfl⟩
 ·split
  ·rename_i g _ v hg
   exact ⟨_,rfl,hG.val hg⟩
  ·exact ⟨_,rfl⟩
theorem D6 {rv:RV} {i:Int} {u:Value} {L:List (Nat×Ob)} (h:FJ rv=some i) (r:RR M w β τ L rv .sl [u]):∃ k,u=.int k i/\k.min<=i/\i<=k.max:=by
 unfold FJ at h
 split at h
 ·cases h
  obtain ⟨u',e,hv⟩:=r
  cases e
  obtain ⟨rfl,h⟩:=hv.int
  exact ⟨_,rfl,h⟩
 ·cases h
theorem NJ {l:List (Nat×Ob)} {s:List (Nat×RV)}:∀ (is:List Nat),PC (fun β k=>Tx (α:=β) l s is k)
 | []=>PC.ret _
 | i::r=>by
  simp only [Tx]
  cases lk i s with
  | none=>exact PC.none
  | some rv=>exact PC.comp (G:=fun β v k=>Tx l s r fun fr=>k ((i,.val v .no)::fr)) (BF 6 rv) fun v=>PC.comp (G:=fun β fr k=>k ((i,.val v .no)::fr)) (NJ r) fun fr=>PC.ret _
def Gb {α:Type} (rv:RV) (k:TV->Option α):Option α:=match rv with
 | .nil t=>k ⟨.slice t,([]:List t.den)⟩
 | _=>none
theorem Hu (rv:RV):PC (fun β k=>Gb (α:=β) rv k):=by
 unfold Gb
 split
 ·exact PC.ret _
 ·exact PC.none
theorem RZ {α:Type} {pk Vy:RV->(TV->Option α)->Option α} (hpk:∀ t k,pk (.nil t) k=Vy (.nil t) k):∀ (rv:RV) (t:Ty) (k:t.den->Option α),Ey rv=true->Bd pk rv t k=Bd Vy rv t k:=by
 intro rv
 induction rv with
 | pair x y PN ihy=>
  intro t k h
  simp only [Ey,Bool.and_eq_true] at h
  cases t with
  | pair a b=>
   simp only [Bd]
   rw [PN a _ h.1]
   congr 1
   funext z
   exact ihy b _ h.2
  | _=>rfl
 | val v=>intro t k h;rfl
 | unit=>intro t k h;rfl
 | nil e=>intro t k h;exact hpk _ _
 | _=>intro t k h;simp [Ey] at h
theorem Fa {l:List (Nat×Ob)} {rv:RV} {v:TV} {u:Value} (hf:Ca rv=true) (h:Ae l 6 rv some=some v) (r:RR M w β τ l rv .sl [u]):Ap M w v.1 v.2 u:=by
 cases rv with
 | val v'=>
  cases h
  obtain ⟨u',e,hv⟩:=r
  cases e
  exact hv
 | nil t=>
  cases h
  have r':[u]=[Value.slice none 0 0]:=r
  cases r'
  exact ⟨[.slice none 0 0],rfl,none,0,[],by simp,by simp,by simp [maxLen],fun _=>rfl,by simp [Seq],.inl (by simp)⟩
 | agg t r'=>
  simp only [RR] at r
  obtain ⟨_,hag,c,e,r⟩:=r
  cases e
  simp only [Ca] at hf
  simp only [Ae] at h
  change Bd (fun rv k=>Ae l 5 rv k) r' t (fun x=>some (⟨t,x⟩:TV))=some v at h
  rw [RZ (pk:=fun rv k=>Ae l 5 rv k) (Vy:=fun rv k=>Gb rv k) (fun _ _=>rfl) r' t _ hf] at h
  obtain ⟨x,h1,h2⟩:=Dv (X:=t.den) (pk:=fun β rv k=>Gb (α:=β) rv k) Hu (rv:=r') (t:=t) (g:=fun β x k=>k x) (fun x=>PC.ret x) _ (fun x=>some (⟨t,x⟩:TV)) _ h
  cases h2
  refine ⟨c,by simp [toV,hag],Kk (M:=M) (M':=M) (β:=β) (τ:=τ) (L:=l) (pk:=fun β rv k=>Gb (α:=β) rv k) (fun b o m=>⟨m,fun _ h=>h⟩) Hu (fun rv u tv hh rr=>?_) (h1 _ some) r⟩
  unfold Gb at hh
  split at hh
  ·rename_i t
   cases hh
   have r':[u]=[Value.slice none 0 0]:=rr
   cases r'
   exact ⟨[.slice none 0 0],rfl,none,0,[],by simp,by simp,by simp [maxLen],fun _=>rfl,by simp [Seq],.inl (by simp)⟩
  ·cases hh
 | _=>simp [Ca] at hf
theorem Sm.mall (s:Sm w0 M0 N M β τ st a as w):∀ b o,Ei M β τ st.l b o->b < w.heap.size:=by
 rintro b o (m | ⟨id,ob,hl,hb⟩)
 ·exact s.mlt b o m
 ·exact (s.block hl hb).1
theorem Py (s:Sm w0 M0 N M β τ st a as w) {M1:Own}:∀ (is:List Nat) {fr:List (Nat×AV)},(M1=Ei M β τ st.l∨M1=M/\Co st.s is=true)->Tx st.l st.s is some=some fr->∀ i av,lk i fr=some av->∃ v,av=.val v .no/\∃ u,a.tmps[i]? = some u/\Ap M1 w v.1 v.2 u
 | [],fr,_,h,i,av,hi=>by cases h;simp [lk] at hi
 | j::r,fr,hv,h,i,av,hi=>by
  simp only [Tx] at h
  cases hj:lk j st.s with
  | none=>simp [hj] at h
  | some rv=>
   simp only [hj] at h
   obtain ⟨v,h1,h2⟩:=BF 6 rv _ _ _ h
   obtain ⟨fr',h3,h4⟩:=NJ r _ _ _ h2
   cases h4
   rw [AF] at hi
   split at hi
   ·rename_i e
    subst e
    cases hi
    obtain ⟨u,hu,hr⟩:=s.fr i rv hj
    refine ⟨v,rfl,u,hu,?_⟩
    rcases hv with rfl | ⟨rfl,hv⟩
    ·exact Ch s.ob 6 (h1 _ some) hr
    ·simp only [Co,List.all_cons,hj,Bool.and_eq_true] at hv
     exact Fa hv.1 (h1 _ some) hr
   ·refine Py s r ?_ (h3 _ some) i av hi
    rcases hv with h | ⟨h,hv⟩
    ·exact .inl h
    ·simp only [Co,List.all_cons,Bool.and_eq_true] at hv
     exact .inr ⟨h,hv.2⟩
theorem Sr {E:Env} {fr:Fr}:PC (fun β k=>Cn (α:=β) E o fr k):=by
 intro β k r h
 obtain ⟨av,_,h2,h3⟩:=(Uk (E:=E) (fr:=fr) (o:=o)).out _ k r h
 exact ⟨av,h2,h3⟩
theorem Bv:PC (fun β (k:RV×Option Ob->Option β)=>Ec E o st fun rv ob=>k (rv,ob)):=by
 unfold Ec
 refine PC.comp (Y:=RV×Option Ob) (G:=fun β fr k=>Cn E.old o { s:=fr,l:=[] } fun av=>match av with
  | .val v _=>bif v.1.flat||Co st.s (slotsOf o) then k (.val v,none) else none
  | _=>none) (NJ _) fun fr=>?_
 refine PC.comp (X:=AV) (Y:=RV×Option Ob) (G:=fun β av k=>match av with
  | .val v _=>bif v.1.flat||Co st.s (slotsOf o) then k (.val v,none) else none
  | _=>none) Sr fun av=>?_
 cases av with
 | val v Us=>exact PC.bif (PC.ret _) PC.none
 | _=>exact PC.none
theorem Sm.XB (s:Sm w0 M0 N M β τ st a as w) {M1:Own} (hG:EK M1 w) (hm:∀ b o,M1 b o->b < w.heap.size) {fr:List (Nat×AV)} (hfr:∀ i av,lk i fr=some av->∃ v,av=.val v .no/\∃ u,a.tmps[i]? = some u/\Ap M1 w v.1 v.2 u) :
  Cm P w M1 N M1 (fun _=>0) (fun _=>undef) { s:=fr,l:=[] } a w where
 sz:=s.sz
 Bc:=Below.refl _ _
 mlt:=hm
 Eh:=fun _ _ m=>m
 gk:=hG
 Az:=fun _ _ m=>.inl m
 sl:=fun i av h=>by
  obtain ⟨v,rfl,u,hu,hv⟩:=hfr i av h
  exact ⟨u,hu,hv,trivial⟩
 lo:=fun id e h=>by simp [lk] at h
 ld:=fun id id' e e' h=>by simp [lk] at h
 ti:=fun k e ⟨i,v,h⟩=>by obtain ⟨v',h',_⟩:=hfr _ _ h;cases h'
 tl:=fun k e id x b ⟨i,v,h⟩=>by obtain ⟨v',h',_⟩:=hfr _ _ h;cases h'
 tt:=fun k e k' e' ⟨i,v,h⟩=>by obtain ⟨v',h',_⟩:=hfr _ _ h;cases h'
theorem Lg (s:Sm w0 M0 N M β τ st a as w) {M1 M2:Own} (g:Gr M1 w M2 w'):Gr M w M w':=
 ⟨g.Bc,fun _ _ m=>m,fun _ _ m=>.inl m,fun b o m=>Nat.lt_of_lt_of_le (s.mlt b o m) g.Bc.size⟩
theorem Pz (hE:AQ P E) (s:Sm w0 M0 N M β τ st a as w) (hd:∀ d,o.dst=some d->d < N) {rv:RV} {ob:Option Ob} (h:(Ec E o st fun rv ob=>some (rv,ob))=some (rv,ob)):ob=none/\VI P Q w0 M0 N o a as w (BQ st o.dst rv):=by
 unfold Ec at h
 obtain ⟨fr,h1,h2⟩:=NJ _ _ _ _ h
 obtain ⟨av,h3,h4⟩:=Sr _ _ _ h2
 cases av with
 | val v Us=>
  simp only at h4
  obtain ⟨hc,h4⟩:=AA h4
  cases h4
  refine ⟨rfl,fun K hK=>?_⟩
  by_cases hv:Co st.s (slotsOf o)=true
  ·have sx:=s.XB (P:=P) s.glob s.mlt (Py s _ (.inr ⟨rfl,hv⟩) (h1 _ some))
   refine Lr hE.old sx (h3 _ some) K fun u w' M2 hg UJ=>?_
   exact hK _ _ ⟨M2,β,τ,(s.grow hg).set o.dst hd ⟨u,rfl,UJ.1⟩⟩
  ·have hf:v.1.flat=true:=by
    rw [Bool.or_eq_true] at hc
    exact hc.resolve_right hv
   have sx:=s.XB (P:=P) s.glob.all s.mall (Py s _ (.inl rfl) (h1 _ some))
   refine Lr hE.old sx (h3 _ some) K fun u w' M2 hg UJ=>?_
   refine hK _ _ ⟨M,β,τ,(s.grow (Lg s hg)).set o.dst hd ⟨u,rfl,?_⟩⟩
   obtain ⟨⟨cs,hu,hr⟩,_⟩:=UJ
   exact ⟨cs,hu,hr.flat hf⟩
 | _=>cases h4
end
end Go.Lift
