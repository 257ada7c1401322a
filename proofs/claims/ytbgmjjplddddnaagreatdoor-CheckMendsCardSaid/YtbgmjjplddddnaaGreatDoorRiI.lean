import Derived.Test.YtbgmjjplddddnaaGreatDoorRiH
import Derived.Test.YtbgmjjplddddnaaGreatDoorLiftR
set_option linter.unusedSimpArgs false
namespace Go.Lift
open Go.RowKit
def Kl (b0:Nat) (M:Own) (w:World):(t:Ty)->Bool->t.den->Value->Prop
 | .slice e,true,x,u=>DJ (b0<=·) M w e x u
 | t,_,x,u=>Bu M w t x u
def Df (b0:Nat) (M:Own) (w:World):(rs:List Ty)->List Bool->BP rs->List Value->Prop
 | [],_,_,us=>us=[]
 | [t],os,x,us=>∃ u,us=[u]/\Kl b0 M w t (os.headD false) x u
 | t::u::ts,os,x,us=>∃ v vs,us=v::vs/\Kl b0 M w t (os.headD false) x.1 v/\Df b0 M w (u::ts) os.tail x.2 vs
def OD (us:List Value):Value:=if h:us.toArray.size=1 then us.toArray[0] else .tuple us.toArray
structure Hw (P:Program) (f:FuncId) (fn:U0):Prop where
 enters:∀ (args:Array Value) (w:World),(callFunc f args).run P w=.ok (.enter f args) w
 one:(fn.os.filter (fun b=>b)).length<=1
 len:fn.os.length=fn.rs.length
 calls:∀ (w:World) (M:Own) (args:List Value) (vs:List TV) x r,(∀ b o,M b o->b < w.heap.size)->E9 M w->EM M w vs args->Cc fn.ps vs=some x->fn.F x=some r->
  Calls P f args.toArray w fun e w'=>∃ us M',e=.returned (OD us)/\Gr M w M' w'/\Df w.heap.size M' w' fn.rs fn.os r us
def CK (args:List Value) (m:Nat):Act:={ tmps:=args.toArray++Array.replicate (m - args.toArray.size) undef,defers:=[] }
structure Km (P:Program) (g:FuncId) (c:FB):Prop where
 enters:∀ (args:Array Value) (w:World),(callFunc g args).run P w=.ok (.enter g args) w
 calls:∀ (w0:World) (M0:Bs) (M:Own) (β:Nat->Nat) (τ:Nat->Value) (as:List Act) (w:World) (args:List Value) (x:IC c.fp) (y:FH c.bp) (z:wD c.bp c.w) (r:BP c.rs),F7 c.bp y=true->args.length=c.fp.length->(∀ m,args.length<=m->Sm w0 M0 m M β τ (IY c x y) (CK args m) as w)->c.F x y=some (z,r)->
  Calls P g args.toArray w fun e w'=>∃ us M' β' τ' N' a',e=.returned (OD us)/\Sm w0 M0 N' M' β' τ' { s:=[],l:=En c.w (JJ c.bp c.w z) (FE 0 c.bp y),k:=[],b:=0 } a' [] w'/\((∀ j,j < c.bp.length->β' j=β j)/\∀ j t xs,lk j (FE 0 c.bp y)=some (.row t xs)->τ' j=τ j)/\Df 0 M' w' c.rs [] r us
structure MS (P:Program) (g:FuncId) (c:MF):Prop where
 enters:∀ (args:Array Value) (w:World),(callFunc g args).run P w=.ok (.enter g args) w
 calls:∀ (w0:World) (M0:Bs) (M:Own) (β:Nat->Nat) (τ:Nat->Value) (w:World) (args:List Value) (x:List c.e.den) (y:IC c.fp) (z:List c.e.den),args.length=c.fp.length+1->(∀ m,args.length<=m->Sm w0 M0 m M β τ (MC c.e c.fp x y) (CK args m) [] w)->c.F x y=some z->
  Calls P g args.toArray w fun e w'=>∃ u M' β' τ' N' a',e=.returned u/\Sm w0 M0 N' M' β' τ' { s:=[],l:=[(0,.row c.e z)],k:=[],b:=0 } a' [] w'/\u=τ' 0
structure BS (P:Program) (E:Bn):Prop where
 tab:CY P E.tab
 fs:∀ f fn,lk f E.fs=some fn->Hw P f fn
 rep:∀ α n x,E.rep α n x=List.replicate n x
 mx:P.follows .mixedOrders=true
 inl:∀ f fn lt,lk f E.inl=some (fn,lt)->P.funcs[f]? = some fn/\(fn.name == "runtime.NumGoroutine")=false/\∀ c,fn.body=some c->CB fn.ntmps c=true
 rcs:∀ g c,lk g E.rcs=some c->Km P g c
 ow:∀ g c,lk g E.ow=some c->MS P g c
section
variable {P:Program} {E:Bn} {Q:Exit->Act->World->Prop} {o:Oper} {w0:World} {M0:Bs} {N:Nat} {M M':Own} {β:Nat->Nat} {τ:Nat->Value} {st st':St} {a:Act} {as:List Act} {w w':World}
theorem BS.old (hE:BS P E):GH P E.old (fun _=>none):=
 { tab:=hE.tab,el:=(fun _ _ h=>by cases h),fs:=Xe,rep:=hE.rep }
def V9 (P:Program) (Q:Exit->Act->World->Prop) (w0:World) (M0:Bs) (N:Nat) (o:Oper) (a:Act) (as:List Act) (w:World) (st':St):Prop:=
 ∀ K:Act->World->Prop,(∀ a' w',Bb w0 M0 N st' a' as w'->K a' w')->o.wp P a w K Q
theorem F4 {v:Value} (hr:(execOp a.eval o).run P w=.ok (.value v) w') (hs:Bb w0 M0 N st' (a.put o.dst v) as w'):V9 P Q w0 M0 N o a as w st':=by
 intro K hK
 unfold Oper.wp
 rw [hr]
 exact hK _ _ hs
theorem Sm.glob (s:Sm w0 M0 N M β τ st a as w):E9 M w:=
 s.gk.ext (fun b o m=>⟨s.Fg b o m,fun v hv=>by rw [s.Cq.cell (p:=⟨b,o,none⟩) (Fq hv)];exact hv⟩) s.Cq
theorem E9.all {M:Own} {w:World} {β:Nat->Nat} {τ:Nat->Value} {L:List (Nat×Ob)} (h:E9 M w):E9 (Fh M β τ L) w:=h.ext Gw (Below.refl _ _)
theorem BR {L:List (Nat×Ob)} {s:List (Nat×RV)} (hG:E9 M w) (h:Ie M w β τ L s a) (ty:Option Ty) (x:Operand):RR M w β τ L (Bf ty x s) .sl [a.eval x]:=by
 unfold Bf
 split
 ·rename_i i
  cases hi:lk i s with
  | none=>exact ⟨_,rfl⟩
  | some rv=>
   obtain ⟨u,hu,r⟩:=h i rv hi
   have:a.eval (.tmp i)=u:=by simp [Act.eval,hu]
   rw [this];exact r
 ·rename_i v
  split
  ·cases hn:FC v with
   | true=>
    have:v=.slice none 0 0:=by
     unfold FC at hn
     split at hn
     ·rfl
     ·cases hn
    simp only [AL]
    show [Act.eval a (.const v)]=[.slice none 0 0]
    rw [← this];rfl
   | false=>exact ⟨_,rfl⟩
  ·split
   ·rename_i t _ y hk hr
    exact ⟨v,rfl,PI hk hr⟩
   ·exact ⟨_,rfl⟩
  ·exact ⟨_,rfl⟩
 ·simp only [RR]
  exact ⟨rfl,[],rfl,rfl⟩
 ·split
  ·rename_i g _ v hg
   exact ⟨_,rfl,hG.val hg⟩
  ·exact ⟨_,rfl⟩
theorem Et {rv:RV} {i:Int} {u:Value} {L:List (Nat×Ob)} (h:GN rv=some i) (r:RR M w β τ L rv .sl [u]):∃ k,u=.int k i/\k.min<=i/\i<=k.max:=by
 unfold GN at h
 split at h
 ·cases h
  obtain ⟨u',e,hv⟩:=r
  cases e
  obtain ⟨rfl,h⟩:=hv.int
  exact ⟨_,rfl,h⟩
 ·cases h
theorem OJ {l:List (Nat×Ob)} {s:List (Nat×RV)}:∀ (is:List Nat),PC (fun β k=>Ux (α:=β) l s is k)
 | []=>PC.ret _
 | i::r=>by
  simp only [Ux]
  cases lk i s with
  | none=>exact PC.none
  | some rv=>exact PC.comp (G:=fun β v k=>Ux l s r fun fr=>k ((i,.val v .no)::fr)) (CS 6 rv) fun v=>PC.comp (G:=fun β fr k=>k ((i,.val v .no)::fr)) (OJ r) fun fr=>PC.ret _
def H8 {α:Type} (rv:RV) (k:TV->Option α):Option α:=match rv with
 | .nil t=>k ⟨.slice t,([]:List t.den)⟩
 | _=>none
theorem I5 (rv:RV):PC (fun β k=>H8 (α:=β) rv k):=by
 unfold H8
 split
 ·exact PC.ret _
 ·exact PC.none
theorem SX {α:Type} {pk Wz:RV->(TV->Option α)->Option α} (hpk:∀ t k,pk (.nil t) k=Wz (.nil t) k):∀ (rv:RV) (t:Ty) (k:t.den->Option α),F6 rv=true->Cr pk rv t k=Cr Wz rv t k:=by
 intro rv
 induction rv with
 | pair x y QN ihy=>
  intro t k h
  simp only [F6,AP] at h
  cases t with
  | pair a b=>
   simp only [Cr]
   rw [QN a _ h.1]
   congr 1
   funext z
   exact ihy b _ h.2
  | _=>rfl
 | val v=>intro t k h;rfl
 | unit=>intro t k h;rfl
 | nil e=>intro t k h;exact hpk _ _
 | _=>intro t k h;simp [F6] at h
theorem Gi {l:List (Nat×Ob)} {rv:RV} {v:TV} {u:Value} (hf:Di rv=true) (h:Bg l 6 rv some=some v) (r:RR M w β τ l rv .sl [u]):Bu M w v.1 v.2 u:=by
 cases rv with
 | val v'=>
  cases h
  obtain ⟨u',e,hv⟩:=r
  cases e
  exact hv
 | nil t=>
  cases h
  have r':[u]=[Value.slice none 0 0]:=r
  cases r'
  exact ⟨[.slice none 0 0],rfl,none,0,[],by simp,by simp,by simp [maxLen],fun _=>rfl,by simp [Seq],.inl (by simp)⟩
 | agg t r'=>
  simp only [RR] at r
  obtain ⟨_,hag,c,e,r⟩:=r
  cases e
  simp only [Di] at hf
  simp only [Bg] at h
  change Cr (fun rv k=>Bg l 5 rv k) r' t (fun x=>some (⟨t,x⟩:TV))=some v at h
  rw [SX (pk:=fun rv k=>Bg l 5 rv k) (Wz:=fun rv k=>H8 rv k) (fun _ _=>rfl) r' t _ hf] at h
  obtain ⟨x,h1,h2⟩:=Em (X:=t.den) (pk:=fun β rv k=>H8 (α:=β) rv k) I5 (rv:=r') (t:=t) (g:=fun β x k=>k x) (fun x=>PC.ret x) _ (fun x=>some (⟨t,x⟩:TV)) _ h
  cases h2
  refine ⟨c,by simp [toV,hag],Lh (M:=M) (M':=M) (β:=β) (τ:=τ) (L:=l) (pk:=fun β rv k=>H8 (α:=β) rv k) (fun b o m=>⟨m,fun _ h=>h⟩) I5 (fun rv u tv hh rr=>?_) (h1 _ some) r⟩
  unfold H8 at hh
  split at hh
  ·rename_i t
   cases hh
   have r':[u]=[Value.slice none 0 0]:=rr
   cases r'
   exact ⟨[.slice none 0 0],rfl,none,0,[],by simp,by simp,by simp [maxLen],fun _=>rfl,by simp [Seq],.inl (by simp)⟩
  ·cases hh
 | _=>simp [Di] at hf
theorem Sm.mall (s:Sm w0 M0 N M β τ st a as w):∀ b o,Fh M β τ st.l b o->b < w.heap.size:=by
 rintro b o (m | ⟨id,ob,hl,hb⟩)
 ·exact s.mlt b o m
 ·exact (s.block hl hb).1
theorem Qn (s:Sm w0 M0 N M β τ st a as w) {M1:Own}:∀ (is:List Nat) {fr:List (Nat×AV)},(M1=Fh M β τ st.l∨M1=M/\Dv st.s is=true)->Ux st.l st.s is some=some fr->∀ i av,lk i fr=some av->∃ v,av=.val v .no/\∃ u,a.tmps[i]? = some u/\Bu M1 w v.1 v.2 u
 | [],fr,_,h,i,av,hi=>by cases h;simp [lk] at hi
 | j::r,fr,hv,h,i,av,hi=>by
  simp only [Ux] at h
  cases hj:lk j st.s with
  | none=>simp [hj] at h
  | some rv=>
   simp only [hj] at h
   obtain ⟨v,h1,h2⟩:=CS 6 rv _ _ _ h
   obtain ⟨fr',h3,h4⟩:=OJ r _ _ _ h2
   cases h4
   rw [BN] at hi
   split at hi
   ·rename_i e
    subst e
    cases hi
    obtain ⟨u,hu,hr⟩:=s.fr i rv hj
    refine ⟨v,rfl,u,hu,?_⟩
    rcases hv with rfl | ⟨rfl,hv⟩
    ·exact Dn s.ob 6 (h1 _ some) hr
    ·simp only [Dv,List.all_cons,hj,AP] at hv
     exact Gi hv.1 (h1 _ some) hr
   ·refine Qn s r ?_ (h3 _ some) i av hi
    rcases hv with h | ⟨h,hv⟩
    ·exact .inl h
    ·simp only [Dv,List.all_cons,AP] at hv
     exact .inr ⟨h,hv.2⟩
theorem UD {E:Env} {fr:Fr}:PC (fun β k=>Du (α:=β) E o fr k):=by
 intro β k r h
 obtain ⟨av,_,h2,h3⟩:=(VZ (E:=E) (fr:=fr) (o:=o)).out _ k r h
 exact ⟨av,h2,h3⟩
theorem DI:PC (fun β (k:RV×Option Ob->Option β)=>FZ E o st fun rv ob=>k (rv,ob)):=by
 unfold FZ
 refine PC.comp (Y:=RV×Option Ob) (G:=fun β fr k=>Du E.old o { s:=fr,l:=[] } fun av=>match av with
  | .val v _=>bif v.1.flat||Dv st.s (slotsOf o) then k (.val v,none) else none
  | _=>none) (OJ _) fun fr=>?_
 refine PC.comp (X:=AV) (Y:=RV×Option Ob) (G:=fun β av k=>match av with
  | .val v _=>bif v.1.flat||Dv st.s (slotsOf o) then k (.val v,none) else none
  | _=>none) UD fun av=>?_
 cases av with
 | val v Vh=>exact PC.bif (PC.ret _) PC.none
 | _=>exact PC.none
theorem Sm.X0 (s:Sm w0 M0 N M β τ st a as w) {M1:Own} (hG:E9 M1 w) (hm:∀ b o,M1 b o->b < w.heap.size) {fr:List (Nat×AV)} (hfr:∀ i av,lk i fr=some av->∃ v,av=.val v .no/\∃ u,a.tmps[i]? = some u/\Bu M1 w v.1 v.2 u) :
  Dt P w M1 N M1 (fun _=>0) (fun _=>undef) { s:=fr,l:=[] } a w where
 sz:=s.sz
 Cq:=Below.refl _ _
 mlt:=hm
 Fg:=fun _ _ m=>m
 gk:=hG
 CJ:=fun _ _ m=>.inl m
 sl:=fun i av h=>by
  obtain ⟨v,rfl,u,hu,hv⟩:=hfr i av h
  exact ⟨u,hu,hv,trivial⟩
 lo:=fun id e h=>by simp [lk] at h
 ld:=fun id id' e e' h=>by simp [lk] at h
 ti:=fun k e ⟨i,v,h⟩=>by obtain ⟨v',h',_⟩:=hfr _ _ h;cases h'
 tl:=fun k e id x b ⟨i,v,h⟩=>by obtain ⟨v',h',_⟩:=hfr _ _ h;cases h'
 tt:=fun k e k' e' ⟨i,v,h⟩=>by obtain ⟨v',h',_⟩:=hfr _ _ h;cases h'
theorem Mj (s:Sm w0 M0 N M β τ st a as w) {M1 M2:Own} (g:Gr M1 w M2 w'):Gr M w M w':=
 ⟨g.Cq,fun _ _ m=>m,fun _ _ m=>.inl m,fun b o m=>Nat.lt_of_lt_of_le (s.mlt b o m) g.Cq.size⟩
theorem Qo (hE:BS P E) (s:Sm w0 M0 N M β τ st a as w) (hd:∀ d,o.dst=some d->d < N) {rv:RV} {ob:Option Ob} (h:(FZ E o st fun rv ob=>some (rv,ob))=some (rv,ob)):ob=none/\V9 P Q w0 M0 N o a as w (Ch st o.dst rv):=by
 unfold FZ at h
 obtain ⟨fr,h1,h2⟩:=OJ _ _ _ _ h
 obtain ⟨av,h3,h4⟩:=UD _ _ _ h2
 cases av with
 | val v Vh=>
  simp only at h4
  obtain ⟨hc,h4⟩:=BL h4
  cases h4
  refine ⟨rfl,fun K hK=>?_⟩
  by_cases hv:Dv st.s (slotsOf o)=true
  ·have sx:=s.X0 (P:=P) s.glob s.mlt (Qn s _ (.inr ⟨rfl,hv⟩) (h1 _ some))
   refine Mv hE.old sx (h3 _ some) K fun u w' M2 hg U9=>?_
   exact hK _ _ ⟨M2,β,τ,(s.grow hg).set o.dst hd ⟨u,rfl,U9.1⟩⟩
  ·have hf:v.1.flat=true:=by
    rw [Bool.or_eq_true] at hc
    exact hc.resolve_right hv
   have sx:=s.X0 (P:=P) s.glob.all s.mall (Qn s _ (.inl rfl) (h1 _ some))
   refine Mv hE.old sx (h3 _ some) K fun u w' M2 hg U9=>?_
   refine hK _ _ ⟨M,β,τ,(s.grow (Mj s hg)).set o.dst hd ⟨u,rfl,?_⟩⟩
   obtain ⟨⟨cs,hu,hr⟩,_⟩:=U9
   exact ⟨cs,hu,hr.flat hf⟩
 | _=>cases h4
end
end Go.Lift
