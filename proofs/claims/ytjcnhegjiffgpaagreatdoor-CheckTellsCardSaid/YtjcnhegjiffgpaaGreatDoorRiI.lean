import Derived.Test.YtjcnhegjiffgpaaGreatDoorRiH
import Derived.Test.YtjcnhegjiffgpaaGreatDoorLiftR
set_option linter.unusedSimpArgs false
namespace Go.Lift
open Go.RowKit
def qP (b0:Nat) (M:Own) (w:World):(t:Ty)->Bool->t.den->Value->Prop
 | .slice e,true,x,u=>LW (b0<=·) M w e x u
 | t,_,x,u=>EF M w t x u
def Oq (b0:Nat) (M:Own) (w:World):(rs:List Ty)->List Bool->Bv rs->List Value->Prop
 | [],_,_,us=>us=[]
 | [t],os,x,us=>∃ u,us=[u]/\qP b0 M w t (os.headD false) x u
 | t::u::ts,os,x,us=>∃ v vs,us=v::vs/\qP b0 M w t (os.headD false) x.1 v/\Oq b0 M w (u::ts) os.tail x.2 vs
def QAO (us:List Value):Value:=if h:us.toArray.size=1 then us.toArray[0] else .tuple us.toArray
structure Bb (P:Program) (f:FuncId) (fn:Cb):Prop where
 enters:∀ (args:Array Value) (w:World),(callFunc f args).run P w=.ok (.enter f args) w
 one:(fn.os.filter (λb=>b)).length<=1
 len:fn.os.length=fn.rs.length
 calls:∀ (w:World) (M:Own) (args:List Value) (vs:List TV) x r,(∀ b o,M b o->b < w.heap.size)->Ww M w->UN M w vs args->MU fn.ps vs=some x->fn.F x=some r->
  Calls P f args.toArray w λe w'=>∃ us M',e=.returned (QAO us)/\Gr M w M' w'/\Oq w.heap.size M' w' fn.rs fn.os r us
def FM (args:List Value) (m:Nat):Act:={ tmps:=args.toArray++Array.replicate (m - args.toArray.size) undef,defers:=[] }
structure gF (P:Program) (g:FuncId) (c:UO):Prop where
 enters:∀ (args:Array Value) (w:World),(callFunc g args).run P w=.ok (.enter g args) w
 calls:∀ (w0:World) (M0:Bs) (M:Own) (β:Nat->Nat) (τ:Nat->Value) (as:List Act) (w:World) (args:List Value) (x:dW c.fp) (y:Wt c.bp) (z:wD c.bp c.w) (r:Bv c.rs),YW c.bp y=true->args.length=c.fp.length->(∀ m,args.length<=m->Sm w0 M0 m M β τ (fM c x y) (FM args m) as w)->c.F x y=some (z,r)->
  Calls P g args.toArray w λe w'=>∃ us M' β' τ' N' a',e=.returned (QAO us)/\Sm w0 M0 N' M' β' τ' { s:=[],l:=VJ c.w (jS c.bp c.w z) (Wq 0 c.bp y),k:=[],b:=0 } a' [] w'/\((∀ j,j < c.bp.length->β' j=β j)/\∀ j t xs,lk j (Wq 0 c.bp y)=some (.row t xs)->τ' j=τ j)/\Oq 0 M' w' c.rs [] r us
structure VX (P:Program) (g:FuncId) (c:Yv):Prop where
 enters:∀ (args:Array Value) (w:World),(callFunc g args).run P w=.ok (.enter g args) w
 calls:∀ (w0:World) (M0:Bs) (M:Own) (β:Nat->Nat) (τ:Nat->Value) (w:World) (args:List Value) (x:List c.e.den) (y:dW c.fp) (z:List c.e.den),args.length=c.fp.length+1->(∀ m,args.length<=m->Sm w0 M0 m M β τ (uX c.e c.fp x y) (FM args m) [] w)->c.F x y=some z->
  Calls P g args.toArray w λe w'=>∃ u M' β' τ' N' a',e=.returned u/\Sm w0 M0 N' M' β' τ' { s:=[],l:=[(0,.row c.e z)],k:=[],b:=0 } a' [] w'/\u=τ' 0
structure CJ (P:Program) (E:CO):Prop where
 tab:Ii P E.tab
 fs:∀ f fn,lk f E.fs=some fn->Bb P f fn
 rep:∀ α n x,E.rep α n x=List.replicate n x
 mx:P.follows .mixedOrders=true
 inl:∀ f fn lt,lk f E.inl=some (fn,lt)->P.funcs[f]? = some fn/\(fn.name == "runtime.NumGoroutine")=false/\∀ c,fn.body=some c->EZ fn.ntmps c=true
 rcs:∀ g c,lk g E.rcs=some c->gF P g c
 ow:∀ g c,lk g E.ow=some c->VX P g c
section
variable {P:Program} {E:CO} {Q:Exit->Act->World->Prop} {o:Oper} {w0:World} {M0:Bs} {N:Nat} {M M':Own} {β:Nat->Nat} {τ:Nat->Value} {st st':St} {a:Act} {as:List Act} {w w':World}
theorem CJ.old (hE:CJ P E):Yf P E.old (λ_=>none):=
 { tab:=hE.tab,el:=(λ_ _ h=>by cases h),fs:=QZB,rep:=hE.rep }
def OSt (P:Program) (Q:Exit->Act->World->Prop) (w0:World) (M0:Bs) (N:Nat) (o:Oper) (a:Act) (as:List Act) (w:World) (st':St):Prop:=
 ∀ K:Act->World->Prop,(∀ a' w',Cu w0 M0 N st' a' as w'->K a' w')->o.wp P a w K Q
theorem YR {v:Value} (hr:(execOp a.eval o).run P w=.ok (.value v) w') (hs:Cu w0 M0 N st' (a.put o.dst v) as w'):OSt P Q w0 M0 N o a as w st':=by
 intro K hK
 unfold Oper.wp
 rw [hr]
 exact hK _ _ hs
theorem Sm.glob (s:Sm w0 M0 N M β τ st a as w):Ww M w:=
 s.gk.ext (λb o m=>⟨s.Yn b o m,λv hv=>by rw [s.J6.cell (p:=⟨b,o,none⟩) (Xn hv)];exact hv⟩) s.J6
theorem Ww.all {M:Own} {w:World} {β:Nat->Nat} {τ:Nat->Value} {L:List (Nat×Ob)} (h:Ww M w):Ww (Xf M β τ L) w:=h.ext aO (Below.refl _ _)
theorem CG {L:List (Nat×Ob)} {s:List (Nat×RV)} (hG:Ww M w) (h:fq M w β τ L s a) (ty:Option Ty) (x:Operand):RR M w β τ L (DT ty x s) .sl [a.eval x]:=by
 unfold DT
 split
 ·rename_i i
  cases hi:lk i s with
  | none=>exact ⟨_,rfl⟩
  | some rv=>
   obtain ⟨u,hu,r⟩:=h i rv hi
   have:a.eval (.tmp i)=u:=by simp [Act.eval,hu]
   rw [this];exact r
 ·rename_i v
  split
  ·cases hn:WR v with
   | true=>
    have:v=.slice none 0 0:=by
     unfold WR at hn
     split at hn
     ·rfl
     ·cases hn
    simp only [AL]
    show [Act.eval a (.const v)]=[.slice none 0 0]
    rw [<- this];rfl
   | false=>exact ⟨_,rfl⟩
  ·split
   ·rename_i t _ y hk hr
    exact ⟨v,rfl,QCQ hk hr⟩
   ·exact ⟨_,rfl⟩
  ·exact ⟨_,rfl⟩
 ·simp only [RR]
  exact ⟨rfl,[],rfl,rfl⟩
 ·split
  ·rename_i g _ v hg
   exact ⟨_,rfl,hG.val hg⟩
  ·exact ⟨_,rfl⟩
theorem Vx {rv:RV} {i:Int} {u:Value} {L:List (Nat×Ob)} (h:Yw rv=some i) (r:RR M w β τ L rv .sl [u]):∃ k,u=.int k i/\k.min<=i/\i<=k.max:=by
 unfold Yw at h
 split at h
 ·cases h
  obtain ⟨u',e,hv⟩:=r
  cases e
  obtain ⟨rfl,h⟩:=hv.int
  exact ⟨_,rfl,h⟩
 ·cases h
theorem QAX {l:List (Nat×Ob)} {s:List (Nat×RV)}:∀ (is:List Nat),PC (λβ k=>shK (α:=β) l s is k)
 | []=>PC.ret _
 | i::r=>by
  simp only [shK]
  cases lk i s with
  | none=>exact PC.none
  | some rv=>exact PC.comp (G:=λβ v k=>shK l s r λfr=>k ((i,.val v .no)::fr)) (F4 6 rv) λv=>PC.comp (G:=λβ fr k=>k ((i,.val v .no)::fr)) (QAX r) λfr=>PC.ret _
def dN {α:Type} (rv:RV) (k:TV->Option α):Option α:=match rv with
 | .nil t=>k ⟨.slice t,([]:List t.den)⟩
 | _=>none
theorem iQ (rv:RV):PC (λβ k=>dN (α:=β) rv k):=by
 unfold dN
 split
 ·exact PC.ret _
 ·exact PC.none
theorem QHP {α:Type} {pk pk':RV->(TV->Option α)->Option α} (hpk:∀ t k,pk (.nil t) k=pk' (.nil t) k):∀ (rv:RV) (t:Ty) (k:t.den->Option α),YT rv=true->Ji pk rv t k=Ji pk' rv t k:=by
 intro rv
 induction rv with
 | pair x y ihx ihy=>
  intro t k h
  simp only [YT,AP] at h
  cases t with
  | pair a b=>
   simp only [Ji]
   rw [ihx a _ h.1]
   congr 1
   funext z
   exact ihy b _ h.2
  | _=>rfl
 | val v=>intro t k h;rfl
 | unit=>intro t k h;rfl
 | nil e=>intro t k h;exact hpk _ _
 | _=>intro t k h;simp [YT] at h
theorem Zq {l:List (Nat×Ob)} {rv:RV} {v:TV} {u:Value} (hf:PX rv=true) (h:DU l 6 rv some=some v) (r:RR M w β τ l rv .sl [u]):EF M w v.1 v.2 u:=by
 cases rv with
 | val v'=>
  cases h
  obtain ⟨u',e,hv⟩:=r
  cases e
  exact hv
 | nil t=>
  cases h
  have r':[u]=[Value.slice none 0 0]:=r
  cases r'
  exact ⟨[.slice none 0 0],rfl,none,0,[],by simp,by simp,by simp [maxLen],λ_=>rfl,by simp [Seq],.inl (by simp)⟩
 | agg t r'=>
  simp only [RR] at r
  obtain ⟨_,hag,c,e,r⟩:=r
  cases e
  simp only [PX] at hf
  simp only [DU] at h
  change Ji (λrv k=>DU l 5 rv k) r' t (λx=>some (⟨t,x⟩:TV))=some v at h
  rw [QHP (pk:=λrv k=>DU l 5 rv k) (pk':=λrv k=>dN rv k) (λ_ _=>rfl) r' t _ hf] at h
  obtain ⟨x,h1,h2⟩:=VH (X:=t.den) (pk:=λβ rv k=>dN (α:=β) rv k) iQ (rv:=r') (t:=t) (g:=λβ x k=>k x) (λx=>PC.ret x) _ (λx=>some (⟨t,x⟩:TV)) _ h
  cases h2
  refine ⟨c,by simp [toV,hag],tX (M:=M) (M':=M) (β:=β) (τ:=τ) (L:=l) (pk:=λβ rv k=>dN (α:=β) rv k) (λb o m=>⟨m,λ_ h=>h⟩) iQ (λrv u tv hh rr=>?_) (h1 _ some) r⟩
  unfold dN at hh
  split at hh
  ·rename_i t
   cases hh
   have r':[u]=[Value.slice none 0 0]:=rr
   cases r'
   exact ⟨[.slice none 0 0],rfl,none,0,[],by simp,by simp,by simp [maxLen],λ_=>rfl,by simp [Seq],.inl (by simp)⟩
  ·cases hh
 | _=>simp [PX] at hf
theorem Sm.mall (s:Sm w0 M0 N M β τ st a as w):∀ b o,Xf M β τ st.l b o->b < w.heap.size:=by
 rintro b o (m | ⟨id,ob,hl,hb⟩)
 ·exact s.mlt b o m
 ·exact (s.block hl hb).1
theorem QER (s:Sm w0 M0 N M β τ st a as w) {M1:Own}:∀ (is:List Nat) {fr:List (Nat×AV)},(M1=Xf M β τ st.l\/M1=M/\Qr st.s is=true)->shK st.l st.s is some=some fr->∀ i av,lk i fr=some av->∃ v,av=.val v .no/\∃ u,a.tmps[i]? = some u/\EF M1 w v.1 v.2 u
 | [],fr,_,h,i,av,hi=>by cases h;simp [lk] at hi
 | j::r,fr,hv,h,i,av,hi=>by
  simp only [shK] at h
  cases hj:lk j st.s with
  | none=>simp [hj] at h
  | some rv=>
   simp only [hj] at h
   obtain ⟨v,h1,h2⟩:=F4 6 rv _ _ _ h
   obtain ⟨fr',h3,h4⟩:=QAX r _ _ _ h2
   cases h4
   rw [Bl] at hi
   split at hi
   ·rename_i e
    subst e
    cases hi
    obtain ⟨u,hu,hr⟩:=s.fr i rv hj
    refine ⟨v,rfl,u,hu,?_⟩
    rcases hv with rfl | ⟨rfl,hv⟩
    ·exact Qh s.ob 6 (h1 _ some) hr
    ·simp only [Qr,List.all_cons,hj,AP] at hv
     exact Zq hv.1 (h1 _ some) hr
   ·refine QER s r ?_ (h3 _ some) i av hi
    rcases hv with h | ⟨h,hv⟩
    ·exact .inl h
    ·simp only [Qr,List.all_cons,AP] at hv
     exact .inr ⟨h,hv.2⟩
theorem QLS {E:Env} {fr:Fr}:PC (λβ k=>Qm (α:=β) E o fr k):=by
 intro β k r h
 obtain ⟨av,_,h2,h3⟩:=(QOq (E:=E) (fr:=fr) (o:=o)).out _ k r h
 exact ⟨av,h2,h3⟩
theorem LP:PC (λβ (k:RV×Option Ob->Option β)=>XU E o st λrv ob=>k (rv,ob)):=by
 unfold XU
 refine PC.comp (Y:=RV×Option Ob) (G:=λβ fr k=>Qm E.old o { s:=fr,l:=[] } λav=>match av with
  | .val v _=>bif v.1.flat||Qr st.s (slotsOf o) then k (.val v,none) else none
  | _=>none) (QAX _) λfr=>?_
 refine PC.comp (X:=AV) (Y:=RV×Option Ob) (G:=λβ av k=>match av with
  | .val v _=>bif v.1.flat||Qr st.s (slotsOf o) then k (.val v,none) else none
  | _=>none) QLS λav=>?_
 cases av with
 | val v tip=>exact PC.bif (PC.ret _) PC.none
 | _=>exact PC.none
theorem Sm.QZq (s:Sm w0 M0 N M β τ st a as w) {M1:Own} (hG:Ww M1 w) (hm:∀ b o,M1 b o->b < w.heap.size) {fr:List (Nat×AV)} (hfr:∀ i av,lk i fr=some av->∃ v,av=.val v .no/\∃ u,a.tmps[i]? = some u/\EF M1 w v.1 v.2 u) :
  Qq P w M1 N M1 (λ_=>0) (λ_=>undef) { s:=fr,l:=[] } a w where
 sz:=s.sz
 J6:=Below.refl _ _
 mlt:=hm
 Yn:=λ_ _ m=>m
 gk:=hG
 Fu:=λ_ _ m=>.inl m
 sl:=λi av h=>by
  obtain ⟨v,rfl,u,hu,hv⟩:=hfr i av h
  exact ⟨u,hu,hv,trivial⟩
 lo:=λid e h=>by simp [lk] at h
 ld:=λid id' e e' h=>by simp [lk] at h
 ti:=λk e ⟨i,v,h⟩=>by obtain ⟨v',h',_⟩:=hfr _ _ h;cases h'
 tl:=λk e id x b ⟨i,v,h⟩=>by obtain ⟨v',h',_⟩:=hfr _ _ h;cases h'
 tt:=λk e k' e' ⟨i,v,h⟩=>by obtain ⟨v',h',_⟩:=hfr _ _ h;cases h'
theorem wX (s:Sm w0 M0 N M β τ st a as w) {M1 M2:Own} (g:Gr M1 w M2 w'):Gr M w M w':=
 ⟨g.J6,λ_ _ m=>m,λ_ _ m=>.inl m,λb o m=>Nat.lt_of_lt_of_le (s.mlt b o m) g.J6.size⟩
theorem QES (hE:CJ P E) (s:Sm w0 M0 N M β τ st a as w) (hd:∀ d,o.dst=some d->d < N) {rv:RV} {ob:Option Ob} (h:(XU E o st λrv ob=>some (rv,ob))=some (rv,ob)):ob=none/\OSt P Q w0 M0 N o a as w (Jd st o.dst rv):=by
 unfold XU at h
 obtain ⟨fr,h1,h2⟩:=QAX _ _ _ _ h
 obtain ⟨av,h3,h4⟩:=QLS _ _ _ h2
 cases av with
 | val v tip=>
  simp only at h4
  obtain ⟨hc,h4⟩:=BU h4
  cases h4
  refine ⟨rfl,λK hK=>?_⟩
  by_cases hv:Qr st.s (slotsOf o)=true
  ·have sx:=s.QZq (P:=P) s.glob s.mlt (QER s _ (.inr ⟨rfl,hv⟩) (h1 _ some))
   refine xM hE.old sx (h3 _ some) K λu w' M2 hg hav=>?_
   exact hK _ _ ⟨M2,β,τ,(s.grow hg).set o.dst hd ⟨u,rfl,hav.1⟩⟩
  ·have hf:v.1.flat=true:=by
    rw [Bool.or_eq_true] at hc
    exact hc.resolve_right hv
   have sx:=s.QZq (P:=P) s.glob.all s.mall (QER s _ (.inl rfl) (h1 _ some))
   refine xM hE.old sx (h3 _ some) K λu w' M2 hg hav=>?_
   refine hK _ _ ⟨M,β,τ,(s.grow (wX s hg)).set o.dst hd ⟨u,rfl,?_⟩⟩
   obtain ⟨⟨cs,hu,hr⟩,_⟩:=hav
   exact ⟨cs,hu,hr.flat hf⟩
 | _=>cases h4
end
end Go.Lift
