import Derived.Test.YtjcnhegjiffgpaaGreatDoorLiftJ
import Derived.Deep.AppendSrc
import Derived.Laws.CopyOwn
import Derived.LoopN
import Derived.Tactics
import Derived.ProofKit
import Derived.OpenShut
import Derived.ShutString
import Derived.ChangeOld
import Derived.Carry
set_option linter.unusedSimpArgs false
namespace Go.Lift
open Go.RowKit
end Go.Lift
namespace Go.Lift
open Go.RowKit
end Go.Lift
namespace Go.Lift
open Go.RowKit
section
variable {P:Program} {E:Env} {el:TypeId->Option TypeId} {Q:Exit->Act->World->Prop} {w0:World} {M0:Own} {N:Nat}
def GStep (P:Program) (Q:Exit->Act->World->Prop) (ops:Array Oper) (o:Oper) (a:Act) (w:World) (K:Act->World->Prop):Prop:=
 if Region.wanted o (yielded ops a.tmps) then o.wp P a w K Q else K (a.put o.dst undef) w
end
end Go.Lift
namespace Go.Lift
open Go.RowKit
section
variable {E:Env} {fr fr':Fr}
theorem dY {acc:List Nat} {m:Nat}:∀ (es:List Edge),(UR acc es).testBit m=true->∃ e∈es,Region.binds .any e=true/\(m=e.on\/(acc.getD e.on 0).testBit m=true)
 | [],h=>by simp [UR] at h
 | e::r,h=>by
  simp only [UR] at h
  cases hb:Region.binds .any e with
  | false=>
   simp only [hb,AJ] at h
   obtain ⟨e',h1,h2⟩:=dY r h
   exact ⟨e',List.mem_cons_of_mem _ h1,h2⟩
  | true=>
   simp only [hb,AL,Nat.testBit_or,Bool.or_eq_true] at h
   rcases h with h | h | h
   ·obtain ⟨e',h1,h2⟩:=dY r h
    exact ⟨e',List.mem_cons_of_mem _ h1,h2⟩
   ·refine ⟨e,by simp,hb,.inl ?_⟩
    rw [Nat.testBit_two_pow] at h
    simpa using (of_decide_eq_true h).symm
   ·exact ⟨e,by simp,hb,.inr h⟩
theorem QBN:∀ (l:List Oper) (acc:List Nat),∃ ms,Xh l acc=acc++ms/\ms.length=l.length
 | [],acc=>⟨[],by simp [Xh],rfl⟩
 | o::r,acc=>by
  obtain ⟨ms,h1,h2⟩:=QBN r (acc++[UR acc o.after.toList])
  exact ⟨UR acc o.after.toList::ms,by rw [Xh,h1];simp,by simp [h2]⟩
theorem QFB:∀ (l:List Oper) (acc:List Nat) (i:Nat) (o:Oper),l[i]? = some o->(Xh l acc).getD (acc.length+i) 0=UR ((Xh l acc).take (acc.length+i)) o.after.toList
 | [],_,_,_,h=>by simp at h
 | o'::r,acc,i,o,h=>by
  cases i with
  | zero=>
   simp only [List.getElem?_cons_zero,Ac] at h
   subst h
   obtain ⟨ms,h1,_⟩:=QBN r (acc++[UR acc o'.after.toList])
   rw [Xh,h1]
   simp
  | succ i=>
   have:=QFB r (acc++[UR acc o'.after.toList]) i o (by simpa using h)
   rw [Xh]
   simp only [AQ,Af,Av] at this
   rw [show acc.length+(i+1)=acc.length+(0+1)+i by omega]
   exact this
theorem QGb {l:List Oper} {i:Nat} {o:Oper} (ho:l[i]? = some o) {m:Nat} (h:((Xh l []).getD i 0).testBit m=true) :
  ∃ e∈o.after,Region.binds .any e=true/\(m=e.on\/((Xh l []).getD e.on 0).testBit m=true):=by
 have:=QFB l [] i o ho
 simp only [Av,Nat.zero_add] at this
 rw [this] at h
 obtain ⟨e,h1,h2,h3⟩:=dY _ h
 refine ⟨e,by simpa using h1,h2,h3.imp id λh3=>?_⟩
 rw [Ad,List.getElem?_take] at h3
 split at h3
 ·rw [Ad];exact h3
 ·simp at h3
def cnt (f:Nat->Bool):Nat->Nat
 | 0=>0
 | k+1=>cnt f k+(if f k=true then 1 else 0)
theorem QKe (f:Nat->Bool):∀ n,cnt f n<=n
 | 0=>Nat.le_refl _
 | n+1=>by have:=QKe f n;simp only [cnt];split <;> omega
theorem QFG {f:Nat->Bool}:∀ n,cnt f n=n->∀ i,i < n->f i=true
 | 0,_,i,hi=>by omega
 | n+1,h,i,hi=>by
  have:=QKe f n
  simp only [cnt] at h
  split at h
  ·rename_i hn
   by_cases hin:i=n
   ·subst hin;exact hn
   ·exact QFG n (by omega) i (by omega)
  ·omega
theorem QFH {f g:Nat->Bool} {i:Nat} (hi:f i=false) (hg:g i=true) (hne:∀ j,j≠i->g j=f j):∀ n,i < n->cnt g n=cnt f n+1
 | 0,h=>by omega
 | n+1,h=>by
  simp only [cnt]
  by_cases hin:i=n
  ·subst hin
   have:cnt g i=cnt f i:=by
    clear h
    have:∀ m,m<=i->cnt g m=cnt f m:=by
     intro m
     induction m with
     | zero=>intro _;rfl
     | succ m ih=>intro hm;simp only [cnt];rw [ih (by omega),hne m (by omega)]
    exact this i (Nat.le_refl _)
   rw [this,hi,hg];simp
  ·rw [QFH hi hg hne n (by omega),hne n (λh=>hin h.symm)]
   omega
theorem QBV {f:Nat->Bool}:∀ n,(∀ i,i < n->f i=true)->cnt f n=n
 | 0,_=>rfl
 | n+1,h=>by simp only [cnt];rw [QBV n λi hi=>h i (by omega),h n (by omega)];simp
end
end Go.Lift
namespace Go.Lift
open Go.RowKit
theorem least {p:Nat->Prop} [DecidablePred p]:∀ j,p j->∃ i,i<=j/\p i/\∀ m,m < i->¬ p m:=by
 intro j
 induction j using Nat.strongRecOn with
 | ind j ih=>
  intro hj
  by_cases h:∃ m,m < j/\p m
  ·obtain ⟨m,h1,h2⟩:=h
   obtain ⟨i,g1,g2,g3⟩:=ih m h1 h2
   exact ⟨i,by omega,g2,g3⟩
  ·exact ⟨j,Nat.le_refl _,hj,λm hm hp=>h ⟨m,hm,hp⟩⟩
section
variable {P:Program} {E:Env} {el:TypeId->Option TypeId} {Q:Exit->Act->World->Prop} {w0:World} {M0:Own} {N:Nat}
def wpAnyS (P:Program) (ops:Array Oper) (Q:Exit->Act->World->Prop):Nat->Array Bool->Act->World->Prop
 | 0,listed,a,w=>Region.ready .any ops listed=[]/\Q .normal a w
 | fuel+1,listed,a,w=>
  (Region.ready .any ops listed=[]->Q .normal a w)/\
  ∀ i∈Region.ready .any ops listed,∀ o,ops[i]? = some o->GStep P Q ops o a w (wpAnyS P ops Q fuel (listed.setIfInBounds i true))
def ZB (listed:Array Bool) (i:Nat):Bool:=listed.getD i false
theorem qF {listed:Array Bool} {i:Nat} (hi:i < listed.size) (j:Nat):ZB (listed.setIfInBounds i true) j=if j=i then true else ZB listed j:=by
 unfold ZB
 by_cases h:j=i
 ·subst h;simp [hi]
 ·rw [AX h,getD_set_ne false (Ne.symm h)]
theorem sQ {listed:Array Bool} {i:Nat} (hi:i < listed.size):listed.getD i true=ZB listed i:=by
 unfold ZB
 simp [hi]
def QV6 (b:List Nat) (f:Nat->Bool):Prop:=∀ i m,f i=true->(b.getD i 0).testBit m=true->f m=true
theorem QEJ {ops:Array Oper} {listed:Array Bool} {i m:Nat} (hc:QV6 (Xh ops.toList []) (ZB listed)) (hi:i∈Region.ready .any ops listed) (hb:((Xh ops.toList []).getD i 0).testBit m=true):ZB listed m=true:=by
 obtain ⟨_,o,ho,he⟩:=mem_ready.1 hi
 obtain ⟨e,h1,h2,h3⟩:=QGb (l:=ops.toList) (by simpa using ho) hb
 have hl:=he e h1 h2
 rcases h3 with rfl | h3
 ·exact hl
 ·exact hc _ _ hl h3
end
end Go.Lift
namespace Go.Lift
open Go.RowKit
def Zh:Code->Bool
 | .seq a b=>Zh a&&Zh b
 | .cond _ a b=>Zh a&&Zh b
 | .block _ c=>Zh c
 | .loop c=>Zh c
 | .rangeFunc _ _ _ _=>false
 | .region _ ops _=>ops.toList.all λo=>match o.op with
  | .defer _=>false
  | _=>true
 | _=>true
def EZ (N:Nat):Code->Bool
 | .region _ ops _=>ops.toList.all λo=>match o.dst with
  | some d=>Nat.blt d N
  | none=>true
 | .seq a b=>EZ N a&&EZ N b
 | .cond _ a b=>EZ N a&&EZ N b
 | .block _ c=>EZ N c
 | .loop c=>EZ N c
 | .rangeFunc _ ps a b=>ps.toList.all (Nat.blt · N)&&(EZ N a&&(EZ N b&&(Zh a&&Zh b)))
 | _=>true
section
variable {P:Program} {E:Env} {el:TypeId->Option TypeId} {w0:World} {M0:Own} {n:Nat}
theorem QFM {ops:Array Oper} {N:Nat} (h:(ops.toList.all λo=>match o.dst with | some d=>Nat.blt d N | none=>true)=true) {o:Oper} (ho:o∈ops.toList):∀ d,o.dst=some d->d < N:=by
 intro d hd
 have:=List.all_eq_true.1 h o ho
 simp only [hd] at this
 exact Nat.lt_of_lt_of_le (Nat.lt_succ_self _) (Ak this)
end
end Go.Lift
namespace Go.Lift
open Go.RowKit
theorem enters_of {P:Program} {f:FuncId} {fn:Func} {c:Code} (hf:P.funcs[f]? = some fn) (hb:fn.body=some c) (hn:(fn.name == "runtime.NumGoroutine")=false) (args:Array Value) (w:World) :
  (callFunc f args).run P w=.ok (.enter f args) w:=by
 have h1:¬ fn.name = "runtime.NumGoroutine":=by simpa using hn
 simp [callFunc,hf,hb,h1]
theorem vY {M:Own} {w:World}:∀ {vs:List TV} {us:List Value} {i:Nat} {v:TV},UN M w vs us->vs[i]? = some v->∃ u,us[i]? = some u/\EF M w v.1 v.2 u
 | [],[],i,v,_,h=>by simp at h
 | x::xs,u::us,0,v,h,e=>by simp at e;subst e;exact ⟨u,rfl,h.1⟩
 | x::xs,u::us,i+1,v,h,e=>by simpa using vY h.2 (by simpa using e)
 | [],_::_,_,_,h,_=>h.elim
 | _::_,[],_,_,h,_=>h.elim
theorem qZ {M:Own} {w:World}:∀ {vs:List TV} {us:List Value},UN M w vs us->vs.length=us.length
 | [],[],_=>rfl
 | x::xs,u::us,h=>by simp [qZ h.2]
 | [],_::_,h=>h.elim
 | _::_,[],h=>h.elim
theorem unpack_pack:∀ {ps:List Ty} {vs:List TV} {x:Bv ps},MU ps vs=some x->Ql ps x=vs
 | [],[],_,_=>rfl
 | [],_::_,_,h=>by simp [MU] at h
 | [t],[],_,h=>by simp [MU] at h
 | [t],[v],x,h=>by simp only [MU] at h;rw [TV.FE h];rfl
 | [t],_::_::_,x,h=>by simp [MU] at h
 | t::u::ts,[],_,h=>by simp [MU] at h
 | t::u::ts,v::vs,x,h=>by
  simp only [MU,AO] at h
  obtain ⟨y,hy,r,hr,h⟩:=h
  cases h
  simp only [Ql]
  rw [unpack_pack hr,TV.FE hy]
def Wf:(t:Ty)->t.den->Prop
 | .int k,x=>k.min<=x/\x<=k.max
 | .bool,_=>True
 | .str,x=>List.length x<=maxLen/\∀ b∈x,0<=b/\b<=255
 | .slice e,xs=>List.length xs<=maxLen/\∀ x∈xs,Wf e x
 | .arr n e,xs=>List.length xs=n/\∀ x∈xs,Wf e x
 | .unit,_=>True
 | .pair a b,x=>Wf a x.1/\Wf b x.2
 | .ptr e,x=>Wf e x
 | .UJ,_=>True
 | .mp _ _,_=>False
 | .fn,_=>False
 | .nes e,xs=>List.length xs<=maxLen/\∀ x∈xs,Wf e x
def WfL:(ts:List Ty)->Bv ts->Prop
 | [],_=>True
 | [t],x=>Wf t x
 | t::u::ts,x=>Wf t x.1/\WfL (u::ts) x.2
theorem Seq.each {α:Type} {R:List Value->α->Prop} {Q:α->Prop} (h:∀ cs x,R cs x->Q x):∀ {cs:List Value} {xs:List α},Seq R cs xs->∀ x∈xs,Q x
 | _,[],_=>by simp
 | _,x::xs,⟨c1,c2,_,h1,h2⟩=>by
  intro y hy
  rcases List.mem_cons.1 hy with rfl | hy
  ·exact h _ _ h1
  ·exact Seq.each h h2 y hy
theorem EA.wf {M:Own} {w:World}:∀ {t:Ty} {cs:List Value} {x:t.den},EA M w t cs x->Wf t x
 | .int k,_,_,h=>h.2
 | .bool,_,_,_=>trivial
 | .str,_,x,⟨s,_,hx,hs⟩=>by
  refine ⟨by rw [hx];simpa using hs,λb hb=>?_⟩
  rw [hx] at hb
  obtain ⟨c,_,rfl⟩:=List.mem_map.1 hb
  have:=c.toNat_lt
  omega
 | .slice e,_,_,⟨a,cap,row,_,h1,h2,_,h3,_⟩=>⟨Nat.le_trans h1 h2,h3.each (Q:=Wf e) λ_ _ r=>EA.wf r⟩
 | .arr n e,_,_,h=>⟨h.1,Seq.each (Q:=Wf e) (λ_ _ r=>EA.wf r) h.2⟩
 | .unit,_,_,_=>trivial
 | .pair a b,_,_,⟨_,_,_,h1,h2⟩=>⟨EA.wf h1,EA.wf h2⟩
 | .ptr e,_,_,⟨_,_,_,_,_,h⟩=>EA.wf (t:=e) h
 | .UJ,_,_,_=>trivial
 | .mp _ _,_,_,h=>h.elim
 | .fn,_,_,h=>h.elim
 | .nes e,_,_,⟨⟨a,cap,row,_,h1,h2,_,h3,_⟩,_⟩=>⟨Nat.le_trans h1 h2,h3.each (Q:=Wf e) λ_ _ r=>EA.wf r⟩
theorem yU {M:Own} {w:World}:∀ {ps:List Ty} {vs:List TV} {us:List Value} {x:Bv ps},MU ps vs=some x->UN M w vs us->WfL ps x
 | [],_,_,_,_,_=>trivial
 | [t],[],_,_,h,_=>by simp [MU] at h
 | [t],_::_::_,_,_,h,_=>by simp [MU] at h
 | [t],[v],[],_,_,ha=>ha.elim
 | [t],[v],u::us,x,h,ha=>by
  simp only [MU] at h
  obtain rfl:=TV.FE h
  obtain ⟨⟨cs,_,r⟩,_⟩:=ha
  exact r.wf
 | t::u::ts,[],_,_,h,_=>by simp [MU] at h
 | t::u::ts,v::vs,[],_,_,ha=>ha.elim
 | t::u::ts,v::vs,a::us,x,h,ha=>by
  simp only [MU,AO] at h
  obtain ⟨y,hy,r,hr,h⟩:=h
  cases h
  obtain rfl:=TV.FE hy
  obtain ⟨⟨cs,_,q⟩,hs⟩:=ha
  exact ⟨q.wf,yU hr hs⟩
section
variable {P:Program} {E:Env} {el:TypeId->Option TypeId} {w0:World} {M0:Own} {n:Nat}
theorem QZB:∀ f fn,lk f ([]:List (FuncId×Fn))=some fn->Lifts P f fn:=by
 intro f fn h;simp [lk] at h
def uH (tmps:Array Value):ResultVar->Sem Value
 | .tmp t=>pure (tmps.getD t undef)
 | .cell a t=>do loadVar t (<- asAddr (tmps.getD a undef))
end
end Go.Lift
namespace Go.Lift
open Go.RowKit Go.ChangeShapes Go.WideShapes Go.ChangeMaps
def Ty.plain:Ty->Bool
 | .int _ | .bool | .str | .unit=>true
 | .slice e=>decide (0 < e.n)&&e.plain
 | .arr _ e=>e.plain
 | .pair a b=>a.plain&&b.plain
 | .ptr _=>false
 | .UJ=>false
 | .mp _ _=>false
 | .fn=>false
 | .nes _=>false
section
variable {H:Type} {enc:TypeId×Value->H} {P:Program} {w:World} {tab:List (TypeId×Ty)} {sp:Nat->Bool} {held:Bool}
def Xe (w:World):Own:=λb _=>b < w.heap.size
theorem TS.cellsOf {tid:TypeId} {t:Ty} (h:TS P tab tid t):P.cellsOf tid=t.n:=by
 obtain ⟨i,hi,hs,_⟩:=h.info
 simp [Program.cellsOf,hi,hs]
theorem QCv {k:IntKind} {n:Int} (h:(Lit.int k n).wf=true):k.min<=n/\n<=k.max:=by
 simpa [Lit.wf] using h
theorem QGf {w:World} {base:Nat} {a:Addr} {j n:Nat} {l:List Value} (h:w.cells? base (a.add j) n=some l):l.length=n/\∀ i,i < n->w.cell? (a.add (j+i))=l[i]?:=by
 unfold World.cells? at h
 split at h
 ·refine ⟨by simpa using mapM_some_length h,λi hi=>?_⟩
  have:=mapM_some_get h i i (by simp [hi])
  rw [<- this]
  by_cases hj:j=0 <;> by_cases h0:i=0 <;> simp [Addr.add,hj,h0,Nat.add_assoc]
 ·cases h
theorem QG3 {α:Type} {R:List Value->α->Prop} {c:List Value} {x:α} (h:R c x):Seq R c [x]:=⟨c,[],by simp,h,rfl⟩
theorem uU {e:Ty} {te:TypeId} (he:TS P tab te e) (hn:0 < e.n) {m:Nat} {a:Addr}
  (ih:∀ cs x,DataW.trod enc P w 0 sp held m te cs=some x->∃ X,EA (Xe w) w e cs X) {len:Nat} {elems:List (DataW H×List MemPlace)} (hlen:elems.length=len)
  (h:∀ i,i < len->(w.cells? 0 (a.add (i * P.cellsOf te)) (P.cellsOf te)).bind (DataW.trod enc P w 0 sp held m te)=elems[i]?):∀ j,j<=len->
  ∃ (row:List Value) (xs:List e.den),xs.length=j/\Seq (EA (Xe w) w e) row xs/\∀ i,i < row.length->w.cell? (a.add i)=row[i]?
 | 0,_=>⟨[],[],rfl,rfl,by simp⟩
 | j+1,hj=>by
  obtain ⟨row,xs,h1,h2,h3⟩:=uU he hn ih hlen h j (by omega)
  have h4:=h j (by omega)
  rw [AU (by omega),he.cellsOf] at h4
  obtain ⟨l,hl,ht⟩:=AO.1 h4
  obtain ⟨X,hX⟩:=ih _ _ ht
  obtain ⟨l1,l2⟩:=QGf hl
  have hr:=h2.length (λ_ _=>EA.length)
  refine ⟨row++l,xs++[X],by simp [h1],h2.append (QG3 hX),λi hi=>?_⟩
  by_cases hlt:i < row.length
  ·rw [Ao hlt];exact h3 i hlt
  ·rw [Ap (by omega)]
   simp only [AQ] at hi
   rw [<- l2 (i - row.length) (by omega),hr,h1]
   congr 2
   rw [h1] at hr
   omega
theorem QBL {e:Ty} {te:TypeId} (he:TS P tab te e) {m:Nat} (ih:∀ cs x,DataW.trod enc P w 0 sp held m te cs=some x->∃ X,EA (Xe w) w e cs X) {cs:List Value} {n:Nat} {ys:List (DataW H×List MemPlace)} (hl:ys.length=n)
  (h:∀ i,i < n->DataW.trod enc P w 0 sp held m te ((cs.drop (i * P.cellsOf te)).take (P.cellsOf te))=ys[i]?):∀ j,j<=n->
  ∃ (xs:List e.den),xs.length=j/\Seq (EA (Xe w) w e) (cs.take (j * e.n)) xs
 | 0,_=>⟨[],rfl,by simp [Seq]⟩
 | j+1,hj=>by
  obtain ⟨xs,h1,h2⟩:=QBL he ih hl h j (by omega)
  have h4:=h j (by omega)
  rw [AU (by omega),he.cellsOf] at h4
  obtain ⟨X,hX⟩:=ih _ _ h4
  refine ⟨xs++[X],by simp [h1],?_⟩
  rw [Nat.add_mul,Nat.one_mul,List.take_add]
  exact h2.append (QG3 hX)
theorem Zm (htab:Ii P tab):∀ (T:Ty),T.plain=true->
  (∀ tid fuel cs x,lk tid tab=some T->DataW.trod enc P w 0 sp held fuel tid cs=some x->∃ X,EA (Xe w) w T cs X)/\
  (∀ (fs:List Field) (off m:Nat) (cs:List Value),M9.Ev tab fs off T=true->(∀ f∈fs,∃ y,DataW.trod enc P w 0 sp held m f.type ((cs.drop f.offset).take (P.cellsOf f.type))=some y)->∃ X,EA (Xe w) w T ((cs.drop off).take T.n) X)
 | .int k,_=>⟨λtid fuel cs x ht h=>by
   obtain ⟨n,rfl,_,hw⟩:=DataW.trod_int (htab _ _ ht).int h
   exact ⟨n,rfl,QCv hw⟩,λfs off m cs h=>by cases fs <;> simp [M9.Ev] at h⟩
 | .bool,_=>⟨λtid fuel cs x ht h=>by
   obtain ⟨n,rfl,_⟩:=DataW.trod_bool (htab _ _ ht).bool h
   exact ⟨n,rfl⟩,λfs off m cs h=>by cases fs <;> simp [M9.Ev] at h⟩
 | .str,_=>⟨λtid fuel cs x ht h=>by
   obtain ⟨s,rfl,_,hw⟩:=DataW.trod_string (htab _ _ ht).str h
   exact ⟨_,s,rfl,rfl,hw⟩,λfs off m cs h=>by cases fs <;> simp [M9.Ev] at h⟩
 | .slice e,hp=>by
   simp only [Ty.plain,AP,AZ] at hp
   refine ⟨λtid fuel cs x ht h=>?_,λfs off m cs h=>by cases fs <;> simp [M9.Ev] at h⟩
   obtain ⟨te,hu,he⟩:=(htab _ _ ht).slice
   rcases DataW.trod_slice hu h with ⟨rfl,_⟩ | ⟨a,len,cap,elems,rest,m,rfl,rfl,_,_,hl,hc,hlen,hel,_,_⟩
   ·exact ⟨[],none,0,[],rfl,by simp,by simp,λ_=>rfl,rfl,.inl rfl⟩
   ·obtain ⟨row,xs,h1,h2,h3⟩:=uU (htab _ _ he) hp.1 (λcs x h=>(Zm htab e hp.2).1 te m cs x he h) hlen hel len (Nat.le_refl _)
    subst h1
    refine ⟨xs,some a,cap,row,rfl,hl,hc,(λh=>by cases h),h2,?_⟩
    by_cases h0:xs.length=0
    ·exact .inl h0
    ·right
     have hr:=h2.length (λ_ _=>EA.length)
     have hpos:0 < row.length:=by rw [hr];exact Nat.mul_pos (by omega) hp.1
     obtain ⟨b,o,spot⟩:=a
     have hs:spot=none:=by
      have:=h3 0 hpos
      rw [AU hpos] at this
      simpa [Addr.add] using World.cell?_spot this
     subst hs
     refine ⟨b,o,rfl,λi hi=>?_⟩
     have h4:=h3 i hi
     rw [addr_add] at h4
     refine ⟨h4,?_⟩
     rw [AU hi] at h4
     exact Xn h4
 | .arr n e,hp=>by
   simp only [Ty.plain] at hp
   refine ⟨λtid fuel cs x ht h=>?_,λfs off m cs h=>by cases fs <;> simp [M9.Ev] at h⟩
   obtain ⟨te,hu,he,_⟩:=(htab _ _ ht).arr
   obtain ⟨ys,m,rfl,_,hl,hys,hy⟩:=DataW.trod_array hu h
   obtain ⟨xs,h1,h2⟩:=QBL (htab _ _ he) (λcs x h=>(Zm htab e hp).1 te m cs x he h) hys hy n (Nat.le_refl _)
   rw [(htab _ _ ht).cellsOf] at hl
   rw [BD (by simp [hl,Ty.n])] at h2
   exact ⟨xs,h1,h2⟩
 | .unit,_=>by
   refine ⟨λtid fuel cs x ht h=>?_,λfs off m cs h _=>⟨(),by simp [EA,Ty.n]⟩⟩
   obtain ⟨fs,hu,_⟩:=(htab _ _ ht).unit
   obtain ⟨_,_,_,_,hl,_⟩:=DataW.trod_struct hu h
   rw [(htab _ _ ht).cellsOf] at hl
   exact ⟨(),by simpa [EA,Ty.n] using hl⟩
 | .pair a b,hp=>by
   simp only [Ty.plain,AP] at hp
   have hB:∀ (fs:List Field) (off m:Nat) (cs:List Value),M9.Ev tab fs off (.pair a b)=true->(∀ f∈fs,∃ y,DataW.trod enc P w 0 sp held m f.type ((cs.drop f.offset).take (P.cellsOf f.type))=some y)->∃ X,EA (Xe w) w (.pair a b) ((cs.drop off).take (Ty.pair a b).n) X:=by
    intro fs off m cs h hf
    cases fs with
    | nil=>simp [M9.Ev] at h
    | cons f fs=>
     simp only [M9.Ev,AP,AZ,beq_iff_eq] at h
     obtain ⟨⟨⟨⟨ha,ho⟩,_⟩,_⟩,hfs⟩:=h
     obtain ⟨y,hy⟩:=hf f (by simp)
     rw [ho,(htab _ _ ha).cellsOf] at hy
     obtain ⟨X,hX⟩:=(Zm htab a hp.1).1 _ _ _ _ ha hy
     obtain ⟨Y,hY⟩:=(Zm htab b hp.2).2 fs (off+a.n) m cs hfs (λg hg=>hf g (by simp [hg]))
     refine ⟨(X,Y),_,_,?_,hX,hY⟩
     rw [Ty.n,List.take_add,List.drop_drop]
   refine ⟨λtid fuel cs x ht h=>?_,hB⟩
   obtain ⟨fs,hu,⟨hfs,_⟩,_⟩:=(htab _ _ ht).pair
   obtain ⟨xs,m,rfl,_,hl,hxs,hx⟩:=DataW.trod_struct hu h
   obtain ⟨X,hX⟩:=hB fs.toList 0 m cs hfs (λf hf=>by
    obtain ⟨i,hi⟩:=List.getElem?_of_mem hf
    have hi':fs[i]? = some f:=by simpa using hi
    have hlt:i < xs.length:=by rw [hxs];exact (Am.1 hi').1
    have:=hx i f hi'
    rw [AU hlt] at this
    exact ⟨_,this⟩)
   rw [(htab _ _ ht).cellsOf] at hl
   rw [List.drop_zero,BD (Nat.le_of_eq hl)] at hX
   exact ⟨X,hX⟩
theorem QMC (htab:Ii P tab) {tid:TypeId} {T:Ty} {v:Value} {d:DataW H} {p:List MemPlace} {r:Reach} {b0:Nat} (ht:lk tid tab=some T) (hp:T.plain=true)
  (hval:Value.okWide P w r b0 tid v) (h:DataW.Trod enc P w 0 sp held tid v d p):∃ X,EF (Xe w) w T X v:=by
 obtain ⟨fuel,h⟩:=h
 have hT:=htab _ _ ht
 obtain ⟨X,hX⟩:=(Zm htab T hp).1 _ _ _ _ ht h
 refine ⟨X,_,?_,hX⟩
 match T,hT with
 | .int k,hT=>obtain ⟨n,rfl⟩:=okWide_int hT.int hval;rfl
 | .bool,hT=>obtain ⟨n,rfl⟩:=okWide_bool hT.bool hval;rfl
 | .str,hT=>obtain ⟨n,rfl⟩:=okWide_string hT.str hval;rfl
 | .slice e,hT=>obtain ⟨te,hu,_⟩:=hT.slice;obtain ⟨a,l,c,rfl⟩:=okWide_slice hu hval;rfl
 | .ptr e,hT=>simp [Ty.plain] at hp
 | .UJ,hT=>simp [Ty.plain] at hp
 | .mp _ _,hT=>simp [Ty.plain] at hp
 | .fn,hT=>simp [Ty.plain] at hp
 | .nes _,hT=>simp [Ty.plain] at hp
 | .arr n e,hT=>
  obtain ⟨te,hu,_⟩:=hT.arr
  simp only [Value.okWide,hu] at hval
  obtain ⟨cs,rfl,_⟩:=hval
  simp [toV,Ty.isAgg,Value.cells]
 | .unit,hT=>
  obtain ⟨fs,hu,_⟩:=hT.unit
  simp only [Value.okWide,hu] at hval
  obtain ⟨cs,rfl,_⟩:=hval
  simp [toV,Ty.isAgg,Value.cells]
 | .pair a b,hT=>
  obtain ⟨fs,hu,_⟩:=hT.pair
  simp only [Value.okWide,hu] at hval
  obtain ⟨cs,rfl,_⟩:=hval
  simp [toV,Ty.isAgg,Value.cells]
theorem vk (htab:Ii P tab) {r:Reach} {b0:Nat}:∀ {ts:List TypeId} {ps:List Ty} {args:List Value} {ds:List (DataW H)} {p:List MemPlace},ts.map (λt=>lk t tab)=ps.map some->ps.all Ty.plain=true->
  (∀ (j:Nat) t v,ts[j]? = some t->args[j]? = some v->Value.okWide P w r b0 t v)->DataW.TrodAll enc P w 0 sp held ts args ds p->
  ∃ vs,UN (Xe w) w vs args/\vs.map (·.1)=ps
 | [],[],args,ds,p,_,_,_,h=>by
  obtain ⟨rfl,_⟩:=trodAll_nil h
  exact ⟨[],trivial,rfl⟩
 | [],_::_,_,_,_,h,_,_,_=>by simp at h
 | _::_,[],_,_,_,h,_,_,_=>by simp at h
 | t::ts,T::ps,args,ds,p,h,hp,hv,hd=>by
  obtain ⟨v,vs',d,ds',q,q',rfl,rfl,rfl,h1,h2⟩:=trodAll_cons hd
  simp only [List.map_cons,List.cons.injEq] at h
  simp only [List.all_cons,AP] at hp
  obtain ⟨X,hX⟩:=QMC htab h.1 hp.1 (hv 0 t v rfl rfl) h1
  obtain ⟨vs,g1,g2⟩:=vk htab h.2 hp.2 (λj t v ht hvv=>hv (j+1) t v (by simpa using ht) (by simpa using hvv)) h2
  exact ⟨⟨T,X⟩::vs,⟨hX,g1⟩,by simp [g2]⟩
theorem QFq:∀ {ps:List Ty} {vs:List TV},vs.map (·.1)=ps->∃ x,MU ps vs=some x
 | [],[],_=>⟨(),rfl⟩
 | [],_::_,h=>by simp at h
 | [t],[v],h=>by
  simp only [List.map_cons,List.map_nil,List.cons.injEq,and_true] at h
  subst h
  exact ⟨v.2,by simp [MU,TV.as]⟩
 | [t],[],h=>by simp at h
 | [t],_::_::_,h=>by simp at h
 | t::u::ts,[],h=>by simp at h
 | t::u::ts,v::vs,h=>by
  simp only [List.map_cons,List.cons.injEq] at h
  obtain ⟨rfl,h⟩:=h
  obtain ⟨y,hy⟩:=QFq (ps:=u::ts) h
  exact ⟨(v.2,y),by simp [MU,TV.as,hy]⟩
theorem dU (hl:laidOutB P=true) {W W':World} (hb:Below W.heap.size W W'):∀ {ts:List TypeId} {vs:List Value} {ds:List (DataW H)} {ps:List MemPlace},(ts.all λt=>P.readableRec t&&decide (t < P.types.size))=true->
  DataW.TrodAll enc P W 0 (λ_=>true) true ts vs ds ps->(∀ x∈ps,x.block < W.heap.size)->DataW.TrodAll enc P W' 0 (λb=>decide (b < W.heap.size)) true ts vs ds ps
 | [],[],[],_,_,h,_=>h
 | t::ts,v::vs,d::ds,ps,ht,h,hlt=>by
  obtain ⟨p,q,h1,h2,rfl⟩:=h
  simp only [List.all_cons,AP,AZ] at ht
  exact ⟨p,q,Below.trod hl ht.1.1 ht.1.2 h1 hb (λx hx=>hlt x (by simp [hx])),dU hl hb ht.2 h2 (λx hx=>hlt x (by simp [hx])),rfl⟩
 | [],_::_,_,_,_,h,_=>h.elim
 | [],[],_::_,_,_,h,_=>h.elim
 | _::_,[],_,_,_,h,_=>h.elim
 | _::_,_::_,[],_,_,h,_=>h.elim
theorem trodAll_length:∀ {ts:List TypeId} {vs:List Value} {ds:List (DataW H)} {ps:List MemPlace} {b:Nat},DataW.TrodAll enc P w b sp held ts vs ds ps->ds.length=ts.length
 | [],[],[],_,_,_=>rfl
 | t::ts,v::vs,d::ds,_,_,h=>by obtain ⟨p,q,_,h2,_⟩:=h;simp [trodAll_length h2]
 | [],_::_,_,_,_,h=>h.elim
 | [],[],_::_,_,_,h=>h.elim
 | _::_,[],_,_,_,h=>h.elim
 | _::_,_::_,[],_,_,h=>h.elim
end
end Go.Lift
