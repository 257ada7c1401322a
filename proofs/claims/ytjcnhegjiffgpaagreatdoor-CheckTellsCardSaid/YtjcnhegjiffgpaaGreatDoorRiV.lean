import Derived.Test.YtjcnhegjiffgpaaGreatDoorRiG
set_option linter.unusedSimpArgs false
namespace Go.Lift
open Go.RowKit
inductive Pt where
 | hole (t:Ty)
 | fix (r:RV)
 | ag (t:Ty) (p:Pt)
 | pr (a b:Pt)
inductive Bt where
 | var (t:Ty) (p:Pt)
 | mp (kt vt:Ty)
 | row (t:Ty)
@[reducible] def Pt.D:Pt->Type
 | .hole t=>t.den
 | .fix _=>Unit
 | .ag _ p=>p.D
 | .pr a b=>a.D×b.D
@[reducible] def Bt.D:Bt->Type
 | .var _ p=>p.D
 | .mp kt vt=>List (kt.den×vt.den)
 | .row t=>List t.den
@[reducible] def dW:List Pt->Type
 | []=>Unit
 | p::ps=>p.D×dW ps
@[reducible] def Wt:List Bt->Type
 | []=>Unit
 | b::bs=>b.D×Wt bs
def vD:RV->RV->Bool
 | .unit,.unit=>true
 | .loc i [],.loc j []=>Nat.beq i j
 | .mp i,.mp j=>Nat.beq i j
 | .row i,.row j=>Nat.beq i j
 | .OH f a,.OH g b=>Nat.beq f g&&vD a b
 | .nil t,.nil u=>decide (t=u)
 | .pair a b,.pair c d=>vD a c&&vD b d
 | _,_=>false
theorem QTX:∀ {a b:RV},vD a b=true->a=b:=by
 intro a
 induction a with
 | unit=>intro b h;cases b <;> simp [vD] at h;rfl
 | nil t=>intro b h;cases b <;> simp [vD] at h;rw [h]
 | loc i p=>
  intro b h
  cases p with
  | cons _ _=>simp [vD] at h
  | nil=>
   cases b with
   | loc j q=>
    cases q with
    | nil=>simp only [vD] at h;rw [Aa h]
    | cons _ _=>simp [vD] at h
   | _=>simp [vD] at h
 | mp i=>
  intro b h
  cases b with
  | mp j=>simp only [vD] at h;rw [Aa h]
  | _=>simp [vD] at h
 | row i=>
  intro b h
  cases b with
  | row j=>simp only [vD] at h;rw [Aa h]
  | _=>simp [vD] at h
 | OH f a ih=>
  intro b h
  cases b with
  | OH g b=>
   simp only [vD,AP] at h
   rw [Aa h.1,ih h.2]
  | _=>simp [vD] at h
 | pair x y ihx ihy=>
  intro b h
  cases b with
  | pair c d=>
   simp only [vD,AP] at h
   rw [ihx h.1,ihy h.2]
  | _=>simp [vD] at h
 | _=>intro b h;cases b <;> simp [vD] at h
def mkP:(p:Pt)->p.D->RV
 | .hole t,x=>.val ⟨t,x⟩
 | .fix r,_=>r
 | .ag t p,x=>.agg t (mkP p x)
 | .pr a b,x=>.pair (mkP a x.1) (mkP b x.2)
def QZt (t:Ty):RV->Option t.den
 | .val v=>TV.as t v
 | _=>none
def abP:(p:Pt)->RV->Option p.D
 | .hole t,r=>QZt t r
 | .fix r,r'=>bif vD r r' then some () else none
 | .ag t p,.agg t' r=>bif decide (t=t') then abP p r else none
 | .ag _ _,_=>none
 | .pr a b,.pair r r'=>(abP a r).bind λx=>(abP b r').bind λy=>some (x,y)
 | .pr _ _,_=>none
theorem QKQ {p:Pt}:∀ {r:RV} {d:p.D},abP p r=some d->r=mkP p d:=by
 induction p with
 | ag t p ih=>
  intro r d h
  cases r with
  | agg t' r=>
   simp only [abP] at h
   obtain ⟨e,h⟩:=BU h
   rw [ih h,<- of_decide_eq_true e]
   rfl
  | _=>simp [abP] at h
 | pr a b iha ihb=>
  intro r d h
  cases r with
  | pair r r'=>
   simp only [abP] at h
   obtain ⟨x,h1,h⟩:=AO.1 h
   obtain ⟨y,h2,h⟩:=AO.1 h
   cases h
   rw [iha h1,ihb h2]
   rfl
  | _=>simp [abP] at h
 | hole t=>
  intro r d h
  simp only [abP,QZt] at h
  split at h
  ·rw [TV.FE h];rfl
  ·cases h
 | fix r0=>
  intro r d h
  simp only [abP] at h
  cases hb:vD r0 r with
  | true=>rw [QTX hb];rfl
  | false=>simp [hb] at h
def nL:(ps:List Pt)->dW ps->List RV
 | [],_=>[]
 | p::ps,d=>mkP p d.1::nL ps d.2
def QBC:(ps:List Pt)->List RV->Option (dW ps)
 | [],[]=>some ()
 | p::ps,r::rs=>(abP p r).bind λx=>(QBC ps rs).bind λy=>some (x,y)
 | _,_=>none
theorem yQ:∀ {ps:List Pt} {rs:List RV} {d:dW ps},QBC ps rs=some d->rs=nL ps d
 | [],[],_,_=>rfl
 | [],_::_,_,h=>by simp [QBC] at h
 | _::_,[],_,h=>by simp [QBC] at h
 | p::ps,r::rs,d,h=>by
  simp only [QBC] at h
  obtain ⟨x,h1,h⟩:=AO.1 h
  obtain ⟨y,h2,h⟩:=AO.1 h
  cases h
  rw [QKQ h1,yQ h2]
  rfl
def mkB:(b:Bt)->b.D->Ob
 | .var t p,d=>.var t (mkP p d)
 | .mp kt vt,es=>.mp kt vt es
 | .row t,xs=>.row t xs
def abB:(b:Bt)->Ob->Option b.D
 | .var t p,.var t' c=>bif decide (t'=t) then abP p c else none
 | .mp kt vt,.mp kt' vt' es=>TV.as (.slice (.pair kt vt)) ⟨.slice (.pair kt' vt'),es⟩
 | .row t,.row t' xs=>TV.as (.slice t) ⟨.slice t',xs⟩
 | _,_=>none
theorem QDH {b:Bt} {ob:Ob} {d:b.D} (h:abB b ob=some d):ob=mkB b d:=by
 cases b with
 | var t p=>
  cases ob with
  | var t' c=>
   simp only [abB] at h
   cases hb:decide (t'=t) with
   | true=>
    simp only [hb,AL] at h
    have:=of_decide_eq_true hb
    subst this
    rw [QKQ h]
    rfl
   | false=>simp [hb] at h
  | _=>simp [abB] at h
 | mp kt vt=>
  cases ob with
  | mp kt' vt' es=>
   simp only [abB] at h
   have:=TV.FE h
   cases this
   rfl
  | _=>simp [abB] at h
 | row t=>
  cases ob with
  | row t' xs=>
   simp only [abB] at h
   have:=TV.FE h
   cases this
   rfl
  | _=>simp [abB] at h
def Wq:Nat->(bs:List Bt)->Wt bs->List (Nat×Ob)
 | _,[],_=>[]
 | n,b::bs,d=>(n,mkB b d.1)::Wq (n+1) bs d.2
def abL:Nat->(bs:List Bt)->List (Nat×Ob)->Option (Wt bs)
 | _,[],[]=>some ()
 | n,b::bs,(i,ob)::l=>bif Nat.beq i n then (abB b ob).bind λx=>(abL (n+1) bs l).bind λy=>some (x,y) else none
 | _,_,_=>none
theorem QKP:∀ {n:Nat} {bs:List Bt} {l:List (Nat×Ob)} {d:Wt bs},abL n bs l=some d->l=Wq n bs d
 | _,[],[],_,_=>rfl
 | _,[],_::_,_,h=>by simp [abL] at h
 | _,_::_,[],_,h=>by simp [abL] at h
 | n,b::bs,(i,ob)::l,d,h=>by
  simp only [abL] at h
  cases hb:Nat.beq i n with
  | false=>simp [hb] at h
  | true=>
   have:=Aa hb
   subst this
   simp only [hb,AL] at h
   obtain ⟨x,h1,h⟩:=AO.1 h
   obtain ⟨y,h2,h⟩:=AO.1 h
   cases h
   rw [QDH h1,QKP h2]
   rfl
@[reducible] def wD:List Bt->Nat->Type
 | [],_=>Empty
 | b::_,0=>b.D
 | _::bs,n+1=>wD bs n
def jS:(bs:List Bt)->(n:Nat)->wD bs n->Ob
 | [],_,e=>nomatch e
 | b::_,0,d=>mkB b d
 | _::bs,n+1,d=>jS bs n d
def QFX:Bt->Bool
 | .var _ (.hole _)=>true
 | .var _ _=>false
 | .mp kt vt=>kt.flat&&vt.flat
 | .row _=>true
def dw:List Bt->Nat->Bool
 | [],_=>false
 | b::_,0=>QFX b
 | _::bs,n+1=>dw bs n
def QM:RV->Bool
 | .any=>false
 | .sub _ _ _=>false
 | .yl _=>false
 | .OH _ c=>QM c
 | .pair a b=>QM a&&QM b
 | .agg _ r=>QM r
 | .Oj r=>QM r
 | _=>true
def tK:Bt->Bool
 | .var _ (.fix r)=>QM r
 | .var _ (.ag _ _)=>false
 | .var _ (.pr _ _)=>false
 | _=>true
theorem QH9 {f g:Nat->Option Nat} (hg:∀ i j,f i=some j->g j=some i):∀ c:RV,QM (Ce f c)=true->Ce g (Ce f c)=c:=by
 intro c
 induction c with
 | any=>intro h;simp [Ce,QM] at h
 | row i=>intro h;simp only [Ce] at h ⊢;cases hf:f i with | none=>simp [hf,QM] at h | some j=>simp only [Ce,hg i j hf]
 | sub i lo hi=>intro h;simp only [Ce] at h;cases hf:f i <;> simp [hf,QM] at h
 | yl i=>intro h;simp only [Ce] at h;cases hf:f i <;> simp [hf,QM] at h
 | loc i p=>intro h;simp only [Ce] at h ⊢;cases hf:f i with | none=>simp [hf,QM] at h | some j=>simp only [Ce,hg i j hf]
 | mp i=>intro h;simp only [Ce] at h ⊢;cases hf:f i with | none=>simp [hf,QM] at h | some j=>simp only [Ce,hg i j hf]
 | OH k c ih=>intro h;simp only [Ce,QM] at h ⊢;rw [ih h]
 | pair a b iha ihb=>intro h;simp only [Ce,QM,AP] at h ⊢;rw [iha h.1,ihb h.2]
 | agg t r ih=>intro h;simp only [Ce,QM] at h ⊢;rw [ih h]
 | Oj r ih=>intro h;simp only [Ce,QM] at h ⊢;rw [ih h]
 | _=>intro _;rfl
structure UO where
 fp:List Pt
 bp:List Bt
 w:Nat
 rs:List Ty
 F:dW fp->Wt bp->Option (wD bp w×Bv rs)
structure Yv where
 e:Ty
 fp:List Pt
 F:List e.den->dW fp->Option (List e.den)
def isHole:Pt->Bool
 | .hole _=>true
 | _=>false
def QLb (c:UO):Bool:=c.bp.all tK&&dw c.bp c.w
def QGy:List RV->List Nat
 | []=>[]
 | r::rs=>X9 r (QGy rs)
def QGC:(rs:List Ty)->Bv rs->List RV
 | [],_=>[]
 | [t],x=>[.val ⟨t,x⟩]
 | t::u::ts,x=>.val ⟨t,x.1⟩::QGC (u::ts) x.2
def QOk:List Nat->Nat->Option Nat
 | [],_=>none
 | a::_,0=>some a
 | _::r,n+1=>QOk r n
theorem QFl:∀ (l:List Nat) (n:Nat),QOk l n=l[n]?
 | [],_=>rfl
 | _::_,0=>rfl
 | _::r,n+1=>by simp only [QOk,List.getElem?_cons_succ];exact QFl r n
def XF (l:List (Nat×Ob)) (Gl:List RV):List Nat:=reach l 200 (QGy Gl) []
def YW:(bs:List Bt)->Wt bs->Bool
 | [],_=>true
 | .row _::bs,d=>Nat.ble 1 (List.length d.1)&&YW bs d.2
 | .var _ _::bs,d=>YW bs d.2
 | .mp _ _::bs,d=>YW bs d.2
def QOv {α:Type} (c:UO) (l:List (Nat×Ob)) (Gl:List RV) (k:Nat->wD c.bp c.w->Bv c.rs->Option α):Option α:=
 (QBC c.fp (Gl.map (Ce λid=>Q9 id (XF l Gl) 0))).bind λx=>(abL 0 c.bp (VQ (λid=>Q9 id (XF l Gl) 0) l (XF l Gl) 0)).bind λy=>bif YW c.bp y then (c.F x y).bind λr=>(QOk (XF l Gl) c.w).bind λid=>k id r.1 r.2 else none
def xE (j:Nat):Ob->RV
 | .var _ _=>.loc j []
 | .row _ _=>.row j
 | .mp _ _ _=>.mp j
 | .lp _ _=>.yl j
def QPC (l:List (Nat×Ob)):List (Nat×RV):=l.map λp=>(p.1,xE p.1 p.2)
def QLx (Gl:List RV):List (Nat×RV):=(Gl.zipIdx 0).map λp=>(p.2,p.1)
def eqB (b:Bt) (d d':b.D):Bool:=
 match b,d,d' with
 | .var _ (.hole t),d,d'=>R3 t d d'
 | .var _ (.fix _),_,_=>true
 | .var _ (.ag _ _),_,_=>false
 | .var _ (.pr _ _),_,_=>false
 | .mp kt vt,d,d'=>R3 (.slice (.pair kt vt)) d d'
 | .row t,d,d'=>R3 (.slice t) d d'
theorem QTW {b:Bt} {d d':b.D} (h:eqB b d d'=true):d=d':=by
 match b,d,d',h with
 | .var _ (.hole t),d,d',h=>exact OJ.1 h
 | .var _ (.fix _),_,_,_=>rfl
 | .mp kt vt,d,d',h=>exact (OJ (t:=.slice (.pair kt vt)) (x:=d) (y:=d')).1 h
 | .row t,d,d',h=>exact (OJ (t:=.slice t) (x:=d) (y:=d')).1 h
def QLk:Nat->List (Nat×Ob)->Bool
 | _,[]=>true
 | n,p::r=>Nat.beq p.1 n&&QLk (n+1) r
theorem QAP:∀ {n:Nat} {l:List (Nat×Ob)},QLk n l=true->∀ j p,l[j]? = some p->p.1=n+j
 | _,[],_,j,p,h=>by simp at h
 | n,q::r,hr,0,p,h=>by
  simp only [QLk,AP] at hr
  simp at h
  subst h
  exact Aa hr.1
 | n,q::r,hr,j+1,p,h=>by
  simp only [QLk,AP] at hr
  have:=QAP hr.2 j p (by simpa using h)
  omega
def fM (c:UO) (x:dW c.fp) (y:Wt c.bp):St:={ s:=QLx (nL c.fp x),l:=Wq 0 c.bp y,k:=[(0,QPC (Wq 0 c.bp y))],b:=4096 }
def uX (e:Ty) (fp:List Pt) (x:List e.den) (y:dW fp):St:={ s:=QLx (.row 0::nL fp y),l:=[(0,.row e x)],k:=[],b:=4096 }
def Zy {α:Type}:(bs:List Bt)->(w:Option Nat)->Wt bs->List (Nat×Ob)->Option α->Option α
 | [],_,_,[],k=>k
 | b::bs,w,d,(_,ob)::l,k=>match w with
  | some 0=>Zy bs none d.2 l k
  | some (n+1)=>(abB b ob).bind λd'=>bif eqB b d.1 d' then Zy bs (some n) d.2 l k else none
  | none=>(abB b ob).bind λd'=>bif eqB b d.1 d' then Zy bs none d.2 l k else none
 | _,_,_,_,_=>none
def QDf:(bs:List Bt)->(w:Nat)->List (Nat×Ob)->Option (wD bs w)
 | [],_,_=>none
 | _::_,_,[]=>none
 | b::_,0,(_,ob)::_=>abB b ob
 | _::bs,n+1,_::l=>QDf bs n l
def aH (wt:List (Nat×RV)):List Bt->Nat->Option (List Nat)
 | [],_=>some []
 | _::bs,j=>match lk j wt with
  | some (.loc i [])=>(aH wt bs (j+1)).bind λr=>some (i::r)
  | some (.mp i)=>(aH wt bs (j+1)).bind λr=>some (i::r)
  | some (.row i)=>(aH wt bs (j+1)).bind λr=>some (i::r)
  | _=>none
theorem uQ {α:Type} {k:Option α} {r:α}:∀ {bs:List Bt} {w:Option Nat} {d:Wt bs} {l:List (Nat×Ob)} {m:Nat},Zy bs w d l k=some r->(∀ j p,l[j]? = some p->p.1=m+j)->
  k=some r/\∀ j,(∀ n,w=some n->j≠m+n)->lk j l=lk j (Wq m bs d)
 | [],_,_,[],_,h,_=>⟨h,λ_ _=>rfl⟩
 | [],_,_,_::_,_,h,_=>by simp [Zy] at h
 | _::_,_,_,[],_,h,_=>by simp [Zy] at h
 | b::bs,w,d,(i,ob)::l,m,h,hi=>by
  have hi0:i=m:=by simpa using hi 0 (i,ob) rfl
  subst hi0
  have hi':∀ j p,l[j]? = some p->p.1=(i+1)+j:=λj p hp=>by
   have:=hi (j+1) p (by simpa using hp)
   omega
  have one:∀ {w':Option Nat},((abB b ob).bind λd'=>bif eqB b d.1 d' then Zy bs w' d.2 l k else none)=some r->(∀ j,(∀ n,w=some n->j≠i+n)->∀ n,w'=some n->j≠i+1+n)->k=some r/\∀ j,(∀ n,w=some n->j≠i+n)->lk j ((i,ob)::l)=lk j (Wq i (b::bs) d):=by
   intro w' h hw
   obtain ⟨d',h1,h⟩:=AO.1 h
   cases hb:eqB b d.1 d' with
   | false=>simp [hb] at h
   | true=>
    simp only [hb,AL] at h
    obtain ⟨g1,g2⟩:=uQ h hi'
    refine ⟨g1,λj hj=>?_⟩
    simp only [Wq,Bl]
    split
    ·rw [QDH h1,QTW hb]
    ·exact g2 j (hw j hj)
  match w,h with
  | some 0,h=>
   simp only [Zy] at h
   obtain ⟨g1,g2⟩:=uQ h hi'
   refine ⟨g1,λj hj=>?_⟩
   have hne:j≠i:=by simpa using hj 0 rfl
   simp only [Wq,Bl,AX hne]
   exact g2 j λn hn=>by cases hn
  | some (n+1),h=>
   simp only [Zy] at h
   exact one h λj hj m hm=>by cases hm;have:=hj (n+1) rfl;omega
  | none,h=>
   simp only [Zy] at h
   exact one h λj _ m hm=>by cases hm
theorem QFZ:∀ {bs:List Bt} {w:Nat} {l:List (Nat×Ob)} {z:wD bs w} {m:Nat},QDf bs w l=some z->(∀ j p,l[j]? = some p->p.1=m+j)->lk (m+w) l=some (jS bs w z)
 | [],_,_,_,_,h,_=>by simp [QDf] at h
 | _::_,_,[],_,_,h,_=>by simp [QDf] at h
 | b::_,0,(i,ob)::l,z,m,h,hi=>by
  have hi0:i=m:=by simpa using hi 0 (i,ob) rfl
  subst hi0
  simp only [QDf] at h
  simp [Bl,jS,QDH h]
 | _::bs,n+1,(i,ob)::l,z,m,h,hi=>by
  have hi0:i=m:=by simpa using hi 0 (i,ob) rfl
  subst hi0
  simp only [QDf] at h
  have:=QFZ (m:=i+1) h λj p hp=>by have:=hi (j+1) p (by simpa using hp);omega
  simp only [Bl,jS]
  rw [AX (by omega),<- this]
  congr 1
  omega
end Go.Lift
