import Derived.Test.YtbgmjjplddddnaaGreatDoorRiG
set_option linter.unusedSimpArgs false
namespace Go.Lift
open Go.RowKit
inductive Pt where
 | hole (t:Ty)
 | fix (r:RV)
inductive Bt where
 | var (t:Ty) (p:Pt)
 | mp (kt vt:Ty)
 | row (t:Ty)
@[reducible] def Pt.D:Pt->Type
 | .hole t=>t.den
 | .fix _=>Unit
@[reducible] def Bt.D:Bt->Type
 | .var _ p=>p.D
 | .mp kt vt=>List (kt.den×vt.den)
 | .row t=>List t.den
@[reducible] def IC:List Pt->Type
 | []=>Unit
 | p::ps=>p.D×IC ps
@[reducible] def FH:List Bt->Type
 | []=>Unit
 | b::bs=>b.D×FH bs
def Mf:RV->RV->Bool
 | .unit,.unit=>true
 | .loc i [],.loc j []=>Nat.beq i j
 | .mp i,.mp j=>Nat.beq i j
 | .row i,.row j=>Nat.beq i j
 | .Ee f a,.Ee g b=>Nat.beq f g&&Mf a b
 | .pair a b,.pair c d=>Mf a c&&Mf b d
 | _,_=>false
theorem WL:∀ {a b:RV},Mf a b=true->a=b:=by
 intro a
 induction a with
 | unit=>intro b h;cases b <;> simp [Mf] at h;rfl
 | loc i p=>
  intro b h
  cases p with
  | cons _ _=>simp [Mf] at h
  | nil=>
   cases b with
   | loc j q=>
    cases q with
    | nil=>simp only [Mf] at h;rw [Aa h]
    | cons _ _=>simp [Mf] at h
   | _=>simp [Mf] at h
 | mp i=>
  intro b h
  cases b with
  | mp j=>simp only [Mf] at h;rw [Aa h]
  | _=>simp [Mf] at h
 | row i=>
  intro b h
  cases b with
  | row j=>simp only [Mf] at h;rw [Aa h]
  | _=>simp [Mf] at h
 | Ee f a ih=>
  intro b h
  cases b with
  | Ee g b=>
   simp only [Mf,AP] at h
   rw [Aa h.1,ih h.2]
  | _=>simp [Mf] at h
 | pair x y QN ihy=>
  intro b h
  cases b with
  | pair c d=>
   simp only [Mf,AP] at h
   rw [QN h.1,ihy h.2]
  | _=>simp [Mf] at h
 | _=>intro b h;cases b <;> simp [Mf] at h
def Yv:(p:Pt)->p.D->RV
 | .hole t,x=>.val ⟨t,x⟩
 | .fix r,_=>r
def X4 (t:Ty):RV->Option t.den
 | .val v=>TV.as t v
 | _=>none
def XG:(p:Pt)->RV->Option p.D
 | .hole t,r=>X4 t r
 | .fix r,r'=>bif Mf r r' then some () else none
theorem TA {p:Pt} {r:RV} {d:p.D} (h:XG p r=some d):r=Yv p d:=by
 cases p with
 | hole t=>
  simp only [XG,X4] at h
  split at h
  ·rw [TV.Bv h];rfl
  ·cases h
 | fix r0=>
  simp only [XG] at h
  cases hb:Mf r0 r with
  | true=>rw [WL hb];rfl
  | false=>simp [hb] at h
def KU:(ps:List Pt)->IC ps->List RV
 | [],_=>[]
 | p::ps,d=>Yv p d.1::KU ps d.2
def OT:(ps:List Pt)->List RV->Option (IC ps)
 | [],[]=>some ()
 | p::ps,r::rs=>(XG p r).bind fun x=>(OT ps rs).bind fun y=>some (x,y)
 | _,_=>none
theorem NP:∀ {ps:List Pt} {rs:List RV} {d:IC ps},OT ps rs=some d->rs=KU ps d
 | [],[],_,_=>rfl
 | [],_::_,_,h=>by simp [OT] at h
 | _::_,[],_,h=>by simp [OT] at h
 | p::ps,r::rs,d,h=>by
  simp only [OT] at h
  obtain ⟨x,h1,h⟩:=AO.1 h
  obtain ⟨y,h2,h⟩:=AO.1 h
  cases h
  rw [TA h1,NP h2]
  rfl
def Uv:(b:Bt)->b.D->Ob
 | .var t p,d=>.var t (Yv p d)
 | .mp kt vt,es=>.mp kt vt es
 | .row t,xs=>.row t xs
def Sv:(b:Bt)->Ob->Option b.D
 | .var t p,.var t' c=>bif decide (t'=t) then XG p c else none
 | .mp kt vt,.mp ZH ZP es=>TV.as (.slice (.pair kt vt)) ⟨.slice (.pair ZH ZP),es⟩
 | .row t,.row t' xs=>TV.as (.slice t) ⟨.slice t',xs⟩
 | _,_=>none
theorem Py {b:Bt} {ob:Ob} {d:b.D} (h:Sv b ob=some d):ob=Uv b d:=by
 cases b with
 | var t p=>
  cases ob with
  | var t' c=>
   simp only [Sv] at h
   cases hb:decide (t'=t) with
   | true=>
    simp only [hb,AL] at h
    have:=of_decide_eq_true hb
    subst this
    rw [TA h]
    rfl
   | false=>simp [hb] at h
  | _=>simp [Sv] at h
 | mp kt vt=>
  cases ob with
  | mp ZH ZP es=>
   simp only [Sv] at h
   have:=TV.Bv h
   cases this
   rfl
  | _=>simp [Sv] at h
 | row t=>
  cases ob with
  | row t' xs=>
   simp only [Sv] at h
   have:=TV.Bv h
   cases this
   rfl
  | _=>simp [Sv] at h
def FE:Nat->(bs:List Bt)->FH bs->List (Nat×Ob)
 | _,[],_=>[]
 | n,b::bs,d=>(n,Uv b d.1)::FE (n+1) bs d.2
def WA:Nat->(bs:List Bt)->List (Nat×Ob)->Option (FH bs)
 | _,[],[]=>some ()
 | n,b::bs,(i,ob)::l=>bif Nat.beq i n then (Sv b ob).bind fun x=>(WA (n+1) bs l).bind fun y=>some (x,y) else none
 | _,_,_=>none
theorem S9:∀ {n:Nat} {bs:List Bt} {l:List (Nat×Ob)} {d:FH bs},WA n bs l=some d->l=FE n bs d
 | _,[],[],_,_=>rfl
 | _,[],_::_,_,h=>by simp [WA] at h
 | _,_::_,[],_,h=>by simp [WA] at h
 | n,b::bs,(i,ob)::l,d,h=>by
  simp only [WA] at h
  cases hb:Nat.beq i n with
  | false=>simp [hb] at h
  | true=>
   have:=Aa hb
   subst this
   simp only [hb,AL] at h
   obtain ⟨x,h1,h⟩:=AO.1 h
   obtain ⟨y,h2,h⟩:=AO.1 h
   cases h
   rw [Py h1,S9 h2]
   rfl
@[reducible] def wD:List Bt->Nat->Type
 | [],_=>Empty
 | b::_,0=>b.D
 | _::bs,n+1=>wD bs n
def JJ:(bs:List Bt)->(n:Nat)->wD bs n->Ob
 | [],_,e=>nomatch e
 | b::_,0,d=>Uv b d
 | _::bs,n+1,d=>JJ bs n d
def Vp:Bt->Bool
 | .var _ (.hole _)=>true
 | .var _ (.fix _)=>false
 | .mp kt vt=>kt.flat&&vt.flat
 | .row _=>true
def K8:List Bt->Nat->Bool
 | [],_=>false
 | b::_,0=>Vp b
 | _::bs,n+1=>K8 bs n
def Dk:RV->Bool
 | .any=>false
 | .sub _ _ _=>false
 | .yl _=>false
 | .Ee _ c=>Dk c
 | .pair a b=>Dk a&&Dk b
 | .agg _ r=>Dk r
 | .Db r=>Dk r
 | _=>true
def Qd:Bt->Bool
 | .var _ (.fix r)=>Dk r
 | _=>true
theorem SC {f g:Nat->Option Nat} (hg:∀ i j,f i=some j->g j=some i):∀ c:RV,Dk (Ba f c)=true->Ba g (Ba f c)=c:=by
 intro c
 induction c with
 | any=>intro h;simp [Ba,Dk] at h
 | row i=>intro h;simp only [Ba] at h ⊢;cases hf:f i with | none=>simp [hf,Dk] at h | some j=>simp only [Ba,hg i j hf]
 | sub i lo hi=>intro h;simp only [Ba] at h;cases hf:f i <;> simp [hf,Dk] at h
 | yl i=>intro h;simp only [Ba] at h;cases hf:f i <;> simp [hf,Dk] at h
 | loc i p=>intro h;simp only [Ba] at h ⊢;cases hf:f i with | none=>simp [hf,Dk] at h | some j=>simp only [Ba,hg i j hf]
 | mp i=>intro h;simp only [Ba] at h ⊢;cases hf:f i with | none=>simp [hf,Dk] at h | some j=>simp only [Ba,hg i j hf]
 | Ee k c ih=>intro h;simp only [Ba,Dk] at h ⊢;rw [ih h]
 | pair a b iha ihb=>intro h;simp only [Ba,Dk,AP] at h ⊢;rw [iha h.1,ihb h.2]
 | agg t r ih=>intro h;simp only [Ba,Dk] at h ⊢;rw [ih h]
 | Db r ih=>intro h;simp only [Ba,Dk] at h ⊢;rw [ih h]
 | _=>intro _;rfl
structure FB where
 fp:List Pt
 bp:List Bt
 w:Nat
 rs:List Ty
 F:IC fp->FH bp->Option (wD bp w×BP rs)
structure MF where
 e:Ty
 fp:List Pt
 F:List e.den->IC fp->Option (List e.den)
def isHole:Pt->Bool
 | .hole _=>true
 | .fix _=>false
def UM (c:FB):Bool:=c.bp.all Qd&&K8 c.bp c.w
def R4:List RV->List Nat
 | []=>[]
 | r::rs=>Fx r (R4 rs)
def Rh:(rs:List Ty)->BP rs->List RV
 | [],_=>[]
 | [t],x=>[.val ⟨t,x⟩]
 | t::u::ts,x=>.val ⟨t,x.1⟩::Rh (u::ts) x.2
def VU:List Nat->Nat->Option Nat
 | [],_=>none
 | a::_,0=>some a
 | _::r,n+1=>VU r n
theorem RG:∀ (l:List Nat) (n:Nat),VU l n=l[n]?
 | [],_=>rfl
 | _::_,0=>rfl
 | _::r,n+1=>by simp only [VU,List.getElem?_cons_succ];exact RG r n
def FM (l:List (Nat×Ob)) (CO:List RV):List Nat:=reach l 200 (R4 CO) []
def F7:(bs:List Bt)->FH bs->Bool
 | [],_=>true
 | .row _::bs,d=>Nat.ble 1 (List.length d.1)&&F7 bs d.2
 | .var _ _::bs,d=>F7 bs d.2
 | .mp _ _::bs,d=>F7 bs d.2
def Vd {α:Type} (c:FB) (l:List (Nat×Ob)) (CO:List RV) (k:Nat->wD c.bp c.w->BP c.rs->Option α):Option α:=
 (OT c.fp (CO.map (Ba fun id=>D7 id (FM l CO) 0))).bind fun x=>(WA 0 c.bp (Ep (fun id=>D7 id (FM l CO) 0) l (FM l CO) 0)).bind fun y=>bif F7 c.bp y then (c.F x y).bind fun r=>(VU (FM l CO) c.w).bind fun id=>k id r.1 r.2 else none
def Mr (j:Nat):Ob->RV
 | .var _ _=>.loc j []
 | .row _ _=>.row j
 | .mp _ _ _=>.mp j
 | .lp _ _=>.yl j
def Vj (l:List (Nat×Ob)):List (Nat×RV):=l.map fun p=>(p.1,Mr p.1 p.2)
def Ue (CO:List RV):List (Nat×RV):=(CO.zipIdx 0).map fun p=>(p.2,p.1)
def XY (b:Bt) (d d':b.D):Bool:=
 match b,d,d' with
 | .var _ (.hole t),d,d'=>JW t d d'
 | .var _ (.fix _),_,_=>true
 | .mp kt vt,d,d'=>JW (.slice (.pair kt vt)) d d'
 | .row t,d,d'=>JW (.slice t) d d'
theorem WK {b:Bt} {d d':b.D} (h:XY b d d'=true):d=d':=by
 match b,d,d',h with
 | .var _ (.hole t),d,d',h=>exact ED.1 h
 | .var _ (.fix _),_,_,_=>rfl
 | .mp kt vt,d,d',h=>exact (ED (t:=.slice (.pair kt vt)) (x:=d) (y:=d')).1 h
 | .row t,d,d',h=>exact (ED (t:=.slice t) (x:=d) (y:=d')).1 h
def UU:Nat->List (Nat×Ob)->Bool
 | _,[]=>true
 | n,p::r=>Nat.beq p.1 n&&UU (n+1) r
theorem OE:∀ {n:Nat} {l:List (Nat×Ob)},UU n l=true->∀ j p,l[j]? = some p->p.1=n+j
 | _,[],_,j,p,h=>by simp at h
 | n,q::r,hr,0,p,h=>by
  simp only [UU,AP] at hr
  simp at h
  subst h
  exact Aa hr.1
 | n,q::r,hr,j+1,p,h=>by
  simp only [UU,AP] at hr
  have:=OE hr.2 j p (by simpa using h)
  omega
def IY (c:FB) (x:IC c.fp) (y:FH c.bp):St:={ s:=Ue (KU c.fp x),l:=FE 0 c.bp y,k:=[(0,Vj (FE 0 c.bp y))],b:=4096 }
def MC (e:Ty) (fp:List Pt) (x:List e.den) (y:IC fp):St:={ s:=Ue (.row 0::KU fp y),l:=[(0,.row e x)],k:=[],b:=4096 }
def Gq {α:Type}:(bs:List Bt)->(w:Option Nat)->FH bs->List (Nat×Ob)->Option α->Option α
 | [],_,_,[],k=>k
 | b::bs,w,d,(_,ob)::l,k=>match w with
  | some 0=>Gq bs none d.2 l k
  | some (n+1)=>(Sv b ob).bind fun d'=>bif XY b d.1 d' then Gq bs (some n) d.2 l k else none
  | none=>(Sv b ob).bind fun d'=>bif XY b d.1 d' then Gq bs none d.2 l k else none
 | _,_,_,_,_=>none
def QI:(bs:List Bt)->(w:Nat)->List (Nat×Ob)->Option (wD bs w)
 | [],_,_=>none
 | _::_,_,[]=>none
 | b::_,0,(_,ob)::_=>Sv b ob
 | _::bs,n+1,_::l=>QI bs n l
def Gv (wt:List (Nat×RV)):List Bt->Nat->Option (List Nat)
 | [],_=>some []
 | _::bs,j=>match lk j wt with
  | some (.loc i [])=>(Gv wt bs (j+1)).bind fun r=>some (i::r)
  | some (.mp i)=>(Gv wt bs (j+1)).bind fun r=>some (i::r)
  | some (.row i)=>(Gv wt bs (j+1)).bind fun r=>some (i::r)
  | _=>none
theorem L6 {α:Type} {k:Option α} {r:α}:∀ {bs:List Bt} {w:Option Nat} {d:FH bs} {l:List (Nat×Ob)} {m:Nat},Gq bs w d l k=some r->(∀ j p,l[j]? = some p->p.1=m+j)->
  k=some r/\∀ j,(∀ n,w=some n->j≠m+n)->lk j l=lk j (FE m bs d)
 | [],_,_,[],_,h,_=>⟨h,fun _ _=>rfl⟩
 | [],_,_,_::_,_,h,_=>by simp [Gq] at h
 | _::_,_,_,[],_,h,_=>by simp [Gq] at h
 | b::bs,w,d,(i,ob)::l,m,h,hi=>by
  have hi0:i=m:=by simpa using hi 0 (i,ob) rfl
  subst hi0
  have hi':∀ j p,l[j]? = some p->p.1=(i+1)+j:=fun j p hp=>by
   have:=hi (j+1) p (by simpa using hp)
   omega
  have one:∀ {w':Option Nat},((Sv b ob).bind fun d'=>bif XY b d.1 d' then Gq bs w' d.2 l k else none)=some r->(∀ j,(∀ n,w=some n->j≠i+n)->∀ n,w'=some n->j≠i+1+n)->k=some r/\∀ j,(∀ n,w=some n->j≠i+n)->lk j ((i,ob)::l)=lk j (FE i (b::bs) d):=by
   intro w' h hw
   obtain ⟨d',h1,h⟩:=AO.1 h
   cases hb:XY b d.1 d' with
   | false=>simp [hb] at h
   | true=>
    simp only [hb,AL] at h
    obtain ⟨g1,g2⟩:=L6 h hi'
    refine ⟨g1,fun j hj=>?_⟩
    simp only [FE,BN]
    split
    ·rw [Py h1,WK hb]
    ·exact g2 j (hw j hj)
  match w,h with
  | some 0,h=>
   simp only [Gq] at h
   obtain ⟨g1,g2⟩:=L6 h hi'
   refine ⟨g1,fun j hj=>?_⟩
   have hne:j≠i:=by simpa using hj 0 rfl
   simp only [FE,BN,AX hne]
   exact g2 j fun n hn=>by cases hn
  | some (n+1),h=>
   simp only [Gq] at h
   exact one h fun j hj m hm=>by cases hm;have:=hj (n+1) rfl;omega
  | none,h=>
   simp only [Gq] at h
   exact one h fun j _ m hm=>by cases hm
theorem Q7:∀ {bs:List Bt} {w:Nat} {l:List (Nat×Ob)} {z:wD bs w} {m:Nat},QI bs w l=some z->(∀ j p,l[j]? = some p->p.1=m+j)->lk (m+w) l=some (JJ bs w z)
 | [],_,_,_,_,h,_=>by simp [QI] at h
 | _::_,_,[],_,_,h,_=>by simp [QI] at h
 | b::_,0,(i,ob)::l,z,m,h,hi=>by
  have hi0:i=m:=by simpa using hi 0 (i,ob) rfl
  subst hi0
  simp only [QI] at h
  simp [BN,JJ,Py h]
 | _::bs,n+1,(i,ob)::l,z,m,h,hi=>by
  have hi0:i=m:=by simpa using hi 0 (i,ob) rfl
  subst hi0
  simp only [QI] at h
  have:=Q7 (m:=i+1) h fun j p hp=>by have:=hi (j+1) p (by simpa using hp);omega
  simp only [BN,JJ]
  rw [AX (by omega),← this]
  congr 1
  omega
end Go.Lift
