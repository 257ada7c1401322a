import Derived.Test.YtbgmjjplddddnaaGreatDoorRiG
namespace Go.Lift
open Go.RowKit
inductive Pt where
 | hole (t:Ty)
 | fix (r:RV)
inductive Bt where
 | var (t:Ty) (p:Pt)
 | mp (kt vt:Ty)
 | row (t:Ty)
@[reducible] def Pt.D:Pt->Type
 | .hole t=>t.den
 | .fix _=>Unit
@[reducible] def Bt.D:Bt->Type
 | .var _ p=>p.D
 | .mp kt vt=>List (kt.den×vt.den)
 | .row t=>List t.den
@[reducible] def Gf:List Pt->Type
 | []=>Unit
 | p::ps=>p.D×Gf ps
@[reducible] def EJ:List Bt->Type
 | []=>Unit
 | b::bs=>b.D×EJ bs
def Ld:RV->RV->Bool
 | .unit,.unit=>true
 | .loc i [],.loc j []=>Nat.beq i j
 | .mp i,.mp j=>Nat.beq i j
 | .row i,.row j=>Nat.beq i j
 | .Dn f a,.Dn g b=>Nat.beq f g&&Ld a b
 | .pair a b,.pair c d=>Ld a c&&Ld b d
 | _,_=>false
theorem VU:∀ {a b:RV},Ld a b=true->a=b:=by
 intro a
 induction a with
 | unit=>intro b h;cases b <;> simp [Ld] at h;rfl
 | loc i p=>
  intro b h
  cases p with
  | cons _ _=>simp [Ld] at h
  | nil=>
   cases b with
   | loc j q=>
    cases q with
    | nil=>simp only [Ld] at h;rw [Nat.eq_of_beq_eq_true h]
    | cons _ _=>simp [Ld] at h
   | _=>simp [Ld] at h
 | mp i=>
  intro b h
  cases b with
  | mp j=>simp only [Ld] at h;rw [Nat.eq_of_beq_eq_true h]
  | _=>simp [Ld] at h
 | row i=>
  intro b h
  cases b with
  | row j=>simp only [Ld] at h;rw [Nat.eq_of_beq_eq_true h]
  | _=>simp [Ld] at h
 | Dn f a ih=>
  intro b h
  cases b with
  | Dn g b=>
   simp only [Ld,Bool.and_eq_true] at h
   rw [Nat.eq_of_beq_eq_true h.1,ih h.2]
  | _=>simp [Ld] at h
 | pair x y PN ihy=>
  intro b h
  cases b with
  | pair c d=>
   simp only [Ld,Bool.and_eq_true] at h
   rw [PN h.1,ihy h.2]
  | _=>simp [Ld] at h
 | _=>intro b h;cases b <;> simp [Ld] at h
def YA:(p:Pt)->p.D->RV
 | .hole t,x=>.val ⟨t,x⟩
 | .fix r,_=>r
def XE (t:Ty):RV->Option t.den
 | .val v=>TV.as t v
 | _=>none
def V9:(p:Pt)->RV->Option p.D
 | .hole t,r=>XE t r
 | .fix r,r'=>bif Ld r r' then some () else none
theorem Rv {p:Pt} {r:RV} {d:p.D} (h:V9 p r=some d):r=YA p d:=by
 cases p with
 | hole t=>
  simp only [V9,XE] at h
  split at h
  ·rw [TV.Aq h];rfl
  ·cases h
 | fix r0=>
  simp only [V9] at h
  cases hb:Ld r0 r with
  | true=>rw [VU hb];rfl
  | false=>simp [hb] at h
def Jh:(ps:List Pt)->Gf ps->List RV
 | [],_=>[]
 | p::ps,d=>YA p d.1::Jh ps d.2
def NS:(ps:List Pt)->List RV->Option (Gf ps)
 | [],[]=>some ()
 | p::ps,r::rs=>(V9 p r).bind fun x=>(NS ps rs).bind fun y=>some (x,y)
 | _,_=>none
theorem MN:∀ {ps:List Pt} {rs:List RV} {d:Gf ps},NS ps rs=some d->rs=Jh ps d
 | [],[],_,_=>rfl
 | [],_::_,_,h=>by simp [NS] at h
 | _::_,[],_,h=>by simp [NS] at h
 | p::ps,r::rs,d,h=>by
  simp only [NS] at h
  obtain ⟨x,h1,h⟩:=Option.bind_eq_some_iff.1 h
  obtain ⟨y,h2,h⟩:=Option.bind_eq_some_iff.1 h
  cases h
  rw [Rv h1,MN h2]
  rfl
def Tv:(b:Bt)->b.D->Ob
 | .var t p,d=>.var t (YA p d)
 | .mp kt vt,es=>.mp kt vt es
 | .row t,xs=>.row t xs
def Rq:(b:Bt)->Ob->Option b.D
 | .var t p,.var t' c=>bif decide (t'=t) then V9 p c else none
 | .mp kt vt,.mp YV Ye es=>TV.as (.slice (.pair kt vt)) ⟨.slice (.pair YV Ye),es⟩
 | .row t,.row t' xs=>TV.as (.slice t) ⟨.slice t',xs⟩
 | _,_=>none
theorem Oq {b:Bt} {ob:Ob} {d:b.D} (h:Rq b ob=some d):ob=Tv b d:=by
 cases b with
 | var t p=>
  cases ob with
  | var t' c=>
   simp only [Rq] at h
   cases hb:decide (t'=t) with
   | true=>
    simp only [hb,cond_true] at h
    have:=of_decide_eq_true hb
    subst this
    rw [Rv h]
    rfl
   | false=>simp [hb] at h
  | _=>simp [Rq] at h
 | mp kt vt=>
  cases ob with
  | mp YV Ye es=>
   simp only [Rq] at h
   have:=TV.Aq h
   cases this
   rfl
  | _=>simp [Rq] at h
 | row t=>
  cases ob with
  | row t' xs=>
   simp only [Rq] at h
   have:=TV.Aq h
   cases this
   rfl
  | _=>simp [Rq] at h
def EH:Nat->(bs:List Bt)->EJ bs->List (Nat×Ob)
 | _,[],_=>[]
 | n,b::bs,d=>(n,Tv b d.1)::EH (n+1) bs d.2
def VJ:Nat->(bs:List Bt)->List (Nat×Ob)->Option (EJ bs)
 | _,[],[]=>some ()
 | n,b::bs,(i,ob)::l=>bif Nat.beq i n then (Rq b ob).bind fun x=>(VJ (n+1) bs l).bind fun y=>some (x,y) else none
 | _,_,_=>none
theorem Ru:∀ {n:Nat} {bs:List Bt} {l:List (Nat×Ob)} {d:EJ bs},VJ n bs l=some d->l=EH n bs d
 | _,[],[],_,_=>rfl
 | _,[],_::_,_,h=>by simp [VJ] at h
 | _,_::_,[],_,h=>by simp [VJ] at h
 | n,b::bs,(i,ob)::l,d,h=>by
  simp only [VJ] at h
  cases hb:Nat.beq i n with
  | false=>simp [hb] at h
  | true=>
   have:=Nat.eq_of_beq_eq_true hb
   subst this
   simp only [hb,cond_true] at h
   obtain ⟨x,h1,h⟩:=Option.bind_eq_some_iff.1 h
   obtain ⟨y,h2,h⟩:=Option.bind_eq_some_iff.1 h
   cases h
   rw [Oq h1,Ru h2]
   rfl
@[reducible] def wD:List Bt->Nat->Type
 | [],_=>Empty
 | b::_,0=>b.D
 | _::bs,n+1=>wD bs n
def IK:(bs:List Bt)->(n:Nat)->wD bs n->Ob
 | [],_,e=>nomatch e
 | b::_,0,d=>Tv b d
 | _::bs,n+1,d=>IK bs n d
def U0:Bt->Bool
 | .var _ (.hole _)=>true
 | .var _ (.fix _)=>false
 | .mp kt vt=>kt.flat&&vt.flat
 | .row _=>true
def KH:List Bt->Nat->Bool
 | [],_=>false
 | b::_,0=>U0 b
 | _::bs,n+1=>KH bs n
def Cc:RV->Bool
 | .any=>false
 | .sub _ _ _=>false
 | .yl _=>false
 | .Dn _ c=>Cc c
 | .pair a b=>Cc a&&Cc b
 | .agg _ r=>Cc r
 | .CW r=>Cc r
 | _=>true
def Pj:Bt->Bool
 | .var _ (.fix r)=>Cc r
 | _=>true
theorem RH {f g:Nat->Option Nat} (hg:∀ i j,f i=some j->g j=some i):∀ c:RV,Cc (AZ f c)=true->AZ g (AZ f c)=c:=by
 intro c
 induction c with
 | any=>intro h;simp [AZ,Cc] at h
 | row i=>intro h;simp only [AZ] at h ⊢;cases hf:f i with | none=>simp [hf,Cc] at h | some j=>simp only [AZ,hg i j hf]
 | sub i lo hi=>intro h;simp only [AZ] at h;cases hf:f i <;> simp [hf,Cc] at h
 | yl i=>intro h;simp only [AZ] at h;cases hf:f i <;> simp [hf,Cc] at h
 | loc i p=>intro h;simp only [AZ] at h ⊢;cases hf:f i with | none=>simp [hf,Cc] at h | some j=>simp only [AZ,hg i j hf]
 | mp i=>intro h;simp only [AZ] at h ⊢;cases hf:f i with | none=>simp [hf,Cc] at h | some j=>simp only [AZ,hg i j hf]
 | Dn k c ih=>intro h;simp only [AZ,Cc] at h ⊢;rw [ih h]
 | pair a b iha ihb=>intro h;simp only [AZ,Cc,Bool.and_eq_true] at h ⊢;rw [iha h.1,ihb h.2]
 | agg t r ih=>intro h;simp only [AZ,Cc] at h ⊢;rw [ih h]
 | CW r ih=>intro h;simp only [AZ,Cc] at h ⊢;rw [ih h]
 | _=>intro _;rfl
structure ED where
 fp:List Pt
 bp:List Bt
 w:Nat
 rs:List Ty
 F:Gf fp->EJ bp->Option (wD bp w×AL rs)
structure K7 where
 e:Ty
 fp:List Pt
 F:List e.den->Gf fp->Option (List e.den)
def isHole:Pt->Bool
 | .hole _=>true
 | .fix _=>false
def TF (c:ED):Bool:=c.bp.all Pj&&KH c.bp c.w
def Q7:List RV->List Nat
 | []=>[]
 | r::rs=>Er r (Q7 rs)
def Qk:(rs:List Ty)->AL rs->List RV
 | [],_=>[]
 | [t],x=>[.val ⟨t,x⟩]
 | t::u::ts,x=>.val ⟨t,x.1⟩::Qk (u::ts) x.2
def Ug:List Nat->Nat->Option Nat
 | [],_=>none
 | a::_,0=>some a
 | _::r,n+1=>Ug r n
theorem QT:∀ (l:List Nat) (n:Nat),Ug l n=l[n]?
 | [],_=>rfl
 | _::_,0=>rfl
 | _::r,n+1=>by simp only [Ug,List.getElem?_cons_succ];exact QT r n
def EP (l:List (Nat×Ob)) (A9:List RV):List Nat:=reach l 200 (Q7 A9) []
def Ez:(bs:List Bt)->EJ bs->Bool
 | [],_=>true
 | .row _::bs,d=>Nat.ble 1 (List.length d.1)&&Ez bs d.2
 | .var _ _::bs,d=>Ez bs d.2
 | .mp _ _::bs,d=>Ez bs d.2
def Un {α:Type} (c:ED) (l:List (Nat×Ob)) (A9:List RV) (k:Nat->wD c.bp c.w->AL c.rs->Option α):Option α:=
 (NS c.fp (A9.map (AZ fun id=>Cx id (EP l A9) 0))).bind fun x=>(VJ 0 c.bp (Dy (fun id=>Cx id (EP l A9) 0) l (EP l A9) 0)).bind fun y=>bif Ez c.bp y then (c.F x y).bind fun r=>(Ug (EP l A9) c.w).bind fun id=>k id r.1 r.2 else none
def Ll (j:Nat):Ob->RV
 | .var _ _=>.loc j []
 | .row _ _=>.row j
 | .mp _ _ _=>.mp j
 | .lp _ _=>.yl j
def Uu (l:List (Nat×Ob)):List (Nat×RV):=l.map fun p=>(p.1,Ll p.1 p.2)
def TU (A9:List RV):List (Nat×RV):=(A9.zipIdx 0).map fun p=>(p.2,p.1)
def WS (b:Bt) (d d':b.D):Bool:=
 match b,d,d' with
 | .var _ (.hole t),d,d'=>Ib t d d'
 | .var _ (.fix _),_,_=>true
 | .mp kt vt,d,d'=>Ib (.slice (.pair kt vt)) d d'
 | .row t,d,d'=>Ib (.slice t) d d'
theorem VT {b:Bt} {d d':b.D} (h:WS b d d'=true):d=d':=by
 match b,d,d',h with
 | .var _ (.hole t),d,d',h=>exact DF.1 h
 | .var _ (.fix _),_,_,_=>rfl
 | .mp kt vt,d,d',h=>exact (DF (t:=.slice (.pair kt vt)) (x:=d) (y:=d')).1 h
 | .row t,d,d',h=>exact (DF (t:=.slice t) (x:=d) (y:=d')).1 h
def TK:Nat->List (Nat×Ob)->Bool
 | _,[]=>true
 | n,p::r=>Nat.beq p.1 n&&TK (n+1) r
theorem ND:∀ {n:Nat} {l:List (Nat×Ob)},TK n l=true->∀ j p,l[j]? = some p->p.1=n+j
 | _,[],_,j,p,h=>by simp at h
 | n,q::r,hr,0,p,h=>by
  simp only [TK,Bool.and_eq_true] at hr
  simp at h
  subst h
  exact Nat.eq_of_beq_eq_true hr.1
 | n,q::r,hr,j+1,p,h=>by
  simp only [TK,Bool.and_eq_true] at hr
  have:=ND hr.2 j p (by simpa using h)
  omega
def Gu (c:ED) (x:Gf c.fp) (y:EJ c.bp):St:={ s:=TU (Jh c.fp x),l:=EH 0 c.bp y,k:=[(0,Uu (EH 0 c.bp y))],b:=4096 }
def K5 (e:Ty) (fp:List Pt) (x:List e.den) (y:Gf fp):St:={ s:=TU (.row 0::Jh fp y),l:=[(0,.row e x)],k:=[],b:=4096 }
def Fp {α:Type}:(bs:List Bt)->(w:Option Nat)->EJ bs->List (Nat×Ob)->Option α->Option α
 | [],_,_,[],k=>k
 | b::bs,w,d,(_,ob)::l,k=>match w with
  | some 0=>Fp bs none d.2 l k
  | some (n+1)=>(Rq b ob).bind fun d'=>bif WS b d.1 d' then Fp bs (some n) d.2 l k else none
  | none=>(Rq b ob).bind fun d'=>bif WS b d.1 d' then Fp bs none d.2 l k else none
 | _,_,_,_,_=>none
def PD:(bs:List Bt)->(w:Nat)->List (Nat×Ob)->Option (wD bs w)
 | [],_,_=>none
 | _::_,_,[]=>none
 | b::_,0,(_,ob)::_=>Rq b ob
 | _::bs,n+1,_::l=>PD bs n l
def Fw (wt:List (Nat×RV)):List Bt->Nat->Option (List Nat)
 | [],_=>some []
 | _::bs,j=>match lk j wt with
  | some (.loc i [])=>(Fw wt bs (j+1)).bind fun r=>some (i::r)
  | some (.mp i)=>(Fw wt bs (j+1)).bind fun r=>some (i::r)
  | some (.row i)=>(Fw wt bs (j+1)).bind fun r=>some (i::r)
  | _=>none
theorem Ky {α:Type} {k:Option α} {r:α}:∀ {bs:List Bt} {w:Option Nat} {d:EJ bs} {l:List (Nat×Ob)} {m:Nat},Fp bs w d l k=some r->(∀ j p,l[j]? = some p->p.1=m+j)->
  k=some r/\∀ j,(∀ n,w=some n->j≠m+n)->lk j l=lk j (EH m bs d)
 | [],_,_,[],_,h,_=>⟨h,fun _ _=>rfl⟩
 | [],_,_,_::_,_,h,_=>by simp [Fp] at h
 | _::_,_,_,[],_,h,_=>by simp [Fp] at h
 | b::bs,w,d,(i,ob)::l,m,h,hi=>by
  have hi0:i=m:=by simpa using hi 0 (i,ob) rfl
  subst hi0
  have hi':∀ j p,l[j]? = some p->p.1=(i+1)+j:=fun j p hp=>by
   have:=hi (j+1) p (by simpa using hp)
   omega
  have one:∀ {w':Option Nat},((Rq b ob).bind fun d'=>bif WS b d.1 d' then Fp bs w' d.2 l k else none)=some r->(∀ j,(∀ n,w=some n->j≠i+n)->∀ n,w'=some n->j≠i+1+n)->k=some r/\∀ j,(∀ n,w=some n->j≠i+n)->lk j ((i,ob)::l)=lk j (EH i (b::bs) d):=by
   intro w' h hw
   obtain ⟨d',h1,h⟩:=Option.bind_eq_some_iff.1 h
   cases hb:WS b d.1 d' with
   | false=>simp [hb] at h
   | true=>
    simp only [hb,cond_true] at h
    obtain ⟨g1,g2⟩:=Ky h hi'
    refine ⟨g1,fun j hj=>?_⟩
    simp only [EH,AF]
    split
    ·rw [Oq h1,VT hb]
    ·exact g2 j (hw j hj)
  match w,h with
  | some 0,h=>
   simp only [Fp] at h
   obtain ⟨g1,g2⟩:=Ky h hi'
   refine ⟨g1,fun j hj=>?_⟩
   have hne:j≠i:=by simpa using hj 0 rfl
   simp only [EH,AF,if_neg hne]
   exact g2 j fun n hn=>by cases hn
  | some (n+1),h=>
   simp only [Fp] at h
   exact one h fun j hj m hm=>by cases hm;have:=hj (n+1) rfl;omega
  | none,h=>
   simp only [Fp] at h
   exact one h fun j _ m hm=>by cases hm
theorem QJ:∀ {bs:List Bt} {w:Nat} {l:List (Nat×Ob)} {z:wD bs w} {m:Nat},PD bs w l=some z->(∀ j p,l[j]? = some p->p.1=m+j)->lk (m+w) l=some (IK bs w z)
 | [],_,_,_,_,h,_=>by simp [PD] at h
 | _::_,_,[],_,_,h,_=>by simp [PD] at h
 | b::_,0,(i,ob)::l,z,m,h,hi=>by
  have hi0:i=m:=by simpa using hi 0 (i,ob) rfl
  subst hi0
  simp only [PD] at h
  simp [AF,IK,Oq h]
 | _::bs,n+1,(i,ob)::l,z,m,h,hi=>by
  have hi0:i=m:=by simpa using hi 0 (i,ob) rfl
  subst hi0
  simp only [PD] at h
  have:=QJ (m:=i+1) h fun j p hp=>by have:=hi (j+1) p (by simpa using hp);omega
  simp only [AF,IK]
  rw [if_neg (by omega),← this]
  congr 1
  omega
end Go.Lift
