import Derived.Test.YtbgmjjplddddnaaGreatDoorRiA
set_option linter.unusedSimpArgs false
namespace Go.Lift
open Go.RowKit
def PC {X:Type} (F:(β:Type)->(X->Option β)->Option β):Prop:=
 ∀ (β:Type) (k:X->Option β) (r:β),F β k=some r->∃ x,(∀ (γ:Type) (k':X->Option γ),F γ k'=k' x)/\k x=some r
theorem PC.ret {X:Type} (x:X):PC (fun _ (k:X->Option _)=>k x):=fun _ _ _ h=>⟨x,fun _ _=>rfl,h⟩
theorem PC.none {X:Type}:PC (X:=X) (fun _ _=>Option.none):=fun _ _ _ h=>by cases h
theorem PC.bind {X γ:Type} {x:Option γ} {g:(β:Type)->γ->(X->Option β)->Option β} (h:∀ y,PC (fun β k=>g β y k)):PC (fun β k=>x.bind fun y=>g β y k):=fun β k r hk=>by
 obtain ⟨y,rfl,hk⟩:=AO.1 hk
 exact h y β k r hk
theorem PC.bif {X:Type} {c:Bool} {f g:(β:Type)->(X->Option β)->Option β} (hf:PC f) (hg:PC g):PC (fun β k=>bif c then f β k else g β k):=fun β k r hk=>by
 cases c with
 | true=>exact hf β k r hk
 | false=>exact hg β k r hk
theorem PC.ite {X:Type} {c:Prop} [Decidable c] {f g:(β:Type)->(X->Option β)->Option β} (hf:PC f) (hg:PC g):PC (fun β k=>if c then f β k else g β k):=fun β k r hk=>by
 by_cases hc:c
 ·simp only [hc,if_true] at hk ⊢;exact hf β k r hk
 ·simp only [hc,if_false] at hk ⊢;exact hg β k r hk
theorem PC.comp {X Y:Type} {F:(β:Type)->(X->Option β)->Option β} {G:(β:Type)->X->(Y->Option β)->Option β} (hF:PC F) (hG:∀ x,PC (fun β k=>G β x k)):PC (fun β k=>F β fun x=>G β x k):=fun β k r hk=>by
 obtain ⟨x,h1,h2⟩:=hF β _ r hk
 obtain ⟨y,h3,h4⟩:=hG x β k r h2
 exact ⟨y,fun γ k'=>(h1 γ _).trans (h3 γ k'),h4⟩
theorem Nl {X:Type} {t:Ty} {x:t.den} {p:List Step} {g:(β:Type)->TV->(X->Option β)->Option β} (h:∀ v,PC (fun β k=>g β v k)):PC (fun β k=>KO (fun v=>g β v k) t x p):=by
 have:(fun β (k:X->Option β)=>KO (fun v=>g β v k) t x p)=(fun β k=>(Eo t x p).bind fun v=>g β v k):=by
  funext β k;exact Gy _ _ _ _
 rw [this]
 exact PC.bind h
def DC {α:Type} (k:Ty->RV->Option α):Ty->RV->List Step->Option α
 | t,rv,[]=>k t rv
 | .pair a _,.pair x _,.EO 0::p=>DC k a x p
 | .pair _ b,.pair _ y,.EO (n+1)::p=>DC k b y (.EO n::p)
 | _,.val v,s::p=>KO (fun u=>k u.1 (.val u)) v.1 v.2 (s::p)
 | _,_,_=>none
theorem FT {X:Type} {g:(β:Type)->Ty->RV->(X->Option β)->Option β} (h:∀ t rv,PC (fun β k=>g β t rv k)):∀ (t:Ty) (rv:RV) (p:List Step),PC (fun β k=>DC (fun t rv=>g β t rv k) t rv p):=by
 intro t rv p
 fun_induction DC (α:=Unit) (fun _ _=>none) t rv p with
 | case1 t rv=>simpa only [DC] using h t rv
 | case2 a b x y p ih=>simpa only [DC] using ih
 | case3 a b x y p n ih=>simpa only [DC] using ih
 | case4 t v s p=>simp only [DC];exact Nl fun v=>h v.1 (.val v)
 | case5 t rv p h1 h2 h3 h4=>
  have:(fun β (k:X->Option β)=>DC (fun t rv=>g β t rv k) t rv p)=fun _ _=>Option.none:=by
   funext β k
   unfold DC
   split
   ·exact (h1 rfl).elim
   ·exact (h3 _ _ _ _ _ rfl rfl rfl).elim
   ·exact (h4 _ _ _ _ _ _ rfl rfl rfl).elim
   ·exact (h2 _ _ _ rfl rfl).elim
   ·rfl
  rw [this];exact PC.none
theorem N7 {M:Own} {w:World} {β:Nat->Nat} {τ:Nat->Value} {L:List (Nat×Ob)}:∀ {ty:Ty} {con:RV} {p:List Step} {off:Nat} {t2 t':Ty} {rv':RV} {cs:List Value},DC (fun t rv=>some (t,rv)) ty con p=some (t',rv')->Bc ty p=some (off,t2)->
  RR M w β τ L con (.ce ty) cs->t'=t2/\∃ c0 c1 c2,cs=c0++(c1++c2)/\c0.length=off/\RR M w β τ L rv' (.ce t') c1:=by
 intro ty con p
 fun_induction DC (α:=Ty×RV) (fun t rv=>some (t,rv)) ty con p with
 | case1 t rv=>
  intro off t2 t' rv' cs h ho r
  cases h
  have ho':Bc t []=some (0,t):=by cases t <;> rfl
  rw [ho'] at ho
  cases ho
  exact ⟨rfl,[],cs,[],by simp,rfl,r⟩
 | case2 a b x y p ih=>
  intro off t2 t' rv' cs h ho r
  simp only [RR] at r
  obtain ⟨ta,tb,c1,c2,e,rfl,r1,r2⟩:=r
  cases e
  simp only [Bc] at ho
  obtain ⟨g1,d0,d1,d2,g2,g3,g4⟩:=ih h ho r1
  exact ⟨g1,d0,d1,d2++c2,by rw [g2];simp,g3,g4⟩
 | case3 a b x y p n ih=>
  intro off t2 t' rv' cs h ho r
  simp only [RR] at r
  obtain ⟨ta,tb,c1,c2,e,rfl,r1,r2⟩:=r
  cases e
  simp only [Bc,AO,Ac,Prod.mk.injEq] at ho
  obtain ⟨⟨o1,u1⟩,ho1,rfl,rfl⟩:=ho
  obtain ⟨g1,d0,d1,d2,g2,g3,g4⟩:=ih h ho1 r2
  refine ⟨g1,c1++d0,d1,d2,by rw [g2];simp,?_,g4⟩
  simp [r1.length,g3]
 | case4 t v s p=>
  intro off t2 t' rv' cs h ho r
  have:=r.OO (.inl (O4 ho))
  subst this
  have r:=r.2
  rw [Gy] at h
  obtain ⟨u,hu,h⟩:=AO.1 h
  cases h
  obtain ⟨h1,c0,c1,c2,e1,h2,h3⟩:=FJ hu ho r
  exact ⟨h1,c0,c1,c2,e1,h2,.inl rfl,h3⟩
 | case5 t rv p h1 h2 h3 h4=>intro off t2 t' rv' cs h;cases h
def Cr {α:Type} (pk:RV->(TV->Option α)->Option α):RV->(t:Ty)->(t.den->Option α)->Option α
 | .val v,t,k=>(TV.as t v).bind k
 | .pair x y,t,k=>match t with
  | .pair a b=>Cr pk x a fun x=>Cr pk y b fun y=>k (x,y)
  | _=>none
 | .unit,t,k=>match t with
  | .unit=>k ()
  | _=>none
 | .any,_,_=>none
 | rv,t,k=>pk rv fun v=>(TV.as t v).bind k
def Bg {α:Type} (l:List (Nat×Ob)):Nat->RV->(TV->Option α)->Option α
 | 0,_,_=>none
 | n+1,rv,k=>match rv with
  | .val v=>k v
  | .nil t=>k ⟨.slice t,([]:List t.den)⟩
  | .row id=>match lk id l with
   | some (.row t xs)=>k ⟨.slice t,xs⟩
   | _=>none
  | .sub id lo hi=>match lk id l with
   | some (.row t xs)=>k ⟨.slice t,(List.take hi xs).drop lo⟩
   | _=>none
  | .loc id p=>match lk id l with
   | some (.var ty con)=>DC (fun t rv=>Cr (Bg l n) rv t fun x=>k ⟨.ptr t,x⟩) ty con p
   | some (.row t xs)=>match p with
    | .idx i::q=>(nth xs i.toNat).bind fun x=>KO (fun v=>k ⟨.ptr v.1,v.2⟩) t x q
    | _=>none
   | some (.mp _ _ _)=>none
   | some (.lp _ _)=>none
   | none=>none
  | .agg t r=>Cr (Bg l n) r t fun x=>k ⟨t,x⟩
  | _=>none
theorem Em {X:Type} {pk:(β:Type)->RV->(TV->Option β)->Option β} (hpk:∀ rv,PC (fun β k=>pk β rv k)):∀ {rv:RV} {t:Ty} {g:(β:Type)->t.den->(X->Option β)->Option β},(∀ x,PC (fun β k=>g β x k))->
  PC (fun β k=>Cr (pk β) rv t fun x=>g β x k):=by
 intro rv
 induction rv with
 | val v=>intro t g h;exact PC.bind h
 | pair x y QN ihy=>
  intro t g h
  cases t with
  | pair a b=>
   simp only [Cr]
   exact QN (g:=fun β x k=>Cr (pk β) y b fun y=>g β (x,y) k) fun x=>ihy (g:=fun β y k=>g β (x,y) k) fun y=>h (x,y)
  | _=>simp only [Cr];exact PC.none
 | unit=>
  intro t g h
  cases t with
  | unit=>exact h ()
  | _=>simp only [Cr];exact PC.none
 | any=>intro t g h;exact PC.none
 | _=>intro t g h;simp only [Cr];exact PC.comp (G:=fun β v k=>(TV.as t v).bind fun x=>g β x k) (hpk _) fun v=>PC.bind h
theorem CS {l:List (Nat×Ob)}:∀ (n:Nat) (rv:RV),PC (fun β k=>Bg (α:=β) l n rv k)
 | 0,rv=>PC.none
 | n+1,rv=>by
  cases rv with
  | val v=>exact PC.ret v
  | nil t=>exact PC.ret _
  | row id=>
   simp only [Bg]
   cases lk id l with
   | none=>exact PC.none
   | some ob=>cases ob with
    | var ty con=>exact PC.none
    | row t xs=>exact PC.ret _
    | mp=>exact PC.none
    | lp=>exact PC.none
  | sub id lo hi=>
   simp only [Bg]
   cases lk id l with
   | none=>exact PC.none
   | some ob=>cases ob with
    | var ty con=>exact PC.none
    | row t xs=>exact PC.ret _
    | mp=>exact PC.none
    | lp=>exact PC.none
  | loc id p=>
   simp only [Bg]
   cases lk id l with
   | none=>exact PC.none
   | some ob=>cases ob with
    | var ty con=>exact FT (X:=TV) (g:=fun β t rv k=>Cr (Bg l n) rv t fun x=>k ⟨.ptr t,x⟩) (fun t rv=>Em (X:=TV) (pk:=fun β rv k=>Bg (α:=β) l n rv k) (fun rv=>CS n rv) (t:=t) (g:=fun β x k=>k ⟨.ptr t,x⟩) fun x=>PC.ret _) ty con p
    | row t xs=>
     cases p with
     | nil=>exact PC.none
     | cons s q=>cases s with
      | EO i=>exact PC.none
      | idx i=>exact PC.bind (X:=TV) (g:=fun β x k=>KO (fun v=>k ⟨.ptr v.1,v.2⟩) t x q) fun x=>Nl (X:=TV) (g:=fun β v k=>k ⟨.ptr v.1,v.2⟩) fun v=>PC.ret _
    | mp=>exact PC.none
    | lp=>exact PC.none
  | agg t r=>exact Em (X:=TV) (pk:=fun β rv k=>Bg (α:=β) l n rv k) (fun rv=>CS n rv) (g:=fun β x k=>k ⟨t,x⟩) fun x=>PC.ret _
  | _=>exact PC.none
section
variable {b0:Nat->Prop} {M:Own} {w:World} {β:Nat->Nat} {τ:Nat->Value} {L:List (Nat×Ob)}
def Fh (M:Own) (β:Nat->Nat) (τ:Nat->Value) (L:List (Nat×Ob)):Own:=fun b o=>M b o∨∃ id ob,lk id L=some ob/\blk β τ id ob=some b
theorem Gw:Ext M w (Fh M β τ L) w:=fun _ _ m=>⟨.inl m,fun _ h=>h⟩
theorem Qp {t:Ty} {xs:List t.den} {row:List Value} {l h b o' c:Nat} (hs:Seq (Br M w t) row xs) (hlh:l<=h) (hh:h<=xs.length) (hcap:h - l<=c) (hm:c<=maxLen) (hrow:Row M w b o' row) (ad:Option Addr)
  (had:ad=some ⟨b,o'+l * t.n,none⟩∨(l=h)) (hz:ad=none->c=0):Bu M w (.slice t) ((xs.take h).drop l) (.slice ad (h - l) c):=by
 obtain ⟨c0,c1,c2,e2,hl2,hr⟩:=QD (fun _ _ r=>Br.length r) hs hlh hh
 have hlen:(List.drop l (List.take h xs)).length=h - l:=by simp;omega
 refine ⟨[.slice ad (h - l) c],rfl,ad,c,c1,by rw [hlen],by rw [hlen];omega,by omega,hz,hr,?_⟩
 rcases had with had | had
 ·refine .inr ⟨b,_,had,?_⟩
  rw [e2] at hrow
  have:=hrow.right.left
  rwa [hl2] at this
 ·exact .inl (by rw [hlen];omega)
theorem FY {t:Ty} {xs:List t.den} {v u:Value} {M':Own} (h:DJ b0 M w t xs v) (hM:∀ b o,M b o->M' b o) (hb:∀ b,C8 v=some b->∀ o,M' b o) {lo hi:Nat} (hlh:lo<=hi) (hhi:hi<=xs.length) (hu:KL t.n lo hi v u) :
  Bu M' w (.slice t) ((xs.take hi).drop lo) u:=by
 obtain ⟨a,cap,row,rfl,h1,h2,h3,h4,h5⟩:=h
 obtain ⟨a1,len1,QB,a',c,e1,rfl,⟨hc1,hc2⟩,h6⟩:=hu
 cases e1
 have hext:Ext M w M' w:=fun b o m=>⟨hM b o m,fun _ h=>h⟩
 have h4':=h4.mono (fun _ _ r=>Br.ext hext r)
 by_cases hcl:c=0
 ·have:hi=lo:=by omega
  subst this
  subst hcl
  have hnil:(List.take hi xs).drop hi=[]:=by simp
  rw [hnil]
  exact ⟨[_],rfl,a',0,[],by simp,by simp,by simp [maxLen],(fun _=>rfl),by simp [Seq],.inl (by simp)⟩
 ·have h7:=h6 hcl
  subst h7
  cases a with
  | none=>have:=h3 rfl;omega
  | some a0=>
   obtain ⟨b,cur,T,rfl,g1,⟨fz,gz,g2⟩,g3,g4,g5⟩:=h5 a0 rfl (by omega)
   have hrow:Row M' w b 0 row:=fun i hi=>⟨by rw [cell_of_row _ _ _ _ _ _ g2,Nat.zero_add];exact g4 i hi,hb b (by simp [C8];omega) _⟩
   exact Qp h4' hlh hhi hc1 (by omega) hrow _ (.inl (by simp [addr_add])) (by simp)
theorem DU {t:Ty} {xs:List t.den} {v:Value} (h:DJ b0 M w t xs v):KL t.n 0 xs.length v v:=by
 obtain ⟨a,cap,row,rfl,_⟩:=h
 exact ⟨a,_,cap,a,cap,rfl,by simp,⟨by omega,by omega⟩,fun _=>by cases a <;> simp [Addr.add]⟩
theorem Lh {pk:(β:Type)->RV->(TV->Option β)->Option β} {M':Own} (hM:Ext M w M' w) (hpc:∀ rv,PC (fun β k=>pk β rv k)) (hpk:∀ rv u tv,pk TV rv some=some tv->RR M w β τ L rv .sl [u]->Bu M' w tv.1 tv.2 u) :
  ∀ {rv:RV} {t:Ty} {x:t.den} {cs:List Value},Cr (pk t.den) rv t some=some x->RR M w β τ L rv (.ce t) cs->Br M' w t cs x:=by
 have one:∀ {rv:RV} {t:Ty} {x:t.den} {u:Value},(Mo.ce t).one=true->(pk t.den rv fun v=>(TV.as t v).bind some)=some x->RR M w β τ L rv .sl [u]->Br M' w t [u] x:=by
  intro rv t x u h1 h r
  obtain ⟨v,h2,h3⟩:=hpc rv _ _ _ h
  have h4:=hpk rv u v (h2 _ some) r
  obtain ⟨y,hy,h5⟩:=AO.1 h3
  cases h5
  obtain rfl:=TV.Bv hy
  obtain ⟨cs,hu,hr⟩:=h4
  have hl:=hr.length
  have:u=cs.headD undef:=by
   rw [hu,toV]
   simp [Mo.one] at h1
   simp [h1]
  have hl1:cs.length=1:=by cases t <;> simp [Mo.one,Ty.isAgg] at h1 <;> simpa [Ty.n] using hl
  obtain ⟨c,rfl⟩:=List.length_eq_one_iff.1 hl1
  simp at this
  subst this
  exact hr
 intro rv
 induction rv with
 | any=>intro t x cs h;simp [Cr] at h
 | val v=>
  intro t x cs h r
  obtain ⟨y,hy,h⟩:=AO.1 h
  cases h
  obtain rfl:=TV.Bv hy
  exact r.2.ext hM
 | pair a b iha ihb=>
  intro t x cs h r
  simp only [RR] at r
  obtain ⟨ta,tb,c1,c2,rfl,rfl,r1,r2⟩:=r
  simp only [Cr] at h
  obtain ⟨x',h1,h2⟩:=Em hpc (rv:=a) (t:=ta) (X:=ta.den) (g:=fun β x k=>k x) (fun x=>PC.ret x) _ _ _ h
  obtain ⟨y',h3,h4⟩:=Em hpc (rv:=b) (t:=tb) (X:=tb.den) (g:=fun β x k=>k x) (fun x=>PC.ret x) _ _ _ h2
  cases h4
  exact ⟨c1,c2,rfl,iha (h1 _ some) r1,ihb (h3 _ some) r2⟩
 | unit=>
  intro t x cs h r
  obtain ⟨rfl,rfl⟩:=r
  rfl
 | nil t'=>
  intro t x cs h r
  obtain ⟨rfl,rfl⟩:=r
  exact one rfl h rfl
 | row id=>
  intro t x cs h r
  simp only [RR] at r
  obtain ⟨h1,u,t',xs,rfl,r⟩:=r
  exact one h1 h (by simp only [RR];exact ⟨rfl,u,t',xs,rfl,r⟩)
 | sub id lo hi=>
  intro t x cs h r
  simp only [RR] at r
  obtain ⟨h1,u,t',xs,rfl,r⟩:=r
  exact one h1 h (by simp only [RR];exact ⟨rfl,u,t',xs,rfl,r⟩)
 | loc id p=>
  intro t x cs h r
  simp only [RR] at r
  obtain ⟨h1,u,ob,off,t',rfl,r⟩:=r
  exact one h1 h (by simp only [RR];exact ⟨rfl,u,ob,off,t',rfl,r⟩)
 | Ee f c ih=>
  intro t x cs h r
  simp only [RR] at r
  obtain ⟨h1,us,rfl,r⟩:=r
  exact one h1 h (by simp only [RR];exact ⟨rfl,us,rfl,r⟩)
 | agg t' r' ih=>intro t x cs h r;simp [RR] at r
 | Db r' ih=>intro t x cs h r;simp [RR] at r
 | mp id=>
  intro t x cs h r
  simp only [RR] at r
  obtain ⟨h1,u,kt,vt,es,rfl,r⟩:=r
  exact one h1 h (by simp only [RR];exact ⟨rfl,u,kt,vt,es,rfl,r⟩)
 | yl id=>
  intro t x cs h r
  simp only [RR] at r
  obtain ⟨h1,u,con,q,rfl,r⟩:=r
  exact one h1 h (by simp only [RR];exact ⟨rfl,u,con,q,rfl,r⟩)
theorem Dn (KP:∀ id ob,lk id L=some ob->DN b0 M w β τ L id ob):∀ (n:Nat) {rv:RV} {u:Value} {tv:TV},Bg L n rv some=some tv->RR M w β τ L rv .sl [u]->Bu (Fh M β τ L) w tv.1 tv.2 u
 | 0,_,_,_,h,_=>by cases h
 | n+1,rv,u,tv,h,r=>by
  have inner:∀ {rv:RV} {t:Ty} {x:t.den} {cs:List Value},Cr (Bg L n) rv t some=some x->RR M w β τ L rv (.ce t) cs->Br (Fh M β τ L) w t cs x:=by
   intro rv t x cs h r
   exact Lh (pk:=fun β rv k=>Bg (α:=β) L n rv k) Gw (fun rv=>CS n rv) (fun rv u tv h r=>Dn KP n h r) h r
  have Td:∀ {rv:RV} {t:Ty} {X:Type} {g:t.den->X} {z:X} {cs:List Value},(Cr (Bg L n) rv t fun x=>some (g x))=some z->RR M w β τ L rv (.ce t) cs->∃ x,z=g x/\Br (Fh M β τ L) w t cs x:=by
   intro rv t X g z cs h r
   obtain ⟨x,h1,h2⟩:=Em (pk:=fun β rv k=>Bg (α:=β) L n rv k) (fun rv=>CS n rv) (rv:=rv) (t:=t) (X:=t.den) (g:=fun β x k=>k x) (fun x=>PC.ret x) _ _ _ h
   cases h2
   exact ⟨x,rfl,inner (h1 _ some) r⟩
  cases rv with
  | val v=>
   cases h
   obtain ⟨u',e,r⟩:=r
   cases e
   exact r.ext Gw
  | nil t=>
   cases h
   have r':[u]=[Value.slice none 0 0]:=r
   cases r'
   exact ⟨[.slice none 0 0],rfl,none,0,[],by simp,by simp,by simp [maxLen],fun _=>rfl,by simp [Seq],.inl (by simp)⟩
  | row id=>
   simp only [RR] at r
   obtain ⟨_,u',t,xs,e,_,hl,hu⟩:=r
   cases e
   simp only [Bg,hl] at h
   cases h
   have ho:=(KP id _ hl).1
   have:=FY (M':=Fh M β τ L) ho (fun b o m=>.inl m) (fun b hb o=>.inr ⟨id,_,hl,hb⟩) (Nat.zero_le _) (Nat.le_refl _) (DU ho)
   rw [hu]
   simpa using this
  | sub id lo hi=>
   simp only [RR] at r
   obtain ⟨_,u',t,xs,e,_,hl,h1,h2,hu⟩:=r
   cases e
   simp only [Bg,hl] at h
   cases h
   exact FY (M':=Fh M β τ L) (KP id _ hl).1 (fun b o m=>.inl m) (fun b hb o=>.inr ⟨id,_,hl,hb⟩) h1 h2 hu
  | loc id p=>
   simp only [RR] at r
   obtain ⟨_,u',ob,off,t',e,_,hl,ho,hu⟩:=r
   cases e
   simp only [Bg,hl] at h
   cases ob with
   | var ty con=>
    simp only at h
    obtain ⟨⟨t1,ZM⟩,h1,h2⟩:=FT (X:=Ty×RV) (g:=fun β t rv k=>k (t,rv)) (fun t rv=>PC.ret _) ty con p _ (fun q:Ty×RV=>Cr (Bg L n) q.2 q.1 fun x=>(some ⟨.ptr q.1,x⟩:Option TV)) _ h
    obtain ⟨_,⟨cs,T,hb,rc⟩,_⟩:=KP id _ hl
    obtain ⟨e1,c0,c1,c2,e2,e3,r1⟩:=N7 (h1 _ some) ho rc
    obtain ⟨x,rfl,hr⟩:=Td h2 r1
    refine ⟨[u],rfl,β id,off,c1,by rw [hu],fun i hi=>⟨?_,.inr ⟨id,_,hl,rfl⟩⟩,hr⟩
    rw [cell_of_row _ _ _ _ _ _ hb,e2,← e3,List.getElem?_toArray,Ao (by omega),Nat.add_sub_cancel_left,Am hi]
   | row t xs=>
    simp only at h
    split at h
    ·rename_i i q
     simp only [Ob.shape,Dl] at ho
     obtain ⟨hi,ho⟩:=EF ho
     obtain ⟨⟨o1,t1⟩,ho1,ho⟩:=AO.1 ho
     cases ho
     obtain ⟨y,hy,h⟩:=AO.1 h
     rw [Gy] at h
     obtain ⟨v,hv,h⟩:=AO.1 h
     cases h
     obtain ⟨⟨a,cap,row,g0,g1,g2,g3,g4,g5⟩,g6⟩:=KP id _ hl
     have hpos:0 < cap:=by omega
     obtain ⟨a0,rfl⟩:∃ a0,a=some a0:=by
      cases a with
      | none=>have:=g3 rfl;omega
      | some a0=>exact ⟨a0,rfl⟩
     obtain ⟨b,cur,T,rfl,k1,⟨fz,kz,k2⟩,k3,k4,k5⟩:=g5 a0 rfl hpos
     have Vr:=g6 b (by rw [g0];simp [C8];omega)
     obtain ⟨d0,d1,d2,e1,e2,e3⟩:=g4.at (fun _ _ r=>r.length) i.toNat hy
     obtain ⟨_,c0,c1,c2,e4,e5,e6⟩:=FJ hv ho1 e3
     refine ⟨[u],rfl,β id,i.toNat * t.n+o1,c1,by rw [hu],fun j hj=>⟨?_,.inr ⟨id,_,hl,by simp only [blk];rw [g0];simp [C8,Vr];omega⟩⟩,e6.ext Gw⟩
     rw [← Vr,cell_of_row _ _ _ _ _ _ k2,k4 _ (by rw [e1,e4];simp;omega),e1,e4,Ao (by omega),Ab,Ao (by omega),Ab,Am (by omega)]
     congr 1
     omega
    ·cases h
   | mp=>cases h
   | lp=>cases h
  | agg t r'=>
   simp only [RR] at r
   obtain ⟨_,hag,c,e,r⟩:=r
   cases e
   simp only [Bg] at h
   obtain ⟨x,rfl,hr⟩:=Td h r
   exact ⟨c,by simp [toV,hag],hr⟩
  | any=>simp [Bg] at h
  | Ee f c=>simp [Bg] at h
  | unit=>simp [Bg] at h
  | pair a b=>simp [Bg] at h
  | Db r=>simp [Bg] at h
  | mp id=>simp [Bg] at h
  | yl id=>simp [Bg] at h
end
end Go.Lift
