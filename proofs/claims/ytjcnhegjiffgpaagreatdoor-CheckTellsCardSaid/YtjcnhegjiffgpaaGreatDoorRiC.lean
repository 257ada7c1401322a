import Derived.Test.YtjcnhegjiffgpaaGreatDoorRiB
set_option linter.unusedSimpArgs false
namespace Go.Lift
open Go.RowKit
theorem bJ {α β:Type} (f:α->β) (i:Nat):∀ (s:List (Nat×α)),lk i (s.map λp=>(p.1,f p.2))=(lk i s).map f
 | []=>rfl
 | (j,x)::r=>by simp only [List.map_cons,Bl,bJ f i r];split <;> simp
def l9 {α:Type} (id:Nat):List (Nat×α)->List (Nat×α)
 | []=>[]
 | (j,e)::r=>bif Nat.beq id j then l9 id r else (j,e)::l9 id r
def VJ {α:Type} (id:Nat) (v:α):List (Nat×α)->List (Nat×α)
 | []=>[]
 | (j,e)::r=>bif Nat.beq id j then (j,v)::r else (j,e)::VJ id v r
theorem iM {α:Type} (id j:Nat):∀ (l:List (Nat×α)),lk j (l9 id l)=if j=id then none else lk j l
 | []=>by simp [l9,lk]
 | (i,x)::r=>by
  simp only [l9]
  cases hb:Nat.beq id i with
  | true=>
   have:=Aa hb
   subst this
   simp only [AL,iM id j r,Bl]
   split <;> rfl
  | false=>
   have:id≠i:=λh=>by subst h;simp at hb
   simp only [AJ,Bl,iM id j r]
   by_cases h1:j=i
   ·subst h1;simp [Ne.symm this]
   ·simp [h1]
theorem M6 {α:Type} (id j:Nat) (v:α):∀ (l:List (Nat×α)),lk j (VJ id v l)=if j=id then (lk id l).map (λ_=>v) else lk j l
 | []=>by simp [VJ,lk]
 | (i,x)::r=>by
  simp only [VJ]
  cases hb:Nat.beq id i with
  | true=>
   have:=Aa hb
   subst this
   simp only [AL,Bl]
   by_cases h1:j=id
   ·simp [h1]
   ·simp [h1]
  | false=>
   have:id≠i:=λh=>by subst h;simp at hb
   simp only [AJ,Bl,M6 id j v r]
   by_cases h1:j=i
   ·subst h1;simp [Ne.symm this]
   ·simp [h1,this]
def Ei (f:Nat->Option Nat):Ob->Ob
 | .var t c=>.var t (Ce f c)
 | .row t xs=>.row t xs
 | .mp kt vt es=>.mp kt vt es
 | .lp c q=>.lp (Ce f c) q
def Ym (f:Nat->Option Nat) (s:List (Nat×RV)):List (Nat×RV):=s.map λp=>(p.1,Ce f p.2)
def QLJ (f:Nat->Option Nat) (l:List (Nat×Ob)):List (Nat×Ob):=l.map λp=>(p.1,Ei f p.2)
def Uw (f:Nat->Option Nat) (k:List (Nat×List (Nat×RV))):List (Nat×List (Nat×RV)):=k.map λp=>(p.1,Ym f p.2)
theorem R7 (f:Nat->Option Nat) (o:Ob):(Ei f o).shape=o.shape:=by cases o <;> rfl
theorem Gi (o:Ob):Ei some o=o:=by cases o <;> simp [Ei,RD]
theorem IZ (s:List (Nat×RV)):Ym some s=s:=by simp [Ym,RD]
theorem Ju (k:List (Nat×List (Nat×RV))):Uw some k=k:=by simp [Uw,IZ]
section
variable {b0:Nat->Prop} {M M':Own} {w w':World} {β β':Nat->Nat} {τ τ':Nat->Value} {L L':List (Nat×Ob)} {f:Nat->Option Nat}
theorem LW.ext {t:Ty} {xs:List t.den} {v:Value} (h:LW b0 M w t xs v) (hext:Ext M w M' w') (hb:∀ b,LV v=some b->w'.heap[b]? = w.heap[b]?/\∀ o,M' b o->M b o):LW b0 M' w' t xs v:=by
 obtain ⟨a,cap,row,rfl,h1,h2,h3,h4,h5⟩:=h
 refine ⟨a,cap,row,rfl,h1,h2,h3,h4.mono (λ_ _ r=>EA.ext hext r),λa0 ha hc=>?_⟩
 obtain ⟨b,cur,T,rfl,g1,g2,g3,g4,g5⟩:=h5 a0 ha hc
 subst ha
 obtain ⟨k1,k2⟩:=hb b (by simp [LV];omega)
 exact ⟨b,cur,T,rfl,g1,by rw [k1];exact g2,g3,g4,λo m=>g5 o (k2 o m)⟩
theorem MX.map (hext:Ext M w M' w') (hm:Gq f L β τ L' β' τ') {id j:Nat} {ob:Ob} (hf:f id=some j) (hl:lk id L=some ob) (ho:MX b0 M w β τ L id ob)
  (hb:∀ b,blk β τ id ob=some b->w'.heap[b]? = w.heap[b]?/\∀ o,M' b o->M b o):MX b0 M' w' β' τ' L' j (Ei f ob):=by
 obtain ⟨_,_,_,hβ,hτ⟩:=hm id j ob hf hl
 cases ob with
 | var t c=>
  obtain ⟨h1,⟨cs,T,h2,h3⟩,h4⟩:=ho
  obtain ⟨k1,k2⟩:=hb (β id) rfl
  simp only [Ei,MX,hβ]
  exact ⟨h1,⟨cs,T,by rw [k1];exact h2,(h3.ext hext).map hm⟩,λo m=>h4 o (k2 o m)⟩
 | row t xs=>
  obtain ⟨h1,h2⟩:=ho
  simp only [Ei,MX,hβ,hτ]
  exact ⟨h1.ext hext hb,h2⟩
 | mp kt vt es=>
  obtain ⟨h1,⟨arr,clock,h2,h3⟩,h4⟩:=ho
  obtain ⟨k1,k2⟩:=hb (β id) rfl
  simp only [Ei,MX,hβ]
  exact ⟨h1,⟨arr,clock,by rw [k1];exact h2,h3.ext hext⟩,λo m=>h4 o (k2 o m)⟩
 | lp con q=>
  obtain ⟨h1,⟨r,h2,h3,m,h5⟩,h4⟩:=ho
  obtain ⟨k1,k2⟩:=hb (β id) rfl
  simp only [Ei,MX,hβ]
  exact ⟨h1,⟨r,by rw [k1];exact h2,h3,m,(h5.ext hext).map hm⟩,λo m=>h4 o (k2 o m)⟩
theorem fq.map (hext:Ext M w M' w') (hm:Gq f L β τ L' β' τ') {s:List (Nat×RV)} {a:Act} (h:fq M w β τ L s a):fq M' w' β' τ' L' (Ym f s) a:=by
 intro i rv hi
 rw [Ym,bJ,Option.map_eq_some_iff] at hi
 obtain ⟨rv0,h0,rfl⟩:=hi
 obtain ⟨u,hu,r⟩:=h i rv0 h0
 exact ⟨u,hu,(r.ext hext).map hm⟩
theorem fu.map (hext:Ext M w M' w') (hm:Gq f L β τ L' β' τ'):∀ {k:List (Nat×List (Nat×RV))} {as:List Act},fu M w β τ L k as->fu M' w' β' τ' L' (Uw f k) as
 | [],[],_=>trivial
 | _::_,_::_,h=>⟨h.1.map hext hm,fu.map hext hm h.2⟩
 | [],_::_,h=>h.elim
 | _::_,[],h=>h.elim
end
section
variable {w0:World} {M0:Bs} {N:Nat} {M M':Own} {β β':Nat->Nat} {τ τ':Nat->Value} {st st':St} {a:Act} {as:List Act} {w w':World} {f:Nat->Option Nat}
theorem Sm.gen (s:Sm w0 M0 N M β τ st a as w) (hext:Ext M w M' w') (hbel:Below w0.heap.size w0 w') (hlt:∀ b o,M' b o->b < w'.heap.size) (hnew:∀ b o,M' b o->M0.M b o\/w0.heap.size<=b) (hkp:∀ b,M0.kp b->w'.heap[b]? = w.heap[b]?/\∀ o,M' b o->M b o)
  (hm:Gq f st.l β τ st'.l β' τ') (hs:st'.s=Ym f st.s) (hk:st'.k=Uw f st.k) (nH:∀ id ob,lk id st'.l=some ob->MX (ownB w0 M0) M' w' β' τ' st'.l id ob)
  (hdj:∀ id id' ob Ij b,lk id st'.l=some ob->lk id' st'.l=some Ij->blk β' τ' id ob=some b->blk β' τ' id' Ij=some b->id=id'):Sm w0 M0 N M' β' τ' st' a as w' where
 df:=s.df
 sz:=s.sz
 J6:=hbel
 mlt:=hlt
 Yn:=λb o m=>(hext b o (s.Yn b o m)).1
 gk:=s.gk
 gx:=s.gx.trans hext
 kp:=λb h=>by
  obtain ⟨⟨k1,k2⟩,k3⟩:=s.kp b h
  obtain ⟨g1,g2⟩:=hkp b h
  refine ⟨⟨g1.trans k1,?_⟩,λo m=>k3 o (g2 o m)⟩
  rw [Array.getElem?_eq_getElem k2] at g1
  exact (Am.1 g1).1
 Fu:=hnew
 fr:=by rw [hs];exact s.fr.map hext hm
 fs:=by rw [hk];exact s.fs.map hext hm
 ob:=nH
 dj:=hdj
def Jd (st:St) (d:Option Nat) (rv:RV):St:=
 match d with
 | some d=>{ st with s:=(d,rv)::st.s }
 | none=>st
theorem Sm.set (s:Sm w0 M0 N M β τ st a as w) (d:Option Nat) (hd:∀ i,d=some i->i < N) {rv:RV} {v:Value} (hv:RR M w β τ st.l rv .sl [v]):Sm w0 M0 N M β τ (Jd st d rv) (a.put d v) as w:=by
 cases d with
 | none=>exact s
 | some d=>
  have hd':d < a.tmps.size:=by rw [s.sz];exact hd d rfl
  refine { df:=s.df,sz:=by simp [Act.put,s.sz],J6:=s.J6,mlt:=s.mlt,Yn:=s.Yn,gk:=s.gk,gx:=s.gx,kp:=s.kp,Fu:=s.Fu,fr:=?_,fs:=s.fs,ob:=s.ob,dj:=s.dj }
  intro i rv' h
  simp only [Jd,Bl] at h
  rw [QOt hd']
  split at h
  ·rename_i hi
   subst hi
   cases h
   exact ⟨v,by simp,hv⟩
  ·rename_i hi
   rw [AX hi]
   exact s.fr i rv' h
theorem Sm.block (s:Sm w0 M0 N M β τ st a as w) {id:Nat} {ob:Ob} {b:Nat} (hl:lk id st.l=some ob) (hb:blk β τ id ob=some b):b < w.heap.size/\ownB w0 M0 b/\(∀ o,¬ M b o)/\((∃ cur T fz,w.heap[b]? = some (.cells cur T fz))\/(∃ arr clock,w.heap[b]? = some (.map arr clock))\/∃ r,w.heap[b]? = some (.loop r)):=by
 have ho:=s.ob id ob hl
 cases ob with
 | var t c=>
  cases hb
  obtain ⟨h1,⟨cs,T,h2,h3⟩,h4⟩:=ho
  exact ⟨(Am.1 h2).1,h1,h4,.inl ⟨_,_,_,h2⟩⟩
 | mp kt vt es=>
  cases hb
  obtain ⟨h1,⟨arr,clock,h2,h3⟩,h4⟩:=ho
  exact ⟨(Am.1 h2).1,h1,h4,.inr (.inl ⟨_,_,h2⟩)⟩
 | lp con q=>
  cases hb
  obtain ⟨h1,⟨r,h2,h3⟩,h4⟩:=ho
  exact ⟨(Am.1 h2).1,h1,h4,.inr (.inr ⟨_,h2⟩)⟩
 | row t xs=>
  obtain ⟨⟨a,cap,row,h0,h1,h2,h3,h4,h5⟩,_⟩:=ho
  simp only [blk] at hb
  rw [h0] at hb
  cases a with
  | none=>simp [LV] at hb
  | some a0=>
   simp only [LV] at hb
   split at hb
   ·cases hb
   ·cases hb
    obtain ⟨b,cur,T,rfl,g1,⟨fz,gz,g2⟩,g3,g4,g5⟩:=h5 a0 rfl (by omega)
    exact ⟨(Am.1 g2).1,g1,g5,.inl ⟨_,_,_,g2⟩⟩
theorem Sm.new (s:Sm w0 M0 N M β τ st a as w) {b:Nat} (h:w.heap.size<=b):ownB w0 M0 b:=
 ⟨Nat.le_trans s.J6.size h,λk=>by have:=(s.kp b k).1.2;omega⟩
theorem Sm.grow (s:Sm w0 M0 N M β τ st a as w) (g:Gr M w M' w'):Sm w0 M0 N M' β τ st a as w':=by
 have hm:Gq some st.l β τ st.l β τ:=λid j ob hf hl=>by cases hf;exact ⟨ob,hl,rfl,rfl,rfl⟩
 refine s.gen (f:=some) g.ext (s.J6.trans (g.J6.mono s.J6.size)) g.lt (λb o m=>(g.new b o m).elim (λm=>s.Fu b o m) (λl=>.inr (Nat.le_trans s.J6.size l))) (λb k=>⟨g.J6.block _ (s.kp b k).1.2,λo m=>(g.new b o m).elim (λh=>h) (λl=>by have:=(s.kp b k).1.2;omega)⟩) hm (IZ _).symm (Ju _).symm ?_ s.dj
 intro id ob hl
 have:=MX.map (f:=some) g.ext hm rfl hl (s.ob id ob hl) λb hb=>by
  obtain ⟨k1,k2,k3,_⟩:=s.block hl hb
  exact ⟨g.J6.block _ k1,λo m=>(g.new b o m).elim (λh=>h) (λl=>by omega)⟩
 rwa [Gi] at this
def R5 (d:Nat) (id:Nat):Option Nat:=bif Nat.beq id d then none else some id
def OX (d:Nat) (st:St):St:={ s:=Ym (R5 d) st.s,l:=l9 d (QLJ (R5 d) st.l),k:=Uw (R5 d) st.k,b:=st.b }
theorem QDp {d id j:Nat} (h:R5 d id=some j):j=id/\id≠d:=by
 unfold R5 at h
 cases hb:Nat.beq id d with
 | true=>simp [hb] at h
 | false=>simp [hb] at h;exact ⟨h.symm,λe=>by subst e;simp at hb⟩
theorem sG {d id:Nat} (h:id≠d):R5 d id=some id:=by
 unfold R5
 cases hb:Nat.beq id d with
 | true=>exact absurd (Aa hb) h
 | false=>rfl
theorem bF (d:Nat) (st:St) (id:Nat):lk id (OX d st).l=if id=d then none else (lk id st.l).map (Ei (R5 d)):=by
 simp only [OX,iM,QLJ,bJ]
theorem Zb (d:Nat):Gq (R5 d) st.l β τ (OX d st).l β τ:=by
 intro id j ob hf hl
 obtain ⟨rfl,hne⟩:=QDp hf
 exact ⟨Ei (R5 d) ob,by rw [bF,AX hne,hl];rfl,R7 _ _,rfl,rfl⟩
theorem JW {d id:Nat} {ob:Ob} (h:lk id (OX d st).l=some ob):id≠d/\∃ XL,lk id st.l=some XL/\ob=Ei (R5 d) XL:=by
 rw [bF] at h
 split at h
 ·cases h
 ·rename_i hne
  obtain ⟨o,h1,h2⟩:=Option.map_eq_some_iff.1 h
  exact ⟨hne,o,h1,h2.symm⟩
theorem TU {id:Nat} (f:Nat->Option Nat) (ob:Ob):blk β τ id (Ei f ob)=blk β τ id ob:=by cases ob <;> rfl
theorem Sm.kill (s:Sm w0 M0 N M β τ st a as w) (d:Nat):Sm w0 M0 N M β τ (OX d st) a as w:=by
 refine s.gen (f:=R5 d) (Ext.refl M w) s.J6 s.mlt s.Fu (λ_ _=>⟨rfl,λ_ h=>h⟩) (Zb d) rfl rfl ?_ ?_
 ·intro id ob h
  obtain ⟨hne,o,h1,rfl⟩:=JW h
  exact MX.map (Ext.refl M w) (Zb d) (sG hne) h1 (s.ob id o h1) λb _=>⟨rfl,λ_ h=>h⟩
 ·intro id id' ob Ij b h h' hb hb'
  obtain ⟨_,o,h1,rfl⟩:=JW h
  obtain ⟨_,o',h1',rfl⟩:=JW h'
  rw [TU] at hb hb'
  exact s.dj id id' o o' b h1 h1' hb hb'
def QA9 (bn:Nat) (v:Value):Ob->Option Nat
 | .var _ _=>some bn
 | .row _ _=>LV v
 | .mp _ _ _=>some bn
 | .lp _ _=>some bn
def addN (id:Nat) (ob:Ob) (st:St):St:={ st with l:=(id,ob)::st.l }
theorem Sm.QKR (s:Sm w0 M0 N M β τ st a as w) {id:Nat} {ob:Ob} (hid:lk id st.l=none) (hext:Ext M w M' w') (hbel:Below w0.heap.size w0 w') (hlt:∀ b o,M' b o->b < w'.heap.size) (hnew:∀ b o,M' b o->M0.M b o\/w0.heap.size<=b) (hkp:∀ b,M0.kp b->w'.heap[b]? = w.heap[b]?/\∀ o,M' b o->M b o) {bn:Nat} {v:Value}
  (hold:∀ j o b,lk j st.l=some o->blk β τ j o=some b->w'.heap[b]? = w.heap[b]?/\(∀ o,M' b o->M b o)/\QA9 bn v ob≠some b)
  (ho:∀ β' τ',β' id=bn->τ' id=v->(Gq some st.l β τ ((id,ob)::st.l) β' τ')->MX (ownB w0 M0) M' w' β' τ' ((id,ob)::st.l) id ob) :
  Sm w0 M0 N M' (λj=>if j=id then bn else β j) (λj=>if j=id then v else τ j) (addN id ob st) a as w':=by
 have hne:∀ j o,lk j st.l=some o->j≠id:=λj o h e=>by subst e;rw [hid] at h;cases h
 have hm:Gq some st.l β τ ((id,ob)::st.l) (λj=>if j=id then bn else β j) (λj=>if j=id then v else τ j):=by
  intro i j o hf hl
  cases hf
  have:=hne i o hl
  exact ⟨o,by rw [Bl,AX this];exact hl,rfl,AX this,AX this⟩
 have hbk:blk (λj=>if j=id then bn else β j) (λj=>if j=id then v else τ j) id ob=QA9 bn v ob:=by
  cases ob <;> simp [blk,QA9]
 have hbo:∀ j o,j≠id->blk (λj=>if j=id then bn else β j) (λj=>if j=id then v else τ j) j o=blk β τ j o:=by
  intro j o hj;cases o <;> simp [blk,hj]
 refine s.gen (f:=some) (st':=addN id ob st) hext hbel hlt hnew hkp hm (IZ _).symm (Ju _).symm ?_ ?_
 ·intro j o h
  simp only [addN,Bl] at h
  split at h
  ·rename_i hj
   subst hj
   cases h
   exact ho _ _ (by simp) (by simp) hm
  ·have:=MX.map (f:=some) hext (λi j o hf hl=>hm i j o hf hl) rfl h (s.ob j o h) λb hb=>⟨(hold j o b h hb).1,(hold j o b h hb).2.1⟩
   rwa [Gi] at this
 ·intro j j' o o' b h h' hb1 hb2
  simp only [addN,Bl] at h h'
  by_cases hj:j=id <;> by_cases hj':j'=id
  ·rw [hj,hj']
  ·rw [AX hj'] at h'
   rw [AY hj] at h
   cases h
   subst hj
   rw [hbk] at hb1
   rw [hbo _ _ hj'] at hb2
   exact absurd hb1 (hold _ _ b h' hb2).2.2
  ·rw [AX hj] at h
   rw [AY hj'] at h'
   cases h'
   subst hj'
   rw [hbk] at hb2
   rw [hbo _ _ hj] at hb1
   exact absurd hb2 (hold _ _ b h hb1).2.2
  ·rw [AX hj] at h
   rw [AX hj'] at h'
   rw [hbo _ _ hj] at hb1
   rw [hbo _ _ hj'] at hb2
   exact s.dj j j' o o' b h h' hb1 hb2
theorem Sm.add (s:Sm w0 M0 N M β τ st a as w) {id:Nat} {ob:Ob} (hid:lk id st.l=none) (g:Gr M w M' w') {bn:Nat} {v:Value}
  (ho:∀ β' τ',β' id=bn->τ' id=v->(Gq some st.l β τ ((id,ob)::st.l) β' τ')->MX (ownB w0 M0) M' w' β' τ' ((id,ob)::st.l) id ob) (hb:∀ b,QA9 bn v ob=some b->w.heap.size<=b) :
  Sm w0 M0 N M' (λj=>if j=id then bn else β j) (λj=>if j=id then v else τ j) (addN id ob st) a as w':=by
 have s':=s.grow g
 refine s.QKR hid g.ext s'.J6 s'.mlt s'.Fu (λb k=>⟨g.J6.block _ (s.kp b k).1.2,λo m=>(g.new b o m).elim (λh=>h) (λl=>by have:=(s.kp b k).1.2;omega)⟩) ?_ ho
 intro j o b h h'
 obtain ⟨k1,k2,k3,_⟩:=s.block h h'
 exact ⟨g.J6.block _ k1,λo m=>(g.new b o m).elim (λh=>h) (λl=>by omega),λe=>by have:=hb b e;omega⟩
theorem Gq.refl {L:List (Nat×Ob)}:Gq some L β τ L β τ:=λid j ob hf hl=>by cases hf;exact ⟨ob,hl,rfl,rfl,rfl⟩
theorem Sm.addVar (s:Sm w0 M0 N M β τ st a as w) {id:Nat} (hid:lk id st.l=none) {ty:Ty} {con:RV} {cs:List Value} {T:TypeId} (hr:RR M w β τ st.l con (.ce ty) cs) :
  Sm w0 M0 N M (λj=>if j=id then w.heap.size else β j) (λj=>if j=id then undef else τ j) (addN id (.var ty con) st) a as (w.alloc (.cells cs.toArray T)):=by
 have g:=Gr.alloc s.mlt (.cells cs.toArray T)
 refine s.add hid g (bn:=w.heap.size) (v:=undef) ?_ ?_
 ·intro β' τ' h1 h2 hm
  refine ⟨by rw [h1];exact s.new (Nat.le_refl _),⟨cs,T,by rw [h1];exact heap_alloc_new w _,(hr.ext g.ext).keep hm⟩,λo m=>?_⟩
  rw [h1] at m
  have:=s.mlt _ _ m
  omega
 ·intro b hb
  simp [QA9] at hb
  omega
theorem Sm.QSj (s:Sm w0 M0 N M β τ st a as w) {id:Nat} (hid:lk id st.l=none) {kt vt:Ty} {clock:Nat} :
  Sm w0 M0 N M (λj=>if j=id then w.heap.size else β j) (λj=>if j=id then undef else τ j) (addN id (.mp kt vt []) st) a as (w.alloc (.map #[] clock)):=by
 have g:=Gr.alloc s.mlt (.map #[] clock)
 refine s.add hid g (bn:=w.heap.size) (v:=undef) ?_ ?_
 ·intro β' τ' h1 h2 hm
  refine ⟨by rw [h1];exact s.new (Nat.le_refl _),⟨#[],clock,by rw [h1];exact heap_alloc_new w _,trivial⟩,λo m=>?_⟩
  rw [h1] at m
  have:=s.mlt _ _ m
  omega
 ·intro b hb
  simp [QA9] at hb
  omega
theorem Sm.QDI (s:Sm w0 M0 N M β τ st a as w) {id:Nat} (hid:lk id st.l=none) (g:Gr M w M' w') {t:Ty} {xs:List t.den} {v:Value} (hr:LW (w.heap.size<=·) M' w' t xs v) :
  Sm w0 M0 N M' (λj=>if j=id then (LV v).getD 0 else β j) (λj=>if j=id then v else τ j) (addN id (.row t xs) st) a as w':=by
 refine s.add hid g (bn:=(LV v).getD 0) (v:=v) ?_ ?_
 ·intro β' τ' h1 h2 hm
  refine ⟨?_,λb hb=>?_⟩
  ·rw [h2]
   obtain ⟨a,cap,row,h0,k1,k2,k3,k4,k5⟩:=hr
   refine ⟨a,cap,row,h0,k1,k2,k3,k4,λa0 ha hc=>?_⟩
   obtain ⟨b,cur,T,e,g1,g2⟩:=k5 a0 ha hc
   exact ⟨b,cur,T,e,s.new g1,g2⟩
  ·rw [h2] at hb
   rw [h1,hb]
   rfl
 ·intro b hb
  simp only [QA9] at hb
  obtain ⟨a,cap,row,rfl,k1,k2,k3,k4,k5⟩:=hr
  cases a with
  | none=>simp [LV] at hb
  | some a0=>
   simp only [LV] at hb
   split at hb
   ·cases hb
   ·cases hb
    obtain ⟨b,cur,T,rfl,g1,_⟩:=k5 a0 rfl (by omega)
    exact g1
end
end Go.Lift
