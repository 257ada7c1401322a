import Derived.Test.YtbgmjjplddddnaaGreatDoorRiB
namespace Go.Lift
open Go.RowKit
theorem F8 {α β:Type} (f:α->β) (i:Nat):∀ (s:List (Nat×α)),lk i (s.map fun p=>(p.1,f p.2))=(lk i s).map f
 | []=>rfl
 | (j,x)::r=>by simp only [List.map_cons,AF,F8 f i r];split <;> simp
def JI {α:Type} (id:Nat):List (Nat×α)->List (Nat×α)
 | []=>[]
 | (j,e)::r=>bif Nat.beq id j then JI id r else (j,e)::JI id r
def Dw {α:Type} (id:Nat) (v:α):List (Nat×α)->List (Nat×α)
 | []=>[]
 | (j,e)::r=>bif Nat.beq id j then (j,v)::r else (j,e)::Dw id v r
theorem Hr {α:Type} (id j:Nat):∀ (l:List (Nat×α)),lk j (JI id l)=if j=id then none else lk j l
 | []=>by simp [JI,lk]
 | (i,x)::r=>by
  simp only [JI]
  cases hb:Nat.beq id i with
  | true=>
   have:=Nat.eq_of_beq_eq_true hb
   subst this
   simp only [cond_true,Hr id j r,AF]
   split <;> rfl
  | false=>
   have:id≠i:=fun h=>by subst h;simp at hb
   simp only [cond_false,AF,Hr id j r]
   by_cases h1:j=i
   ·subst h1;simp [Ne.symm this]
   ·simp [h1]
theorem CG {α:Type} (id j:Nat) (v:α):∀ (l:List (Nat×α)),lk j (Dw id v l)=if j=id then (lk id l).map (fun _=>v) else lk j l
 | []=>by simp [Dw,lk]
 | (i,x)::r=>by
  simp only [Dw]
  cases hb:Nat.beq id i with
  | true=>
   have:=Nat.eq_of_beq_eq_true hb
   subst this
   simp only [cond_true,AF]
   by_cases h1:j=id
   ·simp [h1]
   ·simp [h1]
  | false=>
   have:id≠i:=fun h=>by subst h;simp at hb
   simp only [cond_false,AF,CG id j v r]
   by_cases h1:j=i
   ·subst h1;simp [Ne.symm this]
   ·simp [h1,this]
def Au (f:Nat->Option Nat):Ob->Ob
 | .var t c=>.var t (AZ f c)
 | .row t xs=>.row t xs
 | .mp kt vt es=>.mp kt vt es
 | .lp c q=>.lp (AZ f c) q
def FH (f:Nat->Option Nat) (s:List (Nat×RV)):List (Nat×RV):=s.map fun p=>(p.1,AZ f p.2)
def Sg (f:Nat->Option Nat) (l:List (Nat×Ob)):List (Nat×Ob):=l.map fun p=>(p.1,Au f p.2)
def Dr (f:Nat->Option Nat) (k:List (Nat×List (Nat×RV))):List (Nat×List (Nat×RV)):=k.map fun p=>(p.1,FH f p.2)
theorem DR (f:Nat->Option Nat) (o:Ob):(Au f o).shape=o.shape:=by cases o <;> rfl
theorem BI (o:Ob):Au some o=o:=by cases o <;> simp [Au,Cz]
theorem BP (s:List (Nat×RV)):FH some s=s:=by simp [FH,Cz]
theorem Bh (k:List (Nat×List (Nat×RV))):Dr some k=k:=by simp [Dr,BP]
section
variable {b0:Nat->Prop} {M M':Own} {w w':World} {β β':Nat->Nat} {τ τ':Nat->Value} {L L':List (Nat×Ob)} {f:Nat->Option Nat}
theorem Bw.ext {t:Ty} {xs:List t.den} {v:Value} (h:Bw b0 M w t xs v) (hext:Ext M w M' w') (hb:∀ b,Bp v=some b->w'.heap[b]? = w.heap[b]?/\∀ o,M' b o->M b o):Bw b0 M' w' t xs v:=by
 obtain ⟨a,cap,row,rfl,h1,h2,h3,h4,h5⟩:=h
 refine ⟨a,cap,row,rfl,h1,h2,h3,h4.mono (fun _ _ r=>Ao.ext hext r),fun a0 ha hc=>?_⟩
 obtain ⟨b,cur,T,rfl,g1,g2,g3,g4,g5⟩:=h5 a0 ha hc
 subst ha
 obtain ⟨k1,k2⟩:=hb b (by simp [Bp];omega)
 exact ⟨b,cur,T,rfl,g1,by rw [k1];exact g2,g3,g4,fun o m=>g5 o (k2 o m)⟩
theorem CF.map (hext:Ext M w M' w') (hm:BJ f L β τ L' β' τ') {id j:Nat} {ob:Ob} (hf:f id=some j) (hl:lk id L=some ob) (ho:CF b0 M w β τ L id ob)
  (hb:∀ b,blk β τ id ob=some b->w'.heap[b]? = w.heap[b]?/\∀ o,M' b o->M b o):CF b0 M' w' β' τ' L' j (Au f ob):=by
 obtain ⟨_,_,_,hβ,hτ⟩:=hm id j ob hf hl
 cases ob with
 | var t c=>
  obtain ⟨h1,⟨cs,T,h2,h3⟩,h4⟩:=ho
  obtain ⟨k1,k2⟩:=hb (β id) rfl
  simp only [Au,CF,hβ]
  exact ⟨h1,⟨cs,T,by rw [k1];exact h2,(h3.ext hext).map hm⟩,fun o m=>h4 o (k2 o m)⟩
 | row t xs=>
  obtain ⟨h1,h2⟩:=ho
  simp only [Au,CF,hβ,hτ]
  exact ⟨h1.ext hext hb,h2⟩
 | mp kt vt es=>
  obtain ⟨h1,⟨arr,clock,h2,h3⟩,h4⟩:=ho
  obtain ⟨k1,k2⟩:=hb (β id) rfl
  simp only [Au,CF,hβ]
  exact ⟨h1,⟨arr,clock,by rw [k1];exact h2,h3.ext hext⟩,fun o m=>h4 o (k2 o m)⟩
 | lp con q=>
  obtain ⟨h1,⟨r,h2,h3,m,h5⟩,h4⟩:=ho
  obtain ⟨k1,k2⟩:=hb (β id) rfl
  simp only [Au,CF,hβ]
  exact ⟨h1,⟨r,by rw [k1];exact h2,h3,m,(h5.ext hext).map hm⟩,fun o m=>h4 o (k2 o m)⟩
theorem Gz.map (hext:Ext M w M' w') (hm:BJ f L β τ L' β' τ') {s:List (Nat×RV)} {a:Act} (h:Gz M w β τ L s a):Gz M' w' β' τ' L' (FH f s) a:=by
 intro i rv hi
 rw [FH,F8,Option.map_eq_some_iff] at hi
 obtain ⟨YH,h0,rfl⟩:=hi
 obtain ⟨u,hu,r⟩:=h i YH h0
 exact ⟨u,hu,(r.ext hext).map hm⟩
theorem G5.map (hext:Ext M w M' w') (hm:BJ f L β τ L' β' τ'):∀ {k:List (Nat×List (Nat×RV))} {as:List Act},G5 M w β τ L k as->G5 M' w' β' τ' L' (Dr f k) as
 | [],[],_=>trivial
 | _::_,_::_,h=>⟨h.1.map hext hm,G5.map hext hm h.2⟩
 | [],_::_,h=>h.elim
 | _::_,[],h=>h.elim
end
section
variable {w0:World} {M0:Bs} {N:Nat} {M M':Own} {β β':Nat->Nat} {τ τ':Nat->Value} {st st':St} {a:Act} {as:List Act} {w w':World} {f:Nat->Option Nat}
theorem Sm.gen (s:Sm w0 M0 N M β τ st a as w) (hext:Ext M w M' w') (hbel:Below w0.heap.size w0 w') (hlt:∀ b o,M' b o->b < w'.heap.size) (hnew:∀ b o,M' b o->M0.M b o∨w0.heap.size<=b) (hkp:∀ b,M0.kp b->w'.heap[b]? = w.heap[b]?/\∀ o,M' b o->M b o)
  (hm:BJ f st.l β τ st'.l β' τ') (hs:st'.s=FH f st.s) (hk:st'.k=Dr f st.k) (Jc:∀ id ob,lk id st'.l=some ob->CF (ownB w0 M0) M' w' β' τ' st'.l id ob)
  (hdj:∀ id id' ob BS b,lk id st'.l=some ob->lk id' st'.l=some BS->blk β' τ' id ob=some b->blk β' τ' id' BS=some b->id=id'):Sm w0 M0 N M' β' τ' st' a as w' where
 df:=s.df
 sz:=s.sz
 Bc:=hbel
 mlt:=hlt
 Eh:=fun b o m=>(hext b o (s.Eh b o m)).1
 gk:=s.gk
 gx:=s.gx.trans hext
 kp:=fun b h=>by
  obtain ⟨⟨k1,k2⟩,k3⟩:=s.kp b h
  obtain ⟨g1,g2⟩:=hkp b h
  refine ⟨⟨g1.trans k1,?_⟩,fun o m=>k3 o (g2 o m)⟩
  rw [Array.getElem?_eq_getElem k2] at g1
  exact (Array.getElem?_eq_some_iff.1 g1).1
 Az:=hnew
 fr:=by rw [hs];exact s.fr.map hext hm
 fs:=by rw [hk];exact s.fs.map hext hm
 ob:=Jc
 dj:=hdj
def BQ (st:St) (d:Option Nat) (rv:RV):St:=
 match d with
 | some d=>{ st with s:=(d,rv)::st.s }
 | none=>st
theorem Sm.set (s:Sm w0 M0 N M β τ st a as w) (d:Option Nat) (hd:∀ i,d=some i->i < N) {rv:RV} {v:Value} (hv:RR M w β τ st.l rv .sl [v]):Sm w0 M0 N M β τ (BQ st d rv) (a.put d v) as w:=by
 cases d with
 | none=>exact s
 | some d=>
  have hd':d < a.tmps.size:=by rw [s.sz];exact hd d rfl
  refine { df:=s.df,sz:=by simp [Act.put,s.sz],Bc:=s.Bc,mlt:=s.mlt,Eh:=s.Eh,gk:=s.gk,gx:=s.gx,kp:=s.kp,Az:=s.Az,fr:=?_,fs:=s.fs,ob:=s.ob,dj:=s.dj }
  intro i rv' h
  simp only [BQ,AF] at h
  rw [Ul hd']
  split at h
  ·rename_i hi
   subst hi
   cases h
   exact ⟨v,by simp,hv⟩
  ·rename_i hi
   rw [if_neg hi]
   exact s.fr i rv' h
theorem Sm.block (s:Sm w0 M0 N M β τ st a as w) {id:Nat} {ob:Ob} {b:Nat} (hl:lk id st.l=some ob) (hb:blk β τ id ob=some b):b < w.heap.size/\ownB w0 M0 b/\(∀ o,¬ M b o)/\((∃ cur T fz,w.heap[b]? = some (.cells cur T fz))∨(∃ arr clock,w.heap[b]? = some (.map arr clock))∨∃ r,w.heap[b]? = some (.loop r)):=by
 have ho:=s.ob id ob hl
 cases ob with
 | var t c=>
  cases hb
  obtain ⟨h1,⟨cs,T,h2,h3⟩,h4⟩:=ho
  exact ⟨(Array.getElem?_eq_some_iff.1 h2).1,h1,h4,.inl ⟨_,_,_,h2⟩⟩
 | mp kt vt es=>
  cases hb
  obtain ⟨h1,⟨arr,clock,h2,h3⟩,h4⟩:=ho
  exact ⟨(Array.getElem?_eq_some_iff.1 h2).1,h1,h4,.inr (.inl ⟨_,_,h2⟩)⟩
 | lp con q=>
  cases hb
  obtain ⟨h1,⟨r,h2,h3⟩,h4⟩:=ho
  exact ⟨(Array.getElem?_eq_some_iff.1 h2).1,h1,h4,.inr (.inr ⟨_,h2⟩)⟩
 | row t xs=>
  obtain ⟨⟨a,cap,row,h0,h1,h2,h3,h4,h5⟩,_⟩:=ho
  simp only [blk] at hb
  rw [h0] at hb
  cases a with
  | none=>simp [Bp] at hb
  | some a0=>
   simp only [Bp] at hb
   split at hb
   ·cases hb
   ·cases hb
    obtain ⟨b,cur,T,rfl,g1,⟨fz,gz,g2⟩,g3,g4,g5⟩:=h5 a0 rfl (by omega)
    exact ⟨(Array.getElem?_eq_some_iff.1 g2).1,g1,g5,.inl ⟨_,_,_,g2⟩⟩
theorem Sm.new (s:Sm w0 M0 N M β τ st a as w) {b:Nat} (h:w.heap.size<=b):ownB w0 M0 b:=
 ⟨Nat.le_trans s.Bc.size h,fun k=>by have:=(s.kp b k).1.2;omega⟩
theorem Sm.grow (s:Sm w0 M0 N M β τ st a as w) (g:Gr M w M' w'):Sm w0 M0 N M' β τ st a as w':=by
 have hm:BJ some st.l β τ st.l β τ:=fun id j ob hf hl=>by cases hf;exact ⟨ob,hl,rfl,rfl,rfl⟩
 refine s.gen (f:=some) g.ext (s.Bc.trans (g.Bc.mono s.Bc.size)) g.lt (fun b o m=>(g.new b o m).elim (fun m=>s.Az b o m) (fun l=>.inr (Nat.le_trans s.Bc.size l))) (fun b k=>⟨g.Bc.block _ (s.kp b k).1.2,fun o m=>(g.new b o m).elim (fun h=>h) (fun l=>by have:=(s.kp b k).1.2;omega)⟩) hm (BP _).symm (Bh _).symm ?_ s.dj
 intro id ob hl
 have:=CF.map (f:=some) g.ext hm rfl hl (s.ob id ob hl) fun b hb=>by
  obtain ⟨k1,k2,k3,_⟩:=s.block hl hb
  exact ⟨g.Bc.block _ k1,fun o m=>(g.new b o m).elim (fun h=>h) (fun l=>by omega)⟩
 rwa [BI] at this
def DJ (d:Nat) (id:Nat):Option Nat:=bif Nat.beq id d then none else some id
def CV (d:Nat) (st:St):St:={ s:=FH (DJ d) st.s,l:=JI d (Sg (DJ d) st.l),k:=Dr (DJ d) st.k,b:=st.b }
theorem PS {d id j:Nat} (h:DJ d id=some j):j=id/\id≠d:=by
 unfold DJ at h
 cases hb:Nat.beq id d with
 | true=>simp [hb] at h
 | false=>simp [hb] at h;exact ⟨h.symm,fun e=>by subst e;simp at hb⟩
theorem KQ {d id:Nat} (h:id≠d):DJ d id=some id:=by
 unfold DJ
 cases hb:Nat.beq id d with
 | true=>exact absurd (Nat.eq_of_beq_eq_true hb) h
 | false=>rfl
theorem F6 (d:Nat) (st:St) (id:Nat):lk id (CV d st).l=if id=d then none else (lk id st.l).map (Au (DJ d)):=by
 simp only [CV,Hr,Sg,F8]
theorem FV (d:Nat):BJ (DJ d) st.l β τ (CV d st).l β τ:=by
 intro id j ob hf hl
 obtain ⟨rfl,hne⟩:=PS hf
 exact ⟨Au (DJ d) ob,by rw [F6,if_neg hne,hl];rfl,DR _ _,rfl,rfl⟩
theorem BZ {d id:Nat} {ob:Ob} (h:lk id (CV d st).l=some ob):id≠d/\∃ EU,lk id st.l=some EU/\ob=Au (DJ d) EU:=by
 rw [F6] at h
 split at h
 ·cases h
 ·rename_i hne
  obtain ⟨o,h1,h2⟩:=Option.map_eq_some_iff.1 h
  exact ⟨hne,o,h1,h2.symm⟩
theorem Dc {id:Nat} (f:Nat->Option Nat) (ob:Ob):blk β τ id (Au f ob)=blk β τ id ob:=by cases ob <;> rfl
theorem Sm.kill (s:Sm w0 M0 N M β τ st a as w) (d:Nat):Sm w0 M0 N M β τ (CV d st) a as w:=by
 refine s.gen (f:=DJ d) (Ext.refl M w) s.Bc s.mlt s.Az (fun _ _=>⟨rfl,fun _ h=>h⟩) (FV d) rfl rfl ?_ ?_
 ·intro id ob h
  obtain ⟨hne,o,h1,rfl⟩:=BZ h
  exact CF.map (Ext.refl M w) (FV d) (KQ hne) h1 (s.ob id o h1) fun b _=>⟨rfl,fun _ h=>h⟩
 ·intro id id' ob BS b h h' hb hb'
  obtain ⟨_,o,h1,rfl⟩:=BZ h
  obtain ⟨_,o',h1',rfl⟩:=BZ h'
  rw [Dc] at hb hb'
  exact s.dj id id' o o' b h1 h1' hb hb'
def Mw (bn:Nat) (v:Value):Ob->Option Nat
 | .var _ _=>some bn
 | .row _ _=>Bp v
 | .mp _ _ _=>some bn
 | .lp _ _=>some bn
def addN (id:Nat) (ob:Ob) (st:St):St:={ st with l:=(id,ob)::st.l }
theorem Sm.Ql (s:Sm w0 M0 N M β τ st a as w) {id:Nat} {ob:Ob} (hid:lk id st.l=none) (hext:Ext M w M' w') (hbel:Below w0.heap.size w0 w') (hlt:∀ b o,M' b o->b < w'.heap.size) (hnew:∀ b o,M' b o->M0.M b o∨w0.heap.size<=b) (hkp:∀ b,M0.kp b->w'.heap[b]? = w.heap[b]?/\∀ o,M' b o->M b o) {bn:Nat} {v:Value}
  (hold:∀ j o b,lk j st.l=some o->blk β τ j o=some b->w'.heap[b]? = w.heap[b]?/\(∀ o,M' b o->M b o)/\Mw bn v ob≠some b)
  (ho:∀ β' τ',β' id=bn->τ' id=v->(BJ some st.l β τ ((id,ob)::st.l) β' τ')->CF (ownB w0 M0) M' w' β' τ' ((id,ob)::st.l) id ob) :
  Sm w0 M0 N M' (fun j=>if j=id then bn else β j) (fun j=>if j=id then v else τ j) (addN id ob st) a as w':=by
 have hne:∀ j o,lk j st.l=some o->j≠id:=fun j o h e=>by subst e;rw [hid] at h;cases h
 have hm:BJ some st.l β τ ((id,ob)::st.l) (fun j=>if j=id then bn else β j) (fun j=>if j=id then v else τ j):=by
  intro i j o hf hl
  cases hf
  have:=hne i o hl
  exact ⟨o,by rw [AF,if_neg this];exact hl,rfl,if_neg this,if_neg this⟩
 have hbk:blk (fun j=>if j=id then bn else β j) (fun j=>if j=id then v else τ j) id ob=Mw bn v ob:=by
  cases ob <;> simp [blk,Mw]
 have Xa:∀ j o,j≠id->blk (fun j=>if j=id then bn else β j) (fun j=>if j=id then v else τ j) j o=blk β τ j o:=by
  intro j o hj;cases o <;> simp [blk,hj]
 refine s.gen (f:=some) (st':=addN id ob st) hext hbel hlt hnew hkp hm (BP _).symm (Bh _).symm ?_ ?_
 ·intro j o h
  simp only [addN,AF] at h
  split at h
  ·rename_i hj
   subst hj
   cases h
   exact ho _ _ (by simp) (by simp) hm
  ·have:=CF.map (f:=some) hext (fun i j o hf hl=>hm i j o hf hl) rfl h (s.ob j o h) fun b hb=>⟨(hold j o b h hb).1,(hold j o b h hb).2.1⟩
   rwa [BI] at this
 ·intro j j' o o' b h h' hb1 hb2
  simp only [addN,AF] at h h'
  by_cases hj:j=id <;> by_cases hj':j'=id
  ·rw [hj,hj']
  ·rw [if_neg hj'] at h'
   rw [if_pos hj] at h
   cases h
   subst hj
   rw [hbk] at hb1
   rw [Xa _ _ hj'] at hb2
   exact absurd hb1 (hold _ _ b h' hb2).2.2
  ·rw [if_neg hj] at h
   rw [if_pos hj'] at h'
   cases h'
   subst hj'
   rw [hbk] at hb2
   rw [Xa _ _ hj] at hb1
   exact absurd hb2 (hold _ _ b h hb1).2.2
  ·rw [if_neg hj] at h
   rw [if_neg hj'] at h'
   rw [Xa _ _ hj] at hb1
   rw [Xa _ _ hj'] at hb2
   exact s.dj j j' o o' b h h' hb1 hb2
theorem Sm.add (s:Sm w0 M0 N M β τ st a as w) {id:Nat} {ob:Ob} (hid:lk id st.l=none) (g:Gr M w M' w') {bn:Nat} {v:Value}
  (ho:∀ β' τ',β' id=bn->τ' id=v->(BJ some st.l β τ ((id,ob)::st.l) β' τ')->CF (ownB w0 M0) M' w' β' τ' ((id,ob)::st.l) id ob) (hb:∀ b,Mw bn v ob=some b->w.heap.size<=b) :
  Sm w0 M0 N M' (fun j=>if j=id then bn else β j) (fun j=>if j=id then v else τ j) (addN id ob st) a as w':=by
 have s':=s.grow g
 refine s.Ql hid g.ext s'.Bc s'.mlt s'.Az (fun b k=>⟨g.Bc.block _ (s.kp b k).1.2,fun o m=>(g.new b o m).elim (fun h=>h) (fun l=>by have:=(s.kp b k).1.2;omega)⟩) ?_ ho
 intro j o b h h'
 obtain ⟨k1,k2,k3,_⟩:=s.block h h'
 exact ⟨g.Bc.block _ k1,fun o m=>(g.new b o m).elim (fun h=>h) (fun l=>by omega),fun e=>by have:=hb b e;omega⟩
theorem BJ.refl {L:List (Nat×Ob)}:BJ some L β τ L β τ:=fun id j ob hf hl=>by cases hf;exact ⟨ob,hl,rfl,rfl,rfl⟩
theorem Sm.addVar (s:Sm w0 M0 N M β τ st a as w) {id:Nat} (hid:lk id st.l=none) {ty:Ty} {con:RV} {cs:List Value} {T:TypeId} (hr:RR M w β τ st.l con (.ce ty) cs) :
  Sm w0 M0 N M (fun j=>if j=id then w.heap.size else β j) (fun j=>if j=id then undef else τ j) (addN id (.var ty con) st) a as (w.alloc (.cells cs.toArray T)):=by
 have g:=Gr.alloc s.mlt (.cells cs.toArray T)
 refine s.add hid g (bn:=w.heap.size) (v:=undef) ?_ ?_
 ·intro β' τ' h1 h2 hm
  refine ⟨by rw [h1];exact s.new (Nat.le_refl _),⟨cs,T,by rw [h1];exact heap_alloc_new w _,(hr.ext g.ext).keep hm⟩,fun o m=>?_⟩
  rw [h1] at m
  have:=s.mlt _ _ m
  omega
 ·intro b hb
  simp [Mw] at hb
  omega
theorem Sm.VL (s:Sm w0 M0 N M β τ st a as w) {id:Nat} (hid:lk id st.l=none) {kt vt:Ty} {clock:Nat} :
  Sm w0 M0 N M (fun j=>if j=id then w.heap.size else β j) (fun j=>if j=id then undef else τ j) (addN id (.mp kt vt []) st) a as (w.alloc (.map #[] clock)):=by
 have g:=Gr.alloc s.mlt (.map #[] clock)
 refine s.add hid g (bn:=w.heap.size) (v:=undef) ?_ ?_
 ·intro β' τ' h1 h2 hm
  refine ⟨by rw [h1];exact s.new (Nat.le_refl _),⟨#[],clock,by rw [h1];exact heap_alloc_new w _,trivial⟩,fun o m=>?_⟩
  rw [h1] at m
  have:=s.mlt _ _ m
  omega
 ·intro b hb
  simp [Mw] at hb
  omega
theorem Sm.Ot (s:Sm w0 M0 N M β τ st a as w) {id:Nat} (hid:lk id st.l=none) (g:Gr M w M' w') {t:Ty} {xs:List t.den} {v:Value} (hr:Bw (w.heap.size<=·) M' w' t xs v) :
  Sm w0 M0 N M' (fun j=>if j=id then (Bp v).getD 0 else β j) (fun j=>if j=id then v else τ j) (addN id (.row t xs) st) a as w':=by
 refine s.add hid g (bn:=(Bp v).getD 0) (v:=v) ?_ ?_
 ·intro β' τ' h1 h2 hm
  refine ⟨?_,fun b hb=>?_⟩
  ·rw [h2]
   obtain ⟨a,cap,row,h0,k1,k2,k3,k4,k5⟩:=hr
   refine ⟨a,cap,row,h0,k1,k2,k3,k4,fun a0 ha hc=>?_⟩
   obtain ⟨b,cur,T,e,g1,g2⟩:=k5 a0 ha hc
   exact ⟨b,cur,T,e,s.new g1,g2⟩
  ·rw [h2] at hb
   rw [h1,hb]
   rfl
 ·intro b hb
  simp only [Mw] at hb
  obtain ⟨a,cap,row,rfl,k1,k2,k3,k4,k5⟩:=hr
  cases a with
  | none=>simp [Bp] at hb
  | some a0=>
   simp only [Bp] at hb
   split at hb
   ·cases hb
   ·cases hb
    obtain ⟨b,cur,T,rfl,g1,_⟩:=k5 a0 rfl (by omega)
    exact g1
end
end Go.Lift
