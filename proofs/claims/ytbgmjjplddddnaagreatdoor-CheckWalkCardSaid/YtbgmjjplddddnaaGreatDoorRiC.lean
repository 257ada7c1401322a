import Derived.Test.YtbgmjjplddddnaaGreatDoorRiB
set_option linter.unusedSimpArgs false
namespace Go.Lift
open Go.RowKit
theorem G9 {α β:Type} (f:α->β) (i:Nat):∀ (s:List (Nat×α)),lk i (s.map fun p=>(p.1,f p.2))=(lk i s).map f
 | []=>rfl
 | (j,x)::r=>by simp only [List.map_cons,BN,G9 f i r];split <;> simp
def J6 {α:Type} (id:Nat):List (Nat×α)->List (Nat×α)
 | []=>[]
 | (j,e)::r=>bif Nat.beq id j then J6 id r else (j,e)::J6 id r
def En {α:Type} (id:Nat) (v:α):List (Nat×α)->List (Nat×α)
 | []=>[]
 | (j,e)::r=>bif Nat.beq id j then (j,v)::r else (j,e)::En id v r
theorem Iz {α:Type} (id j:Nat):∀ (l:List (Nat×α)),lk j (J6 id l)=if j=id then none else lk j l
 | []=>by simp [J6,lk]
 | (i,x)::r=>by
  simp only [J6]
  cases hb:Nat.beq id i with
  | true=>
   have:=Aa hb
   subst this
   simp only [AL,Iz id j r,BN]
   split <;> rfl
  | false=>
   have:id≠i:=fun h=>by subst h;simp at hb
   simp only [AJ,BN,Iz id j r]
   by_cases h1:j=i
   ·subst h1;simp [Ne.symm this]
   ·simp [h1]
theorem DR {α:Type} (id j:Nat) (v:α):∀ (l:List (Nat×α)),lk j (En id v l)=if j=id then (lk id l).map (fun _=>v) else lk j l
 | []=>by simp [En,lk]
 | (i,x)::r=>by
  simp only [En]
  cases hb:Nat.beq id i with
  | true=>
   have:=Aa hb
   subst this
   simp only [AL,BN]
   by_cases h1:j=id
   ·simp [h1]
   ·simp [h1]
  | false=>
   have:id≠i:=fun h=>by subst h;simp at hb
   simp only [AJ,BN,DR id j v r]
   by_cases h1:j=i
   ·subst h1;simp [Ne.symm this]
   ·simp [h1,this]
def Bz (f:Nat->Option Nat):Ob->Ob
 | .var t c=>.var t (Ba f c)
 | .row t xs=>.row t xs
 | .mp kt vt es=>.mp kt vt es
 | .lp c q=>.lp (Ba f c) q
def GK (f:Nat->Option Nat) (s:List (Nat×RV)):List (Nat×RV):=s.map fun p=>(p.1,Ba f p.2)
def Tv (f:Nat->Option Nat) (l:List (Nat×Ob)):List (Nat×Ob):=l.map fun p=>(p.1,Bz f p.2)
def Ei (f:Nat->Option Nat) (k:List (Nat×List (Nat×RV))):List (Nat×List (Nat×RV)):=k.map fun p=>(p.1,GK f p.2)
theorem EK (f:Nat->Option Nat) (o:Ob):(Bz f o).shape=o.shape:=by cases o <;> rfl
theorem CW (o:Ob):Bz some o=o:=by cases o <;> simp [Bz,D9]
theorem Cg (s:List (Nat×RV)):GK some s=s:=by simp [GK,D9]
theorem Cv (k:List (Nat×List (Nat×RV))):Ei some k=k:=by simp [Ei,Cg]
section
variable {b0:Nat->Prop} {M M':Own} {w w':World} {β β':Nat->Nat} {τ τ':Nat->Value} {L L':List (Nat×Ob)} {f:Nat->Option Nat}
theorem DJ.ext {t:Ty} {xs:List t.den} {v:Value} (h:DJ b0 M w t xs v) (hext:Ext M w M' w') (hb:∀ b,C8 v=some b->w'.heap[b]? = w.heap[b]?/\∀ o,M' b o->M b o):DJ b0 M' w' t xs v:=by
 obtain ⟨a,cap,row,rfl,h1,h2,h3,h4,h5⟩:=h
 refine ⟨a,cap,row,rfl,h1,h2,h3,h4.mono (fun _ _ r=>Br.ext hext r),fun a0 ha hc=>?_⟩
 obtain ⟨b,cur,T,rfl,g1,g2,g3,g4,g5⟩:=h5 a0 ha hc
 subst ha
 obtain ⟨k1,k2⟩:=hb b (by simp [C8];omega)
 exact ⟨b,cur,T,rfl,g1,by rw [k1];exact g2,g3,g4,fun o m=>g5 o (k2 o m)⟩
theorem DN.map (hext:Ext M w M' w') (hm:CX f L β τ L' β' τ') {id j:Nat} {ob:Ob} (hf:f id=some j) (hl:lk id L=some ob) (ho:DN b0 M w β τ L id ob)
  (hb:∀ b,blk β τ id ob=some b->w'.heap[b]? = w.heap[b]?/\∀ o,M' b o->M b o):DN b0 M' w' β' τ' L' j (Bz f ob):=by
 obtain ⟨_,_,_,hβ,hτ⟩:=hm id j ob hf hl
 cases ob with
 | var t c=>
  obtain ⟨h1,⟨cs,T,h2,h3⟩,h4⟩:=ho
  obtain ⟨k1,k2⟩:=hb (β id) rfl
  simp only [Bz,DN,hβ]
  exact ⟨h1,⟨cs,T,by rw [k1];exact h2,(h3.ext hext).map hm⟩,fun o m=>h4 o (k2 o m)⟩
 | row t xs=>
  obtain ⟨h1,h2⟩:=ho
  simp only [Bz,DN,hβ,hτ]
  exact ⟨h1.ext hext hb,h2⟩
 | mp kt vt es=>
  obtain ⟨h1,⟨arr,clock,h2,h3⟩,h4⟩:=ho
  obtain ⟨k1,k2⟩:=hb (β id) rfl
  simp only [Bz,DN,hβ]
  exact ⟨h1,⟨arr,clock,by rw [k1];exact h2,h3.ext hext⟩,fun o m=>h4 o (k2 o m)⟩
 | lp con q=>
  obtain ⟨h1,⟨r,h2,h3,m,h5⟩,h4⟩:=ho
  obtain ⟨k1,k2⟩:=hb (β id) rfl
  simp only [Bz,DN,hβ]
  exact ⟨h1,⟨r,by rw [k1];exact h2,h3,m,(h5.ext hext).map hm⟩,fun o m=>h4 o (k2 o m)⟩
theorem Ie.map (hext:Ext M w M' w') (hm:CX f L β τ L' β' τ') {s:List (Nat×RV)} {a:Act} (h:Ie M w β τ L s a):Ie M' w' β' τ' L' (GK f s) a:=by
 intro i rv hi
 rw [GK,G9,Option.map_eq_some_iff] at hi
 obtain ⟨Y2,h0,rfl⟩:=hi
 obtain ⟨u,hu,r⟩:=h i Y2 h0
 exact ⟨u,hu,(r.ext hext).map hm⟩
theorem Ig.map (hext:Ext M w M' w') (hm:CX f L β τ L' β' τ'):∀ {k:List (Nat×List (Nat×RV))} {as:List Act},Ig M w β τ L k as->Ig M' w' β' τ' L' (Ei f k) as
 | [],[],_=>trivial
 | _::_,_::_,h=>⟨h.1.map hext hm,Ig.map hext hm h.2⟩
 | [],_::_,h=>h.elim
 | _::_,[],h=>h.elim
end
section
variable {w0:World} {M0:Bs} {N:Nat} {M M':Own} {β β':Nat->Nat} {τ τ':Nat->Value} {st st':St} {a:Act} {as:List Act} {w w':World} {f:Nat->Option Nat}
theorem Sm.gen (s:Sm w0 M0 N M β τ st a as w) (hext:Ext M w M' w') (hbel:Below w0.heap.size w0 w') (hlt:∀ b o,M' b o->b < w'.heap.size) (hnew:∀ b o,M' b o->M0.M b o∨w0.heap.size<=b) (hkp:∀ b,M0.kp b->w'.heap[b]? = w.heap[b]?/\∀ o,M' b o->M b o)
  (hm:CX f st.l β τ st'.l β' τ') (hs:st'.s=GK f st.s) (hk:st'.k=Ei f st.k) (KP:∀ id ob,lk id st'.l=some ob->DN (ownB w0 M0) M' w' β' τ' st'.l id ob)
  (hdj:∀ id id' ob Ci b,lk id st'.l=some ob->lk id' st'.l=some Ci->blk β' τ' id ob=some b->blk β' τ' id' Ci=some b->id=id'):Sm w0 M0 N M' β' τ' st' a as w' where
 df:=s.df
 sz:=s.sz
 Cq:=hbel
 mlt:=hlt
 Fg:=fun b o m=>(hext b o (s.Fg b o m)).1
 gk:=s.gk
 gx:=s.gx.trans hext
 kp:=fun b h=>by
  obtain ⟨⟨k1,k2⟩,k3⟩:=s.kp b h
  obtain ⟨g1,g2⟩:=hkp b h
  refine ⟨⟨g1.trans k1,?_⟩,fun o m=>k3 o (g2 o m)⟩
  rw [Array.getElem?_eq_getElem k2] at g1
  exact (Al.1 g1).1
 CJ:=hnew
 fr:=by rw [hs];exact s.fr.map hext hm
 fs:=by rw [hk];exact s.fs.map hext hm
 ob:=KP
 dj:=hdj
def Ch (st:St) (d:Option Nat) (rv:RV):St:=
 match d with
 | some d=>{ st with s:=(d,rv)::st.s }
 | none=>st
theorem Sm.set (s:Sm w0 M0 N M β τ st a as w) (d:Option Nat) (hd:∀ i,d=some i->i < N) {rv:RV} {v:Value} (hv:RR M w β τ st.l rv .sl [v]):Sm w0 M0 N M β τ (Ch st d rv) (a.put d v) as w:=by
 cases d with
 | none=>exact s
 | some d=>
  have hd':d < a.tmps.size:=by rw [s.sz];exact hd d rfl
  refine { df:=s.df,sz:=by simp [Act.put,s.sz],Cq:=s.Cq,mlt:=s.mlt,Fg:=s.Fg,gk:=s.gk,gx:=s.gx,kp:=s.kp,CJ:=s.CJ,fr:=?_,fs:=s.fs,ob:=s.ob,dj:=s.dj }
  intro i rv' h
  simp only [Ch,BN] at h
  rw [Va hd']
  split at h
  ·rename_i hi
   subst hi
   cases h
   exact ⟨v,by simp,hv⟩
  ·rename_i hi
   rw [AX hi]
   exact s.fr i rv' h
theorem Sm.block (s:Sm w0 M0 N M β τ st a as w) {id:Nat} {ob:Ob} {b:Nat} (hl:lk id st.l=some ob) (hb:blk β τ id ob=some b):b < w.heap.size/\ownB w0 M0 b/\(∀ o,¬ M b o)/\((∃ cur T fz,w.heap[b]? = some (.cells cur T fz))∨(∃ arr clock,w.heap[b]? = some (.map arr clock))∨∃ r,w.heap[b]? = some (.loop r)):=by
 have ho:=s.ob id ob hl
 cases ob with
 | var t c=>
  cases hb
  obtain ⟨h1,⟨cs,T,h2,h3⟩,h4⟩:=ho
  exact ⟨(Al.1 h2).1,h1,h4,.inl ⟨_,_,_,h2⟩⟩
 | mp kt vt es=>
  cases hb
  obtain ⟨h1,⟨arr,clock,h2,h3⟩,h4⟩:=ho
  exact ⟨(Al.1 h2).1,h1,h4,.inr (.inl ⟨_,_,h2⟩)⟩
 | lp con q=>
  cases hb
  obtain ⟨h1,⟨r,h2,h3⟩,h4⟩:=ho
  exact ⟨(Al.1 h2).1,h1,h4,.inr (.inr ⟨_,h2⟩)⟩
 | row t xs=>
  obtain ⟨⟨a,cap,row,h0,h1,h2,h3,h4,h5⟩,_⟩:=ho
  simp only [blk] at hb
  rw [h0] at hb
  cases a with
  | none=>simp [C8] at hb
  | some a0=>
   simp only [C8] at hb
   split at hb
   ·cases hb
   ·cases hb
    obtain ⟨b,cur,T,rfl,g1,⟨fz,gz,g2⟩,g3,g4,g5⟩:=h5 a0 rfl (by omega)
    exact ⟨(Al.1 g2).1,g1,g5,.inl ⟨_,_,_,g2⟩⟩
theorem Sm.new (s:Sm w0 M0 N M β τ st a as w) {b:Nat} (h:w.heap.size<=b):ownB w0 M0 b:=
 ⟨Nat.le_trans s.Cq.size h,fun k=>by have:=(s.kp b k).1.2;omega⟩
theorem Sm.grow (s:Sm w0 M0 N M β τ st a as w) (g:Gr M w M' w'):Sm w0 M0 N M' β τ st a as w':=by
 have hm:CX some st.l β τ st.l β τ:=fun id j ob hf hl=>by cases hf;exact ⟨ob,hl,rfl,rfl,rfl⟩
 refine s.gen (f:=some) g.ext (s.Cq.trans (g.Cq.mono s.Cq.size)) g.lt (fun b o m=>(g.new b o m).elim (fun m=>s.CJ b o m) (fun l=>.inr (Nat.le_trans s.Cq.size l))) (fun b k=>⟨g.Cq.block _ (s.kp b k).1.2,fun o m=>(g.new b o m).elim (fun h=>h) (fun l=>by have:=(s.kp b k).1.2;omega)⟩) hm (Cg _).symm (Cv _).symm ?_ s.dj
 intro id ob hl
 have:=DN.map (f:=some) g.ext hm rfl hl (s.ob id ob hl) fun b hb=>by
  obtain ⟨k1,k2,k3,_⟩:=s.block hl hb
  exact ⟨g.Cq.block _ k1,fun o m=>(g.new b o m).elim (fun h=>h) (fun l=>by omega)⟩
 rwa [CW] at this
def EG (d:Nat) (id:Nat):Option Nat:=bif Nat.beq id d then none else some id
def Da (d:Nat) (st:St):St:={ s:=GK (EG d) st.s,l:=J6 d (Tv (EG d) st.l),k:=Ei (EG d) st.k,b:=st.b }
theorem QS {d id j:Nat} (h:EG d id=some j):j=id/\id≠d:=by
 unfold EG at h
 cases hb:Nat.beq id d with
 | true=>simp [hb] at h
 | false=>simp [hb] at h;exact ⟨h.symm,fun e=>by subst e;simp at hb⟩
theorem LJ {d id:Nat} (h:id≠d):EG d id=some id:=by
 unfold EG
 cases hb:Nat.beq id d with
 | true=>exact absurd (Aa hb) h
 | false=>rfl
theorem G7 (d:Nat) (st:St) (id:Nat):lk id (Da d st).l=if id=d then none else (lk id st.l).map (Bz (EG d)):=by
 simp only [Da,Iz,Tv,G9]
theorem Gc (d:Nat):CX (EG d) st.l β τ (Da d st).l β τ:=by
 intro id j ob hf hl
 obtain ⟨rfl,hne⟩:=QS hf
 exact ⟨Bz (EG d) ob,by rw [G7,AX hne,hl];rfl,EK _ _,rfl,rfl⟩
theorem Cm {d id:Nat} {ob:Ob} (h:lk id (Da d st).l=some ob):id≠d/\∃ FR,lk id st.l=some FR/\ob=Bz (EG d) FR:=by
 rw [G7] at h
 split at h
 ·cases h
 ·rename_i hne
  obtain ⟨o,h1,h2⟩:=Option.map_eq_some_iff.1 h
  exact ⟨hne,o,h1,h2.symm⟩
theorem EW {id:Nat} (f:Nat->Option Nat) (ob:Ob):blk β τ id (Bz f ob)=blk β τ id ob:=by cases ob <;> rfl
theorem Sm.kill (s:Sm w0 M0 N M β τ st a as w) (d:Nat):Sm w0 M0 N M β τ (Da d st) a as w:=by
 refine s.gen (f:=EG d) (Ext.refl M w) s.Cq s.mlt s.CJ (fun _ _=>⟨rfl,fun _ h=>h⟩) (Gc d) rfl rfl ?_ ?_
 ·intro id ob h
  obtain ⟨hne,o,h1,rfl⟩:=Cm h
  exact DN.map (Ext.refl M w) (Gc d) (LJ hne) h1 (s.ob id o h1) fun b _=>⟨rfl,fun _ h=>h⟩
 ·intro id id' ob Ci b h h' hb hb'
  obtain ⟨_,o,h1,rfl⟩:=Cm h
  obtain ⟨_,o',h1',rfl⟩:=Cm h'
  rw [EW] at hb hb'
  exact s.dj id id' o o' b h1 h1' hb hb'
def Nw (bn:Nat) (v:Value):Ob->Option Nat
 | .var _ _=>some bn
 | .row _ _=>C8 v
 | .mp _ _ _=>some bn
 | .lp _ _=>some bn
def addN (id:Nat) (ob:Ob) (st:St):St:={ st with l:=(id,ob)::st.l }
theorem Sm.Ri (s:Sm w0 M0 N M β τ st a as w) {id:Nat} {ob:Ob} (hid:lk id st.l=none) (hext:Ext M w M' w') (hbel:Below w0.heap.size w0 w') (hlt:∀ b o,M' b o->b < w'.heap.size) (hnew:∀ b o,M' b o->M0.M b o∨w0.heap.size<=b) (hkp:∀ b,M0.kp b->w'.heap[b]? = w.heap[b]?/\∀ o,M' b o->M b o) {bn:Nat} {v:Value}
  (hold:∀ j o b,lk j st.l=some o->blk β τ j o=some b->w'.heap[b]? = w.heap[b]?/\(∀ o,M' b o->M b o)/\Nw bn v ob≠some b)
  (ho:∀ β' τ',β' id=bn->τ' id=v->(CX some st.l β τ ((id,ob)::st.l) β' τ')->DN (ownB w0 M0) M' w' β' τ' ((id,ob)::st.l) id ob) :
  Sm w0 M0 N M' (fun j=>if j=id then bn else β j) (fun j=>if j=id then v else τ j) (addN id ob st) a as w':=by
 have hne:∀ j o,lk j st.l=some o->j≠id:=fun j o h e=>by subst e;rw [hid] at h;cases h
 have hm:CX some st.l β τ ((id,ob)::st.l) (fun j=>if j=id then bn else β j) (fun j=>if j=id then v else τ j):=by
  intro i j o hf hl
  cases hf
  have:=hne i o hl
  exact ⟨o,by rw [BN,AX this];exact hl,rfl,AX this,AX this⟩
 have hbk:blk (fun j=>if j=id then bn else β j) (fun j=>if j=id then v else τ j) id ob=Nw bn v ob:=by
  cases ob <;> simp [blk,Nw]
 have YL:∀ j o,j≠id->blk (fun j=>if j=id then bn else β j) (fun j=>if j=id then v else τ j) j o=blk β τ j o:=by
  intro j o hj;cases o <;> simp [blk,hj]
 refine s.gen (f:=some) (st':=addN id ob st) hext hbel hlt hnew hkp hm (Cg _).symm (Cv _).symm ?_ ?_
 ·intro j o h
  simp only [addN,BN] at h
  split at h
  ·rename_i hj
   subst hj
   cases h
   exact ho _ _ (by simp) (by simp) hm
  ·have:=DN.map (f:=some) hext (fun i j o hf hl=>hm i j o hf hl) rfl h (s.ob j o h) fun b hb=>⟨(hold j o b h hb).1,(hold j o b h hb).2.1⟩
   rwa [CW] at this
 ·intro j j' o o' b h h' hb1 hb2
  simp only [addN,BN] at h h'
  by_cases hj:j=id <;> by_cases hj':j'=id
  ·rw [hj,hj']
  ·rw [AX hj'] at h'
   rw [AY hj] at h
   cases h
   subst hj
   rw [hbk] at hb1
   rw [YL _ _ hj'] at hb2
   exact absurd hb1 (hold _ _ b h' hb2).2.2
  ·rw [AX hj] at h
   rw [AY hj'] at h'
   cases h'
   subst hj'
   rw [hbk] at hb2
   rw [YL _ _ hj] at hb1
   exact absurd hb2 (hold _ _ b h hb1).2.2
  ·rw [AX hj] at h
   rw [AX hj'] at h'
   rw [YL _ _ hj] at hb1
   rw [YL _ _ hj'] at hb2
   exact s.dj j j' o o' b h h' hb1 hb2
theorem Sm.add (s:Sm w0 M0 N M β τ st a as w) {id:Nat} {ob:Ob} (hid:lk id st.l=none) (g:Gr M w M' w') {bn:Nat} {v:Value}
  (ho:∀ β' τ',β' id=bn->τ' id=v->(CX some st.l β τ ((id,ob)::st.l) β' τ')->DN (ownB w0 M0) M' w' β' τ' ((id,ob)::st.l) id ob) (hb:∀ b,Nw bn v ob=some b->w.heap.size<=b) :
  Sm w0 M0 N M' (fun j=>if j=id then bn else β j) (fun j=>if j=id then v else τ j) (addN id ob st) a as w':=by
 have s':=s.grow g
 refine s.Ri hid g.ext s'.Cq s'.mlt s'.CJ (fun b k=>⟨g.Cq.block _ (s.kp b k).1.2,fun o m=>(g.new b o m).elim (fun h=>h) (fun l=>by have:=(s.kp b k).1.2;omega)⟩) ?_ ho
 intro j o b h h'
 obtain ⟨k1,k2,k3,_⟩:=s.block h h'
 exact ⟨g.Cq.block _ k1,fun o m=>(g.new b o m).elim (fun h=>h) (fun l=>by omega),fun e=>by have:=hb b e;omega⟩
theorem CX.refl {L:List (Nat×Ob)}:CX some L β τ L β τ:=fun id j ob hf hl=>by cases hf;exact ⟨ob,hl,rfl,rfl,rfl⟩
theorem Sm.addVar (s:Sm w0 M0 N M β τ st a as w) {id:Nat} (hid:lk id st.l=none) {ty:Ty} {con:RV} {cs:List Value} {T:TypeId} (hr:RR M w β τ st.l con (.ce ty) cs) :
  Sm w0 M0 N M (fun j=>if j=id then w.heap.size else β j) (fun j=>if j=id then undef else τ j) (addN id (.var ty con) st) a as (w.alloc (.cells cs.toArray T)):=by
 have g:=Gr.alloc s.mlt (.cells cs.toArray T)
 refine s.add hid g (bn:=w.heap.size) (v:=undef) ?_ ?_
 ·intro β' τ' h1 h2 hm
  refine ⟨by rw [h1];exact s.new (Nat.le_refl _),⟨cs,T,by rw [h1];exact heap_alloc_new w _,(hr.ext g.ext).keep hm⟩,fun o m=>?_⟩
  rw [h1] at m
  have:=s.mlt _ _ m
  omega
 ·intro b hb
  simp [Nw] at hb
  omega
theorem Sm.WC (s:Sm w0 M0 N M β τ st a as w) {id:Nat} (hid:lk id st.l=none) {kt vt:Ty} {clock:Nat} :
  Sm w0 M0 N M (fun j=>if j=id then w.heap.size else β j) (fun j=>if j=id then undef else τ j) (addN id (.mp kt vt []) st) a as (w.alloc (.map #[] clock)):=by
 have g:=Gr.alloc s.mlt (.map #[] clock)
 refine s.add hid g (bn:=w.heap.size) (v:=undef) ?_ ?_
 ·intro β' τ' h1 h2 hm
  refine ⟨by rw [h1];exact s.new (Nat.le_refl _),⟨#[],clock,by rw [h1];exact heap_alloc_new w _,trivial⟩,fun o m=>?_⟩
  rw [h1] at m
  have:=s.mlt _ _ m
  omega
 ·intro b hb
  simp [Nw] at hb
  omega
theorem Sm.Pz (s:Sm w0 M0 N M β τ st a as w) {id:Nat} (hid:lk id st.l=none) (g:Gr M w M' w') {t:Ty} {xs:List t.den} {v:Value} (hr:DJ (w.heap.size<=·) M' w' t xs v) :
  Sm w0 M0 N M' (fun j=>if j=id then (C8 v).getD 0 else β j) (fun j=>if j=id then v else τ j) (addN id (.row t xs) st) a as w':=by
 refine s.add hid g (bn:=(C8 v).getD 0) (v:=v) ?_ ?_
 ·intro β' τ' h1 h2 hm
  refine ⟨?_,fun b hb=>?_⟩
  ·rw [h2]
   obtain ⟨a,cap,row,h0,k1,k2,k3,k4,k5⟩:=hr
   refine ⟨a,cap,row,h0,k1,k2,k3,k4,fun a0 ha hc=>?_⟩
   obtain ⟨b,cur,T,e,g1,g2⟩:=k5 a0 ha hc
   exact ⟨b,cur,T,e,s.new g1,g2⟩
  ·rw [h2] at hb
   rw [h1,hb]
   rfl
 ·intro b hb
  simp only [Nw] at hb
  obtain ⟨a,cap,row,rfl,k1,k2,k3,k4,k5⟩:=hr
  cases a with
  | none=>simp [C8] at hb
  | some a0=>
   simp only [C8] at hb
   split at hb
   ·cases hb
   ·cases hb
    obtain ⟨b,cur,T,rfl,g1,_⟩:=k5 a0 rfl (by omega)
    exact g1
end
end Go.Lift
