import Derived.Test.YtjcnhegjiffgpaaGreatDoorRiU
import Derived.Test.YtjcnhegjiffgpaaGreatDoorRiS
import Derived.RangeFuncOwn
import Derived.OrdersIn
import Derived.LoopNIn
import Derived.TacticsIn
set_option linter.unusedSimpArgs false
namespace Go.Lift
open Go.RowKit
def uw (ro:Option Nat):Fence:={ fn:=λ_=>True,depth:=none,alive:=false,round:=ro }
def QAD (o:Oper):Prop:=∀ c,o.op≠.defer c
theorem QOi {id:Nat} {ops:Array Oper} {draw:Bool} (h:Zh (.region id ops draw)=true) {o:Oper} (ho:o∈ops.toList):QAD o:=by
 intro c hc
 simp only [Zh] at h
 have:=List.all_eq_true.1 h o ho
 simp [hc] at this
section
variable {P:Program} {Q:Exit->Act->World->Prop} {o:Oper} {a:Act} {w:World} {K:Act->World->Prop} {ro:Option Nat} {n:Nat}
theorem l7 {f:FuncId} {args:Array Value} {R:Ending->World->Prop}:CallsIn (uw ro) n P f args w R↔Calls P f args w R:=callsIn_wide (n:=n) (P:=P) (f:=f) (args:=args) (w:=w) (R:=R)
theorem QEO {row:String} {args:Array Value} {R:Value->World->Prop} (h:Rows P row args w R):RowsIn (uw ro) n P row args w R:=
 λc cs _=>let ⟨v,w',r,s⟩:=h c cs;⟨v,w',r,stepsIn_wide.2 s⟩
theorem uq (hro:ro=none\/QAD o) (h:o.wp P a w K Q):o.wpIn (uw ro) n P a w K Q:=by
 have hs:o.semAt (uw ro).round a.eval=execOp a.eval o:=by
  rcases hro with rfl | h
  ·rfl
  ·exact Oper.semAt_eq _ _ _ h
 refine ⟨λ_ _=>trivial,?_⟩
 rw [hs]
 unfold Oper.wp at h
 generalize (execOp a.eval o).run P w=r at *
 cases r with
 | ok x w'=>
  cases x <;> simp only [Oper.upon,Oper.uponIn] at h ⊢ <;>
   first
    | exact h
    | exact ⟨λhd=>absurd hd (by simp [uw]),l7.2 h⟩
    | exact ⟨λhd=>absurd hd (by simp [uw]),QEO h⟩
    | exact h.elim
 | halt x w'=>cases x <;> simp only [Oper.upon,Oper.uponIn] at h ⊢ <;> first | exact h | exact h.elim
theorem Ye {ops:Array Oper} (hro:ro=none\/∀ o∈ops.toList,QAD o):∀ (fuel:Nat) (listed:Array Bool) (a:Act) (w:World),wpAnyS P ops Q fuel listed a w->wpAnyIn (uw ro) n P .any ops Q fuel listed a w
 | 0,_,_,_,h=>h
 | fuel+1,listed,a,w,h=>by
  refine ⟨h.1,λi hi=>?_⟩
  obtain ⟨_,o,ho,_⟩:=mem_ready.1 hi
  have hg:=h.2 i hi o ho
  unfold wpOpIn
  unfold GStep at hg
  simp only [ho]
  have hmem:o∈ops.toList:=Array.mem_toList_iff.2 (Array.mem_of_getElem? ho)
  split
  ·rename_i hw
   rw [AY hw] at hg
   exact Oper.wpIn_mono (λa w hh=>Ye hro fuel _ a w hh) (uq (hro.imp id λh=>h o hmem) hg)
  ·rename_i hw
   rw [AX hw] at hg
   exact ⟨λ_ _=>trivial,Ye hro fuel _ _ _ hg⟩
end
section
variable {P:Program} {E:CO} {Q:Exit->Act->World->Prop} {o:Oper} {w0:World} {M0 fU QXj:Bs} {N:Nat} {M M':Own} {β β':Nat->Nat} {τ τ':Nat->Value} {L:List (Nat×Ob)} {st st':St} {a a':Act} {as:List Act} {w w':World} {id:Nat} {b0 b0':Nat->Prop}
structure Sub (M0 fU:Bs):Prop where
 m:fU.M=M0.M
 k0:fU.kp0=M0.kp0
 ex:Ext M0.M1 M0.w1 fU.M1 fU.w1
 kp:∀ b,M0.kp b->fU.kp b/\fU.w1.heap[b]? = M0.w1.heap[b]?/\∀ o,fU.M1 b o->M0.M1 b o
theorem Sub.refl (M0:Bs):Sub M0 M0:=⟨rfl,rfl,Ext.refl _ _,λ_ h=>⟨h,rfl,λ_ m=>m⟩⟩
theorem Sub.trans (h:Sub M0 fU) (h':Sub fU QXj):Sub M0 QXj:=
 ⟨h'.m.trans h.m,h'.k0.trans h.k0,h.ex.trans h'.ex,λb hb=>by
  obtain ⟨k1,k2,k3⟩:=h.kp b hb
  obtain ⟨g1,g2,g3⟩:=h'.kp b k1
  exact ⟨g1,g2.trans k2,λo m=>k3 o (g3 o m)⟩⟩
theorem MX.own {ob:Ob} (h:MX b0 M w β τ L id ob) (hb:∀ b,blk β τ id ob=some b->b0 b->b0' b):MX b0' M w β τ L id ob:=by
 cases ob with
 | var t c=>exact ⟨hb _ rfl h.1,h.2⟩
 | mp kt vt es=>exact ⟨hb _ rfl h.1,h.2⟩
 | lp c q=>exact ⟨hb _ rfl h.1,h.2⟩
 | row t xs=>
  obtain ⟨⟨a,cap,row,h0,h1,h2,h3,h4,h5⟩,h6⟩:=h
  refine ⟨⟨a,cap,row,h0,h1,h2,h3,h4,λa0 ha hc=>?_⟩,h6⟩
  obtain ⟨b,cur,T,e,g1,g2⟩:=h5 a0 ha hc
  refine ⟨b,cur,T,e,hb b ?_ g1,g2⟩
  simp only [blk,h0,ha,e,LV]
  rw [AX (by omega)]
theorem Sm.QRR (s:Sm w0 fU N M β τ st a as w) (h:Sub M0 fU) (ht:a'.tmps=a.tmps) (hd:QMV w0 M0 a'.defers):Sm w0 M0 N M β τ st a' as w where
 df:=hd
 sz:=by rw [ht];exact s.sz
 J6:=s.J6
 mlt:=s.mlt
 Yn:=λb o m=>s.Yn b o (by rw [h.m];exact m)
 gk:=by have:=s.gk;rw [h.m] at this;exact this
 gx:=h.ex.trans s.gx
 kp:=λb k=>by
  obtain ⟨k1,k2,k3⟩:=h.kp b k
  obtain ⟨⟨g1,g2⟩,g3⟩:=s.kp b k1
  exact ⟨⟨g1.trans k2,g2⟩,λo m=>k3 o (g3 o m)⟩
 Fu:=λb o m=>by have:=s.Fu b o m;rw [h.m] at this;exact this
 fr:=λi rv hi=>by rw [ht];exact s.fr i rv hi
 fs:=s.fs
 ob:=λid ob hl=>(s.ob id ob hl).own λb _ hb=>⟨hb.1,λk=>hb.2 (h.kp b k).1⟩
 dj:=s.dj
def QSi (M0:Bs) (M:Own) (w:World) (D:Nat):Bs:={ M:=M0.M,M1:=M,w1:=w,kp:=λb=>M0.kp b\/b=D,kp0:=M0.kp0 }
theorem Sm.QM3 (s:Sm w0 M0 N M β τ st a as w) (D:Nat):Sub M0 (QSi M0 M w D):=
 ⟨rfl,rfl,s.gx,λb k=>⟨.inl k,(s.kp b k).1.1,(s.kp b k).2⟩⟩
theorem Sm.marked (s:Sm w0 M0 N M β τ st a as w) {D:Nat} (h0:w0.heap.size<=D) (hk:¬ M0.kp D) (hh:w.heap[D]? = some (.deferred (some []))) (hM:∀ o,¬ M D o) (hb:∀ id ob,lk id st.l=some ob->blk β τ id ob≠some D) :
  Sm w0 (QSi M0 M w D) N M β τ st { a with defers:=mark D::a.defers } as w where
 df:=by
  obtain ⟨h1,l,e,nd,hl⟩:=s.df
  refine ⟨λb h=>.inl (h1 b h),D::l,by simp [e],List.nodup_cons.2 ⟨λhm=>hk (hl D hm).2.1.1,nd⟩,λD' hD'=>?_⟩
  rcases List.mem_cons.1 hD' with rfl | hD'
  ·exact ⟨h0,⟨.inr rfl,λh=>hk (h1 _ h)⟩,hh,hM⟩
  ·obtain ⟨g1,g2,g3,g4⟩:=hl D' hD'
   obtain ⟨⟨k1,k2⟩,k3⟩:=s.kp D' g2.1
   exact ⟨g1,⟨.inl g2.1,g2.2⟩,k1.trans g3,λo m=>g4 o (k3 o m)⟩
 sz:=s.sz
 J6:=s.J6
 mlt:=s.mlt
 Yn:=s.Yn
 gk:=s.gk
 gx:=Ext.refl M w
 kp:=λb k=>by
  refine ⟨⟨rfl,?_⟩,λ_ m=>m⟩
  rcases k with k | rfl
  ·exact (s.kp b k).1.2
  ·exact (Am.1 hh).1
 Fu:=s.Fu
 fr:=s.fr
 fs:=s.fs
 ob:=λid ob hl=>(s.ob id ob hl).own λb hbl hb'=>⟨hb'.1,λk=>k.elim hb'.2 λe=>hb id ob hl (e ▸ hbl)⟩
 dj:=s.dj
theorem fE {b:Nat} {o:Obj} (hM:∀ o,¬ M b o):Ext M w M (w.putObj b o):=by
 intro b' o' m
 refine ⟨m,λu hu=>?_⟩
 have hne:b'≠b:=λe=>by subst e;exact hM o' m
 rw [World.cell?_of_block (w:=w) (World.putObj_heap_other hne)]
 exact hu
theorem iy {b:Nat} {o:Obj} (h:Below w0.heap.size w0 w) (hb:w0.heap.size<=b):Below w0.heap.size w0 (w.putObj b o):=
 h.trans ⟨rfl,rfl,rfl,by simp,λb' hb'=>World.putObj_heap_other (by omega)⟩
theorem Sm.QZm (s:Sm w0 M0 N M β τ st a as w) {b:Nat} (o:Obj) (hb:w0.heap.size<=b) (hk:¬ M0.kp b) (hM:∀ o,¬ M b o) (hbl:∀ id ob,lk id st.l=some ob->blk β τ id ob≠some b):Sm w0 M0 N M β τ st a as (w.putObj b o):=by
 refine s.gen (f:=some) (st':=st) (fE hM) (iy s.J6 hb) (λb' o' m=>by simpa using s.mlt b' o' m) s.Fu (λb' k=>⟨World.putObj_heap_other (λe=>hk (e ▸ k)),λ_ h=>h⟩) Gq.refl (IZ _).symm (Ju _).symm ?_ s.dj
 intro id ob h
 have:=MX.map (f:=some) (fE (o:=o) (w:=w) hM) Gq.refl rfl h (s.ob id ob h) λb' hb'=>⟨World.putObj_heap_other λe=>hbl id ob h (e ▸ hb'),λ_ h=>h⟩
 rwa [Gi] at this
def Yt (w:World):List Nat->World
 | []=>w
 | D::l=>Yt (w.putObj D (.deferred none)) l
theorem Sm.takes:∀ (l:List Nat) {w:World},Sm w0 M0 N M β τ st a as w->(∀ D∈l,w0.heap.size<=D/\¬ M0.kp D/\(∀ o,¬ M D o)/\∀ id ob,lk id st.l=some ob->blk β τ id ob≠some D)->Sm w0 M0 N M β τ st a as (Yt w l)
 | [],_,s,_=>s
 | D::l,w,s,h=>by
  obtain ⟨h1,h2,h3,h4⟩:=h D (by simp)
  exact Sm.takes l (s.QZm _ h1 h2 h3 h4) λD' hD'=>h D' (by simp [hD'])
theorem Sm.QRM (s:Sm w0 M0 N M β τ st a as w) {id:Nat} {con:RV} {q q':LQ} {r r':Loop} (hl:lk id st.l=some (.lp con q)) (hb:w.heap[β id]? = some (.loop r)) (hr:r'.tmps=r.tmps) (hq:QMh q' r') :
  Sm w0 M0 N M β τ (Dv id (.lp con q') st) a as (w.putObj (β id) (.loop r')):=by
 have hbk:blk β τ id (Ob.lp con q)=some (β id):=rfl
 obtain ⟨k1,k2,k3,_⟩:=s.block hl hbk
 have hext:Ext M w M (w.putObj (β id) (.loop r')):=fE k3
 have hlk:∀ j,lk j (VJ id (Ob.lp con q') st.l)=if j=id then some (.lp con q') else lk j st.l:=λj=>by rw [M6,hl];split <;> simp
 have hm:Gq some st.l β τ (VJ id (Ob.lp con q') st.l) β τ:=by
  intro i j o hf hi
  cases hf
  by_cases h:i=id
  ·subst h
   obtain rfl:=Au (hi.symm.trans hl)
   exact ⟨.lp con q',by rw [hlk];simp,rfl,rfl,rfl⟩
  ·exact ⟨o,by rw [hlk,AX h];exact hi,rfl,rfl,rfl⟩
 refine s.gen (f:=some) (st':=Dv id (.lp con q') st) hext (iy s.J6 k2.1) (λb o m=>by simpa using s.mlt b o m) s.Fu (λb' k=>⟨World.putObj_heap_other (λe=>k2.2 (e ▸ k)),λ_ h=>h⟩) hm (IZ _).symm (Ju _).symm ?_ ?_
 ·intro j o h
  simp only [Dv] at h
  rw [hlk] at h
  split at h
  ·rename_i hj
   subst hj
   cases h
   obtain ⟨_,⟨r0,g1,g2,m,g3⟩,_⟩:=s.ob j _ hl
   obtain rfl:r0=r:=by have:=g1.symm.trans hb;simpa using this
   exact ⟨k2,⟨r',World.putObj_heap_same k1,hq,m,by rw [hr];exact (g3.ext hext).keep hm⟩,k3⟩
  ·rename_i hj
   have:=MX.map (f:=some) hext hm rfl h (s.ob j o h) λb' hb2=>⟨World.putObj_heap_other λe=>hj (s.dj j id o _ (β id) h hl (e ▸ hb2) hbk),λ_ h=>h⟩
   rwa [Gi] at this
 ·intro j j' o o' b2 h h' hb1 hb2
  simp only [Dv] at h h'
  rw [hlk] at h h'
  have iF:∀ {j o},(if j=id then some (Ob.lp con q') else lk j st.l)=some o->blk β τ j o=some b2->∃ o0,lk j st.l=some o0/\blk β τ j o0=some b2:=by
   intro j o hh hb2
   by_cases hj:j=id
   ·rw [AY hj] at hh
    subst hj
    obtain rfl:=Au hh
    exact ⟨_,hl,hb2⟩
   ·rw [AX hj] at hh
    exact ⟨o,hh,hb2⟩
  obtain ⟨o0,g1,g2⟩:=iF h hb1
  obtain ⟨o0',g1',g2'⟩:=iF h' hb2
  exact s.dj j j' o0 o0' b2 g1 g1' g2 g2'
def QHr (l:Nat):Act:={ tmps:=#[.func (.yield l) #[] #[]],defers:=[] }
theorem QAb {l:Nat} (s:Sm w0 M0 N M β τ st a (QHr l::as) w) {t:Nat×RV×LQ} (h:QCs st=some t) :
  β t.1=l/\lk t.1 st.l=some (.lp t.2.1 t.2.2)/\∃ r,w.heap[l]? = some (.loop r)/\QMh t.2.2 r/\∃ m,RR M w β τ st.l t.2.1 .li (r.tmps.toList.take m):=by
 have hfs:=s.fs
 unfold QCs at h
 cases hk:st.k with
 | nil=>rw [hk] at h;cases h
 | cons p k=>
  rw [hk] at h hfs
  obtain ⟨b,sl⟩:=p
  simp only at h
  split at h
  ·rename_i id hid
   split at h
   ·rename_i con q hl
    cases h
    obtain ⟨u,hu,hr⟩:=hfs.1 0 _ hid
    simp only [RR] at hr
    obtain ⟨_,u',Fz,q',e,_,hl',hu'⟩:=hr
    cases e
    have hβ:β id=l:=by
     simp only [QHr] at hu
     have:u=.func (.yield l) #[] #[]:=by simpa using hu.symm
     rw [hu'] at this
     simpa using this
    obtain ⟨_,⟨r,g1,g2,m,g3⟩,_⟩:=s.ob id _ hl
    exact ⟨hβ,hl,r,by rw [<- hβ];exact g1,g2,m,g3⟩
   ·cases h
  ·cases h
theorem QFI {s:List (Nat×RV)} (hs:fq M w β τ L s a):∀ (n i:Nat),i+n<=a.tmps.size->RR M w β τ L (jf s i n) .li ((a.tmps.toList.drop i).take n)
 | 0,i,_=>by simp [jf,RR]
 | n+1,i,h=>by
  have hi:i < a.tmps.toList.length:=by simp;omega
  have ih:=QFI hs n (i+1) (by omega)
  rw [BA hi,List.take_succ_cons]
  simp only [jf,RR]
  refine ⟨_,_,rfl,?_,ih⟩
  cases hl:lk i s with
  | none=>exact ⟨_,rfl⟩
  | some rv=>
   obtain ⟨u,hu,hr⟩:=hs i rv hl
   have:a.tmps.toList[i]=u:=by
    have h2:=(Am.1 hu).2
    simpa using h2
   rw [this]
   exact hr
theorem kR {α:Type}:∀ {s:List (Nat×α)} {p:Nat×α},p∈s->∃ v,lk p.1 s=some v
 | q::s,p,h=>by
  rw [Bl]
  by_cases e:p.1=q.1
  ·exact ⟨q.2,by rw [AY e]⟩
  ·rw [AX e]
   rcases List.mem_cons.1 h with rfl | h
   ·exact absurd rfl e
   ·exact kR h
theorem QFj {n:Nat}:∀ {s:List (Nat×RV)},(∀ p∈s,p.1 < n)->maxS s<=n
 | [],_=>by simp [maxS]
 | q::s,h=>by
  simp only [maxS]
  have h1:=h q (by simp)
  have h2:=QFj (n:=n) (s:=s) λp hp=>h p (by simp [hp])
  cases Nat.ble (maxS s) q.1 with
  | true=>simp;omega
  | false=>simpa using h2
theorem QHc:∀ {con:RV} {i:Nat} {us:List Value},RR M w β τ L con .li us->∀ j rv,lk j (Yc i con)=some rv->i<=j/\∃ u,us[j - i]? = some u/\RR M w β τ L rv .sl [u]:=by
 intro con
 induction con with
 | pair x y _ ih=>
  intro i us r j rv h
  simp only [RR] at r
  obtain ⟨u,us',rfl,r1,r2⟩:=r
  have next:lk j (Yc (i+1) y)=some rv->i<=j/\∃ u',(u::us')[j - i]? = some u'/\RR M w β τ L rv .sl [u']:=by
   intro h
   obtain ⟨h1,u',h2,h3⟩:=ih r2 j rv h
   refine ⟨by omega,u',?_,h3⟩
   rw [show j - i=(j - (i+1))+1 by omega]
   simpa using h2
  have here:lk j ((i,x)::Yc (i+1) y)=some rv->i<=j/\∃ u',(u::us')[j - i]? = some u'/\RR M w β τ L rv .sl [u']:=by
   intro h'
   rw [Bl] at h'
   by_cases e:j=i
   ·rw [AY e] at h'
    obtain rfl:=Au h'
    subst e
    exact ⟨Nat.le_refl _,u,by simp,r1⟩
   ·rw [AX e] at h'
    exact next h'
  cases x with
  | any=>exact next h
  | _=>exact here h
 | _=>intro i us r j rv h;simp [Yc,lk] at h
theorem QCg:∀ {ps:List Tmp} {Gl:List RV} {us:List Value} {s:List (Nat×RV)} {tmps:Array Value},Ou M w β τ L Gl us->ps.all (Nat.blt · tmps.size)=true->fq M w β τ L s { tmps:=tmps,defers:=[] }->
  fq M w β τ L (uS ps Gl s) { tmps:=(ps.zip us).foldl (λt p=>t.setIfInBounds p.1 p.2) tmps,defers:=[] }
 | [],_,_,_,_,_,_,h=>by simpa [uS] using h
 | p::ps,[],[],_,_,_,_,h=>by simpa [uS] using h
 | p::ps,[],_::_,_,_,r,_,_=>r.elim
 | p::ps,_::_,[],_,_,r,_,_=>r.elim
 | p::ps,rv::Gl,u::us,s,tmps,r,hp,h=>by
  simp only [List.all_cons,AP] at hp
  have hlt:p < tmps.size:=Nat.lt_of_lt_of_le (Nat.lt_succ_self _) (Ak hp.1)
  simp only [uS,List.zip_cons_cons,List.foldl_cons]
  refine QCg r.2 (by simpa using hp.2) ?_
  intro i rv' hi
  rw [Bl] at hi
  split at hi
  ·rename_i e
   try dsimp only at e
   subst e
   cases hi
   exact ⟨u,by simp [hlt],r.1⟩
  ·rename_i e
   try dsimp only at e
   obtain ⟨u',h1,h2⟩:=h i rv' hi
   exact ⟨u',by rw [Array.getElem?_setIfInBounds_ne (Ne.symm e)];exact h1,h2⟩
end
section
variable {P:Program} {E:CO} {Q:Exit->Act->World->Prop} {o:Oper} {w0:World} {M0:Bs} {N:Nat} {M:Own} {β:Nat->Nat} {τ:Nat->Value} {st:St} {a:Act} {as:List Act} {w:World}
theorem QLW (s:Sm w0 M0 N M β τ st a as w) {rv:RV} {u:Value} {p:Nat×Nat×Nat} (h:QLV st.l rv=some p) (r:RR M w β τ st.l rv .sl [u]):∃ t xs,lk p.1 st.l=some (.row t xs)/\p.2.1<=p.2.2/\p.2.2<=List.length xs/\nA t.n p.2.1 p.2.2 (τ p.1) u:=by
 unfold QLV at h
 split at h
 ·rename_i id
  obtain ⟨t,xs,hl,hu⟩:=Rw r
  rw [hl] at h
  cases h
  refine ⟨t,xs,hl,Nat.zero_le _,Nat.le_refl _,?_⟩
  rw [hu]
  exact NA (s.ob _ _ hl).1
 ·cases h
  obtain ⟨t,xs,hl,h1,h2,h3⟩:=bX r
  exact ⟨t,xs,hl,h1,h2,h3⟩
 ·cases h
theorem Seq.zeros {e:Ty} {z:e.den} (hz:D6 e=some z):∀ n:Nat,Seq (EA M w e) (List.replicate n (zeroCells e)).flatten (List.replicate n z)
 | 0=>by simp [Seq]
 | n+1=>by
  simp only [List.replicate_succ,List.flatten_cons]
  exact ⟨_,_,rfl,Jf hz,Seq.zeros hz n⟩
theorem Sm.QTN (s:Sm w0 M0 N M β τ st a as w) {id:Nat} {t:Ty} {xs:List t.den} {z:t.den} {lo hi:Nat} {u:Value} (hl:lk id st.l=some (.row t xs)) (hlt:lo < hi) (hhi:hi<=xs.length) (hz:D6 t=some z) (hu:nA t.n lo hi (τ id) u) :
  ∃ ad cap w',u=.slice (some ad) (hi - lo) cap/\(storeCells ad (List.replicate (hi - lo) (zeroCells t)).flatten).run P w=.ok () w'/\Sm w0 M0 N M β τ (Dv id (.row t (xs.take lo++(List.replicate (hi - lo) z++xs.drop hi))) st) a as w':=by
 obtain ⟨⟨ad,cap,row,g0,g1,g2,g3,g4,g5⟩,g6⟩:=s.ob id _ hl
 have hpos:0 < cap:=by omega
 obtain ⟨a0,rfl⟩:∃ a0,ad=some a0:=by
  cases ad with
  | none=>have:=g3 rfl;omega
  | some a0=>exact ⟨a0,rfl⟩
 obtain ⟨b,cur,T,rfl,k1,⟨fz,kz,k2⟩,k3,k4,k5⟩:=g5 a0 rfl hpos
 have QGx:LV (τ id)=some b:=by rw [g0];simp [LV];omega
 obtain ⟨a1,len1,QGe,a',c,e1,rfl,⟨hc1,hc2⟩,h6⟩:=hu
 rw [g0] at e1
 cases e1
 have h7:=h6 (by omega)
 subst h7
 have hzs:=Seq.zeros (M:=M) (w:=w) hz (hi - lo)
 have hzl:(List.replicate (hi - lo) (zeroCells t)).flatten.length=(hi - lo) * t.n:=by rw [hzs.length (λ_ _ r=>EA.length r)];simp
 have hone:∀ v∈(List.replicate (hi - lo) (zeroCells t)).flatten,v.oneCell'=true:=mZ hzs
 generalize (List.replicate (hi - lo) (zeroCells t)).flatten=d at hzs hzl hone
 have hrl:row.length=xs.length * t.n:=g4.length (λ_ _ r=>r.length)
 have hmul:hi * t.n<=xs.length * t.n:=Nat.mul_le_mul_right _ hhi
 have Qdk:lo * t.n+(hi - lo) * t.n=hi * t.n:=by rw [<- Nat.add_mul];congr 1;omega
 have hcs:xs.length * t.n<=cur.size:=Nat.le_trans (Nat.mul_le_mul_right _ g1) k3
 have hst:=LM P b (lo * t.n) T d 0 cur w k2 kz (by omega) hone
 simp only [Nat.add_zero] at hst
 generalize hnr:(cur.toList.take (lo * t.n)++d++cur.toList.drop (lo * t.n+d.length)).toArray=nr at hst
 obtain ⟨c0,c1,e2,l2,s0,_⟩:=g4.cut (λ_ _ r=>EA.length r) lo (by omega)
 obtain ⟨d0,d1,e3,l3,_,s1⟩:=g4.cut (λ_ _ r=>EA.length r) hi hhi
 have QRC:c0++(d++d1)=row.take (lo * t.n)++(d++row.drop (hi * t.n)):=by
  rw [show row.take (lo * t.n)=c0 by rw [e2,<- l2];exact List.take_left,show row.drop (hi * t.n)=d1 by rw [e3,<- l3];exact List.drop_left]
 have hkey:LW (ownB w0 M0) M (w.setRow b nr) t (xs.take lo++(List.replicate (hi - lo) z++xs.drop hi)) (τ id):=by
  have hlen:(xs.take lo++(List.replicate (hi - lo) z++xs.drop hi)).length=xs.length:=by simp;omega
  refine ⟨some ⟨b,0,none⟩,cap,c0++(d++d1),by rw [hlen];exact g0,by rw [hlen];exact g1,g2,g3,?_,λa0 ha hc=>?_⟩
  ·exact (s0.append (hzs.append s1)).mono λ_ _ r=>r.ext (Q0 _ k5)
  ·cases ha
   have hns:nr.size=cur.size:=by rw [<- hnr];simp;omega
   refine ⟨b,_,T,rfl,k1,⟨fz,by rw [hns];exact kz,setRow_heap w _ _ _ T _ k2⟩,by rw [hns];exact k3,λj hj=>?_,k5⟩
   have hlt:j < row.length:=by
    rw [QRC] at hj
    simp at hj
    omega
   rw [QRC,<- hnr]
   simp only [List.getElem?_toArray,Ab]
   by_cases h1:j < lo * t.n
   ·rw [Ao (by simp;omega),Ao (by simp;omega),List.getElem?_take,List.getElem?_take,AY h1,AY h1]
    simpa using k4 j hlt
   ·have e5:(cur.toList.take (lo * t.n)).length=lo * t.n:=by simp;omega
    have e6:(row.take (lo * t.n)).length=lo * t.n:=by simp;omega
    rw [qH e5 (by omega),qH e6 (by omega)]
    by_cases h2:j - lo * t.n < d.length
    ·rw [Ao h2,Ao h2]
    ·rw [Ap (by omega),Ap (by omega),List.getElem?_drop,List.getElem?_drop]
     rw [show lo * t.n+d.length+(j - lo * t.n - d.length)=j by omega,show hi * t.n+(j - lo * t.n - d.length)=j by omega]
     simpa using k4 j hlt
 have hadd:(Option.map (λx=>x.add (lo * t.n)) (some (⟨b,0,none⟩:Addr)))=some ⟨b,lo * t.n,none⟩:=by simp [addr_add]
 refine ⟨⟨b,lo * t.n,none⟩,c,w.setRow b nr,by rw [<- hadd],hst,?_⟩
 refine s.write (b:=b) (Ij:=.row t (xs.take lo++(List.replicate (hi - lo) z++xs.drop hi))) hl QGx ?_ QGx nr λ_=>⟨hkey,g6⟩
 simp only [Ob.shape,Prod.mk.injEq,true_and]
 simp
 omega
theorem QOH {args:Array Operand} {ts:Array TypeId}:PC (λβ (k:Nat×Ob->Option β)=>QKd E args ts st λid ob=>k (id,ob)):=by
 unfold QKd
 split
 ·split
  ·refine PC.bind (X:=Nat×Ob) λp=>?_
   split
   ·exact PC.bind λxs=>PC.bind λz=>PC.bif (PC.ret _) PC.none
   ·exact PC.none
  ·exact PC.none
 ·exact PC.none
theorem QGg (hE:CJ P E) (s:Cu w0 M0 N st a as w) {args:Array Operand} {argTypes:Array TypeId} (hop:o.op=.call { callee:=.builtin .clear,args:=args,argTypes:=argTypes }) (hdst:o.dst=none) {α:Type} {k:St->Option α} {r:α}
  (h:(QKd E args argTypes st λid ob=>k (Dv id ob st))=some r):ROp P Q w0 M0 N o a as w k r:=by
 obtain ⟨M,β,τ,s⟩:=s
 intro K hK
 obtain ⟨⟨i,ob⟩,h1,h2⟩:=QOH _ (λq:Nat×Ob=>k (Dv q.1 q.2 st)) _ h
 have h3:=h1 _ some
 unfold QKd at h3
 split at h3
 case h_2=>cases h3
 rename_i x t hargs hts
 split at h3
 case h_2=>cases h3
 rename_i e hty
 obtain ⟨p,hp,h3a⟩:=AO.1 h3
 clear h3
 obtain ⟨t',xs0,hl,g1,g2,hu⟩:=QLW s hp (CG s.glob s.fr (some (.slice e)) x)
 rw [hl] at h3a
 obtain ⟨xs,hxs,h3b⟩:=AO.1 h3a
 clear h3a
 have:=TV.FE hxs
 cases this
 obtain ⟨z,hz,h4⟩:=AO.1 h3b
 clear h3b
 obtain ⟨hc,h5⟩:=BU h4
 rw [hE.rep] at h5
 cases h5
 have hargs':args = #[x]:=by rw [<- Array.toArray_toList (xs:=args),hargs]
 have QKz:argTypes = #[t]:=by rw [<- Array.toArray_toList (xs:=argTypes),hts]
 obtain ⟨e',hun,hle⟩:=(hE.tab _ _ hty).slice
 obtain ⟨ie,hie,hes,hez,_⟩:=(hE.tab _ _ hle).info
 have hpos:=Ak hc
 have hzs:(toV e (zeroCells e)).cells=(zeroCells e).toArray:=toV_cells (Jf (M:=M) (w:=w) hz)
 have hzl:=CU e
 have fin:∀ w',(Builtin.clear_ #[t] o.type #[a.eval x]).run P w=.ok (.tuple #[]) w'->Sm w0 M0 N M β τ (Dv p.1 (.row e (List.append (List.take p.2.1 xs) (List.append (List.replicate (p.2.2 - p.2.1) z) (List.drop p.2.2 xs)))) st) a as w'->o.wp P a w K Q:=by
  intro w' hrun s'
  have ZX:(execOp a.eval o).run P w=.ok (.value (.tuple #[])) w':=by
   simp only [execOp,hop,resolve,pure_bind,invoke,builtin,Sem.run_bind]
   rw [hargs',QKz,show Array.map a.eval #[x] = #[a.eval x] by simp,hrun]
   rfl
  unfold Oper.wp
  rw [ZX]
  show K (a.put o.dst _) w'
  rw [hdst]
  exact hK _ _ _ h2 ⟨M,β,τ,s'⟩
 by_cases hlt:p.2.1 < p.2.2
 ·obtain ⟨ad,cap,w',e1,e2,e3⟩:=s.QTN (P:=P) hl hlt g2 hz hu
  refine fin w' ?_ e3
  have hcl:(Builtin.zeroCells (zeroCells e).toArray (p.2.2 - p.2.1)).toList=(List.replicate (p.2.2 - p.2.1) (zeroCells e)).flatten:=by
   have:=XJ (zeroCells e).toArray (by simp only [List.size_toArray,hzl];exact hpos) (p.2.2 - p.2.1)
   exact this
  obtain ⟨m,hm⟩:∃ m,p.2.2 - p.2.1=m+1:=⟨p.2.2 - p.2.1 - 1,by omega⟩
  rw [e1]
  rw [hm] at hcl e2 ⊢
  simp [Builtin.clear_,run_underlying hun,zeroValue,typeInfo,hie,hez,hzs,hcl,e2]
 ·have hz0:p.2.2 - p.2.1=0:=by omega
  have heq:p.2.2=p.2.1:=by omega
  refine fin w ?_ ?_
  ·obtain ⟨a1,len1,QGe,a',c,e1,hv,_⟩:=hu
   rw [hv,hz0]
   cases a' <;> simp [Builtin.clear_,run_underlying hun]
  ·have hxs':List.append (List.take p.2.1 xs) (List.append (List.replicate (p.2.2 - p.2.1) z) (List.drop p.2.2 xs))=xs:=by
    rw [hz0,heq]
    show List.take p.2.1 xs++([]++List.drop p.2.1 xs)=xs
    simp
   rw [hxs']
   refine s.sK (λ_=>rfl) (λj=>?_) rfl
   simp only [Dv]
   rw [M6,hl]
   split
   ·rename_i e;rw [e];exact hl
   ·rfl
end
section
variable {w0:World} {M0:Bs} {N:Nat} {st:St} {a:Act} {as:List Act} {w:World}
theorem QEK (s:Cu w0 M0 N st a as w) (i:Nat):Cu w0 M0 N (QAL st i) a as w:=by
 unfold QAL
 split
 ·rename_i id lo hi hi0
  cases hb:Nat.beq lo 0 with
  | false=>exact s
  | true=>
   simp only [AL]
   split
   ·rename_i t xs hl
    have hlo:=Aa hb
    subst hlo
    obtain ⟨M,β,τ,s⟩:=s
    obtain ⟨u,hu,hr⟩:=s.fr i _ hi0
    have hu1:u.oneCell'=true:=by
     simp only [RR] at hr
     obtain ⟨_,u',_,_,e,h1,_⟩:=hr
     cases e
     exact h1
    obtain ⟨hx,hbl⟩:=y5 s (e:=t) (xs:=(List.take hi xs,some id)) (by
     have:TV.as (.slice t) ⟨.slice t,xs⟩=some xs:=by simp [TV.as]
     simp only [vC,hl,Nat.beq_refl,AL]
     rw [this]
     rfl) hr
    have hi':i < N:=by rw [<- s.sz];exact (Am.1 hu).1
    have hlt:i < a.tmps.size:=(Am.1 hu).1
    have sk:=s.kill id
    have hfree:lk id (OX id st).l=none:=by rw [bF,AY rfl]
    have s2:=sk.QKR (ob:=.row t (List.take hi xs)) (bn:=(LV u).getD 0) (v:=u) hfree (Ext.refl _ _) s.J6 s.mlt s.Fu (λ_ _=>⟨rfl,λ_ m=>m⟩)
     (λj ob b hj hb'=>⟨rfl,λ_ m=>m,λhw=>by
      simp only [QA9] at hw
      obtain ⟨i2,ob2,e2,l2,b2⟩:=hbl b hw
      cases e2
      obtain ⟨hne,o0,h1,rfl⟩:=JW hj
      rw [TU] at hb'
      exact hne (s.dj j _ o0 ob2 b h1 l2 hb' b2)⟩)
     (λβ' τ' h1 h2 _=>⟨by rw [h2];exact hx,λb hb'=>by rw [h2] at hb';rw [h1,hb'];rfl⟩)
    have s3:=s2.set (some i) (λj hj=>by cases hj;exact hi') (rv:=.row id) (v:=u) (by
     simp only [RR]
     exact ⟨rfl,u,t,List.take hi xs,rfl,hu1,by simp [addN,Bl],by simp⟩)
    have:a.put (some i) u=a:=by
     simp only [Act.put]
     rw [show a.tmps.setIfInBounds i u=a.tmps from ?_]
     apply Array.ext_getElem?
     intro j
     by_cases hj:j=i
     ·subst hj
      rw [hu]
      simp [hlt]
     ·rw [Array.getElem?_setIfInBounds_ne (Ne.symm hj)]
    rw [this] at s3
    exact ⟨M,_,_,s3⟩
   ·exact s
 ·exact s
theorem mY:∀ (l:List Nat) {st:St},Cu w0 M0 N st a as w->Cu w0 M0 N (l.foldl QAL st) a as w
 | [],_,s=>s
 | i::l,_,s=>mY l (QEK s i)
end
section
variable {P:Program}
theorem step_take {fr:Frame} {cs:List Frame} {w:World} {D:Nat} {ds:List Deferred} (hm:fr.mode=.returning) (hd:fr.defers=mark D::ds) (hh:w.heap[D]? = some (.deferred (some []))) :
  step P (lone fr cs w)=.next (lone { fr with defers:=ds } cs (w.putObj D (.deferred none))):=
 step_lone_go (by simp [Go.stepG,unwind,hm,hd,mark,Sem.runT_eq,run_takeDeferred hh,Go.GStep.bare_after])
theorem aB:∀ (l:List Nat) {fr:Frame} {cs:List Frame} {w:World},fr.mode=.returning->fr.defers=l.map mark->l.Nodup->(∀ D∈l,w.heap[D]? = some (.deferred (some [])))->Steps P (lone fr cs w) (lone { fr with defers:=[] } cs (Yt w l))
 | [],fr,cs,w,_,hd,_,_=>by
  have:{ fr with defers:=[] }=fr:=by cases fr;simp_all
  rw [this]
  exact Steps.refl _ _
 | D::l,fr,cs,w,hm,hd,hn,hh=>by
  obtain ⟨h1,h2⟩:=List.nodup_cons.1 hn
  refine .head (step_take hm hd (hh D (by simp))) ?_
  exact aB l (fr:={ fr with defers:=l.map mark }) hm rfl h2 λD' hD'=>by
   have hne:D'≠D:=λe=>by subst e;exact h1 hD'
   rw [World.putObj_heap_other hne]
   exact hh D' (by simp [hD'])
def QYn (P:Program) (fn:Func) (R:Ending->World->Prop):Exit->Act->World->Prop
 | .normal,a,w | .ret,a,w=>∃ l:List Nat,a.defers=l.map mark/\l.Nodup/\(∀ D∈l,w.heap[D]? = some (.deferred (some [])))/\∃ v,(results fn a.tmps).run P (Yt w l)=.ok v (Yt w l)/\R (.returned v) (Yt w l)
 | _,_,_=>False
theorem yh {f:FuncId} {fn:Func} {c:Code} {args:Array Value} {w:World} {R:Ending->World->Prop} (hf:P.funcs[f]? = some fn) (hb:fn.body=some c)
  (h:c.wp P (QYn P fn R) { tmps:=args++Array.replicate (fn.ntmps - args.size) undef,defers:=[] } w):Calls P f args w R:=by
 intro cs
 let b:Frame:={ (default:Frame) with fn:=f,kind:=.normal }
 have henter:Frame.enter P f args .normal =
   b.at { tmps:=args++Array.replicate (fn.ntmps - args.size) undef,defers:=[] } [.code c]:=by
  simp [Frame.enter,Frame.at,hf,hb,b]
 obtain ⟨e,a',w',hq,harr⟩:=h b [] cs
 rw [<- henter] at harr
 cases e with
 | normal=>
  obtain ⟨l,hd,hn,hh,v,hr,hR⟩:=hq
  have h2:=Steps.trans harr (.head step_end (aB (P:=P) l (fr:={ b.at a' [] with mode:=.returning }) (cs:=cs) rfl hd hn hh))
  exact ⟨.returned v,Yt w' l,_,hR,h2,rfl,rfl,rfl,rfl,fn,hf,hr⟩
 | ret=>
  obtain ⟨l,hd,hn,hh,v,hr,hR⟩:=hq
  obtain ⟨todo,hs⟩:=harr
  have h2:=Steps.trans hs (aB (P:=P) l (fr:={ b.at a' todo with mode:=.returning }) (cs:=cs) rfl hd hn hh)
  exact ⟨.returned v,Yt w' l,_,hR,h2,rfl,rfl,rfl,rfl,fn,hf,hr⟩
 | exit id=>exact hq.elim
 | goto l=>exact hq.elim
 | panic ch=>exact hq.elim
 | outgrown=>exact hq.elim
end
section
variable {P:Program} {Q Q':Exit->Act->World->Prop} {ro:Option Nat} {n:Nat}
end
end Go.Lift
