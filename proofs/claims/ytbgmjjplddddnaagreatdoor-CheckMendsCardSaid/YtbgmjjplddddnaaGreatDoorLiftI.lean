import Derived.Test.YtbgmjjplddddnaaGreatDoorLiftH
set_option linter.unusedSimpArgs false
namespace Go.Lift
open Go.RowKit
theorem EF {α:Type} {c:Prop} [Decidable c] {x:Option α} {r:α} (h:(if c then x else none)=some r):c/\x=some r:=by
 by_cases hc:c
 ·exact ⟨hc,by simpa [hc] using h⟩
 ·simp [hc] at h
theorem Gx {α:Type} {xs:List α} {i:Int} {x:α} (h:Nk xs i=some x):0<=i/\i.toNat < xs.length/\xs[i.toNat]? = some x:=by
 unfold Nk at h
 obtain ⟨h1,h2⟩:=BL h
 exact ⟨of_decide_eq_true h1,(Ap.1 h2).1,h2⟩
theorem QD {α:Type} {R:List Value->α->Prop} {n:Nat} (hR:∀ cs x,R cs x->cs.length=n) {row:List Value} {xs:List α} {l h:Nat} (s:Seq R row xs) (hlh:l<=h) (hh:h<=xs.length) :
  ∃ c0 c1 c2,row=c0++(c1++c2)/\c0.length=l * n/\Seq R c1 ((xs.take h).drop l):=by
 obtain ⟨d0,d1,e1,l1,s0,s1⟩:=s.cut hR h hh
 obtain ⟨c0,c1,e2,l2,t0,t1⟩:=s0.cut hR l (by simp;omega)
 exact ⟨c0,c1,d1,by rw [e1,e2,Ab],l2,t1⟩
section
variable {P:Program} {E:Env} {el:TypeId->Option TypeId} {Q:Exit->Act->World->Prop} {o:Oper} {w0:World} {M0:Own} {N:Nat} {M:Own} {β:Nat->Nat} {τ:Nat->Value} {fr:Fr} {a:Act} {w:World} {av:AV}
theorem Dt.Tq (s:Dt P w0 M0 N M β τ fr a w) {id:Nat} {e:Bool×TV} {p:List Step} {off:Nat} {t':Ty} {v:TV} (he:lk id fr.l=some e) (ho:Bc e.2.1 p=some (off,t')) (hg:Eo e.2.1 e.2.2 p=some v) :
  ∃ row,v.1=t'/\Br M w v.1 row v.2/\∀ i,i < row.length->w.cell? ⟨β id,off+i,none⟩=row[i]?:=by
 obtain ⟨_,⟨cs,T,hb,r⟩,_⟩:=s.lo id e he
 obtain ⟨h1,c0,c1,c2,e1,h2,h3⟩:=FJ hg ho r
 refine ⟨c1,h1,h3,fun i hi=>?_⟩
 rw [cell_of_row _ _ _ _ _ _ hb,e1,← h2,List.getElem?_toArray,Ao (by omega),Nat.add_sub_cancel_left,Am hi]
theorem Eh {x:AV} {i:Int} {v:Value} (h:Ef x=some i) (hv:Ib M w β τ fr.l x v):∃ k,v=.int k i/\k.min<=i/\i<=k.max:=by
 unfold Ef at h
 split at h
 ·cases h
  obtain ⟨rfl,h⟩:=hv.1.int
  exact ⟨_,rfl,h⟩
 ·cases h
theorem MW (s:Dt P w0 M0 N M β τ fr a w) {M':Own} (hM:∀ b o,M b o->M' b o) (hL:∀ id e,lk id fr.l=some e->∀ o,M' (β id) o):∀ {xs:List Operand} {ts:List TypeId} {vs:List TV},Dw E fr xs ts=some vs->EM M' w vs (xs.map a.eval)
 | [],[],vs,h=>by simp [Dw] at h;subst h;exact trivial
 | [],_::_,vs,h=>by simp [Dw] at h
 | _::_,[],vs,h=>by simp [Dw] at h
 | x::xs,t::ts,vs,h=>by
  simp only [Dw,AO] at h
  obtain ⟨v,hv,us,hu,h⟩:=h
  cases h
  refine ⟨?_,MW s hM hL hu⟩
  have hx:=Bw s (lk t E.tab) x
  unfold ev at hv
  generalize JM (lk t E.tab) x fr=y at hv hx
  have hext:Ext M w M' w:=fun b o m=>⟨hM b o m,fun _ h=>h⟩
  cases y with
  | val u Vh=>simp only [Jz,Ac] at hv;subst hv;exact hx.1.ext hext
  | loc id p=>
   simp only [Jz,AO] at hv
   obtain ⟨e,he,u,hu,hv⟩:=hv
   cases hv
   obtain ⟨e',off,t',he',ho,hval⟩:=hx
   obtain rfl:e=e':=Ar (he.symm.trans he')
   obtain ⟨row,h1,h2,h3⟩:=s.Tq he ho hu
   exact ⟨[a.eval x],rfl,β id,off,row,by rw [hval],fun i hi=>⟨h3 i hi,hL id e he _⟩,h2.ext hext⟩
  | any=>simp [Jz] at hv
  | Db l=>simp [Jz] at hv
theorem Ij (s:Dt P w0 M0 N M β τ fr a w):∀ {xs:List Operand} {ts:List TypeId} {vs:List TV},JN E fr xs ts=false->Dw E fr xs ts=some vs->EM M w vs (xs.map a.eval)
 | [],[],vs,_,h=>by simp [Dw] at h;subst h;exact trivial
 | [],_::_,vs,_,h=>by simp [Dw] at h
 | _::_,[],vs,_,h=>by simp [Dw] at h
 | x::xs,t::ts,vs,hn,h=>by
  simp only [Dw,AO] at h
  obtain ⟨v,hv,us,hu,h⟩:=h
  cases h
  simp only [JN,Bool.or_eq_false_iff] at hn
  refine ⟨?_,Ij s hn.2 hu⟩
  have hx:=Bw s (lk t E.tab) x
  have hn1:=hn.1
  unfold ev at hv hn1
  generalize JM (lk t E.tab) x fr=y at hv hx hn1
  cases y with
  | val u Vh=>simp only [Jz,Ac] at hv;subst hv;exact hx.1
  | loc id p=>simp at hn1
  | any=>simp [Jz] at hv
  | Db l=>simp [Jz] at hv
theorem Gu:∀ (rs:List Ty) (r:BP rs),(Dr rs r).length=rs.length
 | [],_=>rfl
 | [_],_=>rfl
 | _::u::ts,r=>by simp [Dr,Gu (u::ts) r.2]
theorem JI:∀ (rs:List Ty) (r:BP rs),rs.all (·.flat)=true->∀ v∈Dr rs r,v.1.flat=true
 | [],_,_=>by simp [Dr]
 | [t],r,h=>by simpa [Dr] using h
 | t::u::ts,r,h=>by
  simp only [List.all_cons,AP] at h
  intro v hv
  simp only [Dr,List.mem_cons] at hv
  rcases hv with rfl | hv
  ·exact h.1
  ·exact JI (u::ts) r.2 (by simpa using h.2) v hv
theorem Qk {rs:List Ty} {r:BP rs} (hf:rs.all (·.flat)=true) {M M':Own} {w w':World} {β:Nat->Nat} {τ:Nat->Value} {L:List (Nat×Bool×TV)} {v:Value} (h:Ib M w β τ L (NA rs r) v):Ib M' w' β τ L (NA rs r) v:=by
 match rs,r,hf,h with
 | [],_,_,_=>trivial
 | [t],r,hf,h=>
  obtain ⟨⟨cs,e,r'⟩,_⟩:=h
  exact ⟨⟨cs,e,r'.flat (by simpa using hf)⟩,trivial⟩
 | t::u::ts,r,hf,h=>
  obtain ⟨vs,e,l,f⟩:=h
  refine ⟨vs,e,l,fun i tv hi=>?_⟩
  obtain ⟨x,hx,cs,e,r'⟩:=f i tv hi
  exact ⟨x,hx,cs,e,r'.flat (JI _ _ hf tv (BD hi))⟩
theorem QA (hE:GH P E el) (s:Dt P w0 M0 N M β τ fr a w) {f:FuncId} {args:Array Operand} {ts:Array TypeId} {fn:Fn} {vs:List TV} {x r} (hop:o.op=.call { callee:=.value (.func f),args:=args,argTypes:=ts })
  (hf:lk f E.fs=some fn) (hl:JN E fr args.toList ts.toList=true->fn.rs.all (·.flat)=true) (hv:Dw E fr args.toList ts.toList=some vs) (hx:Cc fn.ps vs=some x) (hr:fn.F x=some r) :
  OQ P Q o a w M β τ fr.l (NA fn.rs r):=by
 have hL:=hE.fs f fn hf
 intro K hK
 have hrun:(execOp a.eval o).run P w=.ok (.enter f (args.toList.map a.eval).toArray) w:=by
  simp only [execOp,hop,resolve,Act.eval,Deferred.ofValue,Sem.run_bind,Sem.run_pure,Result.andThen_ok,invoke]
  rw [show (#[]++Array.map a.eval args ++ #[])=(args.toList.map a.eval).toArray by simp [← Array.toList_map]]
  exact hL.enters _ w
 unfold Oper.wp
 rw [hrun,Oper.upon_enter]
 cases hloc:JN E fr args.toList ts.toList with
 | false=>
  refine (hL.calls w M _ vs x r s.mlt s.glob (Ij s hloc hv) hx hr).mono ?_
  rintro e w' ⟨v,M',rfl,hg,hres⟩
  exact hK v w' M' hg (hres _ _ _)
 | true=>
  have TU:=hl hloc
  refine (hL.calls w (fun b o=>M b o∨∃ id e,lk id fr.l=some e/\b=β id) _ vs x r ?_ (s.glob.ext (fun b o m=>⟨.inl m,fun _ h=>h⟩) (Below.refl _ _)) (MW s (fun b o m=>.inl m) (fun id e he o=>.inr ⟨id,e,he,rfl⟩) hv) hx hr).mono ?_
  ·rintro b o (m | ⟨id,e,he,rfl⟩)
   ·exact s.mlt b o m
   ·obtain ⟨_,⟨cs,T,hb,_⟩,_⟩:=s.lo id e he
    exact (Al.1 hb).1
  ·rintro e w' ⟨v,M',rfl,hg,hres⟩
   exact hK v w' M ⟨hg.Cq,fun _ _ m=>m,fun _ _ m=>.inl m,fun b o m=>Nat.lt_of_lt_of_le (s.mlt b o m) hg.Cq.size⟩ (Qk TU (hres _ _ _))
theorem BU {sem:Sem Value} {v:Value} {w':World} (h:execOp a.eval o=(do pure (Next.value (← sem)))) (hr:sem.run P w=.ok v w'):(execOp a.eval o).run P w=.ok (.value v) w':=by
 rw [h,Sem.run_bind,hr]
 rfl
theorem sizeOf_ok {tab:List (TypeId×Ty)} {tid:TypeId} {t:Ty} (h:ER P tab tid t) (w:World):(sizeOf tid).run P w=.ok t.n w:=h.sizeOf w
theorem QV (hE:GH P E el) (s:Dt P w0 M0 N M β τ fr a w) {T:TypeId} {x:Operand} (hop:o.op=.load T x) (h:Du E o fr some=some av):OQ P Q o a w M β τ fr.l av:=by
 unfold Du at h
 simp only [hop,ev] at h
 have hx:=Bw s (lk o.type E.tab) x
 have he:execOp a.eval o=(do pure (Next.value (← Instr.loadAt T (a.eval x)))):=by simp only [execOp,hop]
 split at h
 ·rename_i id p heq
  rw [heq] at hx
  obtain ⟨e,off,t',h1,h2,h3⟩:=hx
  simp only [Gy,AO] at h
  obtain ⟨e',h1',v,hv,h⟩:=h
  obtain rfl:e'=e:=Ar (h1'.symm.trans h1)
  obtain ⟨hc,h⟩:=BL h
  cases h
  obtain ⟨row,_,hr,hcell⟩:=s.Tq h1 h2 hv
  refine q_val s.mlt (BU he ?_) ⟨⟨row,rfl,hr⟩,trivial⟩
  rw [h3]
  exact LU (hE.tab _ _ (BQ hc)) hcell hr
 ·rename_i t y _ heq
  rw [heq] at hx
  obtain ⟨hc,h⟩:=BL h
  cases h
  obtain ⟨b,off,row,h3,hrow,hr⟩:=hx.1.ptr
  refine q_val s.mlt (BU he ?_) ⟨⟨row,rfl,hr⟩,trivial⟩
  rw [h3]
  exact LU (hE.tab _ _ (BQ hc)) (fun i hi=>(hrow i hi).1) hr
 ·cases h
theorem KN (hE:GH P E el) (s:Dt P w0 M0 N M β τ fr a w) {T:TypeId} {x:Operand} {f:Nat} (hop:o.op=.fieldAddr T x f) (h:Du E o fr some=some av):OQ P Q o a w M β τ fr.l av:=by
 unfold Du at h
 simp only [hop,ev] at h
 have hx:=Bw s (lk o.type E.tab) x
 have he:execOp a.eval o=(do pure (Next.value (← Instr.fieldAt T (a.eval x) f))):=by simp only [execOp,hop]
 have place:∀ (t c:Ty) (b off:Nat),ER P E.tab T t->fieldTy t f=some c->a.eval x=.pointer (some ⟨b,off,none⟩)->∃ k,Bc t [.EO f]=some (k,c)/\(Instr.fieldAt T (a.eval x) f).run P w=.ok (.pointer (some ⟨b,off+k,none⟩)) w:=by
  intro t c b off hT hf hv
  obtain ⟨fs,fd,k,hu,WR,htc,ho,hoff,hn⟩:=hT.fields hf
  refine ⟨k,ho,?_⟩
  have hsz:=(hE.tab _ _ htc).sizeOf w
  simp only [Instr.fieldAt,Sem.run_bind,run_underlying hu,Result.andThen_ok,WR,hv,Instr.sureAddr,Sem.run_pure,fieldPlace,hsz,AX (show ¬ c.n=0 by omega),addr_add,hoff]
 split at h
 ·rename_i id p heq
  rw [heq] at hx
  obtain ⟨e,off,t',h1,h2,h3⟩:=hx
  simp only [AO] at h
  obtain ⟨e',h1',h⟩:=h
  obtain rfl:e'=e:=Ar (h1'.symm.trans h1)
  rw [EZ h2] at h
  obtain ⟨hc,h⟩:=BL h
  cases h
  simp only [AP] at hc
  obtain ⟨c,hc2⟩:=Option.isSome_iff_exists.1 hc.2
  obtain ⟨k,ho,hr⟩:=place t' c _ off (hE.tab _ _ (BQ hc.1)) hc2 h3
  exact q_val s.mlt (BU he hr) ⟨e',_,c,h1,Hf h2 ho,rfl⟩
 ·rename_i t y _ heq
  rw [heq] at hx
  obtain ⟨hc,h⟩:=BL h
  simp only [AO] at h
  obtain ⟨v,hv,h⟩:=h
  cases h
  obtain ⟨b,off,row,h3,hrow,hr⟩:=hx.1.ptr
  obtain ⟨hg,hf⟩:=Ip hv
  obtain ⟨k,ho,hrun⟩:=place t v.1 b off (hE.tab _ _ (BQ hc)) hf h3
  obtain ⟨_,c0,c1,c2,e1,h2,hrep⟩:=FJ hg ho hr
  refine q_val s.mlt (BU he hrun) ⟨⟨_,rfl,b,off+k,c1,rfl,?_,hrep⟩,trivial⟩
  rw [e1] at hrow
  have:=hrow.right.left
  rwa [h2] at this
 ·cases h
theorem Oi (hE:GH P E el) (s:Dt P w0 M0 N M β τ fr a w) {T:TypeId} {x:Operand} {f:Nat} (hop:o.op=.field T x f) (h:Du E o fr some=some av):OQ P Q o a w M β τ fr.l av:=by
 unfold Du at h
 simp only [hop,ev] at h
 have hx:=Bw s (lk o.type E.tab) x
 have he:execOp a.eval o=(do pure (Next.value (← Instr.field T (a.eval x) f))):=by simp only [execOp,hop]
 split at h
 ·rename_i t y _ heq
  rw [heq] at hx
  obtain ⟨hc,h⟩:=BL h
  simp only [AO] at h
  obtain ⟨v,hv,h⟩:=h
  cases h
  obtain ⟨hg,hf⟩:=Ip hv
  obtain ⟨fs,fd,k,hu,WR,htc,ho,hoff,hn⟩:=(hE.tab _ _ (BQ hc)).fields hf
  have hag:t.isAgg=true:=by cases t <;> first | rfl | (simp [fieldTy] at hf)
  obtain ⟨cs,hv',hr⟩:=hx.1.agg hag
  obtain ⟨_,c0,c1,c2,e1,h2,hrep⟩:=FJ hg ho hr
  refine q_val s.mlt (BU he ?_) ⟨⟨c1,rfl,hrep⟩,trivial⟩
  rw [hv']
  simp only [Instr.field,Sem.run_bind,run_underlying hu,Result.andThen_ok,WR,asAgg,Sem.run_pure]
  exact FU (hE.tab _ _ htc) (.inl hn) e1 hrep (by rw [hoff,h2]) w
 ·cases h
theorem KQ (hE:GH P E el) (s:Dt P w0 M0 N M β τ fr a w) {T:TypeId} {x i:Operand} (hop:o.op=.indexAddr T x i) (h:Du E o fr some=some av):OQ P Q o a w M β τ fr.l av:=by
 unfold Du at h
 simp only [hop,ev,AO] at h
 obtain ⟨j,hj,h⟩:=h
 have hx:=Bw s (lk o.type E.tab) x
 obtain ⟨kj,Px,hjr⟩:=Eh hj (Bw s (some (.int .i64)) i)
 have he:execOp a.eval o=(do pure (Next.value (← Instr.indexAt T (a.eval x) (a.eval i)))):=by simp only [execOp,hop]
 split at h
 ·rename_i id p heq
  rw [heq] at hx
  obtain ⟨e,off,t',h1,h2,h3⟩:=hx
  simp only [AO] at h
  obtain ⟨e',h1',h⟩:=h
  obtain rfl:e'=e:=Ar (h1'.symm.trans h1)
  rw [EZ h2] at h
  split at h
  ·rename_i n t ht
   cases ht
   obtain ⟨hc,h⟩:=BL h
   obtain ⟨hb,h⟩:=BL h
   cases h
   simp only [AP,AZ] at hb
   obtain ⟨e1,hu,hl,_⟩:=(hE.tab _ _ (BQ hc)).arr
   have hsz:=(hE.tab _ _ hl).sizeOf w
   refine q_val s.mlt (v:=.pointer (some ⟨β id,off+j.toNat * t.n,none⟩)) (BU he ?_) ⟨e',off+j.toNat * t.n,t,h1,?_,rfl⟩
   ·rw [Px,h3]
    simp only [Instr.indexAt,asIntOf,Sem.run_bind,Sem.run_pure,Result.andThen_ok,run_underlying hu,Instr.sureAddr,hsz,AY hb,addr_add]
   ·refine Hf h2 ?_
    simp only [Bc,AY hb]
    cases t <;> rfl
  ·cases h
 ·rename_i t ys _ heq
  rw [heq] at hx
  obtain ⟨hc,h⟩:=BL h
  simp only [AO] at h
  obtain ⟨y,hy,h⟩:=h
  cases h
  obtain ⟨e1,hu,hl⟩:=V7 hE.tab hc
  have hsz:=(hE.tab _ _ hl).sizeOf w
  obtain ⟨g0,g1,g2⟩:=Gx hy
  obtain ⟨ad,cap,row,hv,hle,hcm,_,hs,hrow⟩:=hx.1.slice
  obtain ⟨c0,c1,c2,e2,hl2,hr⟩:=hs.at (fun _ _ r=>r.length) j.toNat g2
  have hb:0<=j/\j < (List.length ys:Int):=⟨g0,by omega⟩
  have finish:∀ b o',ad=some ⟨b,o',none⟩->Row M w b (o'+j.toNat * t.n) c1->OQ P Q o a w M β τ fr.l (.val ⟨.ptr t,y⟩ .no):=by
   intro b o' had hrow'
   refine q_val s.mlt (v:=.pointer (some ⟨b,o'+j.toNat * t.n,none⟩)) (BU he ?_) ⟨⟨_,rfl,b,o'+j.toNat * t.n,c1,rfl,hrow',hr⟩,trivial⟩
   rw [Px,hv,had]
   simp only [Instr.indexAt,asIntOf,Sem.run_bind,Sem.run_pure,Result.andThen_ok,run_underlying hu,hsz,AY hb,addr_add]
  rcases hrow with hz | ⟨b,o',had,hrow⟩
  ·exact absurd (Nat.lt_of_lt_of_eq g1 hz) (Nat.not_lt_zero _)
  ·refine finish b o' had ?_
   rw [e2] at hrow
   have:=hrow.right.left
   rwa [hl2] at this
 ·rename_i n t ys _ heq
  rw [heq] at hx
  obtain ⟨hc,h⟩:=BL h
  simp only [AO] at h
  obtain ⟨y,hy,h⟩:=h
  cases h
  obtain ⟨e1,hu,hl,_⟩:=(hE.tab _ _ (BQ hc)).arr
  have hsz:=(hE.tab _ _ hl).sizeOf w
  obtain ⟨g0,g1,g2⟩:=Gx hy
  obtain ⟨b,off,row,hv,hrow,hr0⟩:=hx.1.ptr
  obtain ⟨c0,c1,c2,e2,hl2,hr⟩:=hr0.2.at (fun _ _ r=>r.length) j.toNat g2
  have hlen:List.length ys=n:=hr0.1
  have hb:0<=j/\j < (n:Int):=⟨g0,by omega⟩
  refine q_val s.mlt (v:=.pointer (some ⟨b,off+j.toNat * t.n,none⟩)) (BU he ?_) ⟨⟨_,rfl,b,off+j.toNat * t.n,c1,rfl,?_,hr⟩,trivial⟩
  ·rw [Px,hv]
   simp only [Instr.indexAt,asIntOf,Sem.run_bind,Sem.run_pure,Result.andThen_ok,run_underlying hu,Instr.sureAddr,hsz,AY hb,addr_add]
  ·rw [e2] at hrow
   have:=hrow.right.left
   rwa [hl2] at this
 ·cases h
theorem Ol (hE:GH P E el) (s:Dt P w0 M0 N M β τ fr a w) {T:TypeId} {x i:Operand} (hop:o.op=.index T x i) (h:Du E o fr some=some av):OQ P Q o a w M β τ fr.l av:=by
 unfold Du at h
 simp only [hop,ev,AO] at h
 obtain ⟨j,hj,h⟩:=h
 have hx:=Bw s (lk T E.tab) x
 obtain ⟨kj,Px,hjr⟩:=Eh hj (Bw s (some (.int .i64)) i)
 have he:execOp a.eval o=(do pure (Next.value (← Instr.index T (a.eval x) (a.eval i)))):=by simp only [execOp,hop]
 split at h
 ·rename_i n t ys _ heq
  rw [heq] at hx
  obtain ⟨hc,h⟩:=BL h
  simp only [AO] at h
  obtain ⟨y,hy,h⟩:=h
  cases h
  obtain ⟨e1,hu,hl,_⟩:=(hE.tab _ _ (BQ hc)).arr
  have hT:=hE.tab _ _ hl
  obtain ⟨g0,g1,g2⟩:=Gx hy
  obtain ⟨cs,hv,hr0⟩:=hx.1.agg rfl
  obtain ⟨c0,c1,c2,e2,hl2,hr⟩:=hr0.2.at (fun _ _ r=>r.length) j.toNat g2
  have hlen:List.length ys=n:=hr0.1
  have hb:0<=j/\j < (n:Int):=⟨g0,by omega⟩
  refine q_val s.mlt (BU he ?_) ⟨⟨c1,rfl,hr⟩,trivial⟩
  rw [Px,hv]
  simp only [Instr.index,asIntOf,Sem.run_bind,Sem.run_pure,Result.andThen_ok,run_underlying hu,hT.sizeOf w,AY hb]
  exact FU hT (by cases t <;> simp [Ty.n,Ty.isAgg]) e2 hr hl2.symm w
 ·rename_i ys _ heq
  rw [heq] at hx
  obtain ⟨hc,h⟩:=BL h
  simp only [AO] at h
  obtain ⟨y,hy,h⟩:=h
  cases h
  have hu:=(hE.tab _ _ (BQ hc)).str
  obtain ⟨g0,g1,g2⟩:=Gx hy
  obtain ⟨sb,hv,rfl,l⟩:=hx.1.str
  have g1':j.toNat < sb.size:=by have z1:sb.data.size=sb.size:=rfl;simpa [z1] using g1
  have hval:y=((sb[j.toNat]).toNat:Int):=by
   simp only [List.getElem?_map,Array.getElem?_toList] at g2
   rw [show sb.data[j.toNat]? = some sb[j.toNat] from Array.getElem?_eq_getElem _] at g2
   simpa using g2.symm
  refine q_val s.mlt (v:=.int .u8 (sb[j.toNat]).toNat) (BU he ?_) ⟨?_,trivial⟩
  ·rw [Px,hv]
   simp only [Instr.index,asIntOf,Sem.run_bind,Sem.run_pure,Result.andThen_ok,run_underlying hu,AY g0]
   rw [show sb[j.toNat]? = some sb[j.toNat] from getElem?_pos sb j.toNat g1']
   rfl
  ·rw [hval]
   refine Bu.Cn ?_
   have:=UInt8.toNat_lt sb[j.toNat]
   simp [IntKind.min,IntKind.max,IntKind.signed,IntKind.bits]
   omega
 ·cases h
theorem Dy (Ze:Bool) (len cap:Nat) (lo hi:Option Value) {l h:Nat} (hle:l<=h) (hh:h<=len) (hc:len<=cap)
  (hlo:(lo=none/\l=0)∨∃ k,lo=some (.int k l)) (hhi:(hi=none/\h=len)∨∃ k,hi=some (.int k h)) :
  (Instr.sliceBounds Ze len cap lo hi none).run P w=.ok (l,h,cap) w:=by
 have b:∀ (k:IntKind) (i y:Nat) (c:BoundsCode),i<=y->(Instr.sliceBound (.int k i) y c).run P w=.ok i w:=by
  intro k i y c hi
  simp only [Instr.sliceBound,asIntOf,Sem.run_bind,Sem.run_pure,Result.andThen_ok]
  rw [AY (by omega)]
  simp
 rcases hlo with ⟨rfl,rfl⟩ | ⟨k1,rfl⟩ <;> rcases hhi with ⟨rfl,rfl⟩ | ⟨k2,rfl⟩ <;>
  simp only [Instr.sliceBounds,Sem.run_bind,Sem.run_pure,Result.andThen_ok,Option.isSome,Bool.false_eq_true,if_false]
 ·rw [b k2 _ _ _ (by omega)];simp
 ·rw [b k1 _ _ _ (by omega)];simp
 ·rw [b k2 _ _ _ (by omega)];simp only [Result.andThen_ok];rw [b k1 _ _ _ (by omega)];simp
theorem Fu {α β':Type} {xs:List α} {lo hi:Option Operand} {k:List α->Option β'} {r:β'} (s:Dt P w0 M0 N M β τ fr a w)
  (h:MH xs (lo.map (JM (some (.int .i64)) · fr)) (hi.map (JM (some (.int .i64)) · fr)) k=some r) :
  ∃ l h':Nat,l<=h'/\h'<=xs.length/\k ((xs.take h').drop l)=some r/\((lo.map a.eval=none/\l=0)∨∃ k',lo.map a.eval=some (.int k' l))/\((hi.map a.eval=none/\h'=xs.length)∨∃ k',hi.map a.eval=some (.int k' h')):=by
 have int:∀ (x:Operand) (i:Int),Ef (JM (some (.int .i64)) x fr)=some i->0<=i->∃ k,a.eval x=.int k (i.toNat:Nat):=by
  intro x i hx h0
  obtain ⟨k,hv,_⟩:=Eh hx (Bw s (some (.int .i64)) x)
  exact ⟨k,by rw [hv];congr 1;omega⟩
 cases lo with
 | none=>
  cases hi with
  | none=>exact ⟨0,xs.length,by omega,Nat.le_refl _,by simpa [MH] using h,.inl ⟨rfl,rfl⟩,.inl ⟨rfl,rfl⟩⟩
  | some y=>
   simp only [MH,Option.map_none,BH,AO] at h
   obtain ⟨j,hj,h⟩:=h
   obtain ⟨hb,h⟩:=BL h
   simp only [AP,AZ] at hb
   obtain ⟨k2,e2⟩:=int y j hj hb.1
   exact ⟨0,j.toNat,by omega,by omega,by simpa using h,.inl ⟨rfl,rfl⟩,.inr ⟨k2,by simp [e2]⟩⟩
 | some x=>
  cases hi with
  | none=>
   simp only [MH,Option.map_none,BH,AO] at h
   obtain ⟨j,hj,h⟩:=h
   obtain ⟨hb,h⟩:=BL h
   simp only [AP,AZ] at hb
   obtain ⟨k2,e2⟩:=int x j hj hb.1
   exact ⟨j.toNat,xs.length,by omega,Nat.le_refl _,by simpa using h,.inr ⟨k2,by simp [e2]⟩,.inl ⟨rfl,rfl⟩⟩
  | some y=>
   simp only [MH,BH,AO] at h
   obtain ⟨i,hi',j,hj,h⟩:=h
   obtain ⟨hb,h⟩:=BL h
   simp only [AP,AZ] at hb
   obtain ⟨k1,e1⟩:=int x i hi' hb.1
   obtain ⟨k2,e2⟩:=int y j hj (by omega)
   exact ⟨i.toNat,j.toNat,by omega,by omega,h,.inr ⟨k1,by simp [e1]⟩,.inr ⟨k2,by simp [e2]⟩⟩
theorem Jt {t:Ty} {xs:List t.den} {row:List Value} {l h b o' cap:Nat} (hs:Seq (Br M w t) row xs) (hlh:l<=h) (hh:h<=xs.length) (hcap:xs.length<=cap) (hm:cap<=maxLen) (hrow:Row M w b o' row) (ad:Option Addr)
  (had:ad=some ⟨b,o'+l * t.n,none⟩∨(l=h)) (hz:ad=none->cap - l=0):Bu M w (.slice t) ((xs.take h).drop l) (.slice ad (h - l) (cap - l)):=by
 obtain ⟨c0,c1,c2,e2,hl2,hr⟩:=QD (fun _ _ r=>Br.length r) hs hlh hh
 have hlen:(List.drop l (List.take h xs)).length=h - l:=by simp;omega
 refine ⟨[.slice ad (h - l) (cap - l)],rfl,ad,cap - l,c1,by rw [hlen],by rw [hlen];omega,by omega,hz,hr,?_⟩
 rcases had with had | had
 ·refine .inr ⟨b,_,had,?_⟩
  rw [e2] at hrow
  have:=hrow.right.left
  rwa [hl2] at this
 ·exact .inl (by rw [hlen];omega)
theorem Pb (hE:GH P E el) (s:Dt P w0 M0 N M β τ fr a w) {T:TypeId} {x:Operand} {lo hi:Option Operand} (hop:o.op=.slice T x lo hi none) (h:Du E o fr some=some av)
 : OQ P Q o a w M β τ fr.l av:=by
 unfold Du at h
 simp only [hop,ev] at h
 have hx:=Bw s (lk o.type E.tab) x
 have he:execOp a.eval o=(do pure (Next.value (← Instr.sliceAt T (a.eval x) (lo.map a.eval) (hi.map a.eval) none))):=by simp only [execOp,hop];rfl
 split at h
 ·rename_i t ys _ heq
  rw [heq] at hx
  obtain ⟨hc,h⟩:=BL h
  obtain ⟨l,h',hle,hh,h,hlo,hhi⟩:=Fu s h
  cases h
  obtain ⟨e1,hu,hl⟩:=(hE.tab _ _ (BQ hc)).slice
  obtain ⟨ad,cap,row,hv,hlc,hcm,hz0,hs,hrow⟩:=hx.1.slice
  have Xj:List.length ys<=cap:=hlc
  refine q_val s.mlt (v:=.slice (if cap=l then ad else ad.map (·.add (l * t.n))) (h' - l) (cap - l)) (BU he ?_) ⟨?_,trivial⟩
  ·rw [hv]
   simp only [Instr.sliceAt,Instr.slice,Sem.run_bind,run_underlying hu,Result.andThen_ok,Dy (P:=P) (w:=w) true _ cap _ _ hle hh Xj hlo hhi,(hE.tab _ _ hl).sizeOf w,Sem.run_pure]
  ·rcases hrow with hz | ⟨b,o',had,hrow⟩
   ·have hl0:List.length ys=0:=hz
    have:h'=0:=by omega
    have:l=0:=by omega
    subst h' l
    refine ⟨[.slice (if cap=0 then ad else ad.map (·.add (0 * t.n))) (0 - 0) (cap - 0)],rfl,(if cap=0 then ad else ad.map (·.add (0 * t.n))),cap - 0,[],by simp,by simp,by omega,(fun h=>by
     rcases Nat.eq_zero_or_pos cap with hc | hc
     ·simp [hc]
     ·rw [AX (by omega)] at h
      have:=hz0 (by simpa using h)
      omega),by simp [Seq],.inl (by simp)⟩
   ·refine Jt hs hle hh Xj hcm hrow _ ?_ (by rw [had];split <;> simp)
    by_cases hcl:cap=l
    ·right;omega
    ·left;rw [AX hcl,had];simp [addr_add]
 ·rename_i ys _ heq
  rw [heq] at hx
  obtain ⟨hc,h⟩:=BL h
  obtain ⟨l,h',hle,hh,h,hlo,hhi⟩:=Fu s h
  cases h
  have hu:=(hE.tab _ _ (BQ hc)).str
  obtain ⟨sb,hv,rfl,hm⟩:=hx.1.str
  have z1:sb.data.size=sb.size:=rfl
  have hlen:(sb.data.toList.map fun b=>(b.toNat:Int)).length=sb.size:=by simp [z1]
  rw [hlen] at hh hhi
  refine q_val s.mlt (v:=.string (sb.extract l h')) (BU he ?_) ⟨⟨[.string (sb.extract l h')],rfl,_,rfl,?_,?_⟩,trivial⟩
  ·rw [hv]
   simp only [Instr.sliceAt,Instr.slice,Sem.run_bind,run_underlying hu,Result.andThen_ok,Option.isSome,Bool.false_eq_true,if_false,Sem.run_pure,Dy (P:=P) (w:=w) false sb.size sb.size _ _ hle hh (Nat.le_refl _) hlo hhi]
  ·rw [← List.map_take,← List.map_drop]
   simp [ByteArray.data_extract,List.take_drop,Nat.add_sub_cancel' hle]
  ·simp;omega
 ·rename_i n t ys _ heq
  rw [heq] at hx
  obtain ⟨hc,h⟩:=BL h
  simp only [AP] at hc
  obtain ⟨l,h',hle,hh,h,hlo,hhi⟩:=Fu s h
  cases h
  obtain ⟨e1,hu,hl,_⟩:=(hE.tab _ _ (BQ hc.1)).arr
  obtain ⟨b,off,row,hv,hrow,hr0⟩:=hx.1.ptr
  have hlen:List.length ys=n:=hr0.1
  rw [hlen] at hhi
  have hn:n<=maxLen:=by have:=Ak hc.2;simp only [maxLen];omega
  refine q_val s.mlt (v:=.slice (some (if n=l then ⟨b,off,none⟩ else (⟨b,off,none⟩:Addr).add (l * t.n))) (h' - l) (n - l)) (BU he ?_) ⟨?_,trivial⟩
  ·rw [hv]
   simp only [Instr.sliceAt,Sem.run_bind,run_underlying hu,Result.andThen_ok,Instr.sureAddr,Sem.run_pure,Dy (P:=P) (w:=w) false n n _ _ hle (by omega) (Nat.le_refl _) hlo hhi,(hE.tab _ _ hl).sizeOf w]
  ·refine Jt hr0.2 hle hh (Nat.le_of_eq hlen) hn hrow _ ?_ (fun h=>by cases h)
   by_cases hcl:n=l
   ·right;omega
   ·left;rw [AX hcl,addr_add]
 ·rename_i id heq
  rw [heq] at hx
  obtain ⟨e,off,t',h1,h2,h3⟩:=hx
  simp only [AO] at h
  obtain ⟨e',h1',h⟩:=h
  obtain rfl:e'=e:=Ar (h1'.symm.trans h1)
  obtain ⟨hm,h⟩:=Dx h
  simp only [Bc,Ac,Prod.mk.injEq] at h2
  obtain ⟨rfl,rfl⟩:=h2
  obtain ⟨m,tv⟩:=e'
  simp only at h hm
  split at h
  ·rename_i n t ys heq2
   obtain ⟨hc,h⟩:=BL h
   obtain ⟨l,h',hle,hh,h,hlo,hhi⟩:=Fu s h
   cases h
   simp only [AP] at hc
   have hn:n<=maxLen:=by have:=Ak hc.2;simp only [maxLen];omega
   obtain ⟨e1,hu,hl,_⟩:=(hE.tab _ _ (BQ hc.1)).arr
   obtain ⟨_,⟨cs,TT,hb,r⟩,_,Vt⟩:=s.lo id _ h1
   simp only at r Vt
   have hlen':=r.length
   have hr0:List.length ys=n/\Seq (Br M w t) cs ys:=r
   have hlen:List.length ys=n:=hr0.1
   have hrow:Row M w (β id) 0 cs:=fun i hi=>⟨by rw [cell_of_row _ _ _ _ _ _ hb];simp,Vt hm _ (by omega)⟩
   rw [hlen] at hhi
   refine q_val s.mlt (v:=.slice (some (if n=l then ⟨β id,0,none⟩ else (⟨β id,0,none⟩:Addr).add (l * t.n))) (h' - l) (n - l)) (BU he ?_) ⟨?_,trivial⟩
   ·rw [h3]
    simp only [Instr.sliceAt,Sem.run_bind,run_underlying hu,Result.andThen_ok,Instr.sureAddr,Sem.run_pure,Dy (P:=P) (w:=w) false n n _ _ hle (by omega) (Nat.le_refl _) hlo hhi,(hE.tab _ _ hl).sizeOf w]
   ·refine Jt hr0.2 hle hh (Nat.le_of_eq hlen) hn hrow _ ?_ (fun h=>by cases h)
    by_cases hcl:n=l
    ·right;omega
    ·left;rw [AX hcl,addr_add]
  ·cases h
 ·cases h
end
end Go.Lift
