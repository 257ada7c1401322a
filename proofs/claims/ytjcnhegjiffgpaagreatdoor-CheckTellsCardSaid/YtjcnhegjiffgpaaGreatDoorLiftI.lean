import Derived.Test.YtjcnhegjiffgpaaGreatDoorLiftH
set_option linter.unusedSimpArgs false
namespace Go.Lift
open Go.RowKit
theorem Uv {α:Type} {c:Prop} [Decidable c] {x:Option α} {r:α} (h:(if c then x else none)=some r):c/\x=some r:=by
 by_cases hc:c
 ·exact ⟨hc,by simpa [hc] using h⟩
 ·simp [hc] at h
theorem UG {α:Type} {xs:List α} {i:Int} {x:α} (h:BX xs i=some x):0<=i/\i.toNat < xs.length/\xs[i.toNat]? = some x:=by
 unfold BX at h
 obtain ⟨h1,h2⟩:=BU h
 exact ⟨of_decide_eq_true h1,(Aq.1 h2).1,h2⟩
theorem QDY {α:Type} {R:List Value->α->Prop} {n:Nat} (hR:∀ cs x,R cs x->cs.length=n) {row:List Value} {xs:List α} {l h:Nat} (s:Seq R row xs) (hlh:l<=h) (hh:h<=xs.length) :
  ∃ c0 c1 c2,row=c0++(c1++c2)/\c0.length=l * n/\Seq R c1 ((xs.take h).drop l):=by
 obtain ⟨d0,d1,e1,l1,s0,s1⟩:=s.cut hR h hh
 obtain ⟨c0,c1,e2,l2,t0,t1⟩:=s0.cut hR l (by simp;omega)
 exact ⟨c0,c1,d1,by rw [e1,e2,Ab],l2,t1⟩
section
variable {P:Program} {E:Env} {el:TypeId->Option TypeId} {Q:Exit->Act->World->Prop} {o:Oper} {w0:World} {M0:Own} {N:Nat} {M:Own} {β:Nat->Nat} {τ:Nat->Value} {fr:Fr} {a:Act} {w:World} {av:AV}
theorem Qq.QLG (s:Qq P w0 M0 N M β τ fr a w) {id:Nat} {e:Bool×TV} {p:List Step} {off:Nat} {t':Ty} {v:TV} (he:lk id fr.l=some e) (ho:C8 e.2.1 p=some (off,t')) (hg:VO e.2.1 e.2.2 p=some v) :
  ∃ row,v.1=t'/\EA M w v.1 row v.2/\∀ i,i < row.length->w.cell? ⟨β id,off+i,none⟩=row[i]?:=by
 obtain ⟨_,⟨cs,T,hb,r⟩,_⟩:=s.lo id e he
 obtain ⟨h1,c0,c1,c2,e1,h2,h3⟩:=XD hg ho r
 refine ⟨c1,h1,h3,λi hi=>?_⟩
 rw [cell_of_row _ _ _ _ _ _ hb,e1,<- h2,List.getElem?_toArray,Ap (by omega),Nat.add_sub_cancel_left,Ao hi]
theorem Ut {x:AV} {i:Int} {v:Value} (h:Us x=some i) (hv:fT M w β τ fr.l x v):∃ k,v=.int k i/\k.min<=i/\i<=k.max:=by
 unfold Us at h
 split at h
 ·cases h
  obtain ⟨rfl,h⟩:=hv.1.int
  exact ⟨_,rfl,h⟩
 ·cases h
theorem vg (s:Qq P w0 M0 N M β τ fr a w) {M':Own} (hM:∀ b o,M b o->M' b o) (hL:∀ id e,lk id fr.l=some e->∀ o,M' (β id) o):∀ {xs:List Operand} {ts:List TypeId} {vs:List TV},Qs E fr xs ts=some vs->UN M' w vs (xs.map a.eval)
 | [],[],vs,h=>by simp [Qs] at h;subst h;exact trivial
 | [],_::_,vs,h=>by simp [Qs] at h
 | _::_,[],vs,h=>by simp [Qs] at h
 | x::xs,t::ts,vs,h=>by
  simp only [Qs,AO] at h
  obtain ⟨v,hv,us,hu,h⟩:=h
  cases h
  refine ⟨?_,vg s hM hL hu⟩
  have hx:=Et s (lk t E.tab) x
  unfold ev at hv
  generalize ji (lk t E.tab) x fr=y at hv hx
  have hext:Ext M w M' w:=λb o m=>⟨hM b o m,λ_ h=>h⟩
  cases y with
  | val u tip=>simp only [lu,Ac] at hv;subst hv;exact hx.1.ext hext
  | loc id p=>
   simp only [lu,AO] at hv
   obtain ⟨e,he,u,hu,hv⟩:=hv
   cases hv
   obtain ⟨e',off,t',he',ho,hval⟩:=hx
   obtain rfl:e=e':=Au (he.symm.trans he')
   obtain ⟨row,h1,h2,h3⟩:=s.QLG he ho hu
   exact ⟨[a.eval x],rfl,β id,off,row,by rw [hval],λi hi=>⟨h3 i hi,hL id e he _⟩,h2.ext hext⟩
  | any=>simp [lu] at hv
  | Oj l=>simp [lu] at hv
theorem gN (s:Qq P w0 M0 N M β τ fr a w):∀ {xs:List Operand} {ts:List TypeId} {vs:List TV},jd E fr xs ts=false->Qs E fr xs ts=some vs->UN M w vs (xs.map a.eval)
 | [],[],vs,_,h=>by simp [Qs] at h;subst h;exact trivial
 | [],_::_,vs,_,h=>by simp [Qs] at h
 | _::_,[],vs,_,h=>by simp [Qs] at h
 | x::xs,t::ts,vs,hn,h=>by
  simp only [Qs,AO] at h
  obtain ⟨v,hv,us,hu,h⟩:=h
  cases h
  simp only [jd,Bool.or_eq_false_iff] at hn
  refine ⟨?_,gN s hn.2 hu⟩
  have hx:=Et s (lk t E.tab) x
  have hn1:=hn.1
  unfold ev at hv hn1
  generalize ji (lk t E.tab) x fr=y at hv hx hn1
  cases y with
  | val u tip=>simp only [lu,Ac] at hv;subst hv;exact hx.1
  | loc id p=>simp at hn1
  | any=>simp [lu] at hv
  | Oj l=>simp [lu] at hv
theorem aF:∀ (rs:List Ty) (r:Bv rs),(Ql rs r).length=rs.length
 | [],_=>rfl
 | [_],_=>rfl
 | _::u::ts,r=>by simp [Ql,aF (u::ts) r.2]
theorem jO:∀ (rs:List Ty) (r:Bv rs),rs.all (·.flat)=true->∀ v∈Ql rs r,v.1.flat=true
 | [],_,_=>by simp [Ql]
 | [t],r,h=>by simpa [Ql] using h
 | t::u::ts,r,h=>by
  simp only [List.all_cons,AP] at h
  intro v hv
  simp only [Ql,List.mem_cons] at hv
  rcases hv with rfl | hv
  ·exact h.1
  ·exact jO (u::ts) r.2 (by simpa using h.2) v hv
theorem QEL {rs:List Ty} {r:Bv rs} (hf:rs.all (·.flat)=true) {M M':Own} {w w':World} {β:Nat->Nat} {τ:Nat->Value} {L:List (Nat×Bool×TV)} {v:Value} (h:fT M w β τ L (xq rs r) v):fT M' w' β τ L (xq rs r) v:=by
 match rs,r,hf,h with
 | [],_,_,_=>trivial
 | [t],r,hf,h=>
  obtain ⟨⟨cs,e,r'⟩,_⟩:=h
  exact ⟨⟨cs,e,r'.flat (by simpa using hf)⟩,trivial⟩
 | t::u::ts,r,hf,h=>
  obtain ⟨vs,e,l,f⟩:=h
  refine ⟨vs,e,l,λi tv hi=>?_⟩
  obtain ⟨x,hx,cs,e,r'⟩:=f i tv hi
  exact ⟨x,hx,cs,e,r'.flat (jO _ _ hf tv (BF hi))⟩
theorem QDV (hE:Yf P E el) (s:Qq P w0 M0 N M β τ fr a w) {f:FuncId} {args:Array Operand} {ts:Array TypeId} {fn:Fn} {vs:List TV} {x r} (hop:o.op=.call { callee:=.value (.func f),args:=args,argTypes:=ts })
  (hf:lk f E.fs=some fn) (hl:jd E fr args.toList ts.toList=true->fn.rs.all (·.flat)=true) (hv:Qs E fr args.toList ts.toList=some vs) (hx:MU fn.ps vs=some x) (hr:fn.F x=some r) :
  QOp P Q o a w M β τ fr.l (xq fn.rs r):=by
 have hL:=hE.fs f fn hf
 intro K hK
 have hrun:(execOp a.eval o).run P w=.ok (.enter f (args.toList.map a.eval).toArray) w:=by
  simp only [execOp,hop,resolve,Act.eval,Deferred.ofValue,Sem.run_bind,Sem.run_pure,Result.andThen_ok,invoke]
  rw [show (#[]++Array.map a.eval args ++ #[])=(args.toList.map a.eval).toArray by simp [<- Array.toList_map]]
  exact hL.enters _ w
 unfold Oper.wp
 rw [hrun,Oper.upon_enter]
 cases hloc:jd E fr args.toList ts.toList with
 | false=>
  refine (hL.calls w M _ vs x r s.mlt s.glob (gN s hloc hv) hx hr).mono ?_
  rintro e w' ⟨v,M',rfl,hg,hres⟩
  exact hK v w' M' hg (hres _ _ _)
 | true=>
  have QKx:=hl hloc
  refine (hL.calls w (λb o=>M b o\/∃ id e,lk id fr.l=some e/\b=β id) _ vs x r ?_ (s.glob.ext (λb o m=>⟨.inl m,λ_ h=>h⟩) (Below.refl _ _)) (vg s (λb o m=>.inl m) (λid e he o=>.inr ⟨id,e,he,rfl⟩) hv) hx hr).mono ?_
  ·rintro b o (m | ⟨id,e,he,rfl⟩)
   ·exact s.mlt b o m
   ·obtain ⟨_,⟨cs,T,hb,_⟩,_⟩:=s.lo id e he
    exact (Am.1 hb).1
  ·rintro e w' ⟨v,M',rfl,hg,hres⟩
   exact hK v w' M ⟨hg.J6,λ_ _ m=>m,λ_ _ m=>.inl m,λb o m=>Nat.lt_of_lt_of_le (s.mlt b o m) hg.J6.size⟩ (QEL QKx (hres _ _ _))
theorem CP {sem:Sem Value} {v:Value} {w':World} (h:execOp a.eval o=(do pure (Next.value (<- sem)))) (hr:sem.run P w=.ok v w'):(execOp a.eval o).run P w=.ok (.value v) w':=by
 rw [h,Sem.run_bind,hr]
 rfl
theorem QDt (hE:Yf P E el) (s:Qq P w0 M0 N M β τ fr a w) {T:TypeId} {x:Operand} (hop:o.op=.load T x) (h:Qm E o fr some=some av):QOp P Q o a w M β τ fr.l av:=by
 unfold Qm at h
 simp only [hop,ev] at h
 have hx:=Et s (lk o.type E.tab) x
 have he:execOp a.eval o=(do pure (Next.value (<- Instr.loadAt T (a.eval x)))):=by simp only [execOp,hop]
 split at h
 ·rename_i id p heq
  rw [heq] at hx
  obtain ⟨e,off,t',h1,h2,h3⟩:=hx
  simp only [bA,AO] at h
  obtain ⟨e',h1',v,hv,h⟩:=h
  obtain rfl:e'=e:=Au (h1'.symm.trans h1)
  obtain ⟨hc,h⟩:=BU h
  cases h
  obtain ⟨row,_,hr,hcell⟩:=s.QLG h1 h2 hv
  refine q_val s.mlt (CP he ?_) ⟨⟨row,rfl,hr⟩,trivial⟩
  rw [h3]
  exact sN (hE.tab _ _ (Bu hc)) hcell hr
 ·rename_i t y _ heq
  rw [heq] at hx
  obtain ⟨hc,h⟩:=BU h
  cases h
  obtain ⟨b,off,row,h3,hrow,hr⟩:=hx.1.ptr
  refine q_val s.mlt (CP he ?_) ⟨⟨row,rfl,hr⟩,trivial⟩
  rw [h3]
  exact sN (hE.tab _ _ (Bu hc)) (λi hi=>(hrow i hi).1) hr
 ·cases h
theorem nE (hE:Yf P E el) (s:Qq P w0 M0 N M β τ fr a w) {T:TypeId} {x:Operand} {f:Nat} (hop:o.op=.fieldAddr T x f) (h:Qm E o fr some=some av):QOp P Q o a w M β τ fr.l av:=by
 unfold Qm at h
 simp only [hop,ev] at h
 have hx:=Et s (lk o.type E.tab) x
 have he:execOp a.eval o=(do pure (Next.value (<- Instr.fieldAt T (a.eval x) f))):=by simp only [execOp,hop]
 have place:∀ (t c:Ty) (b off:Nat),TS P E.tab T t->fieldTy t f=some c->a.eval x=.pointer (some ⟨b,off,none⟩)->∃ k,C8 t [.TP f]=some (k,c)/\(Instr.fieldAt T (a.eval x) f).run P w=.ok (.pointer (some ⟨b,off+k,none⟩)) w:=by
  intro t c b off hT hf hv
  obtain ⟨fs,fd,k,hu,hfd,htc,ho,hoff,hn⟩:=hT.fields hf
  refine ⟨k,ho,?_⟩
  have hsz:=(hE.tab _ _ htc).sizeOf w
  simp only [Instr.fieldAt,Sem.run_bind,run_underlying hu,Result.andThen_ok,hfd,hv,Instr.sureAddr,Sem.run_pure,fieldPlace,hsz,AX (show ¬ c.n=0 by omega),addr_add,hoff]
 split at h
 ·rename_i id p heq
  rw [heq] at hx
  obtain ⟨e,off,t',h1,h2,h3⟩:=hx
  simp only [AO] at h
  obtain ⟨e',h1',h⟩:=h
  obtain rfl:e'=e:=Au (h1'.symm.trans h1)
  rw [UK h2] at h
  obtain ⟨hc,h⟩:=BU h
  cases h
  simp only [AP] at hc
  obtain ⟨c,hc2⟩:=Option.isSome_iff_exists.1 hc.2
  obtain ⟨k,ho,hr⟩:=place t' c _ off (hE.tab _ _ (Bu hc.1)) hc2 h3
  exact q_val s.mlt (CP he hr) ⟨e',_,c,h1,bP h2 ho,rfl⟩
 ·rename_i t y _ heq
  rw [heq] at hx
  obtain ⟨hc,h⟩:=BU h
  simp only [AO] at h
  obtain ⟨v,hv,h⟩:=h
  cases h
  obtain ⟨b,off,row,h3,hrow,hr⟩:=hx.1.ptr
  obtain ⟨hg,hf⟩:=gy hv
  obtain ⟨k,ho,hrun⟩:=place t v.1 b off (hE.tab _ _ (Bu hc)) hf h3
  obtain ⟨_,c0,c1,c2,e1,h2,hrep⟩:=XD hg ho hr
  refine q_val s.mlt (CP he hrun) ⟨⟨_,rfl,b,off+k,c1,rfl,?_,hrep⟩,trivial⟩
  rw [e1] at hrow
  have:=hrow.right.left
  rwa [h2] at this
 ·cases h
theorem QBg (hE:Yf P E el) (s:Qq P w0 M0 N M β τ fr a w) {T:TypeId} {x:Operand} {f:Nat} (hop:o.op=.field T x f) (h:Qm E o fr some=some av):QOp P Q o a w M β τ fr.l av:=by
 unfold Qm at h
 simp only [hop,ev] at h
 have hx:=Et s (lk o.type E.tab) x
 have he:execOp a.eval o=(do pure (Next.value (<- Instr.field T (a.eval x) f))):=by simp only [execOp,hop]
 split at h
 ·rename_i t y _ heq
  rw [heq] at hx
  obtain ⟨hc,h⟩:=BU h
  simp only [AO] at h
  obtain ⟨v,hv,h⟩:=h
  cases h
  obtain ⟨hg,hf⟩:=gy hv
  obtain ⟨fs,fd,k,hu,hfd,htc,ho,hoff,hn⟩:=(hE.tab _ _ (Bu hc)).fields hf
  have hag:t.isAgg=true:=by cases t <;> first | rfl | (simp [fieldTy] at hf)
  obtain ⟨cs,hv',hr⟩:=hx.1.agg hag
  obtain ⟨_,c0,c1,c2,e1,h2,hrep⟩:=XD hg ho hr
  refine q_val s.mlt (CP he ?_) ⟨⟨c1,rfl,hrep⟩,trivial⟩
  rw [hv']
  simp only [Instr.field,Sem.run_bind,run_underlying hu,Result.andThen_ok,hfd,asAgg,Sem.run_pure]
  exact XO (hE.tab _ _ htc) (.inl hn) e1 hrep (by rw [hoff,h2]) w
 ·cases h
theorem nI (hE:Yf P E el) (s:Qq P w0 M0 N M β τ fr a w) {T:TypeId} {x i:Operand} (hop:o.op=.indexAddr T x i) (h:Qm E o fr some=some av):QOp P Q o a w M β τ fr.l av:=by
 unfold Qm at h
 simp only [hop,ev,AO] at h
 obtain ⟨j,hj,h⟩:=h
 have hx:=Et s (lk o.type E.tab) x
 obtain ⟨kj,hvj,hjr⟩:=Ut hj (Et s (some (.int .i64)) i)
 have he:execOp a.eval o=(do pure (Next.value (<- Instr.indexAt T (a.eval x) (a.eval i)))):=by simp only [execOp,hop]
 split at h
 ·rename_i id p heq
  rw [heq] at hx
  obtain ⟨e,off,t',h1,h2,h3⟩:=hx
  simp only [AO] at h
  obtain ⟨e',h1',h⟩:=h
  obtain rfl:e'=e:=Au (h1'.symm.trans h1)
  rw [UK h2] at h
  split at h
  ·rename_i n t ht
   cases ht
   obtain ⟨hc,h⟩:=BU h
   obtain ⟨hb,h⟩:=BU h
   cases h
   simp only [AP,AZ] at hb
   obtain ⟨e1,hu,hl,_⟩:=(hE.tab _ _ (Bu hc)).arr
   have hsz:=(hE.tab _ _ hl).sizeOf w
   refine q_val s.mlt (v:=.pointer (some ⟨β id,off+j.toNat * t.n,none⟩)) (CP he ?_) ⟨e',off+j.toNat * t.n,t,h1,?_,rfl⟩
   ·rw [hvj,h3]
    simp only [Instr.indexAt,asIntOf,Sem.run_bind,Sem.run_pure,Result.andThen_ok,run_underlying hu,Instr.sureAddr,hsz,AY hb,addr_add]
   ·refine bP h2 ?_
    simp only [C8,AY hb]
    cases t <;> rfl
  ·cases h
 ·rename_i t ys _ heq
  rw [heq] at hx
  obtain ⟨hc,h⟩:=BU h
  simp only [AO] at h
  obtain ⟨y,hy,h⟩:=h
  cases h
  obtain ⟨e1,hu,hl⟩:=QRO hE.tab hc
  have hsz:=(hE.tab _ _ hl).sizeOf w
  obtain ⟨g0,g1,g2⟩:=UG hy
  obtain ⟨ad,cap,row,hv,hle,hcm,_,hs,hrow⟩:=hx.1.slice
  obtain ⟨c0,c1,c2,e2,hl2,hr⟩:=hs.at (λ_ _ r=>r.length) j.toNat g2
  have hb:0<=j/\j < (List.length ys:Int):=⟨g0,by omega⟩
  have finish:∀ b o',ad=some ⟨b,o',none⟩->Row M w b (o'+j.toNat * t.n) c1->QOp P Q o a w M β τ fr.l (.val ⟨.ptr t,y⟩ .no):=by
   intro b o' had hrow'
   refine q_val s.mlt (v:=.pointer (some ⟨b,o'+j.toNat * t.n,none⟩)) (CP he ?_) ⟨⟨_,rfl,b,o'+j.toNat * t.n,c1,rfl,hrow',hr⟩,trivial⟩
   rw [hvj,hv,had]
   simp only [Instr.indexAt,asIntOf,Sem.run_bind,Sem.run_pure,Result.andThen_ok,run_underlying hu,hsz,AY hb,addr_add]
  rcases hrow with hz | ⟨b,o',had,hrow⟩
  ·exact absurd (Nat.lt_of_lt_of_eq g1 hz) (Nat.not_lt_zero _)
  ·refine finish b o' had ?_
   rw [e2] at hrow
   have:=hrow.right.left
   rwa [hl2] at this
 ·rename_i n t ys _ heq
  rw [heq] at hx
  obtain ⟨hc,h⟩:=BU h
  simp only [AO] at h
  obtain ⟨y,hy,h⟩:=h
  cases h
  obtain ⟨e1,hu,hl,_⟩:=(hE.tab _ _ (Bu hc)).arr
  have hsz:=(hE.tab _ _ hl).sizeOf w
  obtain ⟨g0,g1,g2⟩:=UG hy
  obtain ⟨b,off,row,hv,hrow,hr0⟩:=hx.1.ptr
  obtain ⟨c0,c1,c2,e2,hl2,hr⟩:=hr0.2.at (λ_ _ r=>r.length) j.toNat g2
  have hlen:List.length ys=n:=hr0.1
  have hb:0<=j/\j < (n:Int):=⟨g0,by omega⟩
  refine q_val s.mlt (v:=.pointer (some ⟨b,off+j.toNat * t.n,none⟩)) (CP he ?_) ⟨⟨_,rfl,b,off+j.toNat * t.n,c1,rfl,?_,hr⟩,trivial⟩
  ·rw [hvj,hv]
   simp only [Instr.indexAt,asIntOf,Sem.run_bind,Sem.run_pure,Result.andThen_ok,run_underlying hu,Instr.sureAddr,hsz,AY hb,addr_add]
  ·rw [e2] at hrow
   have:=hrow.right.left
   rwa [hl2] at this
 ·cases h
theorem QBn (hE:Yf P E el) (s:Qq P w0 M0 N M β τ fr a w) {T:TypeId} {x i:Operand} (hop:o.op=.index T x i) (h:Qm E o fr some=some av):QOp P Q o a w M β τ fr.l av:=by
 unfold Qm at h
 simp only [hop,ev,AO] at h
 obtain ⟨j,hj,h⟩:=h
 have hx:=Et s (lk T E.tab) x
 obtain ⟨kj,hvj,hjr⟩:=Ut hj (Et s (some (.int .i64)) i)
 have he:execOp a.eval o=(do pure (Next.value (<- Instr.index T (a.eval x) (a.eval i)))):=by simp only [execOp,hop]
 split at h
 ·rename_i n t ys _ heq
  rw [heq] at hx
  obtain ⟨hc,h⟩:=BU h
  simp only [AO] at h
  obtain ⟨y,hy,h⟩:=h
  cases h
  obtain ⟨e1,hu,hl,_⟩:=(hE.tab _ _ (Bu hc)).arr
  have hT:=hE.tab _ _ hl
  obtain ⟨g0,g1,g2⟩:=UG hy
  obtain ⟨cs,hv,hr0⟩:=hx.1.agg rfl
  obtain ⟨c0,c1,c2,e2,hl2,hr⟩:=hr0.2.at (λ_ _ r=>r.length) j.toNat g2
  have hlen:List.length ys=n:=hr0.1
  have hb:0<=j/\j < (n:Int):=⟨g0,by omega⟩
  refine q_val s.mlt (CP he ?_) ⟨⟨c1,rfl,hr⟩,trivial⟩
  rw [hvj,hv]
  simp only [Instr.index,asIntOf,Sem.run_bind,Sem.run_pure,Result.andThen_ok,run_underlying hu,hT.sizeOf w,AY hb]
  exact XO hT (by cases t <;> simp [Ty.n,Ty.isAgg]) e2 hr hl2.symm w
 ·rename_i ys _ heq
  rw [heq] at hx
  obtain ⟨hc,h⟩:=BU h
  simp only [AO] at h
  obtain ⟨y,hy,h⟩:=h
  cases h
  have hu:=(hE.tab _ _ (Bu hc)).str
  obtain ⟨g0,g1,g2⟩:=UG hy
  obtain ⟨sb,hv,rfl,l⟩:=hx.1.str
  have g1':j.toNat < sb.size:=by have z1:sb.data.size=sb.size:=rfl;simpa [z1] using g1
  have hval:y=((sb[j.toNat]).toNat:Int):=by
   simp only [List.getElem?_map,Array.getElem?_toList] at g2
   rw [show sb.data[j.toNat]? = some sb[j.toNat] from Array.getElem?_eq_getElem _] at g2
   simpa using g2.symm
  refine q_val s.mlt (v:=.int .u8 (sb[j.toNat]).toNat) (CP he ?_) ⟨?_,trivial⟩
  ·rw [hvj,hv]
   simp only [Instr.index,asIntOf,Sem.run_bind,Sem.run_pure,Result.andThen_ok,run_underlying hu,AY g0]
   rw [show sb[j.toNat]? = some sb[j.toNat] from getElem?_pos sb j.toNat g1']
   rfl
  ·rw [hval]
   refine EF.JY ?_
   have:=UInt8.toNat_lt sb[j.toNat]
   simp [IntKind.min,IntKind.max,IntKind.signed,IntKind.bits]
   omega
 ·cases h
theorem Qu (isS:Bool) (len cap:Nat) (lo hi:Option Value) {l h:Nat} (hle:l<=h) (hh:h<=len) (hc:len<=cap)
  (hlo:(lo=none/\l=0)\/∃ k,lo=some (.int k l)) (hhi:(hi=none/\h=len)\/∃ k,hi=some (.int k h)) :
  (Instr.sliceBounds isS len cap lo hi none).run P w=.ok (l,h,cap) w:=by
 have b:∀ (k:IntKind) (i y:Nat) (c:BoundsCode),i<=y->(Instr.sliceBound (.int k i) y c).run P w=.ok i w:=by
  intro k i y c hi
  simp only [Instr.sliceBound,asIntOf,Sem.run_bind,Sem.run_pure,Result.andThen_ok]
  rw [AY (by omega)]
  simp
 rcases hlo with ⟨rfl,rfl⟩ | ⟨k1,rfl⟩ <;> rcases hhi with ⟨rfl,rfl⟩ | ⟨k2,rfl⟩ <;>
  simp only [Instr.sliceBounds,Sem.run_bind,Sem.run_pure,Result.andThen_ok,Option.isSome,Bool.false_eq_true,if_false]
 ·rw [b k2 _ _ _ (by omega)];simp
 ·rw [b k1 _ _ _ (by omega)];simp
 ·rw [b k2 _ _ _ (by omega)];simp only [Result.andThen_ok];rw [b k1 _ _ _ (by omega)];simp
theorem X4 {α β':Type} {xs:List α} {lo hi:Option Operand} {k:List α->Option β'} {r:β'} (s:Qq P w0 M0 N M β τ fr a w)
  (h:vB xs (lo.map (ji (some (.int .i64)) · fr)) (hi.map (ji (some (.int .i64)) · fr)) k=some r) :
  ∃ l h':Nat,l<=h'/\h'<=xs.length/\k ((xs.take h').drop l)=some r/\((lo.map a.eval=none/\l=0)\/∃ k',lo.map a.eval=some (.int k' l))/\((hi.map a.eval=none/\h'=xs.length)\/∃ k',hi.map a.eval=some (.int k' h')):=by
 have int:∀ (x:Operand) (i:Int),Us (ji (some (.int .i64)) x fr)=some i->0<=i->∃ k,a.eval x=.int k (i.toNat:Nat):=by
  intro x i hx h0
  obtain ⟨k,hv,_⟩:=Ut hx (Et s (some (.int .i64)) x)
  exact ⟨k,by rw [hv];congr 1;omega⟩
 cases lo with
 | none=>
  cases hi with
  | none=>exact ⟨0,xs.length,by omega,Nat.le_refl _,by simpa [vB] using h,.inl ⟨rfl,rfl⟩,.inl ⟨rfl,rfl⟩⟩
  | some y=>
   simp only [vB,Option.map_none,BI,AO] at h
   obtain ⟨j,hj,h⟩:=h
   obtain ⟨hb,h⟩:=BU h
   simp only [AP,AZ] at hb
   obtain ⟨k2,e2⟩:=int y j hj hb.1
   exact ⟨0,j.toNat,by omega,by omega,by simpa using h,.inl ⟨rfl,rfl⟩,.inr ⟨k2,by simp [e2]⟩⟩
 | some x=>
  cases hi with
  | none=>
   simp only [vB,Option.map_none,BI,AO] at h
   obtain ⟨j,hj,h⟩:=h
   obtain ⟨hb,h⟩:=BU h
   simp only [AP,AZ] at hb
   obtain ⟨k2,e2⟩:=int x j hj hb.1
   exact ⟨j.toNat,xs.length,by omega,Nat.le_refl _,by simpa using h,.inr ⟨k2,by simp [e2]⟩,.inl ⟨rfl,rfl⟩⟩
  | some y=>
   simp only [vB,BI,AO] at h
   obtain ⟨i,hi',j,hj,h⟩:=h
   obtain ⟨hb,h⟩:=BU h
   simp only [AP,AZ] at hb
   obtain ⟨k1,e1⟩:=int x i hi' hb.1
   obtain ⟨k2,e2⟩:=int y j hj (by omega)
   exact ⟨i.toNat,j.toNat,by omega,by omega,h,.inr ⟨k1,by simp [e1]⟩,.inr ⟨k2,by simp [e2]⟩⟩
theorem lI {t:Ty} {xs:List t.den} {row:List Value} {l h b o' cap:Nat} (hs:Seq (EA M w t) row xs) (hlh:l<=h) (hh:h<=xs.length) (hcap:xs.length<=cap) (hm:cap<=maxLen) (hrow:Row M w b o' row) (ad:Option Addr)
  (had:ad=some ⟨b,o'+l * t.n,none⟩\/(l=h)) (hz:ad=none->cap - l=0):EF M w (.slice t) ((xs.take h).drop l) (.slice ad (h - l) (cap - l)):=by
 obtain ⟨c0,c1,c2,e2,hl2,hr⟩:=QDY (λ_ _ r=>EA.length r) hs hlh hh
 have hlen:(List.drop l (List.take h xs)).length=h - l:=by simp;omega
 refine ⟨[.slice ad (h - l) (cap - l)],rfl,ad,cap - l,c1,by rw [hlen],by rw [hlen];omega,by omega,hz,hr,?_⟩
 rcases had with had | had
 ·refine .inr ⟨b,_,had,?_⟩
  rw [e2] at hrow
  have:=hrow.right.left
  rwa [hl2] at this
 ·exact .inl (by rw [hlen];omega)
theorem QCi (hE:Yf P E el) (s:Qq P w0 M0 N M β τ fr a w) {T:TypeId} {x:Operand} {lo hi:Option Operand} (hop:o.op=.slice T x lo hi none) (h:Qm E o fr some=some av)
 : QOp P Q o a w M β τ fr.l av:=by
 unfold Qm at h
 simp only [hop,ev] at h
 have hx:=Et s (lk o.type E.tab) x
 have he:execOp a.eval o=(do pure (Next.value (<- Instr.sliceAt T (a.eval x) (lo.map a.eval) (hi.map a.eval) none))):=by simp only [execOp,hop];rfl
 split at h
 ·rename_i t ys _ heq
  rw [heq] at hx
  obtain ⟨hc,h⟩:=BU h
  obtain ⟨l,h',hle,hh,h,hlo,hhi⟩:=X4 s h
  cases h
  obtain ⟨e1,hu,hl⟩:=(hE.tab _ _ (Bu hc)).slice
  obtain ⟨ad,cap,row,hv,hlc,hcm,hz0,hs,hrow⟩:=hx.1.slice
  have QZJ:List.length ys<=cap:=hlc
  refine q_val s.mlt (v:=.slice (if cap=l then ad else ad.map (·.add (l * t.n))) (h' - l) (cap - l)) (CP he ?_) ⟨?_,trivial⟩
  ·rw [hv]
   simp only [Instr.sliceAt,Instr.slice,Sem.run_bind,run_underlying hu,Result.andThen_ok,Qu (P:=P) (w:=w) true _ cap _ _ hle hh QZJ hlo hhi,(hE.tab _ _ hl).sizeOf w,Sem.run_pure]
  ·rcases hrow with hz | ⟨b,o',had,hrow⟩
   ·have hl0:List.length ys=0:=hz
    have:h'=0:=by omega
    have:l=0:=by omega
    subst h' l
    refine ⟨[.slice (if cap=0 then ad else ad.map (·.add (0 * t.n))) (0 - 0) (cap - 0)],rfl,(if cap=0 then ad else ad.map (·.add (0 * t.n))),cap - 0,[],by simp,by simp,by omega,(λh=>by
     rcases Nat.eq_zero_or_pos cap with hc | hc
     ·simp [hc]
     ·rw [AX (by omega)] at h
      have:=hz0 (by simpa using h)
      omega),by simp [Seq],.inl (by simp)⟩
   ·refine lI hs hle hh QZJ hcm hrow _ ?_ (by rw [had];split <;> simp)
    by_cases hcl:cap=l
    ·right;omega
    ·left;rw [AX hcl,had];simp [addr_add]
 ·rename_i ys _ heq
  rw [heq] at hx
  obtain ⟨hc,h⟩:=BU h
  obtain ⟨l,h',hle,hh,h,hlo,hhi⟩:=X4 s h
  cases h
  have hu:=(hE.tab _ _ (Bu hc)).str
  obtain ⟨sb,hv,rfl,hm⟩:=hx.1.str
  have z1:sb.data.size=sb.size:=rfl
  have hlen:(sb.data.toList.map λb=>(b.toNat:Int)).length=sb.size:=by simp [z1]
  rw [hlen] at hh hhi
  refine q_val s.mlt (v:=.string (sb.extract l h')) (CP he ?_) ⟨⟨[.string (sb.extract l h')],rfl,_,rfl,?_,?_⟩,trivial⟩
  ·rw [hv]
   simp only [Instr.sliceAt,Instr.slice,Sem.run_bind,run_underlying hu,Result.andThen_ok,Option.isSome,Bool.false_eq_true,if_false,Sem.run_pure,Qu (P:=P) (w:=w) false sb.size sb.size _ _ hle hh (Nat.le_refl _) hlo hhi]
  ·rw [<- List.map_take,<- List.map_drop]
   simp [ByteArray.data_extract,List.take_drop,Nat.add_sub_cancel' hle]
  ·simp;omega
 ·rename_i n t ys _ heq
  rw [heq] at hx
  obtain ⟨hc,h⟩:=BU h
  simp only [AP] at hc
  obtain ⟨l,h',hle,hh,h,hlo,hhi⟩:=X4 s h
  cases h
  obtain ⟨e1,hu,hl,_⟩:=(hE.tab _ _ (Bu hc.1)).arr
  obtain ⟨b,off,row,hv,hrow,hr0⟩:=hx.1.ptr
  have hlen:List.length ys=n:=hr0.1
  rw [hlen] at hhi
  have hn:n<=maxLen:=by have:=Ak hc.2;simp only [maxLen];omega
  refine q_val s.mlt (v:=.slice (some (if n=l then ⟨b,off,none⟩ else (⟨b,off,none⟩:Addr).add (l * t.n))) (h' - l) (n - l)) (CP he ?_) ⟨?_,trivial⟩
  ·rw [hv]
   simp only [Instr.sliceAt,Sem.run_bind,run_underlying hu,Result.andThen_ok,Instr.sureAddr,Sem.run_pure,Qu (P:=P) (w:=w) false n n _ _ hle (by omega) (Nat.le_refl _) hlo hhi,(hE.tab _ _ hl).sizeOf w]
  ·refine lI hr0.2 hle hh (Nat.le_of_eq hlen) hn hrow _ ?_ (λh=>by cases h)
   by_cases hcl:n=l
   ·right;omega
   ·left;rw [AX hcl,addr_add]
 ·rename_i id heq
  rw [heq] at hx
  obtain ⟨e,off,t',h1,h2,h3⟩:=hx
  simp only [AO] at h
  obtain ⟨e',h1',h⟩:=h
  obtain rfl:e'=e:=Au (h1'.symm.trans h1)
  obtain ⟨hm,h⟩:=Qt h
  simp only [C8,Ac,Prod.mk.injEq] at h2
  obtain ⟨rfl,rfl⟩:=h2
  obtain ⟨m,tv⟩:=e'
  simp only at h hm
  split at h
  ·rename_i n t ys heq2
   obtain ⟨hc,h⟩:=BU h
   obtain ⟨l,h',hle,hh,h,hlo,hhi⟩:=X4 s h
   cases h
   simp only [AP] at hc
   have hn:n<=maxLen:=by have:=Ak hc.2;simp only [maxLen];omega
   obtain ⟨e1,hu,hl,_⟩:=(hE.tab _ _ (Bu hc.1)).arr
   obtain ⟨_,⟨cs,TT,hb,r⟩,_,QRD⟩:=s.lo id _ h1
   simp only at r QRD
   have hlen':=r.length
   have hr0:List.length ys=n/\Seq (EA M w t) cs ys:=r
   have hlen:List.length ys=n:=hr0.1
   have hrow:Row M w (β id) 0 cs:=λi hi=>⟨by rw [cell_of_row _ _ _ _ _ _ hb];simp,QRD hm _ (by omega)⟩
   rw [hlen] at hhi
   refine q_val s.mlt (v:=.slice (some (if n=l then ⟨β id,0,none⟩ else (⟨β id,0,none⟩:Addr).add (l * t.n))) (h' - l) (n - l)) (CP he ?_) ⟨?_,trivial⟩
   ·rw [h3]
    simp only [Instr.sliceAt,Sem.run_bind,run_underlying hu,Result.andThen_ok,Instr.sureAddr,Sem.run_pure,Qu (P:=P) (w:=w) false n n _ _ hle (by omega) (Nat.le_refl _) hlo hhi,(hE.tab _ _ hl).sizeOf w]
   ·refine lI hr0.2 hle hh (Nat.le_of_eq hlen) hn hrow _ ?_ (λh=>by cases h)
    by_cases hcl:n=l
    ·right;omega
    ·left;rw [AX hcl,addr_add]
  ·cases h
 ·cases h
end
end Go.Lift
