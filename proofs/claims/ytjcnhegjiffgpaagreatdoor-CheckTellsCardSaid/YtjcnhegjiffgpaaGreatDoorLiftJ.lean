import Derived.Test.YtjcnhegjiffgpaaGreatDoorLiftI
import Derived.Great.BuildSlice
set_option linter.unusedSimpArgs false
namespace Go.Lift
open Go.RowKit
section
variable {P:Program} {E:Env} {el:TypeId->Option TypeId} {Q:Exit->Act->World->Prop} {o:Oper} {w0:World} {M0:Own} {N:Nat} {M:Own} {β:Nat->Nat} {τ:Nat->Value} {fr:Fr} {a:Act} {w:World} {av:AV}
theorem fD (s:Qq P w0 M0 N M β τ fr a w) {t:Ty}:∀ {i:Nat} {ps:List (Nat×Operand)} {ys:List t.den},bR t fr i ps=some ys->
  ∃ vs:List Value,ps.map (λp=>(p.1,a.eval p.2))=(vs.zipIdx i).map (λx=>(x.2,x.1))/\vs.length=ys.length/\(∀ v∈vs,v.cells.size=t.n)/\Seq (EA M w t) (vs.flatMap λv=>v.cells.toList) ys
 | i,[],ys,h=>by simp [bR] at h;subst h;exact ⟨[],by simp [Seq]⟩
 | i,(j,x)::r,ys,h=>by
  unfold bR at h
  cases hc:Nat.beq i j with
  | false=>simp [hc] at h
  | true=>
  simp only [hc,AL] at h
  have hij:=Aa hc
  subst hij
  have hx:=Et s (some t) x
  split at h
  ·rename_i v _ heq
   rw [heq] at hx
   simp only [AO] at h
   obtain ⟨y,hy,ys',hys,h⟩:=h
   cases h
   obtain rfl:=TV.FE hy
   obtain ⟨vs,e1,e2,e3,e4⟩:=fD s hys
   obtain ⟨cs,hv,hr⟩:=hx.1
   have hcells:(a.eval x).cells=cs.toArray:=by rw [hv];exact toV_cells hr
   refine ⟨a.eval x::vs,by simp [e1,List.zipIdx_cons],by simp [e2],?_,?_⟩
   ·intro v hv'
    rcases List.mem_cons.1 hv' with rfl | hv'
    ·rw [hcells];simpa using hr.length
    ·exact e3 v hv'
   ·simp only [List.flatMap_cons]
    exact ⟨_,_,rfl,by rw [hcells];exact hr,e4⟩
  ·cases h
theorem CU:∀ (t:Ty),(zeroCells t).length=t.n
 | .int _ | .bool | .str | .slice _ | .unit | .ptr _ | .UJ | .mp _ _ | .fn | .nes _=>rfl
 | .arr n e=>by simp [zeroCells,Ty.n,CU e]
 | .pair a b=>by simp [zeroCells,Ty.n,CU a,CU b]
theorem Jf:∀ {t:Ty} {x:t.den},D6 t=some x->EA M w t (zeroCells t) x:=by
 intro t
 induction t with
 | int k=>intro x h2;simp only [D6,Ac] at h2;subst h2;exact ⟨rfl,by cases k <;> decide,by cases k <;> decide⟩
 | bool=>intro x h2;simp only [D6,Ac] at h2;subst h2;rfl
 | str=>intro x h2;simp only [D6,Ac] at h2;subst h2;exact ⟨_,rfl,rfl,by simp [maxLen]⟩
 | slice e ih=>intro x h2;simp only [D6,Ac] at h2;subst h2;exact ⟨none,0,[],rfl,by simp,by simp [maxLen],(λ_=>rfl),rfl,.inl rfl⟩
 | arr n e ih=>
  intro x h2
  simp only [D6,AO] at h2
  obtain ⟨y,hy,h2⟩:=h2
  cases h2
  have hr:=ih hy
  refine ⟨by simp,?_⟩
  simp only [zeroCells]
  clear ih hy
  induction n with
  | zero=>simp [Seq]
  | succ n ihn=>simp only [List.replicate_succ,List.flatten_cons];exact ⟨zeroCells e,_,rfl,hr,ihn⟩
 | unit=>intro x h2;rfl
 | pair a b iha ihb=>
  intro x h2
  simp only [D6,AO] at h2
  obtain ⟨y,hy,z,hz,h2⟩:=h2
  cases h2
  exact ⟨zeroCells a,zeroCells b,rfl,iha hy,ihb hz⟩
 | ptr e ih=>intro x h2;simp [D6] at h2
 | UJ=>intro x h2;simp only [D6,Ac] at h2;subst h2;exact ⟨_,rfl,rfl⟩
 | mp _ _=>intro x h2;simp [D6] at h2
 | fn=>intro x h2;simp [D6] at h2
 | nes e ih=>intro x h2;simp only [D6,Ac] at h2;subst h2;exact ⟨⟨none,0,[],rfl,by simp,by simp [maxLen],(λ_=>rfl),rfl,.inl rfl⟩,λ_=>rfl⟩
theorem QGo (vs:List Value):∀ (j off:Nat) (pre old post:List Value),old.length=vs.length->pre.length=off+j->
  (vs.zipIdx j).foldl (λcs x=>cs.setIfInBounds (off+x.2) x.1) (pre++(old++post)).toArray=(pre++(vs++post)).toArray:=by
 induction vs with
 | nil=>intro j off pre old post h1 h2;have:old=[]:=Ar (by simpa using h1);subst this;simp
 | cons v vs ih=>
  intro j off pre old post h1 h2
  cases old with
  | nil=>simp at h1
  | cons u old=>
   simp only [List.zipIdx_cons,List.foldl_cons]
   have e:(pre++(u::old++post)).toArray.setIfInBounds (off+j) v=((pre++[v])++(old++post)).toArray:=by
    rw [<- h2]
    simp
   rw [e,ih (j+1) off (pre++[v]) old post (by simpa using h1) (by simp [h2];omega)]
   simp
theorem KD {place:Nat->Option (Nat×Nat)} {i off:Nat} {v:Value} {rest:List (Nat×Value)} {pre old post:List Value} (hp:place i=some (off,old.length)) (hv:v.cells.size=old.length) (ho:pre.length=off) :
  Instr.fill place (pre++(old++post)).toArray ((i,v)::rest)=Instr.fill place (pre++(v.cells.toList++post)).toArray rest:=by
 simp only [Instr.fill,hp]
 rw [AX (by simp [hv];omega)]
 congr 1
 have:=QGo v.cells.toList 0 off pre old post (by simpa using hv.symm) (by simpa using ho)
 rw [<- Array.foldl_toList,Array.toList_zipIdx]
 exact this
def Places (place:Nat->Option (Nat×Nat)):Nat->Nat->Ty->Prop
 | i,off,.pair a b=>place i=some (off,a.n)/\Places place (i+1) (off+a.n) b
 | _,_,_=>True
theorem QDS (s:Qq P w0 M0 N M β τ fr a w) {place:Nat->Option (Nat×Nat)}:∀ {t:Ty} {i:Nat} {ps:List (Nat×Operand)} {y:t.den} {pre:List Value},OE fr t i ps=some y->Places place i pre.length t->
  ∃ cs,Instr.fill place (pre++zeroCells t).toArray (ps.map λp=>(p.1,a.eval p.2))=some (pre++cs).toArray/\EA M w t cs y:=by
 intro t
 induction t with
 | unit=>
  intro i ps y pre h _
  cases ps with
  | nil=>exact ⟨[],by simp [Instr.fill,zeroCells],rfl⟩
  | cons p r=>simp [OE] at h
 | pair c b iha ihb=>
  intro i ps y pre h hp
  obtain ⟨hp1,hp2⟩:=hp
  have skip:∀ {ps':List (Nat×Operand)} {x:c.den} {y':b.den},D6 c=some x->OE fr b (i+1) ps'=some y'->
    ∃ cs,Instr.fill place (pre++zeroCells (.pair c b)).toArray (ps'.map λp=>(p.1,a.eval p.2))=some (pre++cs).toArray/\EA M w (.pair c b) cs (x,y'):=by
   intro ps' x y' hx hy
   have hr:=Jf (M:=M) (w:=w) hx
   obtain ⟨cs,h1,h2⟩:=ihb (pre:=pre++zeroCells c) hy (by rw [AQ,hr.length];exact hp2)
   exact ⟨zeroCells c++cs,by rw [zeroCells,<- Ab,h1,Ab],zeroCells c,cs,rfl,hr,h2⟩
  cases ps with
  | nil=>
   simp only [OE,AO] at h
   obtain ⟨x,hx,y',hy,h⟩:=h
   cases h
   exact skip hx hy
  | cons p r=>
   obtain ⟨j,op⟩:=p
   unfold OE at h
   cases hb:Nat.beq i j with
   | false=>
    simp only [hb,AJ,AO] at h
    obtain ⟨x,hx,y',hy,h⟩:=h
    cases h
    exact skip hx hy
   | true=>
    have hij:=Aa hb
    subst hij
    simp only [hb,AL] at h
    have hx:=Et s (some c) op
    split at h
    ·rename_i v _ heq
     rw [heq] at hx
     simp only [AO] at h
     obtain ⟨x,hxx,y',hy,h⟩:=h
     cases h
     obtain rfl:=TV.FE hxx
     obtain ⟨cx,hv,hr⟩:=hx.1
     have hcells:(a.eval op).cells=cx.toArray:=by rw [hv];exact toV_cells hr
     obtain ⟨cs,h1,h2⟩:=ihb (pre:=pre++cx) hy (by rw [AQ,hr.length];exact hp2)
     refine ⟨cx++cs,?_,cx,cs,rfl,hr,h2⟩
     simp only [List.map_cons,zeroCells]
     rw [KD (old:=zeroCells c) (by rw [CU];exact hp1) (by rw [hcells,CU];simpa using hr.length) rfl,hcells]
     rw [<- Ab,h1,Ab]
    ·cases h
 | _=>intro i ps y pre h;cases ps <;> simp [OE] at h
theorem mU {tab:List (TypeId×Ty)} (htab:Ii P tab):∀ {t:Ty} {fs:List Field} {off i:Nat} {pre:List (Nat×Nat)},M9.Ev tab fs off t=true->pre.length=i->
  ∃ places,fs.mapM (λf=>(P.info? f.type).map λi=>(f.offset,i.size))=some places/\Places ((pre++places).toArray[·]?) i off t:=by
 intro t
 induction t with
 | unit=>
  intro fs off i pre h hi
  cases fs with
  | nil=>exact ⟨[],by simp,trivial⟩
  | cons f fs=>simp [M9.Ev] at h
 | pair c b iha ihb=>
  intro fs off i pre h hi
  cases fs with
  | nil=>simp [M9.Ev] at h
  | cons f fs=>
   simp only [M9.Ev,AP,AZ,beq_iff_eq,bne_iff_ne] at h
   obtain ⟨⟨⟨⟨h1,h2⟩,h3⟩,h4⟩,h5⟩:=h
   obtain ⟨ii,hii,hsz,_⟩:=(htab _ _ h1).info
   obtain ⟨places,hp,hq⟩:=ihb (i:=i+1) (pre:=pre++[(f.offset,c.n)]) h5 (by simp [hi])
   refine ⟨(f.offset,c.n)::places,by simp [List.mapM_cons,hii,hsz,hp],?_,?_⟩
   ·simp [<- hi,h2]
   ·simpa using hq
 | _=>intro fs off i pre h;cases fs <;> simp [M9.Ev] at h
theorem QBR (hE:Yf P E el) (s:Qq P w0 M0 N M β τ fr a w) {T:TypeId} {parts:Array (Nat×Operand)} (hop:o.op=.build T parts) (h:Qm E o fr some=some av):QOp P Q o a w M β τ fr.l av:=by
 unfold Qm at h
 simp only [hop,AO] at h
 obtain ⟨ty,hty,h⟩:=h
 have hT:=hE.tab _ _ hty
 obtain ⟨it,hit,hsz,hzero,_⟩:=hT.info
 have he:execOp a.eval o=(do pure (Next.value (<- Instr.build T (parts.map λ(i,x)=>(i,a.eval x))))):=by simp only [execOp,hop]
 have hparts:(parts.map λ(i,x)=>(i,a.eval x)).toList=parts.toList.map λp=>(p.1,a.eval p.2):=by simp
 have struct:∀ {fs:Array Field},P.underlying T=some (.struct fs)->M9.Ev E.tab fs.toList 0 ty=true->ty.isAgg=true->(OE fr ty 0 parts.toList).bind (λy=>some (AV.val ⟨ty,y⟩ .no))=some av->QOp P Q o a w M β τ fr.l av:=by
  intro fs hu hfs hag h
  simp only [AO] at h
  obtain ⟨y,hy,h⟩:=h
  cases h
  obtain ⟨places,hp1,hp2⟩:=mU hE.tab (pre:=[]) hfs rfl
  obtain ⟨cs,h1,h2⟩:=QDS s (place:=(places.toArray[·]?)) (pre:=[]) hy (by simpa using hp2)
  refine q_val s.mlt (CP he (run_build w T _ cs.toArray ?_)) ⟨⟨cs,?_,h2⟩,trivial⟩
  ·simp only [Program.built,hit,hu,hzero,hp1,hparts]
   simp only [List.nil_append] at h1
   rw [toV,AY hag]
   exact h1
  ·simp only [toV,hag,if_true]
 cases ty with
 | arr n e=>
  cases hemp:parts.toList.isEmpty with
  | true=>
   rw [hemp] at h
   simp only [AL] at h
   obtain ⟨y,hy,h⟩:=AO.1 h
   cases h
   obtain ⟨e',hu,hl,_⟩:=hT.arr
   obtain ⟨ie,hie,hes,_⟩:=(hE.tab _ _ hl).info
   have hnil:parts.toList=[]:=by simpa using hemp
   refine q_val s.mlt (v:=toV (.arr n e) (zeroCells (.arr n e))) (CP he ?_) ⟨⟨_,rfl,Jf hy⟩,trivial⟩
   have:=run_build (P:=P) w T (parts.map λ(i,x)=>(i,a.eval x)) (zeroCells (.arr n e)).toArray (by
    simp only [Program.built,hit,hu,hzero,hie,hparts,hnil,List.map_nil]
    simp [toV,Ty.isAgg,Value.cells,Instr.fill])
   simpa [toV,Ty.isAgg] using this
  | false=>
  rw [hemp] at h
  simp only [AJ] at h
  replace h:=AO.1 h
  obtain ⟨ys,hys,h⟩:=h
  obtain ⟨hc,h⟩:=BU h
  cases h
  simp only [AP] at hc
  have hlen:=Aa hc.1
  obtain ⟨e',hu,hl,_⟩:=hT.arr
  obtain ⟨ie,hie,hes,_⟩:=(hE.tab _ _ hl).info
  obtain ⟨vs,e1,e2,e3,e4⟩:=fD s hys
  have hzl:=CU (.arr n e)
  simp only [Ty.n] at hzl
  refine q_val s.mlt (v:=.agg (vs.flatMap λv=>v.cells.toList).toArray) (CP he (run_build w T _ _ ?_)) ⟨⟨vs.flatMap λv=>v.cells.toList,rfl,hlen,e4⟩,trivial⟩
  simp only [Program.built,hit,hu,hzero,hie,hes,hparts,e1]
  exact Great.fill_whole (Ak hc.2) vs _ e3 (by simp only [toV,Ty.isAgg,if_true,Value.cells,List.size_toArray,hzl];rw [e2,hlen])
 | unit=>obtain ⟨fs,hu,⟨hfs,_⟩,_⟩:=hT.unit;exact struct hu hfs rfl h
 | pair c b=>obtain ⟨fs,hu,⟨hfs,_⟩,_⟩:=hT.pair;exact struct hu hfs rfl h
 | _=>
  exfalso
  obtain ⟨y,hy,_⟩:=AO.1 h
  cases hp:parts.toList <;> rw [hp] at hy <;> simp [OE] at hy
theorem je (hE:Yf P E el) (s:Qq P w0 M0 N M β τ fr a w) {T:TypeId} {n:Nat} {parts:Array (Nat×Operand)} (hop:o.op=.buildSlice T n parts) (h:Qm E o fr some=some av):QOp P Q o a w M β τ fr.l av:=by
 unfold Qm at h
 simp only [hop,AO] at h
 obtain ⟨ty,hty,h⟩:=h
 have hT:=hE.tab _ _ hty
 have he:execOp a.eval o=(do pure (Next.value (<- Instr.buildSlice T n (parts.map λ(i,x)=>(i,a.eval x))))):=by simp only [execOp,hop]
 have hparts:(parts.map λ(i,x)=>(i,a.eval x)).toList=parts.toList.map λp=>(p.1,a.eval p.2):=by simp
 cases ty with
 | slice e=>
  replace h:=AO.1 h
  obtain ⟨ys,hys,h⟩:=h
  obtain ⟨hc,h⟩:=BU h
  cases h
  simp only [AP] at hc
  have hlen:List.length ys=n:=Aa hc.1
  have hn:=Ak hc.2.1
  obtain ⟨e',hu,hl⟩:=hT.slice
  obtain ⟨ie,hie,hes,hez,_⟩:=(hE.tab _ _ hl).info
  obtain ⟨vs,e1,e2,e3,e4⟩:=fD s hys
  have e2':vs.length=n:=by rw [e2];exact hlen
  have hpos:=Ak hc.2.2.1
  have hsm:=Ak hc.2.2.2
  have key:∃ cells:Array Value,(Instr.buildSlice T n (parts.map λ(i,x)=>(i,a.eval x))).run P w=.ok (.slice (some ⟨w.heap.size,0,none⟩) n n) (w.alloc (.cells cells e'))/\cells.toList=vs.flatMap λv=>v.cells.toList:=by
   by_cases hp:n * ie.size=0
   ·have hn0:n=0:=by
     rw [hes] at hp
     rcases Nat.mul_eq_zero.1 hp with h | h <;> omega
    have hvs:vs=[]:=Ar (by rw [e2',hn0])
    subst hvs
    have hpz:parts = #[]:=by
     have:parts.toList=[]:=by simpa using e1
     exact Array.toList_eq_nil_iff.1 this
    subst hpz hn0
    exact ⟨(Array.range 0).map λ_=>default,by simp [Instr.buildSlice,run_underlying hu,sizeOf,typeInfo,hie,newRow,Instr.fill],by simp⟩
   ·have QBl:=Great.fill_whole (s:=ie.size) (by omega) vs ((Array.range (n * ie.size)).map ((toV e (zeroCells e)).cells[· % (toV e (zeroCells e)).cells.size]!)) (by rw [hes];exact e3) (by simp [e2'])
    exact ⟨_,run_buildSlice w T e' n _ _ ie _ hu hie hez (by rw [hes];omega) hp (by rw [hparts,e1];exact QBl),by simp⟩
  obtain ⟨cells,hrun,hcells⟩:=key
  refine QFu (M':=λb o=>M b o\/(b=w.heap.size/\o < cells.size)) (CP he hrun)
   ⟨(Below.refl _ _).alloc (Nat.le_refl _) _,λ_ _ m=>.inl m,λb o m=>m.elim .inl (λm=>.inr (by omega)),λb o m=>m.elim (λm=>by have:=s.mlt b o m;simp;omega) (λm=>by simp;omega)⟩ ⟨?_,⟨_,_,rfl⟩⟩
  have hext:Ext M w (λb o=>M b o\/(b=w.heap.size/\o < cells.size)) (w.alloc (.cells cells e')):=λb o m=>⟨.inl m,λv hv=>by rw [((Below.refl _ _).alloc (Nat.le_refl _) (.cells cells e')).cell (p:=⟨b,o,none⟩) (Xn hv)];exact hv⟩
  refine ⟨[.slice (some ⟨w.heap.size,0,none⟩) n n],rfl,some ⟨w.heap.size,0,none⟩,n,cells.toList,by rw [hlen],by rw [hlen];exact Nat.le_refl _,by simp only [maxLen];omega,(λh=>by cases h),?_,.inr ⟨_,_,rfl,?_⟩⟩
  ·rw [hcells]
   exact e4.mono (λ_ _ r=>r.ext hext)
  ·intro i hi
   refine ⟨?_,.inr ⟨rfl,by simpa using hi⟩⟩
   rw [Nat.zero_add,cell_of_row _ _ _ _ _ _ (heap_alloc_new w _)]
   simp
 | _=>simp at h
theorem XJ (zs:Array Value) (h:0 < zs.size):∀ n:Nat,(madeCells zs (n * zs.size)).toList=(List.replicate n zs.toList).flatten
 | 0=>by simp [madeCells]
 | n+1=>by
  have ih:=XJ zs h n
  simp only [madeCells,Array.toList_map,Array.toList_range] at ih ⊢
  rw [Nat.add_mul,Nat.one_mul,Nat.add_comm,List.range_add,List.map_append,List.replicate_succ,List.flatten_cons,<- ih,List.map_map]
  congr 1
  ·refine List.ext_getElem (by simp) λi h1 h2=>?_
   simp only [Ay,List.length_range] at h1
   simp only [List.getElem_map,List.getElem_range,Nat.mod_eq_of_lt h1,Array.getElem_toList]
   exact getElem!_pos zs i h1
  ·refine List.map_congr_left λi _=>?_
   simp only [Function.comp_apply,Nat.add_mod_left]
theorem nK (hE:Yf P E el) (s:Qq P w0 M0 N M β τ fr a w) {T:TypeId} {l c:Operand} (hop:o.op=.makeSlice T l c) (h:Qm E o fr some=some av):QOp P Q o a w M β τ fr.l av:=by
 unfold Qm at h
 simp only [hop,AO] at h
 obtain ⟨n,hn,m,hm,ty,hty,h⟩:=h
 have hT:=hE.tab _ _ hty
 have he:execOp a.eval o=(do pure (Next.value (<- Instr.makeSlice T (a.eval l) (a.eval c)))):=by simp only [execOp,hop]
 obtain ⟨kl,hl,_⟩:=Ut hn (Et s _ l)
 obtain ⟨kc,hc,_⟩:=Ut hm (Et s _ c)
 cases ty with
 | slice e=>
  simp only at h
  obtain ⟨hc1,h⟩:=BU h
  obtain ⟨z,hz,h⟩:=AO.1 h
  rw [hE.rep] at h
  cases h
  simp only [AP,AZ] at hc1
  obtain ⟨h0,rfl,hlim,hpos⟩:=hc1
  have hpos:=Ak hpos
  obtain ⟨e',hu,hle⟩:=hT.slice
  obtain ⟨ie,hie,hes,hez,hby⟩:=(hE.tab _ _ hle).info
  obtain ⟨k,rfl⟩:=BL h0
  have hk:k<=68719476736:=by omega
  have hzs:(toV e (zeroCells e)).cells=(zeroCells e).toArray:=toV_cells (Jf (M:=M) (w:=w) hz)
  have hrun:=run_make (P:=P) w T e' ie _ hu hie hez kl kc (k:Int) (k:Int) h0 (Int.le_refl _) (by
   have h1:ie.bytes * k<=2048 * 68719476736:=Nat.mul_le_mul hby hk
   have h2:((ie.bytes * k:Nat):Int)<=281474976710656:=by omega
   rwa [Int.natCast_mul] at h2) (by omega)
  rw [<- hl,<- hc,hzs,hes] at hrun
  simp only [Aj] at hrun ⊢
  have hzl:=CU e
  have hcells:(madeCells (zeroCells e).toArray (k * e.n)).toList=(List.replicate k (zeroCells e)).flatten:=by
   have:=XJ (zeroCells e).toArray (by simp only [List.size_toArray,hzl];exact hpos) k
   simpa only [List.size_toArray,hzl] using this
  generalize madeCells (zeroCells e).toArray (k * e.n)=cells at hrun hcells
  refine QFu (M':=λb o=>M b o\/(b=w.heap.size/\o < cells.size)) (CP he hrun)
   ⟨(Below.refl _ _).alloc (Nat.le_refl _) _,λ_ _ m=>.inl m,λb o m=>m.elim .inl (λm=>.inr (by omega)),λb o m=>m.elim (λm=>by have:=s.mlt b o m;simp;omega) (λm=>by simp;omega)⟩ ⟨?_,⟨_,_,rfl⟩⟩
  have hrep:EA (λb o=>M b o\/(b=w.heap.size/\o < cells.size)) (w.alloc (.cells cells e')) (.arr k e) (zeroCells (.arr k e)) (List.replicate k z):=Jf (t:=.arr k e) (by simp only [D6,hz,AA])
  refine ⟨[.slice (some ⟨w.heap.size,0,none⟩) k k],rfl,some ⟨w.heap.size,0,none⟩,k,cells.toList,by simp,by simp,by simp only [maxLen];omega,(λh=>by cases h),?_,.inr ⟨_,_,rfl,?_⟩⟩
  ·rw [hcells]
   exact hrep.2
  ·intro i hi
   refine ⟨?_,.inr ⟨rfl,by simpa using hi⟩⟩
   rw [Nat.zero_add,cell_of_row _ _ _ _ _ _ (heap_alloc_new w _)]
   simp
 | _=>simp at h
theorem vE (s:Qq P w0 M0 N M β τ fr a w) {t:Operand} {i:Nat} (hop:o.op=.extract t i) (h:Qm E o fr some=some av):QOp P Q o a w M β τ fr.l av:=by
 unfold Qm at h
 simp only [hop,ev] at h
 have he:execOp a.eval o=(do pure (Next.value (<- Instr.extract (a.eval t) i))):=by simp only [execOp,hop]
 split at h
 ·rename_i l heq
  obtain ⟨v,hv,h⟩:=AO.1 h
  cases h
  obtain ⟨vs,e1,_,hall⟩:=QOJ s heq
  obtain ⟨u,hu,hr⟩:=hall i v hv
  refine q_val s.mlt (v:=u) (CP he ?_) ⟨hr,trivial⟩
  rw [e1]
  simp [Instr.extract,hu]
 ·cases h
structure Br (Φ:AV->Prop) (f:(β:Type)->(AV->Option β)->Option β):Prop where
 out:∀ (α:Type) (k:AV->Option α) (r:α),f α k=some r->∃ av,Φ av/\(∀ (β:Type) (k':AV->Option β),f β k'=k' av)/\k av=some r
theorem Br.ret {Φ:AV->Prop} {av:AV} (h:Φ av):Br Φ (λ_ k=>k av):=⟨λ_ _ _ hk=>⟨av,h,λ_ _=>rfl,hk⟩⟩
theorem Br.none {Φ:AV->Prop}:Br Φ (λ_ _=>Option.none):=⟨λ_ _ _ hk=>by cases hk⟩
theorem Br.bind {Φ:AV->Prop} {γ:Type} {x:Option γ} {g:(β:Type)->γ->(AV->Option β)->Option β} (h:∀ y,Br Φ (λβ k=>g β y k)):Br Φ (λβ k=>x.bind λy=>g β y k):=⟨λ_ k r hk=>by
 cases x with
 | none=>cases hk
 | some y=>exact (h y).out _ k r hk⟩
theorem Br.bif {Φ:AV->Prop} {c:Bool} {f g:(β:Type)->(AV->Option β)->Option β} (hf:Br Φ f) (hg:Br Φ g):Br Φ (λβ k=>bif c then f β k else g β k):=⟨λ_ k r hk=>by
 cases c with
 | true=>exact hf.out _ k r hk
 | false=>exact hg.out _ k r hk⟩
theorem Br.ite {Φ:AV->Prop} {c:Prop} [Decidable c] {f g:(β:Type)->(AV->Option β)->Option β} (hf:Br Φ f) (hg:Br Φ g):Br Φ (λβ k=>if c then f β k else g β k):=⟨λ_ k r hk=>by
 by_cases hc:c
 ·simp only [AY hc] at hk ⊢;exact hf.out _ k r hk
 ·simp only [AX hc] at hk ⊢;exact hg.out _ k r hk⟩
def Bh (fr:Fr) (av:AV):Prop:=∀ x k e,av=.val x (.own k e)->Live fr.s k e
theorem Bh.no {v:TV}:Bh fr (.val v .no):=λ_ _ _ h=>by cases h
theorem Bh.full {v:TV}:Bh fr (.val v .full):=λ_ _ _ h=>by cases h
theorem Bh.loc {id:Nat} {p:List Step}:Bh fr (.loc id p):=λ_ _ _ h=>by cases h
theorem Bh.Oj {l:List TV}:Bh fr (.Oj l):=λ_ _ _ h=>by cases h
theorem Bh.any:Bh fr .any:=λ_ _ _ h=>by cases h
theorem Bh.res {rs:List Ty} {r:Bv rs}:Bh fr (xq rs r):=by
 match rs,r with
 | [],_=>exact Bh.any
 | [t],_=>exact Bh.no
 | t::u::ts,_=>exact Bh.Oj
theorem Bh.ev {E:Env} {t:TypeId} {x:Operand}:Bh fr (ev E t x fr):=λ_ _ _ h=>QKl h
theorem QKZ {tt:Option Ty} {op:BinOp} {x y:AV}:Br (Bh fr) (λ_ k=>UU tt op x y k):=by
 have aux:∀ (t u:Ty) (a:t.den) (b:u.den),Br (Bh fr) (λ_ k=>bif t.isAgg&&(t.flat&&(Nat.ble t.dep 99&&Cz tt t)) then (TV.as t ⟨u,b⟩).bind λb=>(match op with | .eql=>k (AV.val ⟨.bool,R3 t a b⟩ .no) | .neq=>k (.val ⟨.bool,!(R3 t a b)⟩ .no) | _=>Option.none) else Option.none):=by
  intro t u a b
  refine Br.bif (Br.bind λ_=>?_) Br.none
  cases op <;> first | exact Br.ret Bh.no | exact Br.none
 rcases x with _ | ⟨⟨t,a⟩,p⟩ | ⟨id,p⟩ | l
 ·exact Br.none
 ·rcases y with _ | ⟨⟨u,b⟩,q⟩ | ⟨id,q⟩ | l
  ·cases t <;> exact Br.none
  ·cases t with
   | int kx=>
    cases u with
    | int ky=>
     simp only [UU]
     unfold QOV
     cases op <;> first
      | exact Br.bif Br.none (Br.ret Bh.no)
      | exact Br.ite (Br.ret Bh.no) Br.none
      | exact Br.ite (Br.bif Br.none (Br.ret Bh.no)) Br.none
      | exact Br.none
    | _=>exact aux _ _ a b
   | bool=>
    cases u with
    | bool=>
     simp only [UU]
     refine Br.bif ?_ Br.none
     cases op <;> first | exact Br.ret Bh.no | exact Br.none
    | _=>exact aux _ _ a b
   | str=>
    cases u with
    | str=>
     simp only [UU]
     cases op <;> first | exact Br.ret Bh.no | exact Br.bif (Br.ret Bh.no) Br.none | exact Br.none
    | _=>exact aux _ _ a b
   | _=>exact aux _ _ a b
  ·cases t <;> exact Br.none
  ·cases t <;> exact Br.none
 ·exact Br.none
 ·exact Br.none
theorem QL3 {tt:Option Ty} {op:BinOp} {x:AV}:Br (Bh fr) (λ_ k=>QOS tt op x k):=by
 rcases x with _ | ⟨⟨t,a⟩,p⟩ | ⟨id,p⟩ | l
 ·exact Br.none
 ·cases t <;> first | exact Br.none | skip
  refine Br.bif ?_ Br.none
  cases op <;> first | exact Br.ret Bh.no | exact Br.none
 ·exact Br.none
 ·exact Br.none
theorem QGz {tab:List (TypeId×Ty)} {tt:Option Ty} {op:BinOp} {x y:AV}:Br (Bh fr) (λ_ k=>rX tab tt op x y k (UU tt op x y k)):=by
 by_cases h:∃ a p b q,x=.val ⟨.UJ,a⟩ p/\y=.val ⟨.UJ,b⟩ q
 ·obtain ⟨a,p,b,q,rfl,rfl⟩:=h
  simp only [rX]
  refine Br.bif (Br.bind λ_=>Br.bind λ_=>?_) Br.none
  cases op <;> first | exact Br.ret Bh.no | exact Br.none
 ·have:(λ(γ:Type) (k:AV->Option γ)=>rX tab tt op x y k (UU tt op x y k))=λγ k=>UU tt op x y k:=by
   funext γ k
   unfold rX
   split
   ·exact (h ⟨_,_,_,_,rfl,rfl⟩).elim
   ·rfl
  rw [this]
  exact QKZ
theorem QOe {T:TypeId} {tt:Option Ty} {x:AV}:Br (Bh fr) (λ_ k=>mkI T tt x k):=by
 unfold mkI
 split
 ·split
  ·exact Br.ret Bh.no
  ·exact Br.none
 ·exact Br.none
theorem QPA {op:UnOp} {x:AV}:Br (Bh fr) (λ_ k=>unK op x k):=by
 rcases x with _ | ⟨⟨t,a⟩,p⟩ | ⟨id,p⟩ | l
 ·cases op <;> exact Br.none
 ·cases op <;> cases t <;> first | exact Br.none | exact Br.ret Bh.no
 ·cases op <;> exact Br.none
 ·cases op <;> exact Br.none
theorem QGh {s d:Option Ty} {x:AV}:Br (Bh fr) (λ_ k=>QBW s d x k):=by
 rcases d with _ | d
 ·exact Br.none
 rcases x with _ | ⟨⟨t,a⟩,p⟩ | ⟨id,p⟩ | l
 ·cases d <;> first | exact Br.none | (rename_i e;cases e <;> first | exact Br.none | (rename_i k;cases k <;> exact Br.none))
 ·cases d with
  | int k=>cases t <;> first | exact Br.none | exact Br.bif (Br.ret Bh.no) Br.none
  | str=>cases t with
   | str=>exact Br.bif (Br.ret Bh.no) Br.none
   | int k=>exact Br.bif (Br.ret Bh.no) Br.none
   | slice e=>cases e with
    | int k=>cases k <;> first | exact Br.none | exact Br.bif (Br.ret Bh.no) Br.none
    | _=>exact Br.none
   | _=>exact Br.none
  | slice e=>cases e with
   | int k=>cases k <;> first | exact Br.none | (cases t <;> first | exact Br.none | exact Br.bif (Br.ret Bh.no) Br.none)
   | _=>exact Br.none
  | _=>exact Br.none
 ·cases d <;> first | exact Br.none | (rename_i e;cases e <;> first | exact Br.none | (rename_i k;cases k <;> exact Br.none))
 ·cases d <;> first | exact Br.none | (rename_i e;cases e <;> first | exact Br.none | (rename_i k;cases k <;> exact Br.none))
theorem QLB {s:Option Ty} {x:AV}:Br (Bh fr) (λ_ k=>QDr s x k):=by
 rcases x with _ | ⟨⟨t,a⟩,p⟩ | ⟨id,p⟩ | l
 ·exact Br.none
 ·cases t <;> first | exact Br.none | exact Br.bif (Br.ret Bh.no) Br.none
 ·exact Br.none
 ·exact Br.none
theorem gW {Φ:AV->Prop} {γ:Type} {xs:List γ} {lo hi:Option AV} {g:List γ->AV} (h:∀ ys,Φ (g ys)):Br Φ (λ_ k=>vB xs lo hi λys=>k (g ys)):=by
 cases lo with
 | none=>cases hi with
  | none=>exact Br.ret (h _)
  | some b=>exact Br.bind λ_=>Br.bif (Br.ret (h _)) Br.none
 | some a=>cases hi with
  | none=>exact Br.bind λ_=>Br.bif (Br.ret (h _)) Br.none
  | some b=>exact Br.bind λ_=>Br.bind λ_=>Br.bif (Br.ret (h _)) Br.none
theorem QLN {x y:AV}:Br (Bh fr) (λ_ k=>QTu x y k):=by
 rcases x with _ | ⟨⟨t,a⟩,p⟩ | ⟨id,p⟩ | l <;> rcases y with _ | ⟨⟨u,b⟩,q⟩ | ⟨id',q⟩ | l' <;> first
  | exact Br.none
  | (cases t <;> first | exact Br.none | (cases u <;> first | exact Br.none | exact Br.ite (Br.ret Bh.no) Br.none))
theorem QLL {x y:AV}:Br (Bh fr) (λ_ k=>QTt x y k):=by
 rcases x with _ | ⟨⟨t,a⟩,p⟩ | ⟨id,p⟩ | l <;> rcases y with _ | ⟨⟨u,b⟩,q⟩ | ⟨id',q⟩ | l' <;> first
  | exact Br.none
  | (cases t <;> first | exact Br.none | (cases u <;> first | exact Br.none | exact Br.ite (Br.ret Bh.no) Br.none))
theorem QOq:Br (Bh fr) (λ_ k=>Qm E o fr k):=by
 obtain ⟨dst,op,type,pos,after,guard⟩:=o
 cases op with
 | move x=>exact Br.ret Bh.ev
 | assign x=>exact Br.ret Bh.ev
 | pick c a b=>
  simp only [Qm]
  generalize hc:ev E type c fr=y
  rcases y with _ | ⟨⟨t,v⟩,p⟩ | ⟨id,p⟩ | l <;> first | exact Br.none | skip
  cases t <;> first | exact Br.none | exact Br.bif (Br.ret Bh.ev) (Br.ret Bh.ev)
 | binOp op t x y u=>exact Br.bif QL3 QGz
 | makeInterface T x=>exact QOe
 | unOp op t x=>exact QPA
 | convert s d x=>exact QGh
 | nilCheck x=>
  simp only [Qm]
  generalize hc:ev E type x fr=y
  rcases y with _ | ⟨⟨t,v⟩,p⟩ | ⟨id,p⟩ | l <;> first | exact Br.none | exact Br.ret Bh.loc | skip
  cases t <;> first | exact Br.none | exact Br.ret Bh.no
 | load T x=>
  simp only [Qm,bA]
  generalize hc:ev E type x fr=y
  rcases y with _ | ⟨⟨t,v⟩,p⟩ | ⟨id,p⟩ | l <;> first | exact Br.none | exact Br.bind λ_=>Br.bind λ_=>Br.bif (Br.ret Bh.no) Br.none | skip
  cases t <;> first | exact Br.none | exact Br.bif (Br.ret Bh.no) Br.none
 | fieldAddr T x f=>
  simp only [Qm]
  generalize hc:ev E type x fr=y
  rcases y with _ | ⟨⟨t,v⟩,p⟩ | ⟨id,p⟩ | l <;> first | exact Br.none | skip
  ·cases t <;> first | exact Br.none | exact Br.bif (Br.bind λ_=>Br.ret Bh.no) Br.none
  ·refine Br.bind λe=>?_
   cases ZA e.2.1 p with
   | none=>exact Br.none
   | some t=>exact Br.bif (Br.ret Bh.loc) Br.none
 | field T x f=>
  simp only [Qm]
  generalize hc:ev E type x fr=y
  rcases y with _ | ⟨⟨t,v⟩,p⟩ | ⟨id,p⟩ | l <;> first | exact Br.none | exact Br.bif (Br.bind λ_=>Br.ret Bh.no) Br.none
 | indexAddr T x i=>
  simp only [Qm]
  refine Br.bind λi=>?_
  generalize hc:ev E type x fr=y
  rcases y with _ | ⟨⟨t,v⟩,p⟩ | ⟨id,p⟩ | l <;> first | exact Br.none | skip
  ·cases t with
   | slice e=>exact Br.bif (Br.bind λ_=>Br.ret Bh.no) Br.none
   | ptr t=>cases t <;> first | exact Br.none | exact Br.bif (Br.bind λ_=>Br.ret Bh.no) Br.none
   | _=>exact Br.none
  ·refine Br.bind λe=>?_
   cases ZA e.2.1 p with
   | none=>exact Br.none
   | some t=>cases t <;> first | exact Br.none | exact Br.bif (Br.bif (Br.ret Bh.loc) Br.none) Br.none
 | index T x i=>
  simp only [Qm]
  refine Br.bind λi=>?_
  generalize hc:ev E T x fr=y
  rcases y with _ | ⟨⟨t,v⟩,p⟩ | ⟨id,p⟩ | l <;> first | exact Br.none | skip
  cases t <;> first | exact Br.none | exact Br.bif (Br.bind λ_=>Br.ret Bh.no) Br.none
 | slice T x lo hi mx=>
  cases mx with
  | some m=>exact Br.none
  | none=>
   simp only [Qm]
   generalize hc:ev E type x fr=y
   rcases y with _ | ⟨⟨t,v⟩,p⟩ | ⟨id,p⟩ | l <;> first | exact Br.none | skip
   ·cases t with
    | slice e=>exact Br.bif (gW λ_=>Bh.no) Br.none
    | str=>exact Br.bif (gW λ_=>Bh.no) Br.none
    | ptr t=>cases t <;> first | exact Br.none | exact Br.bif (gW λ_=>Bh.no) Br.none
    | _=>exact Br.none
   ·cases p with
    | cons _ _=>exact Br.none
    | nil=>
     refine Br.bind λe=>Br.bif Br.none ?_
     obtain ⟨m,t,v⟩:=e
     cases t <;> first | exact Br.none | exact Br.bif (gW λ_=>Bh.no) Br.none
 | extract t i=>
  simp only [Qm]
  generalize hc:ev E type t fr=y
  rcases y with _ | ⟨⟨t,v⟩,p⟩ | ⟨id,p⟩ | l <;> first | exact Br.none | exact Br.bind λ_=>Br.ret Bh.no
 | build t parts=>
  simp only [Qm]
  refine Br.bind λty=>?_
  cases ty <;> first | exact Br.bind λ_=>Br.ret Bh.no | exact Br.bif (Br.bind λ_=>Br.ret Bh.no) (Br.bind λ_=>Br.bif (Br.ret Bh.no) Br.none)
 | buildSlice t n parts=>
  simp only [Qm]
  refine Br.bind λty=>?_
  cases ty <;> first | exact Br.none | exact Br.bind λ_=>Br.bif (Br.ret Bh.full) Br.none
 | makeSlice t l c=>
  simp only [Qm]
  refine Br.bind λn=>Br.bind λm=>Br.bind λty=>?_
  cases ty <;> first | exact Br.none | exact Br.bif (Br.bind λ_=>Br.ret Bh.full) Br.none
 | call c=>
  obtain ⟨callee,args,argTypes⟩:=c
  cases callee with
  | invoke r m=>exact Br.none
  | value f=>
   cases f with
   | func f=>exact Br.bind λ_=>Br.bif Br.none (Br.bind λ_=>Br.bind λ_=>Br.bind λ_=>Br.ret Bh.res)
   | _=>exact Br.none
  | builtin b=>
   cases b with
   | len=>
    simp only [Qm]
    rcases args.toList with _ | ⟨x,_ | ⟨y,r⟩⟩ <;> rcases argTypes.toList with _ | ⟨t,_ | ⟨u,q⟩⟩ <;> first | exact Br.none | exact QLB
   | min=>
    simp only [Qm]
    rcases args.toList with _ | ⟨x,_ | ⟨y,_ | ⟨z,r⟩⟩⟩ <;> rcases argTypes.toList with _ | ⟨t,_ | ⟨u,_ | ⟨v,q⟩⟩⟩ <;> first | exact Br.none | exact QLN
   | max=>
    simp only [Qm]
    rcases args.toList with _ | ⟨x,_ | ⟨y,_ | ⟨z,r⟩⟩⟩ <;> rcases argTypes.toList with _ | ⟨t,_ | ⟨u,_ | ⟨v,q⟩⟩⟩ <;> first | exact Br.none | exact QLL
   | _=>exact Br.none
 | _=>exact Br.none
theorem QCA {k:IntKind} {m n:Int} (c:Prop) [Decidable c] (hm:k.min<=m/\m<=k.max) (hn:k.min<=n/\n<=k.max):k.min<=(if c then n else m)/\(if c then n else m)<=k.max:=by
 split <;> assumption
theorem xM (hE:Yf P E el) (s:Qq P w0 M0 N M β τ fr a w) (h:Qm E o fr some=some av):QOp P Q o a w M β τ fr.l av:=by
 have iH:∀ (x:Operand),execOp a.eval o=pure (Next.value (a.eval x))->ji (lk o.type E.tab) x fr=av->QOp P Q o a w M β τ fr.l av:=by
  intro x he hav
  exact q_val s.mlt (v:=a.eval x) (by rw [he];rfl) (hav ▸ Et s _ x)
 cases hop:o.op with
 | move x=>
  unfold Qm at h
  simp only [hop,ev,Ac] at h
  exact iH x (by simp only [execOp,hop]) h
 | assign x=>
  unfold Qm at h
  simp only [hop,ev,Ac] at h
  exact iH x (by simp only [execOp,hop]) h
 | pick c x y=>
  unfold Qm at h
  simp only [hop,ev] at h
  split at h
  ·rename_i b _ heq
   have hb:=(gq s heq).1.bool
   cases b with
   | true=>
    simp only [AL,Ac] at h
    exact iH x (by simp only [execOp,hop,hb,asBool];rfl) h
   | false=>
    simp only [AJ,Ac] at h
    exact iH y (by simp only [execOp,hop,hb,asBool];rfl) h
  ·cases h
 | binOp op t x y u=>
  unfold Qm at h
  simp only [hop] at h
  have he:execOp a.eval o=(do pure (Next.value (<- (do eqGuard op t x y (a.eval x) (a.eval y);binOp op t (a.eval x) (a.eval y):Sem Value)))):=by simp only [execOp,hop]
  cases hn:zx y with
  | true=>
   rw [hn] at h
   obtain ⟨v,hv,hr⟩:=QH1 (P:=P) (t:=t) (xo:=x) (yo:=y) (vy:=a.eval y) hE.tab hn (λv e=>by subst e;rfl) h (Et s _ x)
   exact q_val s.mlt (CP he hv) hr
  | false=>
   rw [hn] at h
   obtain ⟨v,hv,hr⟩:=QDj (P:=P) (t:=t) (xo:=x) (yo:=y) hE.tab h (Et s _ x) (Et s _ y) λh=>QGc (P:=P) (t:=t) (xo:=x) (yo:=y) hE.tab h (Et s _ x) (Et s _ y)
   exact q_val s.mlt (CP he hv) hr
 | makeInterface T x=>
  unfold Qm at h
  simp only [hop] at h
  obtain ⟨v,hv,hr⟩:=QHE (P:=P) hE.tab h (Et s _ x)
  exact q_val s.mlt (CP (by simp only [execOp,hop]) hv) hr
 | unOp op t x=>
  unfold Qm at h
  simp only [hop] at h
  obtain ⟨v,hv,hr⟩:=QMB (P:=P) h (Et s _ x)
  exact q_val s.mlt (CP (by simp only [execOp,hop]) hv) hr
 | convert src dst x=>
  unfold Qm at h
  simp only [hop] at h
  obtain ⟨v,w',M',hv,hg,hr⟩:=QDX hE.tab s.mlt h (Et s _ x)
  exact QFu (CP (by simp only [execOp,hop]) hv) hg hr
 | nilCheck x=>
  unfold Qm at h
  simp only [hop,ev] at h
  have hx:=Et s (lk o.type E.tab) x
  split at h
  ·rename_i id p heq
   cases h
   rw [heq] at hx
   obtain ⟨e,off,t',h1,h2,h3⟩:=hx
   exact q_val s.mlt (v:=a.eval x) (by simp only [execOp,hop,h3];rfl) ⟨e,off,t',h1,h2,h3⟩
  ·rename_i t y _ heq
   cases h
   rw [heq] at hx
   obtain ⟨b,off,row,h3,_⟩:=hx.1.ptr
   exact q_val s.mlt (v:=a.eval x) (by simp only [execOp,hop,h3];rfl) ⟨hx.1,trivial⟩
  ·cases h
 | load T x=>exact QDt hE s hop h
 | fieldAddr T x f=>exact nE hE s hop h
 | field T x f=>exact QBg hE s hop h
 | indexAddr T x i=>exact nI hE s hop h
 | index T x i=>exact QBn hE s hop h
 | slice T x lo hi mx=>
  cases mx with
  | none=>exact QCi hE s hop h
  | some m=>unfold Qm at h;simp [hop] at h
 | extract t i=>exact vE s hop h
 | build T parts=>exact QBR hE s hop h
 | buildSlice T n parts=>exact je hE s hop h
 | makeSlice T l c=>exact nK hE s hop h
 | call c=>
  obtain ⟨callee,args,argTypes⟩:=c
  have ZX:∀ b,callee=.builtin b->(∀ (sem:Sem Value),builtin b argTypes o.type (args.map fun | .const _=>true | _=>false) (args.map a.eval)=(do pure (Next.value (<- sem)))->execOp a.eval o=(do pure (Next.value (<- sem)))):=by
   intro b hb sem hs
   subst hb
   simp only [execOp,hop,resolve,pure_bind,invoke]
   exact hs
  cases callee with
  | invoke r m=>unfold Qm at h;simp [hop] at h
  | value f=>
   cases f with
   | func f=>
    unfold Qm at h
    simp only [hop] at h
    obtain ⟨fn,hf,h⟩:=AO.1 h
    obtain ⟨hc,h⟩:=Qt h
    obtain ⟨vs,hv,h⟩:=AO.1 h
    obtain ⟨x,hx,h⟩:=AO.1 h
    obtain ⟨r,hr,h⟩:=AO.1 h
    cases h
    refine QDV hE s hop hf ?_ hv hx hr
    intro hl
    rw [hl] at hc
    simpa using hc
   | _=>unfold Qm at h;simp [hop] at h
  | builtin b=>
   have two:∀ {x y:Operand},args.toList=[x,y]->args = #[x,y]:=λh=>by rw [<- Array.toArray_toList (xs:=args),h]
   have one:∀ {x:Operand},args.toList=[x]->args = #[x]:=λh=>by rw [<- Array.toArray_toList (xs:=args),h]
   have QdP:∀ {x:TypeId},argTypes.toList=[x]->argTypes = #[x]:=λh=>by rw [<- Array.toArray_toList (xs:=argTypes),h]
   cases b with
   | len=>
    unfold Qm at h
    simp only [hop] at h
    split at h
    ·rename_i x t hx ht
     obtain ⟨v,hv,hr⟩:=QH6 (P:=P) (ty:=o.type) hE.tab h (Et s _ x)
     refine q_val s.mlt (CP (ZX .len rfl (Builtin.len_ argTypes o.type (args.map a.eval)) rfl) ?_) hr
     rw [one hx,QdP ht,show Array.map a.eval #[x] = #[a.eval x] from by simp]
     exact hv
    ·cases h
   | min=>
    unfold Qm at h
    simp only [hop] at h
    split at h
    ·rename_i x y t u hx ht
     unfold QTu at h
     split at h
     ·rename_i kx m _ ky n _ h1 h2
      obtain ⟨hk,h⟩:=Uv h
      cases h
      subst hk
      obtain ⟨e1,r1⟩:=(gq s h1).1.int
      obtain ⟨e2,r2⟩:=(gq s h2).1.int
      refine q_val s.mlt (CP (ZX .min rfl (Builtin.min_ argTypes o.type (args.map a.eval)) rfl) ?_) ⟨EF.JY (QCA (n < m) r1 r2),trivial⟩
      rw [two hx]
      simp only [List.map_toArray,List.map_cons,List.map_nil,e1,e2]
      exact run_min_int2 w _ _ _ _ _ _
     ·cases h
    ·cases h
   | max=>
    unfold Qm at h
    simp only [hop] at h
    split at h
    ·rename_i x y t u hx ht
     unfold QTt at h
     split at h
     ·rename_i kx m _ ky n _ h1 h2
      obtain ⟨hk,h⟩:=Uv h
      cases h
      subst hk
      obtain ⟨e1,r1⟩:=(gq s h1).1.int
      obtain ⟨e2,r2⟩:=(gq s h2).1.int
      refine q_val s.mlt (CP (ZX .max rfl (Builtin.max_ argTypes o.type (args.map a.eval)) rfl) ?_) ⟨EF.JY (QCA (n > m) r1 r2),trivial⟩
      rw [two hx]
      simp only [List.map_toArray,List.map_cons,List.map_nil,e1,e2]
      exact run_max_int2 w _ _ _ _ _ _
     ·cases h
    ·cases h
   | _=>unfold Qm at h;simp [hop] at h
 | _=>unfold Qm at h;simp [hop] at h
end
end Go.Lift
