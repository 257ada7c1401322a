import Derived.Test.YtjcnhegjiffgpaaGreatDoorLiftC
set_option linter.unusedSimpArgs false
namespace Go.Lift
open Go.RowKit
theorem mX {α:Type} {f:List Value->Option α} {R:List Value->α->Prop} {n:Nat} (hf:∀ cs x,f cs=some x->R cs x):∀ (k:Nat) {cs:List Value} {xs:List α},bT f n k cs=some xs->xs.length=k/\Seq R cs xs
 | 0,[],xs,h=>by simp [bT] at h;subst h;exact ⟨rfl,rfl⟩
 | 0,_::_,xs,h=>by simp [bT] at h
 | k+1,cs,xs,h=>by
  simp only [bT,AO] at h
  obtain ⟨x,hx,ys,hy,h⟩:=h
  cases h
  obtain ⟨l,s⟩:=mX hf k hy
  exact ⟨by simp [l],cs.take n,cs.drop n,by simp,hf _ _ hx,s⟩
theorem xZ {M:Own} {w:World}:∀ {t:Ty} {cs:List Value} {x:t.den},Qi t cs=some x->EA M w t cs x:=by
 intro t
 induction t with
 | int k=>
  intro cs x h
  simp only [Qi] at h
  unfold QRL at h
  split at h
  ·split at h
   ·rename_i hk;cases h;obtain ⟨rfl,h1,h2⟩:=hk;exact ⟨rfl,h1,h2⟩
   ·cases h
  ·cases h
 | bool=>
  intro cs x h
  simp only [Qi] at h
  unfold rdBool at h
  split at h
  ·cases h;rfl
  ·cases h
 | str=>
  intro cs x h
  simp only [Qi] at h
  unfold rdStr at h
  split at h
  ·split at h
   ·rename_i hk;cases h;exact ⟨_,rfl,rfl,hk⟩
   ·cases h
  ·cases h
 | slice e ih=>
  intro cs x h
  simp only [Qi] at h
  unfold QFx at h
  split at h
  case h_2=>cases h
  cases h
  exact ⟨none,0,[],rfl,by simp,by simp [maxLen],(λ_=>rfl),rfl,.inl rfl⟩
 | arr n e ih=>
  intro cs x h
  simp only [Qi] at h
  exact mX (R:=EA M w e) (λ_ _ h=>ih h) n h
 | unit=>
  intro cs x h
  simp only [Qi] at h
  unfold QLa at h
  split at h
  ·rfl
  ·cases h
 | pair a b iha ihb=>
  intro cs x h
  simp only [Qi,AO] at h
  obtain ⟨y,hy,z,hz,h⟩:=h
  cases h
  exact ⟨_,_,(List.take_append_drop a.n cs).symm,iha hy,ihb hz⟩
 | ptr e ih=>
  intro cs x h
  simp [Qi] at h
 | UJ=>
  intro cs x h
  simp only [Qi] at h
  unfold QRK at h
  split at h
  ·cases h;exact ⟨_,rfl,rfl⟩
  ·cases h
 | mp _ _=>intro cs x h;simp [Qi] at h
 | fn=>intro cs x h;simp [Qi] at h
 | nes e ih=>
  intro cs x h
  simp only [Qi] at h
  unfold QFx at h
  split at h
  case h_2=>cases h
  cases h
  exact ⟨⟨none,0,[],rfl,by simp,by simp [maxLen],(λ_=>rfl),rfl,.inl rfl⟩,λ_=>rfl⟩
theorem toV_kind {t:Ty} {v:Value} (h:kindOk t v=true) {M:Own} {w:World} {x:t.den} (r:EA M w t v.cells.toList x):v=toV t v.cells.toList:=by
 have hl:=r.length
 cases v <;> simp [kindOk] at h <;> simp [toV,h,Value.cells]
theorem QCQ {M:Own} {w:World} {t:Ty} {v:Value} {x:t.den} (hk:kindOk t v=true) (h:Qi t v.cells.toList=some x):EF M w t x v:=
 ⟨v.cells.toList,toV_kind hk (xZ (M:=M) (w:=w) h),xZ h⟩
section
variable {P:Program} {w0:World} {M0:Own} {N:Nat} {M:Own} {β:Nat->Nat} {τ:Nat->Value} {fr:Fr} {a:Act} {w:World}
theorem Qq.tmp (s:Qq P w0 M0 N M β τ fr a w) {i:Nat} {av:AV} (h:lk i fr.s=some av):fT M w β τ fr.l av (a.eval (.tmp i)):=by
 obtain ⟨v,hv,r⟩:=s.sl i av h
 have:a.eval (.tmp i)=v:=by simp [Act.eval,hv]
 rw [this];exact r
theorem Ww.ext {M M':Own} {w w':World} (h:Ext M w M' w') (hb:Below w.heap.size w w') (k:Ww M w):Ww M' w':=λg v hg=>by
 obtain ⟨cs,T,fz,h1,h2,h3⟩:=k g v hg
 exact ⟨cs,T,fz,by rw [hb.block g (Am.1 h1).1];exact h1,h2.ext h,λo ho=>(h g o (h3 o ho)).1⟩
theorem Ww.val {M:Own} {w:World} (k:Ww M w) {g:Nat} {v:TV} (hg:lk g wW=some v):EF M w (.ptr v.1) v.2 (.pointer (some ⟨g,0,none⟩)):=by
 obtain ⟨cs,T,fz,h1,h2,h3⟩:=k g v hg
 exact ⟨[_],rfl,g,0,cs,rfl,λi hi=>⟨by rw [cell_of_row _ _ _ _ _ _ h1];simp,by rw [Nat.zero_add];exact h3 i hi⟩,h2⟩
theorem Qq.glob (s:Qq P w0 M0 N M β τ fr a w):Ww M w:=
 s.gk.ext (λb o m=>⟨s.Yn b o m,λv hv=>by rw [s.J6.cell (p:=⟨b,o,none⟩) (Xn hv)];exact hv⟩) s.J6
theorem Et (s:Qq P w0 M0 N M β τ fr a w) (ty:Option Ty) (x:Operand):fT M w β τ fr.l (ji ty x fr) (a.eval x):=by
 unfold ji
 split
 ·rename_i i
  cases h:lk i fr.s with
  | none=>trivial
  | some av=>exact s.tmp h
 ·rename_i v
  split
  ·split
   ·rename_i t _ y hk hr
    refine ⟨QCQ hk hr,?_⟩
    unfold QTO
    split
    ·exact ⟨none,0,rfl⟩
    ·trivial
   ·trivial
  ·trivial
 ·split
  ·rename_i g _ v hg
   exact ⟨s.glob.val hg,trivial⟩
  ·trivial
 ·trivial
theorem QKl {ty:Option Ty} {x:Operand} {v:TV} {k:Nat} {e:TypeId} (h:ji ty x fr=.val v (.own k e)):Live fr.s k e:=by
 unfold ji at h
 split at h
 ·rename_i i
  cases hl:lk i fr.s with
  | none=>simp [hl] at h
  | some av=>exact ⟨i,v,by rw [hl];simpa [hl] using h⟩
 ·split at h
  ·split at h
   ·rename_i u _ _ _ _ _
    simp only [AV.val.injEq] at h
    have:=h.2
    unfold QTO at this
    split at this <;> cases this
   ·cases h
  ·cases h
 ·split at h <;> cases h
 ·cases h
theorem gq (s:Qq P w0 M0 N M β τ fr a w) {ty:Option Ty} {x:Operand} {v:TV} {tip:Tip} (h:ji ty x fr=.val v tip):EF M w v.1 v.2 (a.eval x)/\QXm τ tip (a.eval x):=by
 have:=Et s ty x
 rw [h] at this
 exact this
theorem QOJ (s:Qq P w0 M0 N M β τ fr a w) {ty:Option Ty} {x:Operand} {l:List TV} (h:ji ty x fr=.Oj l):fT M w β τ fr.l (.Oj l) (a.eval x):=by
 have:=Et s ty x
 rwa [h] at this
end
theorem EF.int {M:Own} {w:World} {k:IntKind} {x:Int} {v:Value} (h:EF M w (.int k) x v):v=.int k x/\k.min<=x/\x<=k.max:=by
 obtain ⟨cs,e,r⟩:=h
 obtain ⟨rfl,r⟩:=r
 exact ⟨e,r⟩
theorem EF.bool {M:Own} {w:World} {x:Bool} {v:Value} (h:EF M w .bool x v):v=.bool x:=by
 obtain ⟨cs,e,r⟩:=h
 simp only [EA] at r
 subst r
 exact e
theorem EF.str {M:Own} {w:World} {x:List Int} {v:Value} (h:EF M w .str x v):∃ s:ByteArray,v=.string s/\x=s.data.toList.map (λb=>(b.toNat:Int))/\s.size<=maxLen:=by
 obtain ⟨cs,e,r⟩:=h
 obtain ⟨s,rfl,r⟩:=r
 exact ⟨s,e,r⟩
theorem EF.slice {M:Own} {w:World} {t:Ty} {xs:List t.den} {v:Value} (h:EF M w (.slice t) xs v) :
  ∃ a cap row,v=.slice a xs.length cap/\xs.length<=cap/\cap<=maxLen/\(a=none->cap=0)/\Seq (EA M w t) row xs/\(List.length xs=0\/∃ b o,a=some ⟨b,o,none⟩/\Row M w b o row):=by
 obtain ⟨cs,e,r⟩:=h
 obtain ⟨a,cap,row,rfl,r⟩:=r
 exact ⟨a,cap,row,e,r⟩
theorem EF.ptr {M:Own} {w:World} {t:Ty} {x:t.den} {v:Value} (h:EF M w (.ptr t) x v) :
  ∃ b o row,v=.pointer (some ⟨b,o,none⟩)/\Row M w b o row/\EA M w t row x:=by
 obtain ⟨cs,e,r⟩:=h
 obtain ⟨b,o,row,rfl,r⟩:=r
 exact ⟨b,o,row,e,r⟩
theorem EF.UJ {M:Own} {w:World} {x:Option (Option (Nat×Int))} {v:Value} (h:EF M w .UJ x v):cu x v:=by
 obtain ⟨cs,e,r⟩:=h
 obtain ⟨u,rfl,r⟩:=r
 have:v=u:=e
 rw [this];exact r
theorem EF.QTv {M:Own} {w:World} {x:Option (Option (Nat×Int))} {v:Value} (h:cu x v):EF M w .UJ x v:=⟨[v],rfl,v,rfl,h⟩
theorem EF.agg {M:Own} {w:World} {t:Ty} (ht:t.isAgg=true) {x:t.den} {v:Value} (h:EF M w t x v):∃ cs,v=.agg (List.toArray cs)/\EA M w t cs x:=by
 obtain ⟨cs,e,r⟩:=h
 exact ⟨cs,by rw [e,toV,AY ht],r⟩
theorem EF.JY {M:Own} {w:World} {k:IntKind} {x:Int} (h:k.min<=x/\x<=k.max):EF M w (.int k) x (.int k x):=⟨_,rfl,rfl,h⟩
theorem EF.Ew {M:Own} {w:World} {x:Bool}:EF M w .bool x (.bool x):=⟨_,rfl,rfl⟩
theorem MW (k:IntKind) (n:Int):k.min<=k.wrap n/\k.wrap n<=k.max:=by
 cases k <;> simp [IntKind.min,IntKind.max,IntKind.wrap,IntKind.signed,IntKind.bits] <;> (try split) <;> omega
def M9 (P:Program) (tab:List (TypeId×Ty)) (tid:TypeId) (t:Ty):Bool:=
 match P.underlying tid,t with
 | some (.int k),.int k'=>k==k'
 | some .bool,.bool=>true
 | some .string,.str=>true
 | some (.slice e),.slice t=>decide (lk e tab=some t)
 | some (.array n e),.arr n' t=>n==n'&&decide (lk e tab=some t)&&!P.eqGuardType P.depth tid
 | some (.pointer e),.ptr t=>decide (lk e tab=some t)
 | some (.interface _),.UJ=>true
 | some (.map k e),.mp kt vt=>decide (lk k tab=some kt)&&decide (lk e tab=some vt)
 | some (.func _ _ _),.fn=>true
 | some (.slice e),.nes t=>decide (lk e tab=some t)
 | some (.struct fs),t=>Ev fs.toList 0 t&&!P.stoodInHeld tid&&!P.eqGuardType P.depth tid
 | _,_=>false
where
 Ev:List Field->Nat->Ty->Bool
  | [],_,.unit=>true
  | f::fs,off,.pair a b=>decide (lk f.type tab=some a)&&f.offset==off&&decide (0 < a.n)&&f.name != "_" && Ev fs (off+a.n) b
  | _,_,_=>false
structure TS (P:Program) (tab:List (TypeId×Ty)) (tid:TypeId) (t:Ty):Prop where
 und:M9 P tab tid t=true
 info:∃ i,P.info? tid=some i/\i.size=t.n/\i.zero=some (toV t (zeroCells t))/\i.bytes<=2048
 cmp:t=.int .i64->(P.info? tid).map (·.comparable)=some true
 by8:∀ k,t=.int k->∀ i,P.info? tid=some i->i.bytes * 8=k.bits
def QYq (t:Ty) (i:TypeInfo):Bool:=match t with
 | .int k=>Nat.beq (i.bytes * 8) k.bits
 | _=>true
def Ii (P:Program) (tab:List (TypeId×Ty)):Prop:=∀ tid t,lk tid tab=some t->TS P tab tid t
theorem uZ {P:Program} {tab:List (TypeId×Ty)} (h1:(tab.all λp=>M9 P tab p.1 p.2)=true)
  (h2:tab.map (λp=>(P.info? p.1).map λi=>(i.size,i.zero))=tab.map (λp=>some (p.2.n,some (toV p.2 (zeroCells p.2)))))
  (h3:(tab.all λp=>((P.info? p.1).map λi=>QYq p.2 i&&(decide (i.bytes<=2048)&&(i.comparable||!(decide (p.2=.int .i64)))))==some true)=true):Ii P tab:=by
 intro tid t h
 have hm:(tid,t)∈tab:=by
  clear h1 h2 h3
  induction tab with
  | nil=>simp [lk] at h
  | cons p r ih=>
   obtain ⟨j,x⟩:=p
   rw [Bl] at h
   split at h
   ·rename_i e;subst e;cases h;simp
   ·exact List.mem_cons_of_mem _ (ih h)
 refine ⟨by have:=List.all_eq_true.1 h1 _ hm;exact this,?_,?_,?_⟩
 rotate_left
 ·intro ht
  have h3':=List.all_eq_true.1 h3 _ hm
  cases hi:P.info? tid with
  | none=>simp [hi] at h3'
  | some i=>
   subst ht
   simp [hi] at h3'
   simpa using h3'.2.2
 ·intro k ht i hi
  have h3':=List.all_eq_true.1 h3 _ hm
  subst ht
  simp only [hi,BI,QYq,beq_iff_eq,Ac,AP] at h3'
  exact Aa h3'.1
 have h2':=(List.map_inj_left.1 h2) _ hm
 have h3':=List.all_eq_true.1 h3 _ hm
 simp only at h2' h3'
 cases hi:P.info? tid with
 | none=>simp [hi] at h2'
 | some i=>
  simp only [hi,BI,Ac,Prod.mk.injEq] at h2'
  simp [hi] at h3'
  exact ⟨i,rfl,h2'.1,h2'.2,h3'.2.1⟩
end Go.Lift
