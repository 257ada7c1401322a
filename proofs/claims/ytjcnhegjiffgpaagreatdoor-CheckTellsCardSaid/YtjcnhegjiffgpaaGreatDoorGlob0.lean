import Derived.Test.YtjcnhegjiffgpaaGreatDoorRiO
import Derived.Lib.LaidTab
import Derived.LaidLaws
set_option linter.unusedSimpArgs false
set_option linter.unusedVariables false
namespace Go.Lift
open Go.RowKit
theorem iJ {P:Program} {W:World} {n:String} {d:DataW Unit}:∀ {l:List (String×DataW Unit)} {ps:List MemPlace},DataW.LaidVars P W l ps->(n,d)∈l->
  ∃ g t cs fuel p,P.globalNamed n=some g/\(P.globals[g]?).map (·.type)=some t/\W.var? P n=some cs/\DataW.trod (λ_=>()) P W 0 (λ_=>true) false fuel t cs.toList=some (d,p)
 | [],_,_,h=>by cases h
 | (n',d')::l,ps,⟨g,t,cs,fuel,p,q,h1,h2,h3,h4,h5,_⟩,h=>by
  rcases List.mem_cons.1 h with e | h
  ·cases e
   exact ⟨g,t,cs,fuel,p,h1,h2,h3,h4⟩
  ·exact iJ h5 h
theorem fH {P:Program} {W:World} {n:String} {g:Nat} {cs:Array Value} (hg:P.globalNamed n=some g) (h:W.var? P n=some cs):∃ T fz,W.heap[g]? = some (.cells cs T fz):=by
 simp only [World.var?,hg,AA] at h
 split at h
 ·rename_i c t fr hb
  cases h
  exact ⟨t,fr,hb⟩
 ·cases h
def QEp (W:World) (g:Nat) (v:TV):Prop:=∃ cs T fz,W.heap[g]? = some (.cells (List.toArray cs) T fz)/\EA (Xe W) W v.1 cs v.2/\∀ o,o < cs.length->Xe W g o
theorem QON {W:World} (h:∀ p∈wW,QEp W p.1 p.2):Ww (Xe W) W:=by
 intro g v hg
 have:∀ l:List (Nat×TV),lk g l=some v->(g,v)∈l:=by
  intro l
  induction l with
  | nil=>intro h;simp [lk] at h
  | cons p r ih=>
   intro h
   obtain ⟨j,x⟩:=p
   rw [Bl] at h
   split at h
   ·rename_i e;subst e;cases h;simp
   ·exact List.mem_cons_of_mem _ (ih h)
 exact h (g,v) (this _ hg)
theorem QLs {M:Own} {W:World} {k:IntKind}:∀ (zs:List Int),(∀ z∈zs,k.min<=z/\z<=k.max)->Seq (EA M W (.int k)) (zs.map λz=>Value.int k z) zs:=by
 intro zs h
 exact Seq.iY h
theorem QaH {P:Program} {W:World} {n:String} {k:IntKind} {zs:List Int} {g t e:Nat} {m:Nat} {l:List (String×DataW Unit)} (h:laidMet P l W) (hm:(n,Lib.tabData k zs)∈l)
  (hg:P.globalNamed n=some g) (hty:(P.globals[g]?).map (·.type)=some t) (ht:P.underlying t=some (.array m e)) (he:P.underlying e=some (.int k)) (hce:P.cellsOf e=1) (hct:P.cellsOf t=m)
  (hz:(zs.all λz=>decide (k.min<=z)&&decide (z<=k.max))=true) (hl:zs.length=m):QEp W g ⟨.arr m (.int k),zs⟩:=by
 obtain ⟨ps,hv,_⟩:=h
 obtain ⟨g',t',cs,fuel,p,h1,h2,h3,h4⟩:=iJ hv hm
 obtain rfl:=Au (hg.symm.trans h1)
 obtain rfl:=Au (hty.symm.trans h2)
 obtain ⟨T,fz,hr⟩:=fH hg h3
 have hc:=Lib.cells_of_tab ht he hce hct h4
 have hb:=(Am.1 hr).1
 refine ⟨cs.toList,T,fz,by rw [Array.toArray_toList];exact hr,⟨hl,?_⟩,λo _=>hb⟩
 rw [hc]
 refine QLs zs λz hzz=>?_
 have:=List.all_eq_true.1 hz z hzz
 simpa using this
theorem Qco {P:Program} {W:World} {n nm:String} {d:DataW Unit} {g t:Nat} {ms:Array (String×TypeId)} {l:List (String×DataW Unit)} (h:laidMet P l W) (hm:(n,DataW.iface nm d)∈l)
  (hg:P.globalNamed n=some g) (hty:(P.globals[g]?).map (·.type)=some t) (ht:P.underlying t=some (.interface ms)):QEp W g ⟨.UJ,some none⟩:=by
 obtain ⟨ps,hv,_⟩:=h
 obtain ⟨g',t',cs,fuel,p,h1,h2,h3,h4⟩:=iJ hv hm
 obtain rfl:=Au (hg.symm.trans h1)
 obtain rfl:=Au (hty.symm.trans h2)
 obtain ⟨T,fz,hr⟩:=fH hg h3
 have hb:=(Am.1 hr).1
 obtain ⟨_,u,v,hc,_⟩:=iface_of_trod ht h4
 exact ⟨cs.toList,T,fz,by rw [Array.toArray_toList];exact hr,⟨_,hc,u,v,rfl⟩,λo _=>hb⟩
def QLK {α β:Type} (f:α->Option β):List α->Option (List β)
 | []=>some []
 | a::as=>match f a,QLK f as with
  | some x,some xs=>some (x::xs)
  | _,_=>none
def dat:(t:Ty)->(DataW Unit->Option t.den)×(List (DataW Unit)->Option t.den)
 | .int k=>(λd=>match d with | .lit (.int k' n)=>if k'=k then some n else none | _=>none,λ_=>none)
 | .bool=>(λd=>match d with | .lit (.bool b)=>some b | _=>none,λ_=>none)
 | .str=>(λd=>match d with | .lit (.string s)=>some (s.map λb=>(b.toNat:Int)) | _=>none,λ_=>none)
 | .slice _=>(λ_=>none,λ_=>none)
 | .arr n e=>(λd=>match d with | .agg ds=>if ds.length=n then QLK (dat e).1 ds else none | _=>none,λ_=>none)
 | .unit=>(λd=>match d with | .agg ds=>(match ds with | []=>some () | _::_=>none) | _=>none,λds=>match ds with | []=>some () | _::_=>none)
 | .pair a b=>(λd=>match d with | .agg ds=>(match ds with | []=>none | d::ds=>match (dat a).1 d,(dat b).2 ds with | some x,some y=>some (x,y) | _,_=>none) | _=>none,
   λds=>match ds with | []=>none | d::ds=>match (dat a).1 d,(dat b).2 ds with | some x,some y=>some (x,y) | _,_=>none)
 | .ptr _=>(λ_=>none,λ_=>none)
 | .UJ=>(λ_=>none,λ_=>none)
 | .mp _ _=>(λ_=>none,λ_=>none)
 | .fn=>(λ_=>none,λ_=>none)
 | .nes _=>(λ_=>none,λ_=>none)
theorem QFi {α β:Type} {f:α->Option β}:∀ {l:List α} {r:List β},QLK f l=some r->r.length=l.length/\∀ (i:Nat) (a:α),l[i]? = some a->∃ b,r[i]? = some b/\f a=some b
 | [],r,h=>by
  simp only [QLK,Ac] at h
  subst h
  exact ⟨rfl,λi a ha=>by simp at ha⟩
 | x::l,r,h=>by
  simp only [QLK] at h
  split at h
  ·rename_i y ys h1 h2
   cases h
   obtain ⟨g1,g2⟩:=QFi h2
   refine ⟨by simp [g1],λi a ha=>?_⟩
   cases i with
   | zero=>simp at ha;subst ha;exact ⟨y,rfl,h1⟩
   | succ i=>simpa using g2 i a (by simpa using ha)
  ·cases h
theorem QCe {α:Type} {R:List Value->α->Prop} {k:Nat} {cs:List Value}:∀ (xs:List α) (s:Nat),(∀ i x,xs[i]? = some x->R ((cs.drop ((s+i) * k)).take k) x)->Seq R ((cs.drop (s * k)).take (xs.length * k)) xs
 | [],s,_=>by simp [Seq]
 | x::xs,s,h=>by
  refine ⟨(cs.drop (s * k)).take k,(cs.drop ((s+1) * k)).take (xs.length * k),?_,by simpa using h 0 x rfl,QCe xs (s+1) λi y hy=>by have:=h (i+1) y (by simpa using hy);rwa [show s+(i+1)=s+1+i by omega] at this⟩
  rw [Af,show (xs.length+1) * k=k+xs.length * k by rw [Nat.add_mul];omega,List.take_add,List.drop_drop,show (s+1) * k=s * k+k by rw [Nat.add_mul];omega]
section
variable {P:Program} {w:World} {tab:List (TypeId×Ty)} {sp:Nat->Bool} {held:Bool}
theorem yu (htab:Ii P tab):∀ (T:Ty),
  (∀ tid fuel cs x X,lk tid tab=some T->DataW.trod (λ_=>()) P w 0 sp held fuel tid cs=some x->(dat T).1 x.1=some X->EA (Xe w) w T cs X)/\
  (∀ (fs:List Field) (off m:Nat) (cs:List Value) (ds:List (DataW Unit)) X,M9.Ev tab fs off T=true->fs.length=ds.length->(∀ (i:Nat) (f:Field),fs[i]? = some f->∃ y,DataW.trod (λ_=>()) P w 0 sp held m f.type ((cs.drop f.offset).take (P.cellsOf f.type))=some y/\ds[i]? = some y.1)->
   (dat T).2 ds=some X->EA (Xe w) w T ((cs.drop off).take T.n) X)
 | .int k=>⟨λtid fuel cs x X ht h hX=>by
   obtain ⟨n,rfl,rfl,hw⟩:=DataW.trod_int (htab _ _ ht).int h
   simp only [dat,if_true,Ac] at hX
   subst hX
   exact ⟨rfl,QCv hw⟩,λfs off m cs ds X h=>by cases fs <;> simp [M9.Ev] at h⟩
 | .bool=>⟨λtid fuel cs x X ht h hX=>by
   obtain ⟨n,rfl,rfl⟩:=DataW.trod_bool (htab _ _ ht).bool h
   simp only [dat,Ac] at hX
   subst hX
   rfl,λfs off m cs ds X h=>by cases fs <;> simp [M9.Ev] at h⟩
 | .str=>⟨λtid fuel cs x X ht h hX=>by
   obtain ⟨s,rfl,rfl,hw⟩:=DataW.trod_string (htab _ _ ht).str h
   simp only [dat,Ac] at hX
   subst hX
   exact ⟨s,rfl,rfl,hw⟩,λfs off m cs ds X h=>by cases fs <;> simp [M9.Ev] at h⟩
 | .slice e=>⟨λtid fuel cs x X ht h hX=>by simp [dat] at hX,λfs off m cs ds X h=>by cases fs <;> simp [M9.Ev] at h⟩
 | .arr n e=>by
   refine ⟨λtid fuel cs x X ht h hX=>?_,λfs off m cs ds X h=>by cases fs <;> simp [M9.Ev] at h⟩
   obtain ⟨te,hu,he,_⟩:=(htab _ _ ht).arr
   obtain ⟨ys,m,rfl,rfl,hl,hys,hy⟩:=DataW.trod_array hu h
   simp only [dat,Ay,hys,if_true] at hX
   obtain ⟨g1,g2⟩:=QFi hX
   simp only [Ay,hys] at g1
   rw [(htab _ _ ht).cellsOf,Ty.n] at hl
   refine ⟨g1,?_⟩
   have:=QCe (R:=EA (Xe w) w e) (k:=e.n) (cs:=cs) X 0 λi x hx=>by
    have hi:i < n:=by rw [<- g1];exact (Aq.1 hx).1
    have h1:=hy i hi
    rw [AU (by omega),(htab _ _ he).cellsOf] at h1
    obtain ⟨b,h2,h3⟩:=g2 i (ys[i]).1 (by simp [hys,hi])
    obtain rfl:x=b:=Au (hx.symm.trans h2)
    simpa using (yu htab e).1 te m _ _ x he h1 h3
   simpa [g1,<- hl] using this
 | .unit=>by
   refine ⟨λtid fuel cs x X ht h hX=>?_,λfs off m cs ds X h _ _ _=>by simp [EA,Ty.n]⟩
   obtain ⟨fs,hu,_⟩:=(htab _ _ ht).unit
   obtain ⟨_,_,_,_,hl,_⟩:=DataW.trod_struct hu h
   rw [(htab _ _ ht).cellsOf] at hl
   simpa [EA,Ty.n] using hl
 | .pair a b=>by
   have hB:∀ (fs:List Field) (off m:Nat) (cs:List Value) (ds:List (DataW Unit)) X,M9.Ev tab fs off (.pair a b)=true->fs.length=ds.length->(∀ (i:Nat) (f:Field),fs[i]? = some f->∃ y,DataW.trod (λ_=>()) P w 0 sp held m f.type ((cs.drop f.offset).take (P.cellsOf f.type))=some y/\ds[i]? = some y.1)->
     (dat (.pair a b)).2 ds=some X->EA (Xe w) w (.pair a b) ((cs.drop off).take (Ty.pair a b).n) X:=by
    intro fs off m cs ds X h hlen hf hX
    cases fs with
    | nil=>simp [M9.Ev] at h
    | cons f fs=>
     cases ds with
     | nil=>simp at hlen
     | cons d ds=>
      simp only [M9.Ev,AP,AZ,beq_iff_eq] at h
      obtain ⟨⟨⟨⟨ha,ho⟩,_⟩,_⟩,hfs⟩:=h
      obtain ⟨y,hy,hd⟩:=hf 0 f rfl
      simp only [List.getElem?_cons_zero,Ac] at hd
      subst hd
      rw [ho,(htab _ _ ha).cellsOf] at hy
      simp only [dat] at hX
      split at hX
      ·rename_i u v h1 h2
       cases hX
       have k1:=(yu htab a).1 _ _ _ _ u ha hy h1
       have k2:=(yu htab b).2 fs (off+a.n) m cs ds v hfs (by simpa using hlen) (λi g hg=>by simpa using hf (i+1) g (by simpa using hg)) h2
       refine ⟨_,_,?_,k1,k2⟩
       rw [Ty.n,List.take_add,List.drop_drop]
      ·cases hX
   refine ⟨λtid fuel cs x X ht h hX=>?_,hB⟩
   obtain ⟨fs,hu,⟨hfs,_⟩,_⟩:=(htab _ _ ht).pair
   obtain ⟨xs,m,rfl,rfl,hl,hxs,hx⟩:=DataW.trod_struct hu h
   have:=hB fs.toList 0 m cs (xs.map (·.1)) X hfs (by simp [hxs]) (λi f hf=>by
    have hi':fs[i]? = some f:=by simpa using hf
    have hlt:i < xs.length:=by rw [hxs];exact (Am.1 hi').1
    have h1:=hx i f hi'
    rw [AU hlt] at h1
    exact ⟨_,h1,by simp [hlt]⟩) (by simpa only [dat] using hX)
   rw [(htab _ _ ht).cellsOf] at hl
   rwa [List.drop_zero,BD (Nat.le_of_eq hl)] at this
 | .ptr e=>⟨λtid fuel cs x X ht h hX=>by simp [dat] at hX,λfs off m cs ds X h=>by cases fs <;> simp [M9.Ev] at h⟩
 | .UJ=>⟨λtid fuel cs x X ht h hX=>by simp [dat] at hX,λfs off m cs ds X h=>by cases fs <;> simp [M9.Ev] at h⟩
 | .mp _ _=>⟨λtid fuel cs x X ht h hX=>by simp [dat] at hX,λfs off m cs ds X h=>by cases fs <;> simp [M9.Ev] at h⟩
 | .fn=>⟨λtid fuel cs x X ht h hX=>by simp [dat] at hX,λfs off m cs ds X h=>by cases fs <;> simp [M9.Ev] at h⟩
 | .nes _=>⟨λtid fuel cs x X ht h hX=>by simp [dat] at hX,λfs off m cs ds X h=>by cases fs <;> simp [M9.Ev] at h⟩
end
theorem QOO {P:Program} {W:World} {n:String} {d:DataW Unit} {T:Ty} {X:T.den} {g t:Nat} {l:List (String×DataW Unit)} {tab:List (TypeId×Ty)} (htab:Ii P tab) (h:laidMet P l W) (hm:(n,d)∈l)
  (hg:P.globalNamed n=some g) (hty:(P.globals[g]?).map (·.type)=some t) (ht:lk t tab=some T) (hX:(dat T).1 d=some X):QEp W g ⟨T,X⟩:=by
 obtain ⟨ps,hv,_⟩:=h
 obtain ⟨g',t',cs,fuel,p,h1,h2,h3,h4⟩:=iJ hv hm
 obtain rfl:=Au (hg.symm.trans h1)
 obtain rfl:=Au (hty.symm.trans h2)
 obtain ⟨T',fz,hr⟩:=fH hg h3
 have hb:=(Am.1 hr).1
 exact ⟨cs.toList,T',fz,by rw [Array.toArray_toList];exact hr,(yu htab T).1 _ _ _ _ X ht h4 hX,λo _=>hb⟩
end Go.Lift
