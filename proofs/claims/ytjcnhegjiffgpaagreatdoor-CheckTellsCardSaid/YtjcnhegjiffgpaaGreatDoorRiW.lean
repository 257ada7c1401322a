import Derived.Test.YtjcnhegjiffgpaaGreatDoorRiJ
import Derived.MapKept
import Derived.ChangeMaps
set_option linter.unusedSimpArgs false
namespace Go.Lift
open Go.RowKit Go.MapKept
section
variable {P:Program} {tab:List (TypeId×Ty)} {M M':Own} {w w' w'':World} {kt vt:Ty}
def OW:Ty->Bool
 | .int _=>true
 | .bool=>true
 | .str=>true
 | _=>false
theorem XI (h:XH kt=true):OW kt=true\/∃ n e,kt=.arr n e/\n<=100/\OW e=true:=by
 cases kt <;> simp [XH] at h <;> try exact .inl rfl
 rename_i n e
 refine .inr ⟨n,e,rfl,h.1,?_⟩
 cases e <;> simp at h <;> rfl
theorem mO (h:OW kt=true):kt.flat=true:=by cases kt <;> simp [OW] at h <;> rfl
theorem sF (h:XH kt=true):kt.flat=true:=by
 rcases XI h with h | ⟨n,e,rfl,_,h⟩
 ·exact mO h
 ·simpa [Ty.flat] using mO h
theorem bE (h:OW kt=true) {k:TypeId} (hT:TS P tab k kt) {x:kt.den} {v:Value} (hv:EF M w kt x v):∃ d,P.underlying k=some d/\IsKey d v:=by
 obtain ⟨cs,rfl,hr⟩:=hv
 cases kt <;> simp [OW] at h
 ·obtain ⟨rfl,_⟩:=hr;exact ⟨_,hT.int,rfl⟩
 ·have hr':cs=[.bool x]:=hr
  subst hr';exact ⟨_,hT.bool,trivial⟩
 ·obtain ⟨s,rfl,_⟩:=hr;exact ⟨_,hT.str,trivial⟩
theorem u6 {a b:ByteArray} (h:a.data.toList.map (λb=>(b.toNat:Int))=b.data.toList.map (λb=>(b.toNat:Int))):a=b:=by
 have:a.data.toList=b.data.toList:=by
  refine List.map_inj_right (λx y e=>?_) |>.1 h
  exact UInt8.toNat_inj.1 (Int.ofNat.inj e)
 cases a;cases b
 simp at this
 simpa using this
theorem eG (h:OW kt=true) {x y:kt.den} {v u:Value} (hv:EF M w kt x v) (hu:EF M' w' kt y u):v=u↔x=y:=by
 obtain ⟨cs,rfl,hr⟩:=hv
 obtain ⟨ds,rfl,hs⟩:=hu
 cases kt <;> simp [OW] at h
 ·obtain ⟨rfl,_⟩:=hr;obtain ⟨rfl,_⟩:=hs;simp [toV,Ty.isAgg]
 ·have hr':cs=[.bool x]:=hr
  have hs':ds=[.bool y]:=hs
  subst hr' hs';simp [toV,Ty.isAgg]
 ·obtain ⟨s,rfl,e1,_⟩:=hr;obtain ⟨s',rfl,e2,_⟩:=hs
  simp only [toV,Ty.isAgg,List.headD,Bool.false_eq_true,if_false,Value.string.injEq]
  constructor
  ·rintro rfl;rw [e1,e2]
  ·intro e;rw [e1,e2] at e;exact u6 e
theorem QAV {α:Type} {R R':List Value->α->Prop} (h:∀ cs ds x y,R cs x->R' ds y->(cs=ds↔x=y)) (h1:∀ cs x,R cs x->cs.length=1) (h2:∀ cs x,R' cs x->cs.length=1):∀ {cs ds:List Value} {xs ys:List α},Seq R cs xs->Seq R' ds ys->(cs=ds↔xs=ys)
 | _,_,[],[],s,t=>by simp only [Seq] at s t;subst s t;simp
 | _,_,[],y::ys,s,⟨c1,c2,e,r,t⟩=>by simp only [Seq] at s;subst s e;have:=h2 _ _ r;cases c1 <;> simp at this ⊢
 | _,_,x::xs,[],⟨c1,c2,e,r,t⟩,s=>by simp only [Seq] at s;subst s e;have:=h1 _ _ r;cases c1 <;> simp at this ⊢
 | _,_,x::xs,y::ys,⟨c1,c2,e,r,s⟩,⟨d1,d2,e',r',s'⟩=>by
  subst e e'
  have l1:=h1 _ _ r
  have l2:=h2 _ _ r'
  constructor
  ·intro e
   obtain ⟨e1,e2⟩:=List.append_inj e (by rw [l1,l2])
   rw [(h _ _ _ _ r r').1 e1,(QAV h h1 h2 s s').1 e2]
  ·intro e
   cases e
   rw [(h _ _ _ _ r r').2 rfl,(QAV h h1 h2 s s').2 rfl]
theorem xK (h:OW kt=true):kt.n=1/\kt.isAgg=false:=by cases kt <;> simp [OW] at h <;> exact ⟨rfl,rfl⟩
theorem key_inj (h:XH kt=true) {x y:kt.den} {v u:Value} (hv:EF M w kt x v) (hu:EF M' w' kt y u):v=u↔x=y:=by
 rcases XI h with h | ⟨n,e,rfl,_,h⟩
 ·exact eG h hv hu
 ·obtain ⟨cs,rfl,hr⟩:=hv
  obtain ⟨ds,rfl,hs⟩:=hu
  have:=QAV (R:=EA M w e) (R':=EA M' w' e) (λcs ds x y r s=>by
   have h1:=eG h (⟨cs,rfl,r⟩:EF M w e x (toV e cs)) (⟨ds,rfl,s⟩:EF M' w' e y (toV e ds))
   rw [<- h1]
   have l1:=r.length
   have l2:=s.length
   rw [(xK h).1] at l1 l2
   obtain ⟨c,rfl⟩:=List.length_eq_one_iff.1 l1
   obtain ⟨d,rfl⟩:=List.length_eq_one_iff.1 l2
   simp [toV,(xK h).2]) (λcs x r=>by rw [r.length,(xK h).1]) (λcs x r=>by rw [r.length,(xK h).1]) hr.2 hs.2
  simpa [toV,Ty.isAgg] using this
theorem jF (h:OW kt=true) {x:kt.den} {v:Value} (hv:EF M w kt x v) (n:Nat):Instr.sameBits n v v=true:=by
 obtain ⟨cs,rfl,hr⟩:=hv
 cases kt <;> simp [OW] at h
 ·obtain ⟨rfl,_⟩:=hr;simp [toV,Ty.isAgg,Instr.sameBits]
 ·have hr':cs=[.bool x]:=hr
  subst hr';simp [toV,Ty.isAgg,Instr.sameBits]
 ·obtain ⟨s,rfl,_⟩:=hr;simp [toV,Ty.isAgg,Instr.sameBits,bytes_beq]
theorem QAU (h:XH kt=true) {x:kt.den} {v:Value} (hv:EF M w kt x v) (n:Nat):Instr.sameBits (n+1) v v=true:=by
 rcases XI h with h | ⟨m,e,rfl,_,h⟩
 ·exact jF h hv _
 ·obtain ⟨cs,rfl,hr⟩:=hv
  have:∀ {cs:List Value} {xs:List e.den},Seq (EA M w e) cs xs->(cs.zip cs).all (λp=>Instr.sameBits n p.1 p.2)=true:=by
   intro cs xs
   induction xs generalizing cs with
   | nil=>intro s;simp only [Seq] at s;subst s;rfl
   | cons x xs ih=>
    rintro ⟨c1,c2,rfl,r,s⟩
    have l1:=r.length
    rw [(xK h).1] at l1
    obtain ⟨c,rfl⟩:=List.length_eq_one_iff.1 l1
    have h1:=jF h (⟨[c],rfl,r⟩:EF M w e x (toV e [c])) n
    simp [toV,(xK h).2] at h1
    simp [h1]
    simpa using ih s
  have h2:=this hr.2
  simp only [toV,Ty.isAgg,if_true,Instr.sameBits]
  simpa using h2
theorem QL8 (h:XH kt=true) {x:kt.den} {v:Value} (hv:EF M w kt x v):(Instr.keyThatStays v v).run P w'=.ok v w':=by
 simp [Instr.keyThatStays,QAU h hv]
theorem l8 (htab:Ii P tab) (h:XH kt=true) {k:TypeId} (hT:TS P tab k kt) {x:kt.den} {v:Value} (hv:EF M w kt x v) (em:Bool) (d:Nat):(Instr.checkKey em (d+2) k v).run P w'=.ok () w':=by
 rcases XI h with h | ⟨m,e,rfl,_,h⟩
 ·obtain ⟨ds,h1,h2⟩:=bE h hT hv
  exact run_checkKey h1 h2 em (d+1)
 ·obtain ⟨cs,rfl,hr⟩:=hv
  obtain ⟨te,hu,hl,_⟩:=hT.arr
  have he:=htab te e hl
  obtain ⟨hlen,hr⟩:=hr
  simp only [toV,Ty.isAgg,if_true]
  rw [Instr.checkKey]
  simp only [Sem.run_bind,run_underlying hu,Result.andThen_ok]
  simp only [Std.Legacy.Range.forIn_eq_forIn_range',Std.Legacy.Range.size,Nat.sub_zero,Nat.add_one_sub_one,Nat.div_one]
  have each:∀ i∈List.range' 0 m,∃ a,(part te cs.toArray (i * e.n)).run P w'=.ok a w'/\(Instr.checkKey em (d+1) te a).run P w'=.ok () w':=by
   intro i hi
   have hi':i < List.length x:=by rw [hlen];simpa using hi
   obtain ⟨c0,c1,c2,e1,e2,e3⟩:=hr.at (λ_ _ r=>r.length) i (AU hi')
   refine ⟨_,xP he e1 e3.length e2.symm w',?_⟩
   obtain ⟨ds,h1,h2⟩:=bE h he (⟨c1,rfl,e3⟩:EF M w e _ (toV e c1))
   exact run_checkKey h1 h2 em d
  generalize List.range' 0 m=is at each
  induction is with
  | nil=>simp
  | cons j is ih=>
   obtain ⟨a,p1,p2⟩:=each j (by simp)
   simp only [List.forIn_cons,Sem.run_bind,he.sizeOf,Result.andThen_ok,p1,p2,Sem.run_pure]
   exact ih (λy hy=>each y (by simp [hy]))
def kD (x:kt.den):List MapEntry->List (kt.den×vt.den)->Nat->Option (Nat×Value)
 | e::es,p::ps,j=>bif R3 kt x p.1 then some (j,e.val) else kD x es ps (j+1)
 | _,_,_=>none
theorem kE {x:kt.den}:∀ {es:List MapEntry} {ps:List (kt.den×vt.den)} {j:Nat},kD x es ps j=none->Jj M w kt vt es ps->(∀ z,bf x z ps=(z,false))/\∀ y,XP x y ps=ps++[(x,y)]
 | [],[],_,_,_=>⟨λ_=>rfl,λ_=>rfl⟩
 | e::es,p::ps,j,h,r=>by
  simp only [kD] at h
  cases hc:R3 kt x p.1 with
  | true=>simp [hc] at h
  | false=>
   simp only [hc,AJ] at h
   obtain ⟨h1,h2⟩:=kE h r.2
   exact ⟨λz=>by simp [bf,hc,h1],λy=>by simp [XP,hc,h2]⟩
 | [],_::_,_,_,r=>r.elim
 | _::_,[],_,_,r=>r.elim
theorem kF {x:kt.den}:∀ {es:List MapEntry} {ps:List (kt.den×vt.den)} {j i:Nat} {u:Value},kD x es ps j=some (i,u)->Jj M w kt vt es ps->
  ∃ n e p,i=j+n/\es[n]? = some e/\ps[n]? = some p/\e.val=u/\x=p.1/\QEi M w kt vt e p/\(∀ z,bf x z ps=(p.2,true))/\∀ y,XP x y ps=ps.set n (x,y)
 | e::es,p::ps,j,i,u,h,r=>by
  simp only [kD] at h
  cases hc:R3 kt x p.1 with
  | true=>
   simp only [hc,AL,Ac,Prod.mk.injEq] at h
   exact ⟨0,e,p,by omega,rfl,rfl,h.2,OJ.1 hc,r.1,λz=>by simp [bf,hc],λy=>by simp [XP,hc]⟩
  | false=>
   simp only [hc,AJ] at h
   obtain ⟨n,e',p',h1,h2,h3,h4,h5,h6,h7,h8⟩:=kF h r.2
   exact ⟨n+1,e',p',by omega,by simpa using h2,by simpa using h3,h4,h5,h6,λz=>by simp [bf,hc,h7],λy=>by simp [XP,hc,h8]⟩
 | [],[],_,_,_,h,_=>by cases h
 | [],_::_,_,_,_,_,r=>r.elim
 | _::_,[],_,_,_,_,r=>r.elim
theorem rO (h:OW kt=true) {d:TypeDesc} {x:kt.den} {v:Value} (hv:EF M' w' kt x v) (hd:IsKey d v) (hds:∀ {y:kt.den} {u:Value},EF M w kt y u->IsKey d u) :
  ∀ {es:List MapEntry} {ps:List (kt.den×vt.den)} (j:Nat),Jj M w kt vt es ps->Instr.findNow d v es j=some (kD x es ps j)
 | [],[],_,_=>rfl
 | e::es,p::ps,j,r=>by
  obtain ⟨b,h1,h2⟩:=sameNow_of_keys hd (hds r.1.1)
  have h3:b=R3 kt x p.1:=by rw [Bool.eq_iff_iff,h2,OJ,eG h hv r.1.1]
  simp only [Instr.findNow,kD,h1,h3]
  cases R3 kt x p.1 with
  | true=>rfl
  | false=>exact rO h hv hd hds (j+1) r.2
 | [],_::_,_,r=>r.elim
 | _::_,[],_,r=>r.elim
theorem dF (htab:Ii P tab) (h:XH kt=true) {k:TypeId} (hT:TS P tab k kt) {x:kt.den} {v:Value} (hv:EF M' w' kt x v) :
  ∀ {es:List MapEntry} {ps:List (kt.den×vt.den)} (j:Nat),Jj M w kt vt es ps->(Instr.findAsking k v es j).run P w''=.ok (kD x es ps j) w''
 | [],[],_,_=>rfl
 | e::es,p::ps,j,r=>by
  obtain ⟨cs,rfl,hr⟩:=hv
  obtain ⟨ds,hk,hs⟩:=r.1.1
  have Qcu:kt.dep<=Op.maxDepth:=by
   rcases XI h with h | ⟨n,e,rfl,_,h⟩
   ·cases kt <;> simp [OW] at h <;> simp [Ty.dep,Op.maxDepth]
   ·cases e <;> simp [OW] at h <;> simp [Ty.dep,Op.maxDepth]
  obtain ⟨b,h1,h2⟩:=(mH htab (u:=w') (u':=w) (M:=M') (M':=M) kt (sF h)).1 Op.maxDepth k cs ds x p.1 w'' Qcu hT hr hs
  have h3:b=R3 kt x p.1:=by rw [Bool.eq_iff_iff,h2,OJ]
  subst h3
  simp only [Instr.findAsking,kD,Sem.run_bind,Op.equal,hk,h1,Result.andThen_ok]
  cases R3 kt x p.1 with
  | true=>rfl
  | false=>exact dF htab h hT ⟨cs,rfl,hr⟩ (j+1) r.2
 | [],_::_,_,r=>r.elim
 | _::_,[],_,r=>r.elim
theorem rM (htab:Ii P tab) (h:XH kt=true) {k:TypeId} (hT:TS P tab k kt) {x:kt.den} {v:Value} (hv:EF M' w' kt x v) {es:List MapEntry} {ps:List (kt.den×vt.den)} (he:Jj M w kt vt es ps) :
  (Instr.findKey k v es).run P w''=.ok (kD x es ps 0) w'':=by
 rcases XI h with h1 | ⟨n,e,rfl,_,h1⟩
 ·obtain ⟨d,h2,h3⟩:=bE h1 hT hv
  refine run_findKey h2 (rO h1 hv h3 (λhu=>?_) 0 he)
  obtain ⟨d',h4,h5⟩:=bE h1 hT hu
  rw [h2] at h4
  cases h4
  exact h5
 ·obtain ⟨te,hu,_⟩:=hT.arr
  have:Instr.findNow (.array n te) v es 0=none\/es=[]:=by
   cases es with
   | nil=>exact .inr rfl
   | cons e es=>left;simp [Instr.findNow,Instr.sameNow]
  rcases this with h2 | rfl
  ·simp only [Instr.findKey,Sem.run_bind,run_underlying hu,Result.andThen_ok,h2]
   exact dF htab h hT hv 0 he
  ·cases ps with
   | nil=>simp [Instr.findKey,run_underlying hu,Instr.findNow,kD]
   | cons=>exact he.elim
theorem QDu (htab:Ii P tab) (h:XH kt=true) {t:TypeId} (ht:TS P tab t (.mp kt vt)) {x:kt.den} {v:Value} (hv:EF M' w' kt x v) {b:Nat} {arr:Array MapEntry} {clock:Nat} {ps:List (kt.den×vt.den)} (hb:w.heap[b]? = some (.map arr clock)) (he:Jj M w kt vt arr.toList ps) {z:vt.den} (hz:D6 vt=some z) (c:Bool) :
  ∃ u,(Instr.lookup t (.map (some b)) v c).run P w=.ok (if c then .tuple #[u,.bool (bf x z ps).2] else u) w/\EF M w vt (bf x z ps).1 u:=by
 obtain ⟨k,e,hu,hk,hl⟩:=ht.mp
 have hT:=htab k kt hk
 obtain ⟨i,hi,_,hzi,_⟩:=(htab e vt hl).info
 have hck:(Instr.checkKey arr.isEmpty 10000 k v).run P w=.ok () w:=l8 (w':=w) htab h hT hv arr.isEmpty 9998
 have hf:=rM (w'':=w) htab h hT hv he
 have hzr:EF M w vt z (toV vt (zeroCells vt)):=⟨_,rfl,Jf hz⟩
 cases hr:kD x arr.toList ps 0 with
 | none=>
  have:=(kE hr he).1 z
  rw [hr] at hf
  refine ⟨toV vt (zeroCells vt),?_,by rw [this];exact hzr⟩
  rw [this]
  cases c <;> simp [Instr.lookup,run_underlying hu,MapKept.run_getObj_map hb,hck,hf,zeroValue,typeInfo,hi,hzi]
 | some q=>
  obtain ⟨n,e',p,h1,h2,h3,h4,h5,h6,h7,h8⟩:=kF (u:=q.2) (i:=q.1) hr he
  rw [hr] at hf
  refine ⟨q.2,?_,by rw [h7 z,<- h4];exact h6.2⟩
  rw [h7 z]
  cases c <;> simp [Instr.lookup,run_underlying hu,MapKept.run_getObj_map hb,hck,hf]
theorem mF {e:MapEntry} {p:kt.den×vt.den} (hp:QEi M w kt vt e p):∀ {es:List MapEntry} {ps:List (kt.den×vt.den)},Jj M w kt vt es ps->Jj M w kt vt (es++[e]) (ps++[p])
 | [],[],_=>⟨hp,trivial⟩
 | _::_,_::_,r=>⟨r.1,mF hp r.2⟩
 | [],_::_,r=>r.elim
 | _::_,[],r=>r.elim
theorem rD {e:MapEntry} {p:kt.den×vt.den} (hp:QEi M w kt vt e p):∀ {es:List MapEntry} {ps:List (kt.den×vt.den)} (n:Nat),Jj M w kt vt es ps->Jj M w kt vt (es.set n e) (ps.set n p)
 | [],[],_,_=>trivial
 | _::_,_::_,0,r=>⟨hp,r.2⟩
 | _::_,_::_,n+1,r=>⟨r.1,rD hp n r.2⟩
 | [],_::_,_,r=>r.elim
 | _::_,[],_,r=>r.elim
theorem QEb (htab:Ii P tab) (h:XH kt=true) {t:TypeId} (ht:TS P tab t (.mp kt vt)) {x:kt.den} {y:vt.den} {v u:Value} (hv:EF M w kt x v) (hy:EF M w vt y u) {b:Nat} {arr:Array MapEntry} {clock:Nat} {ps:List (kt.den×vt.den)} (hb:w.heap[b]? = some (.map arr clock)) (he:Jj M w kt vt arr.toList ps) :
  ∃ arr' clock',(Instr.mapUpdate t (.map (some b)) v u).run P w=.ok () { w with heap:=w.heap.setIfInBounds b (.map arr' clock') }/\Jj M w kt vt arr'.toList (XP x y ps):=by
 obtain ⟨k,e,hu,hk,hl⟩:=ht.mp
 have hT:=htab k kt hk
 have hck:(Instr.checkKey false 10000 k v).run P w=.ok () w:=l8 (w':=w) htab h hT hv false 9998
 have hf:=rM (w'':=w) htab h hT hv he
 cases hr:kD x arr.toList ps 0 with
 | none=>
  have:=(kE hr he).2 y
  rw [hr] at hf
  refine ⟨arr.push ⟨v,u,clock⟩,clock+1,?_,by rw [this];simpa using mF ⟨hv,hy⟩ he⟩
  simp [Instr.mapUpdate,run_underlying hu,MapKept.run_getObj_map hb,hck,hf,MapKept.run_setObj_map _ hb]
 | some q=>
  obtain ⟨n,e',p,h1,h2,h3,h4,h5,h6,h7,h8⟩:=kF (u:=q.2) (i:=q.1) hr he
  rw [hr] at hf
  have hq:q.1=n:=by omega
  have hkv:e'.key=v:=(key_inj h h6.1 hv).2 h5.symm
  have hn:n < arr.size:=by simpa using (Aq.1 h2).1
  have hn2:arr[n]? = some e':=by simpa using h2
  refine ⟨arr.modify n λe=>{ e with key:=v,val:=u },clock,?_,?_⟩
  ·simp [Instr.mapUpdate,run_underlying hu,MapKept.run_getObj_map hb,hck,hf,MapKept.run_setObj_map _ hb,hq,hn2,hkv,QL8 h hv]
  ·rw [h8 y]
   have:(arr.modify n λe=>{ e with key:=v,val:=u }).toList=arr.toList.set n { e' with key:=v,val:=u }:=by
    apply List.ext_getElem?
    intro i
    have h9:arr[n]=e':=(Am.1 hn2).2
    by_cases hi:i=n
    ·subst hi
     simp [hn,h9]
    ·simp [Ne.symm hi]
   rw [this]
   exact rD ⟨hv,hy⟩ n he
end
end Go.Lift
