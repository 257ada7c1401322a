import Derived.Test.YtbgmjjplddddnaaGreatDoorRiJ
import Derived.MapKept
import Derived.ChangeMaps
namespace Go.Lift
open Go.RowKit Go.MapKept
section
variable {P:Program} {tab:List (TypeId×Ty)} {M M':Own} {w w' w'':World} {kt vt:Ty}
def CU:Ty->Bool
 | .int _=>true
 | .bool=>true
 | .str=>true
 | _=>false
theorem ES (h:ER kt=true):CU kt=true∨∃ n e,kt=.arr n e/\n<=100/\CU e=true:=by
 cases kt <;> simp [ER] at h <;> try exact .inl rfl
 rename_i n e
 refine .inr ⟨n,e,rfl,h.1,?_⟩
 cases e <;> simp at h <;> rfl
theorem JN (h:CU kt=true):kt.flat=true:=by cases kt <;> simp [CU] at h <;> rfl
theorem KP (h:ER kt=true):kt.flat=true:=by
 rcases ES h with h | ⟨n,e,rfl,_,h⟩
 ·exact JN h
 ·simpa [Ty.flat] using JN h
theorem F5 (h:CU kt=true) {k:TypeId} (hT:DY P tab k kt) {x:kt.den} {v:Value} (hv:Ap M w kt x v):∃ d,P.underlying k=some d/\IsKey d v:=by
 obtain ⟨cs,rfl,hr⟩:=hv
 cases kt <;> simp [CU] at h
 ·obtain ⟨rfl,_⟩:=hr;exact ⟨_,hT.int,rfl⟩
 ·have hr':cs=[.bool x]:=hr
  subst hr';exact ⟨_,hT.bool,trivial⟩
 ·obtain ⟨s,rfl,_⟩:=hr;exact ⟨_,hT.str,trivial⟩
theorem K8 {a b:ByteArray} (h:a.data.toList.map (fun b=>(b.toNat:Int))=b.data.toList.map (fun b=>(b.toNat:Int))):a=b:=by
 have:a.data.toList=b.data.toList:=by
  refine List.map_inj_right (fun x y e=>?_) |>.1 h
  exact UInt8.toNat_inj.1 (Int.ofNat.inj e)
 cases a;cases b
 simp at this
 simpa using this
theorem Gj (h:CU kt=true) {x y:kt.den} {v u:Value} (hv:Ap M w kt x v) (hu:Ap M' w' kt y u):v=u↔x=y:=by
 obtain ⟨cs,rfl,hr⟩:=hv
 obtain ⟨ds,rfl,hs⟩:=hu
 cases kt <;> simp [CU] at h
 ·obtain ⟨rfl,_⟩:=hr;obtain ⟨rfl,_⟩:=hs;simp [toV,Ty.isAgg]
 ·have hr':cs=[.bool x]:=hr
  have hs':ds=[.bool y]:=hs
  subst hr' hs';simp [toV,Ty.isAgg]
 ·obtain ⟨s,rfl,e1,_⟩:=hr;obtain ⟨s',rfl,e2,_⟩:=hs
  simp only [toV,Ty.isAgg,List.headD,Bool.false_eq_true,if_false,Value.string.injEq]
  constructor
  ·rintro rfl;rw [e1,e2]
  ·intro e;rw [e1,e2] at e;exact K8 e
theorem NH {α:Type} {R R':List Value->α->Prop} (h:∀ cs ds x y,R cs x->R' ds y->(cs=ds↔x=y)) (h1:∀ cs x,R cs x->cs.length=1) (h2:∀ cs x,R' cs x->cs.length=1):∀ {cs ds:List Value} {xs ys:List α},Seq R cs xs->Seq R' ds ys->(cs=ds↔xs=ys)
 | _,_,[],[],s,t=>by simp only [Seq] at s t;subst s t;simp
 | _,_,[],y::ys,s,⟨c1,c2,e,r,t⟩=>by simp only [Seq] at s;subst s e;have:=h2 _ _ r;cases c1 <;> simp at this ⊢
 | _,_,x::xs,[],⟨c1,c2,e,r,t⟩,s=>by simp only [Seq] at s;subst s e;have:=h1 _ _ r;cases c1 <;> simp at this ⊢
 | _,_,x::xs,y::ys,⟨c1,c2,e,r,s⟩,⟨d1,d2,e',r',s'⟩=>by
  subst e e'
  have l1:=h1 _ _ r
  have l2:=h2 _ _ r'
  constructor
  ·intro e
   obtain ⟨e1,e2⟩:=List.append_inj e (by rw [l1,l2])
   rw [(h _ _ _ _ r r').1 e1,(NH h h1 h2 s s').1 e2]
  ·intro e
   cases e
   rw [(h _ _ _ _ r r').2 rfl,(NH h h1 h2 s s').2 rfl]
theorem Lp (h:CU kt=true):kt.n=1/\kt.isAgg=false:=by cases kt <;> simp [CU] at h <;> exact ⟨rfl,rfl⟩
theorem key_inj (h:ER kt=true) {x y:kt.den} {v u:Value} (hv:Ap M w kt x v) (hu:Ap M' w' kt y u):v=u↔x=y:=by
 rcases ES h with h | ⟨n,e,rfl,_,h⟩
 ·exact Gj h hv hu
 ·obtain ⟨cs,rfl,hr⟩:=hv
  obtain ⟨ds,rfl,hs⟩:=hu
  have:=NH (R:=Ao M w e) (R':=Ao M' w' e) (fun cs ds x y r s=>by
   have h1:=Gj h (⟨cs,rfl,r⟩:Ap M w e x (toV e cs)) (⟨ds,rfl,s⟩:Ap M' w' e y (toV e ds))
   rw [← h1]
   have l1:=r.length
   have l2:=s.length
   rw [(Lp h).1] at l1 l2
   obtain ⟨c,rfl⟩:=List.length_eq_one_iff.1 l1
   obtain ⟨d,rfl⟩:=List.length_eq_one_iff.1 l2
   simp [toV,(Lp h).2]) (fun cs x r=>by rw [r.length,(Lp h).1]) (fun cs x r=>by rw [r.length,(Lp h).1]) hr.2 hs.2
  simpa [toV,Ty.isAgg] using this
theorem IB (h:CU kt=true) {x:kt.den} {v:Value} (hv:Ap M w kt x v) (n:Nat):Instr.sameBits n v v=true:=by
 obtain ⟨cs,rfl,hr⟩:=hv
 cases kt <;> simp [CU] at h
 ·obtain ⟨rfl,_⟩:=hr;simp [toV,Ty.isAgg,Instr.sameBits]
 ·have hr':cs=[.bool x]:=hr
  subst hr';simp [toV,Ty.isAgg,Instr.sameBits]
 ·obtain ⟨s,rfl,_⟩:=hr;simp [toV,Ty.isAgg,Instr.sameBits,bytes_beq]
theorem NG (h:ER kt=true) {x:kt.den} {v:Value} (hv:Ap M w kt x v) (n:Nat):Instr.sameBits (n+1) v v=true:=by
 rcases ES h with h | ⟨m,e,rfl,_,h⟩
 ·exact IB h hv _
 ·obtain ⟨cs,rfl,hr⟩:=hv
  have:∀ {cs:List Value} {xs:List e.den},Seq (Ao M w e) cs xs->(cs.zip cs).all (fun p=>Instr.sameBits n p.1 p.2)=true:=by
   intro cs xs
   induction xs generalizing cs with
   | nil=>intro s;simp only [Seq] at s;subst s;rfl
   | cons x xs ih=>
    rintro ⟨c1,c2,rfl,r,s⟩
    have l1:=r.length
    rw [(Lp h).1] at l1
    obtain ⟨c,rfl⟩:=List.length_eq_one_iff.1 l1
    have h1:=IB h (⟨[c],rfl,r⟩:Ap M w e x (toV e [c])) n
    simp [toV,(Lp h).2] at h1
    simp [h1]
    simpa using ih s
  have h2:=this hr.2
  simp only [toV,Ty.isAgg,if_true,Instr.sameBits]
  simpa using h2
theorem SQ (h:ER kt=true) {x:kt.den} {v:Value} (hv:Ap M w kt x v):(Instr.keyThatStays v v).run P w'=.ok v w':=by
 simp [Instr.keyThatStays,NG h hv]
theorem JG (htab:BR P tab) (h:ER kt=true) {k:TypeId} (hT:DY P tab k kt) {x:kt.den} {v:Value} (hv:Ap M w kt x v) (em:Bool) (d:Nat):(Instr.checkKey em (d+2) k v).run P w'=.ok () w':=by
 rcases ES h with h | ⟨m,e,rfl,_,h⟩
 ·obtain ⟨ds,h1,h2⟩:=F5 h hT hv
  exact run_checkKey h1 h2 em (d+1)
 ·obtain ⟨cs,rfl,hr⟩:=hv
  obtain ⟨te,hu,hl,_⟩:=hT.arr
  have he:=htab te e hl
  obtain ⟨hlen,hr⟩:=hr
  simp only [toV,Ty.isAgg,if_true]
  rw [Instr.checkKey]
  simp only [Sem.run_bind,run_underlying hu,Result.andThen_ok]
  simp only [Std.Legacy.Range.forIn_eq_forIn_range',Std.Legacy.Range.size,Nat.sub_zero,Nat.add_one_sub_one,Nat.div_one]
  have each:∀ i∈List.range' 0 m,∃ a,(part te cs.toArray (i * e.n)).run P w'=.ok a w'/\(Instr.checkKey em (d+1) te a).run P w'=.ok () w':=by
   intro i hi
   have hi':i < List.length x:=by rw [hlen];simpa using hi
   obtain ⟨c0,c1,c2,e1,e2,e3⟩:=hr.at (fun _ _ r=>r.length) i (List.getElem?_eq_getElem hi')
   refine ⟨_,Lu he e1 e3.length e2.symm w',?_⟩
   obtain ⟨ds,h1,h2⟩:=F5 h he (⟨c1,rfl,e3⟩:Ap M w e _ (toV e c1))
   exact run_checkKey h1 h2 em d
  generalize List.range' 0 m=is at each
  induction is with
  | nil=>simp
  | cons j is ih=>
   obtain ⟨a,p1,p2⟩:=each j (by simp)
   simp only [List.forIn_cons,Sem.run_bind,he.sizeOf,Result.andThen_ok,p1,p2,Sem.run_pure]
   exact ih (fun y hy=>each y (by simp [hy]))
def Ih (x:kt.den):List MapEntry->List (kt.den×vt.den)->Nat->Option (Nat×Value)
 | e::es,p::ps,j=>bif Ib kt x p.1 then some (j,e.val) else Ih x es ps (j+1)
 | _,_,_=>none
theorem Ii {x:kt.den}:∀ {es:List MapEntry} {ps:List (kt.den×vt.den)} {j:Nat},Ih x es ps j=none->BU M w kt vt es ps->(∀ z,Om x z ps=(z,false))/\∀ y,LH x y ps=ps++[(x,y)]
 | [],[],_,_,_=>⟨fun _=>rfl,fun _=>rfl⟩
 | e::es,p::ps,j,h,r=>by
  simp only [Ih] at h
  cases hc:Ib kt x p.1 with
  | true=>simp [hc] at h
  | false=>
   simp only [hc,cond_false] at h
   obtain ⟨h1,h2⟩:=Ii h r.2
   exact ⟨fun z=>by simp [Om,hc,h1],fun y=>by simp [LH,hc,h2]⟩
 | [],_::_,_,_,r=>r.elim
 | _::_,[],_,_,r=>r.elim
theorem Ij {x:kt.den}:∀ {es:List MapEntry} {ps:List (kt.den×vt.den)} {j i:Nat} {u:Value},Ih x es ps j=some (i,u)->BU M w kt vt es ps->
  ∃ n e p,i=j+n/\es[n]? = some e/\ps[n]? = some p/\e.val=u/\x=p.1/\QA M w kt vt e p/\(∀ z,Om x z ps=(p.2,true))/\∀ y,LH x y ps=ps.set n (x,y)
 | e::es,p::ps,j,i,u,h,r=>by
  simp only [Ih] at h
  cases hc:Ib kt x p.1 with
  | true=>
   simp only [hc,cond_true,Option.some.injEq,Prod.mk.injEq] at h
   exact ⟨0,e,p,by omega,rfl,rfl,h.2,DF.1 hc,r.1,fun z=>by simp [Om,hc],fun y=>by simp [LH,hc]⟩
  | false=>
   simp only [hc,cond_false] at h
   obtain ⟨n,e',p',h1,h2,h3,h4,h5,h6,h7,h8⟩:=Ij h r.2
   exact ⟨n+1,e',p',by omega,by simpa using h2,by simpa using h3,h4,h5,h6,fun z=>by simp [Om,hc,h7],fun y=>by simp [LH,hc,h8]⟩
 | [],[],_,_,_,h,_=>by cases h
 | [],_::_,_,_,_,_,r=>r.elim
 | _::_,[],_,_,_,_,r=>r.elim
theorem KG (h:CU kt=true) {d:TypeDesc} {x:kt.den} {v:Value} (hv:Ap M' w' kt x v) (hd:IsKey d v) (hds:∀ {y:kt.den} {u:Value},Ap M w kt y u->IsKey d u) :
  ∀ {es:List MapEntry} {ps:List (kt.den×vt.den)} (j:Nat),BU M w kt vt es ps->Instr.findNow d v es j=some (Ih x es ps j)
 | [],[],_,_=>rfl
 | e::es,p::ps,j,r=>by
  obtain ⟨b,h1,h2⟩:=sameNow_of_keys hd (hds r.1.1)
  have h3:b=Ib kt x p.1:=by rw [Bool.eq_iff_iff,h2,DF,Gj h hv r.1.1]
  simp only [Instr.findNow,Ih,h1,h3]
  cases Ib kt x p.1 with
  | true=>rfl
  | false=>exact KG h hv hd hds (j+1) r.2
 | [],_::_,_,r=>r.elim
 | _::_,[],_,r=>r.elim
theorem GX (htab:BR P tab) (h:ER kt=true) {k:TypeId} (hT:DY P tab k kt) {x:kt.den} {v:Value} (hv:Ap M' w' kt x v) :
  ∀ {es:List MapEntry} {ps:List (kt.den×vt.den)} (j:Nat),BU M w kt vt es ps->(Instr.findAsking k v es j).run P w''=.ok (Ih x es ps j) w''
 | [],[],_,_=>rfl
 | e::es,p::ps,j,r=>by
  obtain ⟨cs,rfl,hr⟩:=hv
  obtain ⟨ds,hk,hs⟩:=r.1.1
  have Xw:kt.dep<=Op.maxDepth:=by
   rcases ES h with h | ⟨n,e,rfl,_,h⟩
   ·cases kt <;> simp [CU] at h <;> simp [Ty.dep,Op.maxDepth]
   ·cases e <;> simp [CU] at h <;> simp [Ty.dep,Op.maxDepth]
  obtain ⟨b,h1,h2⟩:=(JM htab (u:=w') (u':=w) (M:=M') (M':=M) kt (KP h)).1 Op.maxDepth k cs ds x p.1 w'' Xw hT hr hs
  have h3:b=Ib kt x p.1:=by rw [Bool.eq_iff_iff,h2,DF]
  subst h3
  simp only [Instr.findAsking,Ih,Sem.run_bind,Op.equal,hk,h1,Result.andThen_ok]
  cases Ib kt x p.1 with
  | true=>rfl
  | false=>exact GX htab h hT ⟨cs,rfl,hr⟩ (j+1) r.2
 | [],_::_,_,r=>r.elim
 | _::_,[],_,r=>r.elim
theorem KF (htab:BR P tab) (h:ER kt=true) {k:TypeId} (hT:DY P tab k kt) {x:kt.den} {v:Value} (hv:Ap M' w' kt x v) {es:List MapEntry} {ps:List (kt.den×vt.den)} (he:BU M w kt vt es ps) :
  (Instr.findKey k v es).run P w''=.ok (Ih x es ps 0) w'':=by
 rcases ES h with h1 | ⟨n,e,rfl,_,h1⟩
 ·obtain ⟨d,h2,h3⟩:=F5 h1 hT hv
  refine run_findKey h2 (KG h1 hv h3 (fun hu=>?_) 0 he)
  obtain ⟨d',h4,h5⟩:=F5 h1 hT hu
  rw [h2] at h4
  cases h4
  exact h5
 ·obtain ⟨te,hu,_⟩:=hT.arr
  have:Instr.findNow (.array n te) v es 0=none∨es=[]:=by
   cases es with
   | nil=>exact .inr rfl
   | cons e es=>left;simp [Instr.findNow,Instr.sameNow]
  rcases this with h2 | rfl
  ·simp only [Instr.findKey,Sem.run_bind,run_underlying hu,Result.andThen_ok,h2]
   exact GX htab h hT hv 0 he
  ·cases ps with
   | nil=>simp [Instr.findKey,run_underlying hu,Instr.findNow,Ih]
   | cons=>exact he.elim
theorem PX (htab:BR P tab) (h:ER kt=true) {t:TypeId} (ht:DY P tab t (.mp kt vt)) {x:kt.den} {v:Value} (hv:Ap M' w' kt x v) {b:Nat} {arr:Array MapEntry} {clock:Nat} {ps:List (kt.den×vt.den)} (hb:w.heap[b]? = some (.map arr clock)) (he:BU M w kt vt arr.toList ps) {z:vt.den} (hz:Al vt=some z) (c:Bool) :
  ∃ u,(Instr.lookup t (.map (some b)) v c).run P w=.ok (if c then .tuple #[u,.bool (Om x z ps).2] else u) w/\Ap M w vt (Om x z ps).1 u:=by
 obtain ⟨k,e,hu,hk,hl⟩:=ht.mp
 have hT:=htab k kt hk
 obtain ⟨i,hi,_,hzi,_⟩:=(htab e vt hl).info
 have hck:(Instr.checkKey arr.isEmpty 10000 k v).run P w=.ok () w:=JG (w':=w) htab h hT hv arr.isEmpty 9998
 have hf:=KF (w'':=w) htab h hT hv he
 have X7:Ap M w vt z (toV vt (zeroCells vt)):=⟨_,rfl,Bb hz⟩
 cases hr:Ih x arr.toList ps 0 with
 | none=>
  have:=(Ii hr he).1 z
  rw [hr] at hf
  refine ⟨toV vt (zeroCells vt),?_,by rw [this];exact X7⟩
  rw [this]
  cases c <;> simp [Instr.lookup,run_underlying hu,MapKept.run_getObj_map hb,hck,hf,zeroValue,typeInfo,hi,hzi]
 | some q=>
  obtain ⟨n,e',p,h1,h2,h3,h4,h5,h6,h7,h8⟩:=Ij (u:=q.2) (i:=q.1) hr he
  rw [hr] at hf
  refine ⟨q.2,?_,by rw [h7 z,← h4];exact h6.2⟩
  rw [h7 z]
  cases c <;> simp [Instr.lookup,run_underlying hu,MapKept.run_getObj_map hb,hck,hf]
theorem O6:∀ {es:List MapEntry} {ps:List (kt.den×vt.den)},BU M w kt vt es ps->es.length=ps.length
 | [],[],_=>rfl
 | _::_,_::_,r=>by simp [O6 r.2]
 | [],_::_,r=>r.elim
 | _::_,[],r=>r.elim
theorem JK {e:MapEntry} {p:kt.den×vt.den} (hp:QA M w kt vt e p):∀ {es:List MapEntry} {ps:List (kt.den×vt.den)},BU M w kt vt es ps->BU M w kt vt (es++[e]) (ps++[p])
 | [],[],_=>⟨hp,trivial⟩
 | _::_,_::_,r=>⟨r.1,JK hp r.2⟩
 | [],_::_,r=>r.elim
 | _::_,[],r=>r.elim
theorem KA {e:MapEntry} {p:kt.den×vt.den} (hp:QA M w kt vt e p):∀ {es:List MapEntry} {ps:List (kt.den×vt.den)} (n:Nat),BU M w kt vt es ps->BU M w kt vt (es.set n e) (ps.set n p)
 | [],[],_,_=>trivial
 | _::_,_::_,0,r=>⟨hp,r.2⟩
 | _::_,_::_,n+1,r=>⟨r.1,KA hp n r.2⟩
 | [],_::_,_,r=>r.elim
 | _::_,[],_,r=>r.elim
theorem P8 (htab:BR P tab) (h:ER kt=true) {t:TypeId} (ht:DY P tab t (.mp kt vt)) {x:kt.den} {y:vt.den} {v u:Value} (hv:Ap M w kt x v) (hy:Ap M w vt y u) {b:Nat} {arr:Array MapEntry} {clock:Nat} {ps:List (kt.den×vt.den)} (hb:w.heap[b]? = some (.map arr clock)) (he:BU M w kt vt arr.toList ps) :
  ∃ arr' clock',(Instr.mapUpdate t (.map (some b)) v u).run P w=.ok () { w with heap:=w.heap.setIfInBounds b (.map arr' clock') }/\BU M w kt vt arr'.toList (LH x y ps):=by
 obtain ⟨k,e,hu,hk,hl⟩:=ht.mp
 have hT:=htab k kt hk
 have hck:(Instr.checkKey false 10000 k v).run P w=.ok () w:=JG (w':=w) htab h hT hv false 9998
 have hf:=KF (w'':=w) htab h hT hv he
 cases hr:Ih x arr.toList ps 0 with
 | none=>
  have:=(Ii hr he).2 y
  rw [hr] at hf
  refine ⟨arr.push ⟨v,u,clock⟩,clock+1,?_,by rw [this];simpa using JK ⟨hv,hy⟩ he⟩
  simp [Instr.mapUpdate,run_underlying hu,MapKept.run_getObj_map hb,hck,hf,MapKept.run_setObj_map _ hb]
 | some q=>
  obtain ⟨n,e',p,h1,h2,h3,h4,h5,h6,h7,h8⟩:=Ij (u:=q.2) (i:=q.1) hr he
  rw [hr] at hf
  have hq:q.1=n:=by omega
  have hkv:e'.key=v:=(key_inj h h6.1 hv).2 h5.symm
  have hn:n < arr.size:=by simpa using (List.getElem?_eq_some_iff.1 h2).1
  have hn2:arr[n]? = some e':=by simpa using h2
  refine ⟨arr.modify n fun e=>{ e with key:=v,val:=u },clock,?_,?_⟩
  ·simp [Instr.mapUpdate,run_underlying hu,MapKept.run_getObj_map hb,hck,hf,MapKept.run_setObj_map _ hb,hq,hn2,hkv,SQ h hv]
  ·rw [h8 y]
   have:(arr.modify n fun e=>{ e with key:=v,val:=u }).toList=arr.toList.set n { e' with key:=v,val:=u }:=by
    apply List.ext_getElem?
    intro i
    have h9:arr[n]=e':=(Array.getElem?_eq_some_iff.1 hn2).2
    by_cases hi:i=n
    ·subst hi
     simp [hn,h9]
    ·simp [Ne.symm hi]
   rw [this]
   exact KA ⟨hv,hy⟩ n he
end
end Go.Lift
