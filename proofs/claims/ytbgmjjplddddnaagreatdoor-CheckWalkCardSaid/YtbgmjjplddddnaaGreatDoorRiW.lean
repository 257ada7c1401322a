import Derived.Test.YtbgmjjplddddnaaGreatDoorRiJ
import Derived.MapKept
import Derived.ChangeMaps
set_option linter.unusedSimpArgs false
namespace Go.Lift
open Go.RowKit Go.MapKept
section
variable {P:Program} {tab:List (TypeId×Ty)} {M M':Own} {w w' w'':World} {kt vt:Ty}
def DZ:Ty->Bool
 | .int _=>true
 | .bool=>true
 | .str=>true
 | _=>false
theorem FP (h:FN kt=true):DZ kt=true∨∃ n e,kt=.arr n e/\n<=100/\DZ e=true:=by
 cases kt <;> simp [FN] at h <;> try exact .inl rfl
 rename_i n e
 refine .inr ⟨n,e,rfl,h.1,?_⟩
 cases e <;> simp at h <;> rfl
theorem KC (h:DZ kt=true):kt.flat=true:=by cases kt <;> simp [DZ] at h <;> rfl
theorem LH (h:FN kt=true):kt.flat=true:=by
 rcases FP h with h | ⟨n,e,rfl,_,h⟩
 ·exact KC h
 ·simpa [Ty.flat] using KC h
theorem G6 (h:DZ kt=true) {k:TypeId} (hT:ER P tab k kt) {x:kt.den} {v:Value} (hv:Bu M w kt x v):∃ d,P.underlying k=some d/\IsKey d v:=by
 obtain ⟨cs,rfl,hr⟩:=hv
 cases kt <;> simp [DZ] at h
 ·obtain ⟨rfl,_⟩:=hr;exact ⟨_,hT.int,rfl⟩
 ·have hr':cs=[.bool x]:=hr
  subst hr';exact ⟨_,hT.bool,trivial⟩
 ·obtain ⟨s,rfl,_⟩:=hr;exact ⟨_,hT.str,trivial⟩
theorem MG {a b:ByteArray} (h:a.data.toList.map (fun b=>(b.toNat:Int))=b.data.toList.map (fun b=>(b.toNat:Int))):a=b:=by
 have:a.data.toList=b.data.toList:=by
  refine List.map_inj_right (fun x y e=>?_) |>.1 h
  exact UInt8.toNat_inj.1 (Int.ofNat.inj e)
 cases a;cases b
 simp at this
 simpa using this
theorem IJ (h:DZ kt=true) {x y:kt.den} {v u:Value} (hv:Bu M w kt x v) (hu:Bu M' w' kt y u):v=u↔x=y:=by
 obtain ⟨cs,rfl,hr⟩:=hv
 obtain ⟨ds,rfl,hs⟩:=hu
 cases kt <;> simp [DZ] at h
 ·obtain ⟨rfl,_⟩:=hr;obtain ⟨rfl,_⟩:=hs;simp [toV,Ty.isAgg]
 ·have hr':cs=[.bool x]:=hr
  have hs':ds=[.bool y]:=hs
  subst hr' hs';simp [toV,Ty.isAgg]
 ·obtain ⟨s,rfl,e1,_⟩:=hr;obtain ⟨s',rfl,e2,_⟩:=hs
  simp only [toV,Ty.isAgg,List.headD,Bool.false_eq_true,if_false,Value.string.injEq]
  constructor
  ·rintro rfl;rw [e1,e2]
  ·intro e;rw [e1,e2] at e;exact MG e
theorem OH {α:Type} {R R':List Value->α->Prop} (h:∀ cs ds x y,R cs x->R' ds y->(cs=ds↔x=y)) (h1:∀ cs x,R cs x->cs.length=1) (h2:∀ cs x,R' cs x->cs.length=1):∀ {cs ds:List Value} {xs ys:List α},Seq R cs xs->Seq R' ds ys->(cs=ds↔xs=ys)
 | _,_,[],[],s,t=>by simp only [Seq] at s t;subst s t;simp
 | _,_,[],y::ys,s,⟨c1,c2,e,r,t⟩=>by simp only [Seq] at s;subst s e;have:=h2 _ _ r;cases c1 <;> simp at this ⊢
 | _,_,x::xs,[],⟨c1,c2,e,r,t⟩,s=>by simp only [Seq] at s;subst s e;have:=h1 _ _ r;cases c1 <;> simp at this ⊢
 | _,_,x::xs,y::ys,⟨c1,c2,e,r,s⟩,⟨d1,d2,e',r',s'⟩=>by
  subst e e'
  have l1:=h1 _ _ r
  have l2:=h2 _ _ r'
  constructor
  ·intro e
   obtain ⟨e1,e2⟩:=List.append_inj e (by rw [l1,l2])
   rw [(h _ _ _ _ r r').1 e1,(OH h h1 h2 s s').1 e2]
  ·intro e
   cases e
   rw [(h _ _ _ _ r r').2 rfl,(OH h h1 h2 s s').2 rfl]
theorem Mt (h:DZ kt=true):kt.n=1/\kt.isAgg=false:=by cases kt <;> simp [DZ] at h <;> exact ⟨rfl,rfl⟩
theorem key_inj (h:FN kt=true) {x y:kt.den} {v u:Value} (hv:Bu M w kt x v) (hu:Bu M' w' kt y u):v=u↔x=y:=by
 rcases FP h with h | ⟨n,e,rfl,_,h⟩
 ·exact IJ h hv hu
 ·obtain ⟨cs,rfl,hr⟩:=hv
  obtain ⟨ds,rfl,hs⟩:=hu
  have:=OH (R:=Br M w e) (R':=Br M' w' e) (fun cs ds x y r s=>by
   have h1:=IJ h (⟨cs,rfl,r⟩:Bu M w e x (toV e cs)) (⟨ds,rfl,s⟩:Bu M' w' e y (toV e ds))
   rw [← h1]
   have l1:=r.length
   have l2:=s.length
   rw [(Mt h).1] at l1 l2
   obtain ⟨c,rfl⟩:=List.length_eq_one_iff.1 l1
   obtain ⟨d,rfl⟩:=List.length_eq_one_iff.1 l2
   simp [toV,(Mt h).2]) (fun cs x r=>by rw [r.length,(Mt h).1]) (fun cs x r=>by rw [r.length,(Mt h).1]) hr.2 hs.2
  simpa [toV,Ty.isAgg] using this
theorem JD (h:DZ kt=true) {x:kt.den} {v:Value} (hv:Bu M w kt x v) (n:Nat):Instr.sameBits n v v=true:=by
 obtain ⟨cs,rfl,hr⟩:=hv
 cases kt <;> simp [DZ] at h
 ·obtain ⟨rfl,_⟩:=hr;simp [toV,Ty.isAgg,Instr.sameBits]
 ·have hr':cs=[.bool x]:=hr
  subst hr';simp [toV,Ty.isAgg,Instr.sameBits]
 ·obtain ⟨s,rfl,_⟩:=hr;simp [toV,Ty.isAgg,Instr.sameBits,bytes_beq]
theorem OG (h:FN kt=true) {x:kt.den} {v:Value} (hv:Bu M w kt x v) (n:Nat):Instr.sameBits (n+1) v v=true:=by
 rcases FP h with h | ⟨m,e,rfl,_,h⟩
 ·exact JD h hv _
 ·obtain ⟨cs,rfl,hr⟩:=hv
  have:∀ {cs:List Value} {xs:List e.den},Seq (Br M w e) cs xs->(cs.zip cs).all (fun p=>Instr.sameBits n p.1 p.2)=true:=by
   intro cs xs
   induction xs generalizing cs with
   | nil=>intro s;simp only [Seq] at s;subst s;rfl
   | cons x xs ih=>
    rintro ⟨c1,c2,rfl,r,s⟩
    have l1:=r.length
    rw [(Mt h).1] at l1
    obtain ⟨c,rfl⟩:=List.length_eq_one_iff.1 l1
    have h1:=JD h (⟨[c],rfl,r⟩:Bu M w e x (toV e [c])) n
    simp [toV,(Mt h).2] at h1
    simp [h1]
    simpa using ih s
  have h2:=this hr.2
  simp only [toV,Ty.isAgg,if_true,Instr.sameBits]
  simpa using h2
theorem Ti (h:FN kt=true) {x:kt.den} {v:Value} (hv:Bu M w kt x v):(Instr.keyThatStays v v).run P w'=.ok v w':=by
 simp [Instr.keyThatStays,OG h hv]
theorem J4 (htab:CY P tab) (h:FN kt=true) {k:TypeId} (hT:ER P tab k kt) {x:kt.den} {v:Value} (hv:Bu M w kt x v) (em:Bool) (d:Nat):(Instr.checkKey em (d+2) k v).run P w'=.ok () w':=by
 rcases FP h with h | ⟨m,e,rfl,_,h⟩
 ·obtain ⟨ds,h1,h2⟩:=G6 h hT hv
  exact run_checkKey h1 h2 em (d+1)
 ·obtain ⟨cs,rfl,hr⟩:=hv
  obtain ⟨te,hu,hl,_⟩:=hT.arr
  have he:=htab te e hl
  obtain ⟨hlen,hr⟩:=hr
  simp only [toV,Ty.isAgg,if_true]
  rw [Instr.checkKey]
  simp only [Sem.run_bind,run_underlying hu,Result.andThen_ok]
  simp only [Std.Legacy.Range.forIn_eq_forIn_range',Std.Legacy.Range.size,Nat.sub_zero,Nat.add_one_sub_one,Nat.div_one]
  have each:∀ i∈List.range' 0 m,∃ a,(part te cs.toArray (i * e.n)).run P w'=.ok a w'/\(Instr.checkKey em (d+1) te a).run P w'=.ok () w':=by
   intro i hi
   have hi':i < List.length x:=by rw [hlen];simpa using hi
   obtain ⟨c0,c1,c2,e1,e2,e3⟩:=hr.at (fun _ _ r=>r.length) i (AU hi')
   refine ⟨_,Mx he e1 e3.length e2.symm w',?_⟩
   obtain ⟨ds,h1,h2⟩:=G6 h he (⟨c1,rfl,e3⟩:Bu M w e _ (toV e c1))
   exact run_checkKey h1 h2 em d
  generalize List.range' 0 m=is at each
  induction is with
  | nil=>simp
  | cons j is ih=>
   obtain ⟨a,p1,p2⟩:=each j (by simp)
   simp only [List.forIn_cons,Sem.run_bind,he.sizeOf,Result.andThen_ok,p1,p2,Sem.run_pure]
   exact ih (fun y hy=>each y (by simp [hy]))
def Ja (x:kt.den):List MapEntry->List (kt.den×vt.den)->Nat->Option (Nat×Value)
 | e::es,p::ps,j=>bif JW kt x p.1 then some (j,e.val) else Ja x es ps (j+1)
 | _,_,_=>none
theorem Jb {x:kt.den}:∀ {es:List MapEntry} {ps:List (kt.den×vt.den)} {j:Nat},Ja x es ps j=none->Cj M w kt vt es ps->(∀ z,Pw x z ps=(z,false))/\∀ y,MO x y ps=ps++[(x,y)]
 | [],[],_,_,_=>⟨fun _=>rfl,fun _=>rfl⟩
 | e::es,p::ps,j,h,r=>by
  simp only [Ja] at h
  cases hc:JW kt x p.1 with
  | true=>simp [hc] at h
  | false=>
   simp only [hc,AJ] at h
   obtain ⟨h1,h2⟩:=Jb h r.2
   exact ⟨fun z=>by simp [Pw,hc,h1],fun y=>by simp [MO,hc,h2]⟩
 | [],_::_,_,_,r=>r.elim
 | _::_,[],_,_,r=>r.elim
theorem Jc {x:kt.den}:∀ {es:List MapEntry} {ps:List (kt.den×vt.den)} {j i:Nat} {u:Value},Ja x es ps j=some (i,u)->Cj M w kt vt es ps->
  ∃ n e p,i=j+n/\es[n]? = some e/\ps[n]? = some p/\e.val=u/\x=p.1/\Qu M w kt vt e p/\(∀ z,Pw x z ps=(p.2,true))/\∀ y,MO x y ps=ps.set n (x,y)
 | e::es,p::ps,j,i,u,h,r=>by
  simp only [Ja] at h
  cases hc:JW kt x p.1 with
  | true=>
   simp only [hc,AL,Ac,Prod.mk.injEq] at h
   exact ⟨0,e,p,by omega,rfl,rfl,h.2,ED.1 hc,r.1,fun z=>by simp [Pw,hc],fun y=>by simp [MO,hc]⟩
  | false=>
   simp only [hc,AJ] at h
   obtain ⟨n,e',p',h1,h2,h3,h4,h5,h6,h7,h8⟩:=Jc h r.2
   exact ⟨n+1,e',p',by omega,by simpa using h2,by simpa using h3,h4,h5,h6,fun z=>by simp [Pw,hc,h7],fun y=>by simp [MO,hc,h8]⟩
 | [],[],_,_,_,h,_=>by cases h
 | [],_::_,_,_,_,_,r=>r.elim
 | _::_,[],_,_,_,_,r=>r.elim
theorem K7 (h:DZ kt=true) {d:TypeDesc} {x:kt.den} {v:Value} (hv:Bu M' w' kt x v) (hd:IsKey d v) (hds:∀ {y:kt.den} {u:Value},Bu M w kt y u->IsKey d u) :
  ∀ {es:List MapEntry} {ps:List (kt.den×vt.den)} (j:Nat),Cj M w kt vt es ps->Instr.findNow d v es j=some (Ja x es ps j)
 | [],[],_,_=>rfl
 | e::es,p::ps,j,r=>by
  obtain ⟨b,h1,h2⟩:=sameNow_of_keys hd (hds r.1.1)
  have h3:b=JW kt x p.1:=by rw [Bool.eq_iff_iff,h2,ED,IJ h hv r.1.1]
  simp only [Instr.findNow,Ja,h1,h3]
  cases JW kt x p.1 with
  | true=>rfl
  | false=>exact K7 h hv hd hds (j+1) r.2
 | [],_::_,_,r=>r.elim
 | _::_,[],_,r=>r.elim
theorem Hy (htab:CY P tab) (h:FN kt=true) {k:TypeId} (hT:ER P tab k kt) {x:kt.den} {v:Value} (hv:Bu M' w' kt x v) :
  ∀ {es:List MapEntry} {ps:List (kt.den×vt.den)} (j:Nat),Cj M w kt vt es ps->(Instr.findAsking k v es j).run P w''=.ok (Ja x es ps j) w''
 | [],[],_,_=>rfl
 | e::es,p::ps,j,r=>by
  obtain ⟨cs,rfl,hr⟩:=hv
  obtain ⟨ds,hk,hs⟩:=r.1.1
  have Yi:kt.dep<=Op.maxDepth:=by
   rcases FP h with h | ⟨n,e,rfl,_,h⟩
   ·cases kt <;> simp [DZ] at h <;> simp [Ty.dep,Op.maxDepth]
   ·cases e <;> simp [DZ] at h <;> simp [Ty.dep,Op.maxDepth]
  obtain ⟨b,h1,h2⟩:=(KA htab (u:=w') (u':=w) (M:=M') (M':=M) kt (LH h)).1 Op.maxDepth k cs ds x p.1 w'' Yi hT hr hs
  have h3:b=JW kt x p.1:=by rw [Bool.eq_iff_iff,h2,ED]
  subst h3
  simp only [Instr.findAsking,Ja,Sem.run_bind,Op.equal,hk,h1,Result.andThen_ok]
  cases JW kt x p.1 with
  | true=>rfl
  | false=>exact Hy htab h hT ⟨cs,rfl,hr⟩ (j+1) r.2
 | [],_::_,_,r=>r.elim
 | _::_,[],_,r=>r.elim
theorem K6 (htab:CY P tab) (h:FN kt=true) {k:TypeId} (hT:ER P tab k kt) {x:kt.den} {v:Value} (hv:Bu M' w' kt x v) {es:List MapEntry} {ps:List (kt.den×vt.den)} (he:Cj M w kt vt es ps) :
  (Instr.findKey k v es).run P w''=.ok (Ja x es ps 0) w'':=by
 rcases FP h with h1 | ⟨n,e,rfl,_,h1⟩
 ·obtain ⟨d,h2,h3⟩:=G6 h1 hT hv
  refine run_findKey h2 (K7 h1 hv h3 (fun hu=>?_) 0 he)
  obtain ⟨d',h4,h5⟩:=G6 h1 hT hu
  rw [h2] at h4
  cases h4
  exact h5
 ·obtain ⟨te,hu,_⟩:=hT.arr
  have:Instr.findNow (.array n te) v es 0=none∨es=[]:=by
   cases es with
   | nil=>exact .inr rfl
   | cons e es=>left;simp [Instr.findNow,Instr.sameNow]
  rcases this with h2 | rfl
  ·simp only [Instr.findKey,Sem.run_bind,run_underlying hu,Result.andThen_ok,h2]
   exact Hy htab h hT hv 0 he
  ·cases ps with
   | nil=>simp [Instr.findKey,run_underlying hu,Instr.findNow,Ja]
   | cons=>exact he.elim
theorem QW (htab:CY P tab) (h:FN kt=true) {t:TypeId} (ht:ER P tab t (.mp kt vt)) {x:kt.den} {v:Value} (hv:Bu M' w' kt x v) {b:Nat} {arr:Array MapEntry} {clock:Nat} {ps:List (kt.den×vt.den)} (hb:w.heap[b]? = some (.map arr clock)) (he:Cj M w kt vt arr.toList ps) {z:vt.den} (hz:Bp vt=some z) (c:Bool) :
  ∃ u,(Instr.lookup t (.map (some b)) v c).run P w=.ok (if c then .tuple #[u,.bool (Pw x z ps).2] else u) w/\Bu M w vt (Pw x z ps).1 u:=by
 obtain ⟨k,e,hu,hk,hl⟩:=ht.mp
 have hT:=htab k kt hk
 obtain ⟨i,hi,_,hzi,_⟩:=(htab e vt hl).info
 have hck:(Instr.checkKey arr.isEmpty 10000 k v).run P w=.ok () w:=J4 (w':=w) htab h hT hv arr.isEmpty 9998
 have hf:=K6 (w'':=w) htab h hT hv he
 have Yr:Bu M w vt z (toV vt (zeroCells vt)):=⟨_,rfl,Co hz⟩
 cases hr:Ja x arr.toList ps 0 with
 | none=>
  have:=(Jb hr he).1 z
  rw [hr] at hf
  refine ⟨toV vt (zeroCells vt),?_,by rw [this];exact Yr⟩
  rw [this]
  cases c <;> simp [Instr.lookup,run_underlying hu,MapKept.run_getObj_map hb,hck,hf,zeroValue,typeInfo,hi,hzi]
 | some q=>
  obtain ⟨n,e',p,h1,h2,h3,h4,h5,h6,h7,h8⟩:=Jc (u:=q.2) (i:=q.1) hr he
  rw [hr] at hf
  refine ⟨q.2,?_,by rw [h7 z,← h4];exact h6.2⟩
  rw [h7 z]
  cases c <;> simp [Instr.lookup,run_underlying hu,MapKept.run_getObj_map hb,hck,hf]
theorem QE:∀ {es:List MapEntry} {ps:List (kt.den×vt.den)},Cj M w kt vt es ps->es.length=ps.length
 | [],[],_=>rfl
 | _::_,_::_,r=>by simp [QE r.2]
 | [],_::_,r=>r.elim
 | _::_,[],r=>r.elim
theorem J8 {e:MapEntry} {p:kt.den×vt.den} (hp:Qu M w kt vt e p):∀ {es:List MapEntry} {ps:List (kt.den×vt.den)},Cj M w kt vt es ps->Cj M w kt vt (es++[e]) (ps++[p])
 | [],[],_=>⟨hp,trivial⟩
 | _::_,_::_,r=>⟨r.1,J8 hp r.2⟩
 | [],_::_,r=>r.elim
 | _::_,[],r=>r.elim
theorem Kz {e:MapEntry} {p:kt.den×vt.den} (hp:Qu M w kt vt e p):∀ {es:List MapEntry} {ps:List (kt.den×vt.den)} (n:Nat),Cj M w kt vt es ps->Cj M w kt vt (es.set n e) (ps.set n p)
 | [],[],_,_=>trivial
 | _::_,_::_,0,r=>⟨hp,r.2⟩
 | _::_,_::_,n+1,r=>⟨r.1,Kz hp n r.2⟩
 | [],_::_,_,r=>r.elim
 | _::_,[],_,r=>r.elim
theorem Qs (htab:CY P tab) (h:FN kt=true) {t:TypeId} (ht:ER P tab t (.mp kt vt)) {x:kt.den} {y:vt.den} {v u:Value} (hv:Bu M w kt x v) (hy:Bu M w vt y u) {b:Nat} {arr:Array MapEntry} {clock:Nat} {ps:List (kt.den×vt.den)} (hb:w.heap[b]? = some (.map arr clock)) (he:Cj M w kt vt arr.toList ps) :
  ∃ arr' clock',(Instr.mapUpdate t (.map (some b)) v u).run P w=.ok () { w with heap:=w.heap.setIfInBounds b (.map arr' clock') }/\Cj M w kt vt arr'.toList (MO x y ps):=by
 obtain ⟨k,e,hu,hk,hl⟩:=ht.mp
 have hT:=htab k kt hk
 have hck:(Instr.checkKey false 10000 k v).run P w=.ok () w:=J4 (w':=w) htab h hT hv false 9998
 have hf:=K6 (w'':=w) htab h hT hv he
 cases hr:Ja x arr.toList ps 0 with
 | none=>
  have:=(Jb hr he).2 y
  rw [hr] at hf
  refine ⟨arr.push ⟨v,u,clock⟩,clock+1,?_,by rw [this];simpa using J8 ⟨hv,hy⟩ he⟩
  simp [Instr.mapUpdate,run_underlying hu,MapKept.run_getObj_map hb,hck,hf,MapKept.run_setObj_map _ hb]
 | some q=>
  obtain ⟨n,e',p,h1,h2,h3,h4,h5,h6,h7,h8⟩:=Jc (u:=q.2) (i:=q.1) hr he
  rw [hr] at hf
  have hq:q.1=n:=by omega
  have hkv:e'.key=v:=(key_inj h h6.1 hv).2 h5.symm
  have hn:n < arr.size:=by simpa using (Ap.1 h2).1
  have hn2:arr[n]? = some e':=by simpa using h2
  refine ⟨arr.modify n fun e=>{ e with key:=v,val:=u },clock,?_,?_⟩
  ·simp [Instr.mapUpdate,run_underlying hu,MapKept.run_getObj_map hb,hck,hf,MapKept.run_setObj_map _ hb,hq,hn2,hkv,Ti h hv]
  ·rw [h8 y]
   have:(arr.modify n fun e=>{ e with key:=v,val:=u }).toList=arr.toList.set n { e' with key:=v,val:=u }:=by
    apply List.ext_getElem?
    intro i
    have h9:arr[n]=e':=(Al.1 hn2).2
    by_cases hi:i=n
    ·subst hi
     simp [hn,h9]
    ·simp [Ne.symm hi]
   rw [this]
   exact Kz ⟨hv,hy⟩ n he
end
end Go.Lift
