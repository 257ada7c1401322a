import Derived.WalkKit
import Derived.Orders
set_option linter.unusedSimpArgs false
namespace Go.Lift
theorem AA.{u_1,u_2} : ∀ {α : Type u_1} {β : Type u_2} (a : α) (f : α → Option β), (some a).bind f = f a := @Option.bind_some
theorem AB : ∀ {p : Prop} [Decidable p], p → decide p = true := @decide_eq_true
theorem AF : ∀ {p : Prop} [Decidable p], ¬p → decide p = false := @decide_eq_false
theorem AJ.{u_1} : ∀ {α : Sort u_1} (a b : α), (bif false then a else b) = b := @cond_false
theorem AL.{u_1} : ∀ {α : Sort u_1} (a b : α), (bif true then a else b) = a := @cond_true
theorem AO.{u_1,u_2} : ∀ {α : Type u_1} {b : α} {γ : Type u_2} {x : Option γ} {f : γ → Option α}, x.bind f = some b ↔ ∃ a, x = some a ∧ f a = some b := @Option.bind_eq_some_iff
theorem AP : ∀ (a b : Bool), ((a && b) = true) = (a = true ∧ b = true) := @Bool.and_eq_true
theorem AQ.{u_1} : ∀ {α : Type u_1} {as bs : List α}, (as ++ bs).length = as.length + bs.length := @List.length_append
theorem AU.{u_1} : ∀ {α : Type u_1} {l : List α} {i : Nat} (h : i < l.length), l[i]? = some l[i] := @List.getElem?_eq_getElem
theorem AX.{u_1} : ∀ {c : Prop} {_h : Decidable c}, ¬c → ∀ {α : Sort u_1} {t e : α}, (if c then t else e) = e := @if_neg
theorem AY.{u_1} : ∀ {c : Prop} {_h : Decidable c}, c → ∀ {α : Sort u_1} {t e : α}, (if c then t else e) = t := @if_pos
theorem AZ : ∀ {p : Prop} [Decidable p], (decide p = true) = p := @decide_eq_true_eq
theorem Aa : ∀ {n m : Nat}, n.beq m = true → n = m := @Nat.eq_of_beq_eq_true
theorem Ab.{u_1} : ∀ {α : Type u_1} (as bs cs : List α), as ++ bs ++ cs = as ++ (bs ++ cs) := @List.append_assoc
theorem Ac.{u_1} : ∀ {α : Type u_1} (val val_1 : α), (some val = some val_1) = (val = val_1) := @Option.some.injEq
theorem Ad.{u_1} : ∀ {α : Type u_1} {l : List α} {i : Nat} {a : α}, l.getD i a = l[i]?.getD a := @List.getD_eq_getElem?_getD
theorem Ae.{u_1} : ∀ {α : Type u_1} {l : List α} {n : Nat} (h : n < l.length), l[n] ∈ l := @List.getElem_mem
theorem Af.{u_1} : ∀ {α : Type u_1} {a : α} {as : List α}, (a :: as).length = as.length + 1 := @List.length_cons
theorem Ah.{u_1} : ∀ {α : Type u_1} {i : Nat} {l : List α} (h : i < l.length), List.take (i + 1) l = List.take i l ++ [l[i]] := @List.take_succ_eq_append_getElem
theorem Ai : ∀ (b : Bool), (true && b) = b := @Bool.true_and
theorem Aj : ∀ (n : Nat), (n : Int).toNat = n := @Int.toNat_natCast
theorem Ak : ∀ {n m : Nat}, n.ble m = true → n ≤ m := @Nat.le_of_ble_eq_true
theorem Am.{u_1} : ∀ {α : Type u_1} {i : Nat} {b : α} {xs : Array α}, xs[i]? = some b ↔ ∃ h, xs[i] = b := @Array.getElem?_eq_some_iff
theorem Ao.{u_1} : ∀ {α : Type u_1} {l₁ l₂ : List α} {i : Nat}, i < l₁.length → (l₁ ++ l₂)[i]? = l₁[i]? := @List.getElem?_append_left
theorem Ap.{u_1} : ∀ {α : Type u_1} {l₁ l₂ : List α} {i : Nat}, l₁.length ≤ i → (l₁ ++ l₂)[i]? = l₂[i - l₁.length]? := @List.getElem?_append_right
theorem Aq.{u_1} : ∀ {α : Type u_1} {i : Nat} {a : α} {l : List α}, l[i]? = some a ↔ ∃ h, l[i] = a := @List.getElem?_eq_some_iff
theorem Ar.{u_1} : ∀ {α : Type u_1} {l : List α}, l.length = 0 → l = [] := @List.eq_nil_of_length_eq_zero
theorem Au.{u_1} : ∀ {α : Type u_1} {val val_1 : α}, some val = some val_1 → val = val_1 := @Option.some.inj
theorem Av.{u_1} : ∀ {α : Type u_1}, ([] : List α).length = 0 := @List.length_nil
theorem Aw.{u_1} : ∀ {α : Type u_1} {l : List α} {i : Nat}, l.length ≤ i → l[i]? = none := @List.getElem?_eq_none
theorem Ay.{u_1,u_2} : ∀ {α : Type u_1} {β : Type u_2} {as : List α} (f : α → β), (List.map f as).length = as.length := @List.length_map
theorem Az.{u_1} : ∀ {α : Type u_1} [BEq α] [LawfulBEq α] {a b : α}, (a == b) = false ↔ a ≠ b := @beq_eq_false_iff_ne
theorem A8 : (!true) = false := @Bool.not_true
theorem A9 : (!false) = true := @Bool.not_false
theorem BA.{u_1} : ∀ {α : Type u_1} {i : Nat} {l : List α} (h : i < l.length), List.drop i l = l[i] :: List.drop (i + 1) l := @List.drop_eq_getElem_cons
theorem BD.{u_1} : ∀ {α : Type u_1} {i : Nat} {l : List α}, l.length ≤ i → List.take i l = l := @List.take_of_length_le
theorem BF.{u_1} : ∀ {α : Type u_1} {l : List α} {i : Nat} {a : α}, l[i]? = some a → a ∈ l := @List.mem_of_getElem?
theorem BG.{u_1} : ∀ {α : Type u_1} [BEq α] [LawfulBEq α] (a : α), (a != a) = false := @bne_self_eq_false
theorem BH.{u_1} : ∀ {α : Type u_1} {a b : α}, (some a).getD b = a := @Option.getD_some
theorem BI.{u_1,u_2} : ∀ {α : Type u_1} {β : Type u_2} (a : α) (f : α → β), Option.map f (some a) = some (f a) := @Option.map_some
theorem BJ.{u_1} : ∀ {α : Type u_1} {as : List α} {i : Nat} {a : α}, (as.set i a).length = as.length := @List.length_set
theorem BK.{u_1} : ∀ {α : Type u_1} {i : Nat} {l : List α}, (List.take i l).length = min i l.length := @List.length_take
theorem BL : ∀ {a : Int}, 0 ≤ a → ∃ n : Nat, a = n := @Int.eq_ofNat_of_zero_le
inductive Ty where
 | int (k:IntKind)
 | bool
 | str
 | slice (e:Ty)
 | arr (n:Nat) (e:Ty)
 | unit
 | pair (a b:Ty)
 | ptr (e:Ty)
 | UJ
 | mp (k v:Ty)
 | fn
 | nes (e:Ty)
 deriving DecidableEq
@[reducible] def Ty.den:Ty->Type
 | .int _=>Int
 | .bool=>Bool
 | .str=>List Int
 | .slice e=>List e.den
 | .arr _ e=>List e.den
 | .unit=>Unit
 | .pair a b=>a.den×b.den
 | .ptr e=>e.den
 | .UJ=>Option (Option (Nat×Int))
 | .mp _ _=>Empty
 | .fn=>Empty
 | .nes e=>List e.den
def Ty.n:Ty->Nat
 | .int _ | .bool | .str | .slice _ | .ptr _ | .UJ | .mp _ _ | .fn | .nes _=>1
 | .arr n e=>n * e.n
 | .unit=>0
 | .pair a b=>a.n+b.n
def Ty.isAgg:Ty->Bool
 | .arr _ _ | .unit | .pair _ _=>true
 | _=>false
def Ty.flat:Ty->Bool
 | .int _ | .bool | .str | .unit=>true
 | .arr _ e=>e.flat
 | .pair a b=>a.flat&&b.flat
 | .slice _ | .ptr _ | .UJ | .mp _ _ | .fn | .nes _=>false
abbrev TV:=(t:Ty)×t.den
def toV (t:Ty) (cs:List Value):Value:=if t.isAgg then .agg cs.toArray else cs.headD undef
def Seq {α:Type} (R:List Value->α->Prop):List Value->List α->Prop
 | cs,[]=>cs=[]
 | cs,x::xs=>∃ c1 c2,cs=c1++c2/\R c1 x/\Seq R c2 xs
abbrev Own:=Nat->Nat->Prop
def Row (M:Own) (w:World) (b o:Nat) (cs:List Value):Prop:=
 ∀ i,i < cs.length->w.cell? ⟨b,o+i,none⟩=cs[i]?/\M b (o+i)
def cu:Option (Option (Nat×Int))->Value->Prop
 | none,v=>v=.nilIface
 | some none,v=>∃ t u,v=.iface t u
 | some (some p),v=>v=.iface p.1 (.int .i64 p.2)
def EA (M:Own) (w:World):(t:Ty)->List Value->t.den->Prop
 | .int k,cs,x=>cs=[.int k x]/\k.min<=x/\x<=k.max
 | .bool,cs,x=>cs=[.bool x]
 | .str,cs,x=>∃ s:ByteArray,cs=[.string s]/\x=s.data.toList.map (λb=>(b.toNat:Int))/\s.size<=maxLen
 | .slice e,cs,xs=>∃ a cap row,cs=[.slice a (List.length xs) cap]/\List.length xs<=cap/\cap<=maxLen/\(a=none->cap=0)/\Seq (EA M w e) row xs/\
   (List.length xs=0\/∃ b o,a=some ⟨b,o,none⟩/\Row M w b o row)
 | .arr n e,cs,xs=>List.length xs=n/\Seq (EA M w e) cs xs
 | .unit,cs,_=>cs=[]
 | .pair a b,cs,x=>∃ c1 c2,cs=c1++c2/\EA M w a c1 x.1/\EA M w b c2 x.2
 | .ptr e,cs,x=>∃ b o row,cs=[.pointer (some ⟨b,o,none⟩)]/\Row M w b o row/\EA M w e row x
 | .UJ,cs,x=>∃ v,cs=[v]/\cu x v
 | .mp _ _,_,_=>False
 | .fn,_,_=>False
 | .nes e,cs,xs=>(∃ a cap row,cs=[.slice a (List.length xs) cap]/\List.length xs<=cap/\cap<=maxLen/\(a=none->cap=0)/\Seq (EA M w e) row xs/\
   (List.length xs=0\/∃ b o,a=some ⟨b,o,none⟩/\Row M w b o row))/\(List.length xs=0->cs=[.slice none 0 0])
def Ext (M:Own) (w:World) (M':Own) (w':World):Prop:=
 ∀ b o,M b o->M' b o/\(∀ v,w.cell? ⟨b,o,none⟩=some v->w'.cell? ⟨b,o,none⟩=some v)
theorem Ext.refl (M:Own) (w:World):Ext M w M w:=λ_ _ h=>⟨h,λ_ h=>h⟩
theorem Ext.trans {M M' M'':Own} {w w' w'':World} (h:Ext M w M' w') (k:Ext M' w' M'' w''):Ext M w M'' w'':=
 λb o m=>⟨(k b o (h b o m).1).1,λv hv=>(k b o (h b o m).1).2 v ((h b o m).2 v hv)⟩
theorem Row.ext {M M':Own} {w w':World} (h:Ext M w M' w') {b o:Nat} {cs:List Value} (r:Row M w b o cs):Row M' w' b o cs:=
 λi hi=>by
  obtain ⟨r1,r2⟩:=r i hi
  refine ⟨?_,(h _ _ r2).1⟩
  rw [AU hi] at r1 ⊢
  exact (h _ _ r2).2 _ r1
theorem Seq.mono {α:Type} {R R':List Value->α->Prop} (h:∀ cs x,R cs x->R' cs x):∀ {cs:List Value} {xs:List α},Seq R cs xs->Seq R' cs xs
 | _,[],s=>s
 | _,_::_,⟨c1,c2,e,r,s⟩=>⟨c1,c2,e,h _ _ r,Seq.mono h s⟩
theorem EA.ext {M M':Own} {w w':World} (h:Ext M w M' w'):∀ {t:Ty} {cs:List Value} {x:t.den},EA M w t cs x->EA M' w' t cs x:=by
 intro t
 induction t with
 | int k=>intro cs x r;exact r
 | bool=>intro cs x r;exact r
 | str=>intro cs x r;exact r
 | slice e ih=>
  intro cs x r
  obtain ⟨a,cap,row,e1,e2,e3,e4,s,l⟩:=r
  exact ⟨a,cap,row,e1,e2,e3,e4,s.mono (λ_ _ r=>ih r),l.imp id (λ⟨b,o,e,r⟩=>⟨b,o,e,r.ext h⟩)⟩
 | arr n e ih=>intro cs x r;exact ⟨r.1,r.2.mono (λ_ _ r=>ih r)⟩
 | unit=>intro cs x r;exact r
 | pair a b iha ihb=>intro cs x r;obtain ⟨c1,c2,e,r1,r2⟩:=r;exact ⟨c1,c2,e,iha r1,ihb r2⟩
 | ptr e ih=>intro cs x r;obtain ⟨b,o,row,e1,r1,r2⟩:=r;exact ⟨b,o,row,e1,r1.ext h,ih r2⟩
 | UJ=>intro cs x r;exact r
 | mp _ _=>intro cs x r;exact r
 | fn=>intro cs x r;exact r
 | nes e ih=>
  intro cs x r
  obtain ⟨⟨a,cap,row,e1,e2,e3,e4,s,l⟩,z⟩:=r
  exact ⟨⟨a,cap,row,e1,e2,e3,e4,s.mono (λ_ _ r=>ih r),l.imp id (λ⟨b,o,e,r⟩=>⟨b,o,e,r.ext h⟩)⟩,z⟩
theorem Seq.length {α:Type} {R:List Value->α->Prop} {n:Nat} (h:∀ cs x,R cs x->cs.length=n):∀ {cs:List Value} {xs:List α},Seq R cs xs->cs.length=xs.length * n
 | _,[],s=>by simp only [Seq] at s;subst s;simp
 | _,_::xs,⟨c1,c2,e,r,s⟩=>by subst e;rw [AQ,h _ _ r,Seq.length h s,Af,Nat.add_mul];omega
theorem EA.length {M:Own} {w:World}:∀ {t:Ty} {cs:List Value} {x:t.den},EA M w t cs x->cs.length=t.n:=by
 intro t
 induction t with
 | int k=>intro cs x r;simp [r.1,Ty.n]
 | bool=>intro cs x r;simp only [EA] at r;simp [r,Ty.n]
 | str=>intro cs x r;obtain ⟨s,e,_⟩:=r;simp [e,Ty.n]
 | slice e ih=>intro cs x r;obtain ⟨a,cap,row,e1,_⟩:=r;simp [e1,Ty.n]
 | arr n e ih=>intro cs x r;rw [r.2.length (λ_ _ r=>ih r),r.1,Ty.n]
 | unit=>intro cs x r;simp only [EA] at r;simp [r,Ty.n]
 | pair a b iha ihb=>intro cs x r;obtain ⟨c1,c2,e,r1,r2⟩:=r;simp [e,iha r1,ihb r2,Ty.n]
 | ptr e ih=>intro cs x r;obtain ⟨b,o,row,e1,_⟩:=r;simp [e1,Ty.n]
 | UJ=>intro cs x r;obtain ⟨v,e,_⟩:=r;simp [e,Ty.n]
 | mp _ _=>intro cs x r;exact r.elim
 | fn=>intro cs x r;exact r.elim
 | nes e ih=>intro cs x r;obtain ⟨⟨a,cap,row,e1,_⟩,_⟩:=r;simp [e1,Ty.n]
theorem Seq.at {α:Type} {R:List Value->α->Prop} {n:Nat} (h:∀ cs x,R cs x->cs.length=n):∀ {cs:List Value} {xs:List α} (i:Nat) {x:α},Seq R cs xs->xs[i]? = some x->
  ∃ c0 c1 c2,cs=c0++(c1++c2)/\c0.length=i * n/\R c1 x
 | _,[],i,_,s,e=>by simp at e
 | _,x::xs,0,y,⟨c1,c2,e,r,s⟩,hy=>by simp at hy;subst hy;exact ⟨[],c1,c2,by simp [e],by simp,r⟩
 | _,x::xs,i+1,y,⟨c1,c2,e,r,s⟩,hy=>by
  obtain ⟨d0,d1,d2,e',l,r'⟩:=Seq.at h i s (by simpa using hy)
  exact ⟨c1++d0,d1,d2,by simp [e,e'],by rw [AQ,h _ _ r,l,Nat.add_mul];omega,r'⟩
theorem Seq.set {α:Type} {R:List Value->α->Prop} {n:Nat} (h:∀ cs x,R cs x->cs.length=n):∀ {cs:List Value} {xs:List α} (i:Nat) {c0 c1 c2 d1:List Value} {y:α},Seq R cs xs->i < xs.length->
  cs=c0++(c1++c2)->c0.length=i * n->c1.length=n->R d1 y->Seq R (c0++(d1++c2)) (xs.set i y)
 | _,[],i,_,_,_,_,_,s,e,_,_,_,_=>by simp at e
 | _,x::xs,0,c0,c1,c2,d1,y,⟨e1,e2,e,r,s⟩,_,hc,h0,h1,hr=>by
  have:c0=[]:=Ar (by simpa using h0)
  subst this
  simp only [List.nil_append] at hc ⊢
  have:=List.append_inj (hc.symm.trans e) (by rw [h1,h _ _ r])
  rw [this.2]
  exact ⟨d1,e2,rfl,hr,s⟩
 | _,x::xs,i+1,c0,c1,c2,d1,y,⟨e1,e2,e,r,s⟩,hi,hc,h0,h1,hr=>by
  have hl:=h _ _ r
  have hle:e1.length<=c0.length:=by rw [hl,h0,Nat.add_mul];omega
  have h':c0++(c1++c2)=e1++e2:=hc.symm.trans e
  obtain ⟨f0,rfl⟩:∃ f0,c0=e1++f0:=by
   refine ⟨c0.drop e1.length,?_⟩
   have h2:(c0++(c1++c2)).take e1.length=e1:=by rw [h',List.take_left]
   rw [List.take_append_of_le_length hle] at h2
   conv=>lhs;rw [<- List.take_append_drop e1.length c0,h2]
  rw [Ab] at h'
  have h3:=List.append_cancel_left h'
  refine ⟨e1,f0++(d1++c2),by simp,r,?_⟩
  refine Seq.set h i s (by simpa using hi) h3.symm ?_ h1 hr
  rw [AQ,hl,Nat.add_mul] at h0
  omega
theorem Seq.append {α:Type} {R:List Value->α->Prop}:∀ {cs ds:List Value} {xs ys:List α},Seq R cs xs->Seq R ds ys->Seq R (cs++ds) (xs++ys)
 | _,_,[],_,s,t=>by simp only [Seq] at s;subst s;exact t
 | _,_,_::_,_,⟨c1,c2,e,r,s⟩,t=>⟨c1,c2++_,by simp [e],r,Seq.append s t⟩
theorem Seq.cut {α:Type} {R:List Value->α->Prop} {n:Nat} (h:∀ cs x,R cs x->cs.length=n):∀ {cs:List Value} {xs:List α} (i:Nat),Seq R cs xs->i<=xs.length->
  ∃ c0 c1,cs=c0++c1/\c0.length=i * n/\Seq R c0 (xs.take i)/\Seq R c1 (xs.drop i)
 | cs,xs,0,s,_=>⟨[],cs,rfl,by simp,by simp [Seq],by simpa using s⟩
 | _,[],i+1,s,hi=>by simp at hi
 | _,x::xs,i+1,⟨c1,c2,e,r,s⟩,hi=>by
  obtain ⟨d0,d1,e',l,s0,s1⟩:=Seq.cut h i s (by simpa using hi)
  exact ⟨c1++d0,d1,by simp [e,e'],by rw [AQ,h _ _ r,l,Nat.add_mul];omega,⟨c1,d0,rfl,r,s0⟩,s1⟩
theorem Row.left {M:Own} {w:World} {b o:Nat} {c0 c1:List Value} (r:Row M w b o (c0++c1)):Row M w b o c0:=λi hi=>by
 have:=r i (by simp;omega)
 rwa [Ao hi] at this
theorem Row.right {M:Own} {w:World} {b o:Nat} {c0 c1:List Value} (r:Row M w b o (c0++c1)):Row M w b (o+c0.length) c1:=λi hi=>by
 have:=r (c0.length+i) (by simp;omega)
 rw [Ap (by omega),show c0.length+i - c0.length=i by omega,<- Nat.add_assoc] at this
 exact this
theorem Row.append {M:Own} {w:World} {b o:Nat} {c0 c1:List Value} (r:Row M w b o c0) (s:Row M w b (o+c0.length) c1):Row M w b o (c0++c1):=λi hi=>by
 by_cases h:i < c0.length
 ·rw [Ao h];exact r i h
 ·rw [Ap (by omega)]
  have:=s (i - c0.length) (by simp at hi;omega)
  rwa [show o+c0.length+(i - c0.length)=o+i by omega] at this
theorem EA.flat {M M':Own} {w w':World}:∀ {t:Ty} {cs:List Value} {x:t.den},t.flat=true->EA M w t cs x->EA M' w' t cs x:=by
 intro t
 induction t with
 | int k=>intro cs x _ r;exact r
 | bool=>intro cs x _ r;exact r
 | str=>intro cs x _ r;exact r
 | slice e ih=>intro cs x h;simp [Ty.flat] at h
 | arr n e ih=>intro cs x h r;exact ⟨r.1,r.2.mono (λ_ _ r=>ih h r)⟩
 | unit=>intro cs x _ r;exact r
 | pair a b iha ihb=>intro cs x h r;simp [Ty.flat] at h;obtain ⟨c1,c2,e,r1,r2⟩:=r;exact ⟨c1,c2,e,iha h.1 r1,ihb h.2 r2⟩
 | ptr e ih=>intro cs x h;simp [Ty.flat] at h
 | UJ=>intro cs x h;simp [Ty.flat] at h
 | mp _ _=>intro cs x h;simp [Ty.flat] at h
 | fn=>intro cs x h;simp [Ty.flat] at h
 | nes e ih=>intro cs x h;simp [Ty.flat] at h
theorem cu.one {x:Option (Option (Nat×Int))} {v:Value} (h:cu x v):v.oneCell'=true:=by
 match x,h with
 | none,h=>subst h;rfl
 | some none,⟨t,u,h⟩=>subst h;rfl
 | some (some p),h=>subst h;rfl
theorem cu.cells {x:Option (Option (Nat×Int))} {v:Value} (h:cu x v):v.cells = #[v]:=by
 match x,h with
 | none,h=>subst h;rfl
 | some none,⟨t,u,h⟩=>subst h;rfl
 | some (some p),h=>subst h;rfl
theorem EA.oneCell {M:Own} {w:World}:∀ {t:Ty} {cs:List Value} {x:t.den},EA M w t cs x->∀ v∈cs,v.oneCell'=true:=by
 have seq:∀ {α:Type} {R:List Value->α->Prop},(∀ cs x,R cs x->∀ v∈cs,v.oneCell'=true)->∀ {cs:List Value} {xs:List α},Seq R cs xs->∀ v∈cs,v.oneCell'=true:=by
  intro α R h cs xs
  induction xs generalizing cs with
  | nil=>intro s;simp only [Seq] at s;subst s;simp
  | cons x xs ih=>
   intro s v hv
   obtain ⟨c1,c2,rfl,r,s⟩:=s
   rcases List.mem_append.1 hv with hv | hv
   ·exact h _ _ r v hv
   ·exact ih s v hv
 intro t
 induction t with
 | int k=>intro cs x r v hv;obtain ⟨rfl,_⟩:=r;simp at hv;subst hv;rfl
 | bool=>intro cs x r v hv;simp only [EA] at r;subst r;simp at hv;subst hv;rfl
 | str=>intro cs x r v hv;obtain ⟨s,rfl,_⟩:=r;simp at hv;subst hv;rfl
 | slice e ih=>intro cs x r v hv;obtain ⟨a,cap,row,rfl,_⟩:=r;simp at hv;subst hv;rfl
 | arr n e ih=>intro cs x r;exact seq (λ_ _ r=>ih r) r.2
 | unit=>intro cs x r v hv;simp only [EA] at r;subst r;simp at hv
 | pair a b iha ihb=>
  intro cs x r v hv
  obtain ⟨c1,c2,rfl,r1,r2⟩:=r
  rcases List.mem_append.1 hv with hv | hv
  ·exact iha r1 v hv
  ·exact ihb r2 v hv
 | ptr e ih=>intro cs x r v hv;obtain ⟨b,o,row,rfl,_⟩:=r;simp at hv;subst hv;rfl
 | UJ=>
  intro cs x r v hv
  obtain ⟨u,rfl,hu⟩:=r
  simp at hv
  subst hv
  exact cu.one hu
 | mp _ _=>intro cs x r;exact r.elim
 | fn=>intro cs x r;exact r.elim
 | nes e ih=>intro cs x r v hv;obtain ⟨⟨a,cap,row,rfl,_⟩,_⟩:=r;simp at hv;subst hv;rfl
theorem toV_cells {M:Own} {w:World} {t:Ty} {cs:List Value} {x:t.den} (r:EA M w t cs x):(toV t cs).cells=cs.toArray:=by
 cases t with
 | int k=>obtain ⟨rfl,_⟩:=r;rfl
 | bool=>simp only [EA] at r;subst r;rfl
 | str=>obtain ⟨s,rfl,_⟩:=r;rfl
 | slice e=>obtain ⟨a,cap,row,rfl,_⟩:=r;rfl
 | ptr e=>obtain ⟨b,o,row,rfl,_⟩:=r;rfl
 | UJ=>obtain ⟨v,rfl,h⟩:=r;exact h.cells
 | mp _ _=>exact r.elim
 | fn=>exact r.elim
 | nes e=>obtain ⟨⟨a,cap,row,rfl,_⟩,_⟩:=r;rfl
 | arr n e=>rfl
 | unit=>rfl
 | pair a b=>rfl
end Go.Lift
