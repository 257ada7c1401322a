import Derived.Test.YtbgmjjplddddnaaGreatDoorRiO
namespace Go.Lift
def Cw (i:Nat):Code->Bool
 | .region id _ _=>Nat.beq id i
 | .seq a b=>Cw i a||Cw i b
 | .cond _ a b=>Cw i a||Cw i b
 | .block _ c=>Cw i c
 | .loop c=>Cw i c
 | _=>false
def FP (i:Nat):Code->Nat
 | .seq a b=>bif Cw i a then FP i a else FP i b
 | .cond _ a b=>bif Cw i a then FP i a else FP i b
 | .block _ c=>FP i c
 | .loop c=>FP i c+1
 | _=>0
def Tw:Code->Nat
 | .seq a b=>Tw a+Tw b
 | .cond _ a b=>Tw a+Tw b
 | .block _ c=>Tw c
 | .loop c=>Tw c+1
 | _=>0
def DZ (i:Nat):Code->Bool
 | .seq a b=>DZ i a||DZ i b
 | .cond _ a b=>DZ i a||DZ i b
 | .block _ c=>DZ i c
 | .loop c=>DZ i c
 | .rangeFunc _ _ a _=>Cw i a
 | _=>false
def J8 (i:Nat):Code->Nat
 | .seq a b=>bif DZ i a then J8 i a else J8 i b
 | .cond _ a b=>bif DZ i a then J8 i a else J8 i b
 | .block _ c=>J8 i c
 | .loop c=>J8 i c+1
 | _=>0
def FN (i:Nat):Code->Code
 | .seq a b=>bif DZ i a then FN i a else FN i b
 | .cond _ a b=>bif DZ i a then FN i a else FN i b
 | .block _ c=>FN i c
 | .loop c=>FN i c
 | .rangeFunc _ _ _ b=>b
 | c=>c
def J4 (i:Nat):Code->Code
 | .seq a b=>bif DZ i a then J4 i a else J4 i b
 | .cond _ a b=>bif DZ i a then J4 i a else J4 i b
 | .block _ c=>J4 i c
 | .loop c=>J4 i c
 | .rangeFunc _ _ a _=>a
 | c=>c
def Po (i:Nat):Code->Array Tmp
 | .seq a b=>bif DZ i a then Po i a else Po i b
 | .cond _ a b=>bif DZ i a then Po i a else Po i b
 | .block _ c=>Po i c
 | .loop c=>Po i c
 | .rangeFunc _ ps _ _=>ps
 | _=>#[]
def Y3 (fn:Func) (i:Nat) (lt:LT) (state:LoopState) (jump:Option Code):LQ:=
 match fn.body with
 | some c=>⟨Po i c,J4 i c,FN i c,lt,state,jump⟩
 | none=>⟨#[],.skip,.skip,lt,state,jump⟩
inductive PE where
 | call (rg i:Nat) (g:FuncId)
 | rng (rg:Nat) (g:FuncId)
 | Y0 (rg i n:Nat)
def Wy {X:Type}:List X->Nat->Option X
 | [],_=>none
 | x::_,0=>some x
 | _::r,n+1=>Wy r n
section
variable {α:Type}
def G9 [DecidableEq α] (E:Aj) (H:Tg->St->(St->RV->Option α)->Option α) (lt:LT) (N:Nat) (S:Nat->St->Option α):Code->Nat->Nat->(St->Option α)->(Nat->St->Option α)->(St->Option α)->(St->Option α)->St->Option α
 | .seq a b,k,d,kn,kx,kr=>bif Nat.blt k (Tw a) then G9 E H lt N S a k d (Rb lt b (CP E H lt N b kn kx kr)) kx kr else G9 E H lt N S b (k - Tw a) d kn kx kr
 | .cond _ a b,k,d,kn,kx,kr=>bif Nat.blt k (Tw a) then G9 E H lt N S a k d kn kx kr else G9 E H lt N S b (k - Tw a) d kn kx kr
 | .block id c,k,d,kn,kx,kr=>G9 E H lt N S c k d kn (fun j st=>bif Nat.beq j id then kn st else kx j st) kr
 | .loop c,k,d,_,kx,kr=>bif Nat.beq k 0 then fun self st=>CP E H lt N c (fun st=>self (FT lt c st)) kx kr st else G9 E H lt N S c (k - 1) (d+1) (fun st=>S d (FT lt c st)) kx kr
 | _,_,_,_,_,_=>fun _ _=>none
def Fj [DecidableEq α] (E:Aj) (H:Tg->St->(St->RV->Option α)->Option α) (lt:LT) (N:Nat) (S:Nat->St->Option α) (rg i:Nat):Code->Nat->(St->Option α)->(Nat->St->Option α)->(St->Option α)->St->RV->Option α
 | .region _ ops _,_,kn,_,_=>fun st rv=>I4 E H lt ops (ops.toList.drop (i+1)) (BQ (pop st) ((ops[i]?).bind (·.dst)) rv) kn
 | .seq a b,d,kn,kx,kr=>bif Cw rg a then Fj E H lt N S rg i a d (Rb lt b (CP E H lt N b kn kx kr)) kx kr else Fj E H lt N S rg i b d kn kx kr
 | .cond _ a b,d,kn,kx,kr=>bif Cw rg a then Fj E H lt N S rg i a d kn kx kr else Fj E H lt N S rg i b d kn kx kr
 | .block id c,d,kn,kx,kr=>Fj E H lt N S rg i c d kn (fun j st=>bif Nat.beq j id then kn st else kx j st) kr
 | .loop c,d,_,kx,kr=>Fj E H lt N S rg i c (d+1) (fun st=>S d (FT lt c st)) kx kr
 | _,_,_,_,_=>fun _ _=>none
def OO [DecidableEq α] (E:Aj) (H:Tg->St->(St->RV->Option α)->Option α) (lt:LT) (N:Nat) (S:Nat->St->Option α) (rg:Nat):Code->Nat->(St->Option α)->(Nat->St->Option α)->(St->Option α)->St->Option α
 | .rangeFunc _ _ _ _,_,kn,kx,kr=>Jr kn kx kr
 | .seq a b,d,kn,kx,kr=>bif DZ rg a then OO E H lt N S rg a d (Rb lt b (CP E H lt N b kn kx kr)) kx kr else OO E H lt N S rg b d kn kx kr
 | .cond _ a b,d,kn,kx,kr=>bif DZ rg a then OO E H lt N S rg a d kn kx kr else OO E H lt N S rg b d kn kx kr
 | .block id c,d,kn,kx,kr=>OO E H lt N S rg c d kn (fun j st=>bif Nat.beq j id then kn st else kx j st) kr
 | .loop c,d,_,kx,kr=>OO E H lt N S rg c (d+1) (fun st=>S d (FT lt c st)) kx kr
 | _,_,_,_,_=>fun _=>none
def KO [DecidableEq α] (E:Aj) (H:Tg->St->(St->RV->Option α)->Option α) (lt:LT) (N:Nat) (S:Nat->St->Option α) (t:Nat):Code->Nat->(St->Option α)->(Nat->St->Option α)->(St->Option α)->St->Option α
 | .seq a b,d,kn,kx,kr=>bif (match rid b with | some i=>Nat.beq i t | none=>false) then CP E H lt N b kn kx kr else bif Cw t a then KO E H lt N S t a d (Rb lt b (CP E H lt N b kn kx kr)) kx kr else KO E H lt N S t b d kn kx kr
 | .cond _ a b,d,kn,kx,kr=>bif Cw t a then KO E H lt N S t a d kn kx kr else KO E H lt N S t b d kn kx kr
 | .block id c,d,kn,kx,kr=>KO E H lt N S t c d kn (fun j st=>bif Nat.beq j id then kn st else kx j st) kr
 | .loop c,d,_,kx,kr=>KO E H lt N S t c (d+1) (fun st=>S d (FT lt c st)) kx kr
 | _,_,_,_,_=>fun _=>none
def RG [DecidableEq α] (E:Aj) (N:Nat) (S:Nat->St->Option α) (fin:Nat->LT->Code->Nat->(St->Option α)->(Nat->St->Option α)->(St->Option α)->(St->Option α)->St->Option α):Nat->List PE->List (Code×LT)->LT->Code->Nat->(St->Option α)->(Nat->St->Option α)->(St->Option α)->(St->Option α)->St->Option α
 | lv,[],_,lt,c,d,kn,kx,kr=>fin lv lt c d kn kx kr
 | lv+1,.call rg i g::p,ys,lt,c,d,kn,kx,kr=>match lk g E.inl with
  | some (fn,lt')=>match fn.body with
   | some c'=>RG E N S fin lv p ys lt' c' (d+FP rg c) (fun st=>(Ea E st fn.results.toList).bind fun vs=>Fj E (hnd E N (lv+1)) lt N S rg i c d kn kx kr st (Fh vs)) (fun _ _=>none)
     (fun st=>(Ea E st fn.results.toList).bind fun vs=>Fj E (hnd E N (lv+1)) lt N S rg i c d kn kx kr st (Fh vs))
   | none=>fun _ _=>none
  | none=>fun _ _=>none
 | lv+1,.rng rg g::p,ys,lt,c,d,kn,kx,kr=>match lk g E.inl with
  | some (fn,lt')=>match fn.body with
   | some c'=>RG E N S fin lv p ((FN rg c,lt)::ys) lt' c' (d+J8 rg c) (fun st=>(Ea E st fn.results.toList).bind fun _=>OO E (hnd E N (lv+1)) lt N S rg c d kn kx kr st) (fun _ _=>none)
     (fun st=>(Ea E st fn.results.toList).bind fun _=>OO E (hnd E N (lv+1)) lt N S rg c d kn kx kr st)
   | none=>fun _ _=>none
  | none=>fun _ _=>none
 | lv+1,.Y0 rg i n::p,ys,lt,c,d,kn,kx,kr=>match Wy ys n with
  | some (b,lt')=>RG E N S fin lv p ys lt' b (d+FP rg c) (Ni none true (Fj E (hnd E N (lv+1)) lt N S rg i c d kn kx kr)) (fun j=>Ni (some (.exit j)) false (Fj E (hnd E N (lv+1)) lt N S rg i c d kn kx kr)) (Ni (some .ret) false (Fj E (hnd E N (lv+1)) lt N S rg i c d kn kx kr))
  | none=>fun _ _=>none
 | 0,_::_,_,_,_,_,_,_,_=>fun _ _=>none
end
def U1 (E:Aj) (lt:LT) (lv N:Nat) (fn:Func) (rs:List Ty) (os:List Bool) (p:List PE) (S:Nat->St->Option (AL rs)) (fin:Nat->LT->Code->Nat->(St->Option (AL rs))->(Nat->St->Option (AL rs))->(St->Option (AL rs))->(St->Option (AL rs))->St->Option (AL rs)):(St->Option (AL rs))->St->Option (AL rs):=
 match fn.body with
 | some c=>RG E N S fin lv p [] lt c 0 (fun st=>(Ea E st fn.results.toList).bind fun vs=>EY st.l (Da (Du os vs) st.l) (Ga (Du os vs)) rs os vs some) (fun _ _=>none)
   (fun st=>(Ea E st fn.results.toList).bind fun vs=>EY st.l (Da (Du os vs) st.l) (Ga (Du os vs)) rs os vs some)
 | none=>fun _ _=>none
def Yg (E:Aj) (lt:LT) (lv N:Nat) (fn:Func) (rs:List Ty) (os:List Bool) (p:List PE) (k:Nat) (S:Nat->St->Option (AL rs)):(St->Option (AL rs))->St->Option (AL rs):=
 U1 E lt lv N fn rs os p S fun lv lt c d kn kx kr=>G9 E (hnd E N lv) lt N S c k d kn kx kr
def Yr (E:Aj) (lt:LT) (lv N:Nat) (fn:Func) (rs:List Ty) (os:List Bool) (p:List PE) (t:Nat) (S:Nat->St->Option (AL rs)):St->Option (AL rs):=
 U1 E lt lv N fn rs os p S (fun lv lt c d kn kx kr _=>KO E (hnd E N lv) lt N S t c d kn kx kr) fun _=>none
def VX (E:Aj) (lt:LT) (lv N:Nat) (fn:Func) (c:ED) (y:EJ c.bp) (p:List PE) (S:Nat->St->Option (wD c.bp c.w×AL c.rs)) (fin:Nat->LT->Code->Nat->(St->Option (wD c.bp c.w×AL c.rs))->(Nat->St->Option (wD c.bp c.w×AL c.rs))->(St->Option (wD c.bp c.w×AL c.rs))->(St->Option (wD c.bp c.w×AL c.rs))->St->Option (wD c.bp c.w×AL c.rs)):(St->Option (wD c.bp c.w×AL c.rs))->St->Option (wD c.bp c.w×AL c.rs):=
 match fn.body with
 | some code=>RG E N S fin lv p [] lt code 0 (Lb E fn c y) (fun _ _=>none) (Lb E fn c y)
 | none=>fun _ _=>none
def YL (E:Aj) (lt:LT) (lv N:Nat) (fn:Func) (c:ED) (y:EJ c.bp) (p:List PE) (k:Nat) (S:Nat->St->Option (wD c.bp c.w×AL c.rs)):(St->Option (wD c.bp c.w×AL c.rs))->St->Option (wD c.bp c.w×AL c.rs):=
 VX E lt lv N fn c y p S fun lv lt code d kn kx kr=>G9 E (hnd E N lv) lt N S code k d kn kx kr
def YK (E:Aj) (lt:LT) (lv N:Nat) (fn:Func) (e:Ty) (p:List PE) (k:Nat) (S:Nat->St->Option (Ty.slice e).den):(St->Option (Ty.slice e).den)->St->Option (Ty.slice e).den:=
 match fn.body with
 | some code=>@RG _ (EL (.slice e)) E N S (fun lv lt code d kn kx kr=>@G9 _ (EL (.slice e)) E (@hnd _ (EL (.slice e)) E N lv) lt N S code k d kn kx kr) lv p [] lt code 0 (La E fn e) (fun _ _=>none) (La E fn e)
 | none=>fun _ _=>none
def YC {α:Type} (s0:St->Option α) (S:Nat->St->Option α):Nat->St->Option α
 | 0=>s0
 | n+1=>S n
def Wx {α:Type}:Nat->St->Option α:=fun _ _=>none
def FU {V α:Type} (g:(V->Option α)->V->Option α):Nat->V->Option α
 | 0=>fun _=>none
 | n+1=>g (FU g n)
theorem SN {V α:Type} {f:(St->Option α)->St->Option α} (Uz:V->St) {g:(V->Option α)->V->Option α} (h:∀ self v,f self (Uz v)=g (fun v=>self (Uz v)) v):∀ N v,Ns f N (Uz v)=FU g N v
 | 0,_=>rfl
 | n+1,v=>by
  show f (Ns f n) (Uz v)=g (FU g n) v
  rw [h]
  congr 1
  funext v
  exact SN Uz h n v
theorem Ws {V α:Type} {f:St->Option α} {Uz:V->St} {g:V->Option α} (h:∀ v,f (Uz v)=g v):(fun v=>U5 f (Uz v))=g:=funext h
theorem RD {V α:Type} {g:(V->Option α)->V->Option α} (I:V->Prop) (m:V->Nat) (R:V->Option α) (h:∀ v self,I v->(∀ v',I v'->m v' < m v->self v'=R v')->g self v=R v) :
  ∀ N v,I v->m v < N->FU g N v=R v
 | 0,_,_,h=>by omega
 | n+1,v,hI,hm=>h v _ hI fun v' h1 h2=>RD I m R h n v' h1 (by omega)
theorem Uw {k:IntKind} {n:Int} (h:k.min<=n/\n<=k.max):k.wrap n=n:=by
 cases k <;> simp [IntKind.min,IntKind.max,IntKind.wrap,IntKind.signed,IntKind.bits] at * <;> (try split) <;> omega
theorem wrap_i64 {n:Int} (h : -9223372036854775808<=n) (h':n<=9223372036854775807):IntKind.i64.wrap n=n:=Uw ⟨h,h'⟩
theorem SC {α:Type} (xs:List α) (i:Nat):Mh xs (i:Int)=xs[i]?:=by
 have:decide ((0:Int)<=(i:Int))=true:=by simp
 rw [Mh,this]
 simp
def big:Nat:=18446744073709551616
end Go.Lift
