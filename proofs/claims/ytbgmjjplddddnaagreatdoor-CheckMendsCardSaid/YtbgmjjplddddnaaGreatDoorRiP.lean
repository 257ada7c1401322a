import Derived.Test.YtbgmjjplddddnaaGreatDoorRiO
set_option linter.unusedSimpArgs false
namespace Go.Lift
def D6 (i:Nat):Code->Bool
 | .region id _ _=>Nat.beq id i
 | .seq a b=>D6 i a||D6 i b
 | .cond _ a b=>D6 i a||D6 i b
 | .block _ c=>D6 i c
 | .loop c=>D6 i c
 | _=>false
def GX (i:Nat):Code->Nat
 | .seq a b=>bif D6 i a then GX i a else GX i b
 | .cond _ a b=>bif D6 i a then GX i a else GX i b
 | .block _ c=>GX i c
 | .loop c=>GX i c+1
 | _=>0
def Uw:Code->Nat
 | .seq a b=>Uw a+Uw b
 | .cond _ a b=>Uw a+Uw b
 | .block _ c=>Uw c
 | .loop c=>Uw c+1
 | _=>0
def ES (i:Nat):Code->Bool
 | .seq a b=>ES i a||ES i b
 | .cond _ a b=>ES i a||ES i b
 | .block _ c=>ES i c
 | .loop c=>ES i c
 | .rangeFunc _ _ a _=>D6 i a
 | _=>false
def Kw (i:Nat):Code->Nat
 | .seq a b=>bif ES i a then Kw i a else Kw i b
 | .cond _ a b=>bif ES i a then Kw i a else Kw i b
 | .block _ c=>Kw i c
 | .loop c=>Kw i c+1
 | _=>0
def GV (i:Nat):Code->Code
 | .seq a b=>bif ES i a then GV i a else GV i b
 | .cond _ a b=>bif ES i a then GV i a else GV i b
 | .block _ c=>GV i c
 | .loop c=>GV i c
 | .rangeFunc _ _ _ b=>b
 | c=>c
def Kr (i:Nat):Code->Code
 | .seq a b=>bif ES i a then Kr i a else Kr i b
 | .cond _ a b=>bif ES i a then Kr i a else Kr i b
 | .block _ c=>Kr i c
 | .loop c=>Kr i c
 | .rangeFunc _ _ a _=>a
 | c=>c
def Qh (i:Nat):Code->Array Tmp
 | .seq a b=>bif ES i a then Qh i a else Qh i b
 | .cond _ a b=>bif ES i a then Qh i a else Qh i b
 | .block _ c=>Qh i c
 | .loop c=>Qh i c
 | .rangeFunc _ ps _ _=>ps
 | _=>#[]
def Zq (fn:Func) (i:Nat) (lt:LT) (state:LoopState) (jump:Option Code):LQ:=
 match fn.body with
 | some c=>⟨Qh i c,Kr i c,GV i c,lt,state,jump⟩
 | none=>⟨#[],.skip,.skip,lt,state,jump⟩
inductive PE where
 | call (rg i:Nat) (g:FuncId)
 | rng (rg:Nat) (g:FuncId)
 | Zn (rg i n:Nat)
def Xw {X:Type}:List X->Nat->Option X
 | [],_=>none
 | x::_,0=>some x
 | _::r,n+1=>Xw r n
section
variable {α:Type}
def Ik [DecidableEq α] (E:Bn) (H:Tg->St->(St->RV->Option α)->Option α) (lt:LT) (N:Nat) (S:Nat->St->Option α):Code->Nat->Nat->(St->Option α)->(Nat->St->Option α)->(St->Option α)->(St->Option α)->St->Option α
 | .seq a b,k,d,kn,kx,kr=>bif Nat.blt k (Uw a) then Ik E H lt N S a k d (Sb lt b (DW E H lt N b kn kx kr)) kx kr else Ik E H lt N S b (k - Uw a) d kn kx kr
 | .cond _ a b,k,d,kn,kx,kr=>bif Nat.blt k (Uw a) then Ik E H lt N S a k d kn kx kr else Ik E H lt N S b (k - Uw a) d kn kx kr
 | .block id c,k,d,kn,kx,kr=>Ik E H lt N S c k d kn (fun j st=>bif Nat.beq j id then kn st else kx j st) kr
 | .loop c,k,d,_,kx,kr=>bif Nat.beq k 0 then fun self st=>DW E H lt N c (fun st=>self (Ga lt c st)) kx kr st else Ik E H lt N S c (k - 1) (d+1) (fun st=>S d (Ga lt c st)) kx kr
 | _,_,_,_,_,_=>fun _ _=>none
def Gp [DecidableEq α] (E:Bn) (H:Tg->St->(St->RV->Option α)->Option α) (lt:LT) (N:Nat) (S:Nat->St->Option α) (rg i:Nat):Code->Nat->(St->Option α)->(Nat->St->Option α)->(St->Option α)->St->RV->Option α
 | .region _ ops _,_,kn,_,_=>fun st rv=>Jp E H lt ops (ops.toList.drop (i+1)) (Ch (pop st) ((ops[i]?).bind (·.dst)) rv) kn
 | .seq a b,d,kn,kx,kr=>bif D6 rg a then Gp E H lt N S rg i a d (Sb lt b (DW E H lt N b kn kx kr)) kx kr else Gp E H lt N S rg i b d kn kx kr
 | .cond _ a b,d,kn,kx,kr=>bif D6 rg a then Gp E H lt N S rg i a d kn kx kr else Gp E H lt N S rg i b d kn kx kr
 | .block id c,d,kn,kx,kr=>Gp E H lt N S rg i c d kn (fun j st=>bif Nat.beq j id then kn st else kx j st) kr
 | .loop c,d,_,kx,kr=>Gp E H lt N S rg i c (d+1) (fun st=>S d (Ga lt c st)) kx kr
 | _,_,_,_,_=>fun _ _=>none
def PS [DecidableEq α] (E:Bn) (H:Tg->St->(St->RV->Option α)->Option α) (lt:LT) (N:Nat) (S:Nat->St->Option α) (rg:Nat):Code->Nat->(St->Option α)->(Nat->St->Option α)->(St->Option α)->St->Option α
 | .rangeFunc _ _ _ _,_,kn,kx,kr=>Kg kn kx kr
 | .seq a b,d,kn,kx,kr=>bif ES rg a then PS E H lt N S rg a d (Sb lt b (DW E H lt N b kn kx kr)) kx kr else PS E H lt N S rg b d kn kx kr
 | .cond _ a b,d,kn,kx,kr=>bif ES rg a then PS E H lt N S rg a d kn kx kr else PS E H lt N S rg b d kn kx kr
 | .block id c,d,kn,kx,kr=>PS E H lt N S rg c d kn (fun j st=>bif Nat.beq j id then kn st else kx j st) kr
 | .loop c,d,_,kx,kr=>PS E H lt N S rg c (d+1) (fun st=>S d (Ga lt c st)) kx kr
 | _,_,_,_,_=>fun _=>none
def LG [DecidableEq α] (E:Bn) (H:Tg->St->(St->RV->Option α)->Option α) (lt:LT) (N:Nat) (S:Nat->St->Option α) (t:Nat):Code->Nat->(St->Option α)->(Nat->St->Option α)->(St->Option α)->St->Option α
 | .seq a b,d,kn,kx,kr=>bif (match rid b with | some i=>Nat.beq i t | none=>false) then DW E H lt N b kn kx kr else bif D6 t a then LG E H lt N S t a d (Sb lt b (DW E H lt N b kn kx kr)) kx kr else LG E H lt N S t b d kn kx kr
 | .cond _ a b,d,kn,kx,kr=>bif D6 t a then LG E H lt N S t a d kn kx kr else LG E H lt N S t b d kn kx kr
 | .block id c,d,kn,kx,kr=>LG E H lt N S t c d kn (fun j st=>bif Nat.beq j id then kn st else kx j st) kr
 | .loop c,d,_,kx,kr=>LG E H lt N S t c (d+1) (fun st=>S d (Ga lt c st)) kx kr
 | _,_,_,_,_=>fun _=>none
def SB [DecidableEq α] (E:Bn) (N:Nat) (S:Nat->St->Option α) (fin:Nat->LT->Code->Nat->(St->Option α)->(Nat->St->Option α)->(St->Option α)->(St->Option α)->St->Option α):Nat->List PE->List (Code×LT)->LT->Code->Nat->(St->Option α)->(Nat->St->Option α)->(St->Option α)->(St->Option α)->St->Option α
 | lv,[],_,lt,c,d,kn,kx,kr=>fin lv lt c d kn kx kr
 | lv+1,.call rg i g::p,ys,lt,c,d,kn,kx,kr=>match lk g E.inl with
  | some (fn,lt')=>match fn.body with
   | some c'=>SB E N S fin lv p ys lt' c' (d+GX rg c) (fun st=>(FX E st fn.results.toList).bind fun vs=>Gp E (hnd E N (lv+1)) lt N S rg i c d kn kx kr st (Gn vs)) (fun _ _=>none)
     (fun st=>(FX E st fn.results.toList).bind fun vs=>Gp E (hnd E N (lv+1)) lt N S rg i c d kn kx kr st (Gn vs))
   | none=>fun _ _=>none
  | none=>fun _ _=>none
 | lv+1,.rng rg g::p,ys,lt,c,d,kn,kx,kr=>match lk g E.inl with
  | some (fn,lt')=>match fn.body with
   | some c'=>SB E N S fin lv p ((GV rg c,lt)::ys) lt' c' (d+Kw rg c) (fun st=>(FX E st fn.results.toList).bind fun _=>PS E (hnd E N (lv+1)) lt N S rg c d kn kx kr st) (fun _ _=>none)
     (fun st=>(FX E st fn.results.toList).bind fun _=>PS E (hnd E N (lv+1)) lt N S rg c d kn kx kr st)
   | none=>fun _ _=>none
  | none=>fun _ _=>none
 | lv+1,.Zn rg i n::p,ys,lt,c,d,kn,kx,kr=>match Xw ys n with
  | some (b,lt')=>SB E N S fin lv p ys lt' b (d+GX rg c) (Oh none true (Gp E (hnd E N (lv+1)) lt N S rg i c d kn kx kr)) (fun j=>Oh (some (.exit j)) false (Gp E (hnd E N (lv+1)) lt N S rg i c d kn kx kr)) (Oh (some .ret) false (Gp E (hnd E N (lv+1)) lt N S rg i c d kn kx kr))
  | none=>fun _ _=>none
 | 0,_::_,_,_,_,_,_,_,_=>fun _ _=>none
end
def Vq (E:Bn) (lt:LT) (lv N:Nat) (fn:Func) (rs:List Ty) (os:List Bool) (p:List PE) (S:Nat->St->Option (BP rs)) (fin:Nat->LT->Code->Nat->(St->Option (BP rs))->(Nat->St->Option (BP rs))->(St->Option (BP rs))->(St->Option (BP rs))->St->Option (BP rs)):(St->Option (BP rs))->St->Option (BP rs):=
 match fn.body with
 | some c=>SB E N S fin lv p [] lt c 0 (fun st=>(FX E st fn.results.toList).bind fun vs=>FV st.l (ET (El os vs) st.l) (H7 (El os vs)) rs os vs some) (fun _ _=>none)
   (fun st=>(FX E st fn.results.toList).bind fun vs=>FV st.l (ET (El os vs) st.l) (H7 (El os vs)) rs os vs some)
 | none=>fun _ _=>none
def ZR (E:Bn) (lt:LT) (lv N:Nat) (fn:Func) (rs:List Ty) (os:List Bool) (p:List PE) (k:Nat) (S:Nat->St->Option (BP rs)):(St->Option (BP rs))->St->Option (BP rs):=
 Vq E lt lv N fn rs os p S fun lv lt c d kn kx kr=>Ik E (hnd E N lv) lt N S c k d kn kx kr
def Zf (E:Bn) (lt:LT) (lv N:Nat) (fn:Func) (rs:List Ty) (os:List Bool) (p:List PE) (t:Nat) (S:Nat->St->Option (BP rs)):St->Option (BP rs):=
 Vq E lt lv N fn rs os p S (fun lv lt c d kn kx kr _=>LG E (hnd E N lv) lt N S t c d kn kx kr) fun _=>none
def WO (E:Bn) (lt:LT) (lv N:Nat) (fn:Func) (c:FB) (y:FH c.bp) (p:List PE) (S:Nat->St->Option (wD c.bp c.w×BP c.rs)) (fin:Nat->LT->Code->Nat->(St->Option (wD c.bp c.w×BP c.rs))->(Nat->St->Option (wD c.bp c.w×BP c.rs))->(St->Option (wD c.bp c.w×BP c.rs))->(St->Option (wD c.bp c.w×BP c.rs))->St->Option (wD c.bp c.w×BP c.rs)):(St->Option (wD c.bp c.w×BP c.rs))->St->Option (wD c.bp c.w×BP c.rs):=
 match fn.body with
 | some code=>SB E N S fin lv p [] lt code 0 (Md E fn c y) (fun _ _=>none) (Md E fn c y)
 | none=>fun _ _=>none
def Y6 (E:Bn) (lt:LT) (lv N:Nat) (fn:Func) (c:FB) (y:FH c.bp) (p:List PE) (k:Nat) (S:Nat->St->Option (wD c.bp c.w×BP c.rs)):(St->Option (wD c.bp c.w×BP c.rs))->St->Option (wD c.bp c.w×BP c.rs):=
 WO E lt lv N fn c y p S fun lv lt code d kn kx kr=>Ik E (hnd E N lv) lt N S code k d kn kx kr
def Y5 (E:Bn) (lt:LT) (lv N:Nat) (fn:Func) (e:Ty) (p:List PE) (k:Nat) (S:Nat->St->Option (Ty.slice e).den):(St->Option (Ty.slice e).den)->St->Option (Ty.slice e).den:=
 match fn.body with
 | some code=>@SB _ (FI (.slice e)) E N S (fun lv lt code d kn kx kr=>@Ik _ (FI (.slice e)) E (@hnd _ (FI (.slice e)) E N lv) lt N S code k d kn kx kr) lv p [] lt code 0 (Mc E fn e) (fun _ _=>none) (Mc E fn e)
 | none=>fun _ _=>none
def Yx {α:Type} (s0:St->Option α) (S:Nat->St->Option α):Nat->St->Option α
 | 0=>s0
 | n+1=>S n
def Xv {α:Type}:Nat->St->Option α:=fun _ _=>none
def Gb {V α:Type} (g:(V->Option α)->V->Option α):Nat->V->Option α
 | 0=>fun _=>none
 | n+1=>g (Gb g n)
theorem Tf {V α:Type} {f:(St->Option α)->St->Option α} (Vo:V->St) {g:(V->Option α)->V->Option α} (h:∀ self v,f self (Vo v)=g (fun v=>self (Vo v)) v):∀ N v,Ot f N (Vo v)=Gb g N v
 | 0,_=>rfl
 | n+1,v=>by
  show f (Ot f n) (Vo v)=g (Gb g n) v
  rw [h]
  congr 1
  funext v
  exact Tf Vo h n v
theorem Xp {V α:Type} {f:St->Option α} {Vo:V->St} {g:V->Option α} (h:∀ v,f (Vo v)=g v):(fun v=>Vu f (Vo v))=g:=funext h
theorem R9 {V α:Type} {g:(V->Option α)->V->Option α} (I:V->Prop) (m:V->Nat) (R:V->Option α) (h:∀ v self,I v->(∀ v',I v'->m v' < m v->self v'=R v')->g self v=R v) :
  ∀ N v,I v->m v < N->Gb g N v=R v
 | 0,_,_,h=>by omega
 | n+1,v,hI,hm=>h v _ hI fun v' h1 h2=>R9 I m R h n v' h1 (by omega)
theorem Vl {k:IntKind} {n:Int} (h:k.min<=n/\n<=k.max):k.wrap n=n:=by
 cases k <;> simp [IntKind.min,IntKind.max,IntKind.wrap,IntKind.signed,IntKind.bits] at * <;> (try split) <;> omega
theorem wrap_i64 {n:Int} (h : -9223372036854775808<=n) (h':n<=9223372036854775807):IntKind.i64.wrap n=n:=Vl ⟨h,h'⟩
theorem TR {α:Type} (xs:List α) (i:Nat):Nk xs (i:Int)=xs[i]?:=by
 have:decide ((0:Int)<=(i:Int))=true:=by simp
 rw [Nk,this]
 simp
def big:Nat:=18446744073709551616
end Go.Lift
