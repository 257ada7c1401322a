import Derived.Test.YtjcnhegjiffgpaaGreatDoorRiO
set_option linter.unusedSimpArgs false
namespace Go.Lift
def Ue (i:Nat):Code->Bool
 | .region id _ _=>Nat.beq id i
 | .seq a b=>Ue i a||Ue i b
 | .cond _ a b=>Ue i a||Ue i b
 | .block _ c=>Ue i c
 | .loop c=>Ue i c
 | _=>false
def ZT (i:Nat):Code->Nat
 | .seq a b=>bif Ue i a then ZT i a else ZT i b
 | .cond _ a b=>bif Ue i a then ZT i a else ZT i b
 | .block _ c=>ZT i c
 | .loop c=>ZT i c+1
 | _=>0
def nlp:Code->Nat
 | .seq a b=>nlp a+nlp b
 | .cond _ a b=>nlp a+nlp b
 | .block _ c=>nlp c
 | .loop c=>nlp c+1
 | _=>0
def TQ (i:Nat):Code->Bool
 | .seq a b=>TQ i a||TQ i b
 | .cond _ a b=>TQ i a||TQ i b
 | .block _ c=>TQ i c
 | .loop c=>TQ i c
 | .rangeFunc _ _ a _=>Ue i a
 | _=>false
def q9 (i:Nat):Code->Nat
 | .seq a b=>bif TQ i a then q9 i a else q9 i b
 | .cond _ a b=>bif TQ i a then q9 i a else q9 i b
 | .block _ c=>q9 i c
 | .loop c=>q9 i c+1
 | _=>0
def ZL (i:Nat):Code->Code
 | .seq a b=>bif TQ i a then ZL i a else ZL i b
 | .cond _ a b=>bif TQ i a then ZL i a else ZL i b
 | .block _ c=>ZL i c
 | .loop c=>ZL i c
 | .rangeFunc _ _ _ b=>b
 | c=>c
def qd (i:Nat):Code->Code
 | .seq a b=>bif TQ i a then qd i a else qd i b
 | .cond _ a b=>bif TQ i a then qd i a else qd i b
 | .block _ c=>qd i c
 | .loop c=>qd i c
 | .rangeFunc _ _ a _=>a
 | c=>c
def QEB (i:Nat):Code->Array Tmp
 | .seq a b=>bif TQ i a then QEB i a else QEB i b
 | .cond _ a b=>bif TQ i a then QEB i a else QEB i b
 | .block _ c=>QEB i c
 | .loop c=>QEB i c
 | .rangeFunc _ ps _ _=>ps
 | _=>#[]
def qOf (fn:Func) (i:Nat) (lt:LT) (state:LoopState) (jump:Option Code):LQ:=
 match fn.body with
 | some c=>⟨QEB i c,qd i c,ZL i c,lt,state,jump⟩
 | none=>⟨#[],.skip,.skip,lt,state,jump⟩
inductive PE where
 | call (rg i:Nat) (g:FuncId)
 | rng (rg:Nat) (g:FuncId)
 | yld (rg i n:Nat)
def QZk {X:Type}:List X->Nat->Option X
 | [],_=>none
 | x::_,0=>some x
 | _::r,n+1=>QZk r n
section
variable {α:Type}
def gQ [DecidableEq α] (E:CO) (H:Tg->St->(St->RV->Option α)->Option α) (lt:LT) (N:Nat) (S:Nat->St->Option α):Code->Nat->Nat->(St->Option α)->(Nat->St->Option α)->(St->Option α)->(St->Option α)->St->Option α
 | .seq a b,k,d,kn,kx,kr=>bif Nat.blt k (nlp a) then gQ E H lt N S a k d (QLq lt b (Om E H lt N b kn kx kr)) kx kr else gQ E H lt N S b (k - nlp a) d kn kx kr
 | .cond _ a b,k,d,kn,kx,kr=>bif Nat.blt k (nlp a) then gQ E H lt N S a k d kn kx kr else gQ E H lt N S b (k - nlp a) d kn kx kr
 | .block id c,k,d,kn,kx,kr=>gQ E H lt N S c k d kn (λj st=>bif Nat.beq j id then kn st else kx j st) kr
 | .loop c,k,d,_,kx,kr=>bif Nat.beq k 0 then λself st=>Om E H lt N c (λst=>self (dH lt c st)) kx kr st else gQ E H lt N S c (k - 1) (d+1) (λst=>S d (dH lt c st)) kx kr
 | _,_,_,_,_,_=>λ_ _=>none
def Zx [DecidableEq α] (E:CO) (H:Tg->St->(St->RV->Option α)->Option α) (lt:LT) (N:Nat) (S:Nat->St->Option α) (rg i:Nat):Code->Nat->(St->Option α)->(Nat->St->Option α)->(St->Option α)->St->RV->Option α
 | .region _ ops _,_,kn,_,_=>λst rv=>kZ E H lt ops (ops.toList.drop (i+1)) (Jd (pop st) ((ops[i]?).bind (·.dst)) rv) kn
 | .seq a b,d,kn,kx,kr=>bif Ue rg a then Zx E H lt N S rg i a d (QLq lt b (Om E H lt N b kn kx kr)) kx kr else Zx E H lt N S rg i b d kn kx kr
 | .cond _ a b,d,kn,kx,kr=>bif Ue rg a then Zx E H lt N S rg i a d kn kx kr else Zx E H lt N S rg i b d kn kx kr
 | .block id c,d,kn,kx,kr=>Zx E H lt N S rg i c d kn (λj st=>bif Nat.beq j id then kn st else kx j st) kr
 | .loop c,d,_,kx,kr=>Zx E H lt N S rg i c (d+1) (λst=>S d (dH lt c st)) kx kr
 | _,_,_,_,_=>λ_ _=>none
def QCW [DecidableEq α] (E:CO) (H:Tg->St->(St->RV->Option α)->Option α) (lt:LT) (N:Nat) (S:Nat->St->Option α) (rg:Nat):Code->Nat->(St->Option α)->(Nat->St->Option α)->(St->Option α)->St->Option α
 | .rangeFunc _ _ _ _,_,kn,kx,kr=>qE kn kx kr
 | .seq a b,d,kn,kx,kr=>bif TQ rg a then QCW E H lt N S rg a d (QLq lt b (Om E H lt N b kn kx kr)) kx kr else QCW E H lt N S rg b d kn kx kr
 | .cond _ a b,d,kn,kx,kr=>bif TQ rg a then QCW E H lt N S rg a d kn kx kr else QCW E H lt N S rg b d kn kx kr
 | .block id c,d,kn,kx,kr=>QCW E H lt N S rg c d kn (λj st=>bif Nat.beq j id then kn st else kx j st) kr
 | .loop c,d,_,kx,kr=>QCW E H lt N S rg c (d+1) (λst=>S d (dH lt c st)) kx kr
 | _,_,_,_,_=>λ_=>none
def QH8 [DecidableEq α] (E:CO) (N:Nat) (S:Nat->St->Option α) (fin:Nat->LT->Code->Nat->(St->Option α)->(Nat->St->Option α)->(St->Option α)->(St->Option α)->St->Option α):Nat->List PE->List (Code×LT)->LT->Code->Nat->(St->Option α)->(Nat->St->Option α)->(St->Option α)->(St->Option α)->St->Option α
 | lv,[],_,lt,c,d,kn,kx,kr=>fin lv lt c d kn kx kr
 | lv+1,.call rg i g::p,ys,lt,c,d,kn,kx,kr=>match lk g E.inl with
  | some (fn,lt')=>match fn.body with
   | some c'=>QH8 E N S fin lv p ys lt' c' (d+ZT rg c) (λst=>(XQ E st fn.results.toList).bind λvs=>Zx E (hnd E N (lv+1)) lt N S rg i c d kn kx kr st (Zw vs)) (λ_ _=>none)
     (λst=>(XQ E st fn.results.toList).bind λvs=>Zx E (hnd E N (lv+1)) lt N S rg i c d kn kx kr st (Zw vs))
   | none=>λ_ _=>none
  | none=>λ_ _=>none
 | lv+1,.rng rg g::p,ys,lt,c,d,kn,kx,kr=>match lk g E.inl with
  | some (fn,lt')=>match fn.body with
   | some c'=>QH8 E N S fin lv p ((ZL rg c,lt)::ys) lt' c' (d+q9 rg c) (λst=>(XQ E st fn.results.toList).bind λ_=>QCW E (hnd E N (lv+1)) lt N S rg c d kn kx kr st) (λ_ _=>none)
     (λst=>(XQ E st fn.results.toList).bind λ_=>QCW E (hnd E N (lv+1)) lt N S rg c d kn kx kr st)
   | none=>λ_ _=>none
  | none=>λ_ _=>none
 | lv+1,.yld rg i n::p,ys,lt,c,d,kn,kx,kr=>match QZk ys n with
  | some (b,lt')=>QH8 E N S fin lv p ys lt' b (d+ZT rg c) (QBb none true (Zx E (hnd E N (lv+1)) lt N S rg i c d kn kx kr)) (λj=>QBb (some (.exit j)) false (Zx E (hnd E N (lv+1)) lt N S rg i c d kn kx kr)) (QBb (some .ret) false (Zx E (hnd E N (lv+1)) lt N S rg i c d kn kx kr))
  | none=>λ_ _=>none
 | 0,_::_,_,_,_,_,_,_,_=>λ_ _=>none
end
def QZ9 (E:CO) (lt:LT) (lv N:Nat) (fn:Func) (rs:List Ty) (os:List Bool) (p:List PE) (S:Nat->St->Option (Bv rs)) (fin:Nat->LT->Code->Nat->(St->Option (Bv rs))->(Nat->St->Option (Bv rs))->(St->Option (Bv rs))->(St->Option (Bv rs))->St->Option (Bv rs)):(St->Option (Bv rs))->St->Option (Bv rs):=
 match fn.body with
 | some c=>QH8 E N S fin lv p [] lt c 0 (λst=>(XQ E st fn.results.toList).bind λvs=>Yx st.l (TR (VG os vs) st.l) (dJ (VG os vs)) rs os vs some) (λ_ _=>none)
   (λst=>(XQ E st fn.results.toList).bind λvs=>Yx st.l (TR (VG os vs) st.l) (dJ (VG os vs)) rs os vs some)
 | none=>λ_ _=>none
def Bc (E:CO) (lt:LT) (lv N:Nat) (fn:Func) (rs:List Ty) (os:List Bool) (p:List PE) (k:Nat) (S:Nat->St->Option (Bv rs)):(St->Option (Bv rs))->St->Option (Bv rs):=
 QZ9 E lt lv N fn rs os p S λlv lt c d kn kx kr=>gQ E (hnd E N lv) lt N S c k d kn kx kr
def QTb (E:CO) (lt:LT) (lv N:Nat) (fn:Func) (c:UO) (y:Wt c.bp) (p:List PE) (S:Nat->St->Option (wD c.bp c.w×Bv c.rs)) (fin:Nat->LT->Code->Nat->(St->Option (wD c.bp c.w×Bv c.rs))->(Nat->St->Option (wD c.bp c.w×Bv c.rs))->(St->Option (wD c.bp c.w×Bv c.rs))->(St->Option (wD c.bp c.w×Bv c.rs))->St->Option (wD c.bp c.w×Bv c.rs)):(St->Option (wD c.bp c.w×Bv c.rs))->St->Option (wD c.bp c.w×Bv c.rs):=
 match fn.body with
 | some code=>QH8 E N S fin lv p [] lt code 0 (wJ E fn c y) (λ_ _=>none) (wJ E fn c y)
 | none=>λ_ _=>none
def QR6 (E:CO) (lt:LT) (lv N:Nat) (fn:Func) (c:UO) (y:Wt c.bp) (p:List PE) (k:Nat) (S:Nat->St->Option (wD c.bp c.w×Bv c.rs)):(St->Option (wD c.bp c.w×Bv c.rs))->St->Option (wD c.bp c.w×Bv c.rs):=
 QTb E lt lv N fn c y p S λlv lt code d kn kx kr=>gQ E (hnd E N lv) lt N S code k d kn kx kr
def Yj (E:CO) (lt:LT) (lv N:Nat) (fn:Func) (e:Ty) (p:List PE) (k:Nat) (S:Nat->St->Option (Ty.slice e).den):(St->Option (Ty.slice e).den)->St->Option (Ty.slice e).den:=
 match fn.body with
 | some code=>@QH8 _ (Wz (.slice e)) E N S (λlv lt code d kn kx kr=>@gQ _ (Wz (.slice e)) E (@hnd _ (Wz (.slice e)) E N lv) lt N S code k d kn kx kr) lv p [] lt code 0 (wI E fn e) (λ_ _=>none) (wI E fn e)
 | none=>λ_ _=>none
def CS {α:Type} (s0:St->Option α) (S:Nat->St->Option α):Nat->St->Option α
 | 0=>s0
 | n+1=>S n
def BN {α:Type}:Nat->St->Option α:=λ_ _=>none
def BP {V α:Type} (g:(V->Option α)->V->Option α):Nat->V->Option α
 | 0=>λ_=>none
 | n+1=>g (BP g n)
theorem BR {V α:Type} {f:(St->Option α)->St->Option α} (emb:V->St) {g:(V->Option α)->V->Option α} (h:∀ self v,f self (emb v)=g (λv=>self (emb v)) v):∀ N v,Bd f N (emb v)=BP g N v
 | 0,_=>rfl
 | n+1,v=>by
  show f (Bd f n) (emb v)=g (BP g n) v
  rw [h]
  congr 1
  funext v
  exact BR emb h n v
theorem QGG {k:IntKind} {n:Int} (h:k.min<=n/\n<=k.max):k.wrap n=n:=by
 cases k <;> simp [IntKind.min,IntKind.max,IntKind.wrap,IntKind.signed,IntKind.bits] at * <;> (try split) <;> omega
theorem wrap_i64 {n:Int} (h : -9223372036854775808<=n) (h':n<=9223372036854775807):IntKind.i64.wrap n=n:=QGG ⟨h,h'⟩
theorem XC {α:Type} (xs:List α) (i:Nat):BX xs (i:Int)=xs[i]?:=by
 have:decide ((0:Int)<=(i:Int))=true:=by simp
 rw [BX,this]
 simp
def big:Nat:=18446744073709551616
theorem rzl {P:Program} {E:CO} {G:Cb} {f:FuncId} {fn:Func} {c:Code} (F:Nat->Bv G.ps->Option (Bv G.rs)) (hE:CJ P E) {lt:LT} {lv:Nat} (hf:P.funcs[f]? = some fn) (h:∀ N x,rise E lt lv N fn G.ps G.rs G.os x=F N x) (hF:∀ x,G.F x=F big x:=by intro x;rfl) (hb:fn.body=some c:=by rfl) (hn:(fn.name == "runtime.NumGoroutine")=false:=by decide)
  (hd:EZ fn.ntmps c=true:=by kernel_rfl) (hps:Nat.ble G.ps.length fn.ntmps=true:=by kernel_rfl) (hone:Nat.ble (G.os.filter (λb=>b)).length 1=true:=by kernel_rfl) (hlen:Nat.beq G.os.length G.rs.length=true:=by kernel_rfl):Bb P f G:=by
 obtain ⟨ps,rs,os,F'⟩:=G
 exact QCX hE hf hb hn hd hps hone hlen λx _ _ h'=>⟨lt,lv,big,(h big x).trans ((hF x).symm.trans h')⟩
def sV (i:Nat) (t:Ty) (x:t.den):Nat×RV:=(i,.val ⟨t,x⟩)
def lT (a:List (Nat×List Nat)):LT:={ live:=a,keep:=[] }
def lK (a b:List (Nat×List Nat)):LT:={ live:=a,keep:=b }
def eN (t:List (TypeId×Ty)) (f:List (FuncId×Cb)):CO:={ tab:=t,fs:=f,inl:=[] }
theorem DV {P:Program} (E:CO) (lt:LT) {G:Cb} {f:FuncId} {fn:Func} {c:Code} (F:Nat->Bv G.ps->Option (Bv G.rs)) (hE:CJ P E) (hf:P.funcs[f]? = some fn) (h:∀ N x,rise E lt 6 N fn G.ps G.rs G.os x=F N x:=by intro N x;kernel_rfl) (hF:∀ x,G.F x=F big x:=by intro x;rfl) (hb:fn.body=some c:=by rfl) (hn:(fn.name == "runtime.NumGoroutine")=false:=by decide)
  (hd:EZ fn.ntmps c=true:=by kernel_rfl) (hps:Nat.ble G.ps.length fn.ntmps=true:=by kernel_rfl) (hone:Nat.ble (G.os.filter (λb=>b)).length 1=true:=by kernel_rfl) (hlen:Nat.beq G.os.length G.rs.length=true:=by kernel_rfl):Bb P f G:=
 rzl F hE hf h hF hb hn hd hps hone hlen
end Go.Lift
