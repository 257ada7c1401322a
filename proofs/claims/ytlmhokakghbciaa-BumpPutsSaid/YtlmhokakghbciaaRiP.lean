/- Loops of a wider reading, each by itself: names for what one round does, also in functions that are read on the spot. -/
import Derived.Test.YtlmhokakghbciaaRiO
namespace Go.Lift

def hasReg (i : Nat) : Code → Bool
  | .region id _ _ => Nat.beq id i
  | .seq a b => hasReg i a || hasReg i b
  | .cond _ a b => hasReg i a || hasReg i b
  | .block _ c => hasReg i c
  | .scope c => hasReg i c
  | .loop c => hasReg i c
  | _ => false
def depReg (i : Nat) : Code → Nat
  | .seq a b => bif hasReg i a then depReg i a else depReg i b
  | .cond _ a b => bif hasReg i a then depReg i a else depReg i b
  | .block _ c => depReg i c
  | .scope c => depReg i c
  | .loop c => depReg i c + 1
  | _ => 0
def nlp : Code → Nat
  | .seq a b => nlp a + nlp b
  | .cond _ a b => nlp a + nlp b
  | .block _ c => nlp c
  | .scope c => nlp c
  | .loop c => nlp c + 1
  | _ => 0

/-- a loop over a function, told by the region in which its variables are written -/
def hasRF (i : Nat) : Code → Bool
  | .seq a b => hasRF i a || hasRF i b
  | .cond _ a b => hasRF i a || hasRF i b
  | .block _ c => hasRF i c
  | .scope c => hasRF i c
  | .loop c => hasRF i c
  | .rangeFunc _ _ a _ => hasReg i a
  | _ => false
def depRF (i : Nat) : Code → Nat
  | .seq a b => bif hasRF i a then depRF i a else depRF i b
  | .cond _ a b => bif hasRF i a then depRF i a else depRF i b
  | .block _ c => depRF i c
  | .scope c => depRF i c
  | .loop c => depRF i c + 1
  | _ => 0
def bodyRF (i : Nat) : Code → Code
  | .seq a b => bif hasRF i a then bodyRF i a else bodyRF i b
  | .cond _ a b => bif hasRF i a then bodyRF i a else bodyRF i b
  | .block _ c => bodyRF i c
  | .scope c => bodyRF i c
  | .loop c => bodyRF i c
  | .rangeFunc _ _ _ b => b
  | c => c

def asgRF (i : Nat) : Code → Code
  | .seq a b => bif hasRF i a then asgRF i a else asgRF i b
  | .cond _ a b => bif hasRF i a then asgRF i a else asgRF i b
  | .block _ c => asgRF i c
  | .scope c => asgRF i c
  | .loop c => asgRF i c
  | .rangeFunc _ _ a _ => a
  | c => c
def psRF (i : Nat) : Code → Array Tmp
  | .seq a b => bif hasRF i a then psRF i a else psRF i b
  | .cond _ a b => bif hasRF i a then psRF i a else psRF i b
  | .block _ c => psRF i c
  | .scope c => psRF i c
  | .loop c => psRF i c
  | .rangeFunc _ ps _ _ => ps
  | _ => #[]
/-- the record of a loop of a function -/
def qOf (fn : Func) (i : Nat) (lt : LT) (state : LoopState) (jump : Option Code) : LQ :=
  match fn.body with
  | some c => ⟨psRF i c, asgRF i c, bodyRF i c, lt, state, jump⟩
  | none => ⟨#[], .skip, .skip, lt, state, jump⟩

/-- the way to a place: a call that is read on the spot; a loop over a function, and the function; a round, and of which of the loops on the way -/
inductive PE where
  | call (rg i : Nat) (g : FuncId)
  | rng (rg : Nat) (g : FuncId)
  | yld (rg i n : Nat)
def nthY {X : Type} : List X → Nat → Option X
  | [], _ => none
  | x :: _, 0 => some x
  | _ :: r, n + 1 => nthY r n

section
variable {α : Type}

/-- what one round of a loop does: the k-th one in the text's order; the loops around it go on by S -/
def bodyR [DecidableEq α] (E : Env2) (H : Tg → St → (St → RV → Option α) → Option α) (lt : LT) (N : Nat) (S : Nat → St → Option α) : Code → Nat → Nat → (St → Option α) → (Nat → St → Option α) → (St → Option α) → (St → Option α) → St → Option α
  | .seq a b, k, d, kn, kx, kr => bif Nat.blt k (nlp a) then bodyR E H lt N S a k d (seqK lt b (denR E H lt N b kn kx kr)) kx kr else bodyR E H lt N S b (k - nlp a) d kn kx kr
  | .cond _ a b, k, d, kn, kx, kr => bif Nat.blt k (nlp a) then bodyR E H lt N S a k d kn kx kr else bodyR E H lt N S b (k - nlp a) d kn kx kr
  | .block id c, k, d, kn, kx, kr => bodyR E H lt N S c k d kn (fun j st => bif Nat.beq j id then kn st else kx j st) kr
  | .scope c, k, d, kn, kx, kr => bodyR E H lt N S c k d kn kx kr
  | .loop c, k, d, _, kx, kr => bif Nat.beq k 0 then fun self st => denR E H lt N c (fun st => self (headR lt c st)) kx kr st else bodyR E H lt N S c (k - 1) (d + 1) (fun st => S d (headR lt c st)) kx kr
  | _, _, _, _, _, _ => fun _ _ => none

/-- how it goes on behind a call: the i-th operation of a region -/
def retAt [DecidableEq α] (E : Env2) (H : Tg → St → (St → RV → Option α) → Option α) (lt : LT) (N : Nat) (S : Nat → St → Option α) (rg i : Nat) : Code → Nat → (St → Option α) → (Nat → St → Option α) → (St → Option α) → St → RV → Option α
  | .region _ ops _, _, kn, _, _ => fun st rv => opsR E H lt ops (ops.toList.drop (i + 1)) (setR (pop st) ((ops[i]?).bind (·.dst)) rv) kn
  | .seq a b, d, kn, kx, kr => bif hasReg rg a then retAt E H lt N S rg i a d (seqK lt b (denR E H lt N b kn kx kr)) kx kr else retAt E H lt N S rg i b d kn kx kr
  | .cond _ a b, d, kn, kx, kr => bif hasReg rg a then retAt E H lt N S rg i a d kn kx kr else retAt E H lt N S rg i b d kn kx kr
  | .block id c, d, kn, kx, kr => retAt E H lt N S rg i c d kn (fun j st => bif Nat.beq j id then kn st else kx j st) kr
  | .scope c, d, kn, kx, kr => retAt E H lt N S rg i c d kn kx kr
  | .loop c, d, _, kx, kr => retAt E H lt N S rg i c (d + 1) (fun st => S d (headR lt c st)) kx kr
  | _, _, _, _, _ => fun _ _ => none

/-- how it goes on behind a function that is gone through -/
def rfAt [DecidableEq α] (E : Env2) (H : Tg → St → (St → RV → Option α) → Option α) (lt : LT) (N : Nat) (S : Nat → St → Option α) (rg : Nat) : Code → Nat → (St → Option α) → (Nat → St → Option α) → (St → Option α) → St → Option α
  | .rangeFunc _ _ _ _, _, kn, kx, kr => loopEnd kn kx kr
  | .seq a b, d, kn, kx, kr => bif hasRF rg a then rfAt E H lt N S rg a d (seqK lt b (denR E H lt N b kn kx kr)) kx kr else rfAt E H lt N S rg b d kn kx kr
  | .cond _ a b, d, kn, kx, kr => bif hasRF rg a then rfAt E H lt N S rg a d kn kx kr else rfAt E H lt N S rg b d kn kx kr
  | .block id c, d, kn, kx, kr => rfAt E H lt N S rg c d kn (fun j st => bif Nat.beq j id then kn st else kx j st) kr
  | .scope c, d, kn, kx, kr => rfAt E H lt N S rg c d kn kx kr
  | .loop c, d, _, kx, kr => rfAt E H lt N S rg c (d + 1) (fun st => S d (headR lt c st)) kx kr
  | _, _, _, _, _ => fun _ => none

/-- what follows where ways come together: where the part of the text with region t begins -/
def joinC [DecidableEq α] (E : Env2) (H : Tg → St → (St → RV → Option α) → Option α) (lt : LT) (N : Nat) (S : Nat → St → Option α) (t : Nat) : Code → Nat → (St → Option α) → (Nat → St → Option α) → (St → Option α) → St → Option α
  | .seq a b, d, kn, kx, kr => bif (match rid b with | some i => Nat.beq i t | none => false) then denR E H lt N b kn kx kr else bif hasReg t a then joinC E H lt N S t a d (seqK lt b (denR E H lt N b kn kx kr)) kx kr else joinC E H lt N S t b d kn kx kr
  | .cond _ a b, d, kn, kx, kr => bif hasReg t a then joinC E H lt N S t a d kn kx kr else joinC E H lt N S t b d kn kx kr
  | .block id c, d, kn, kx, kr => joinC E H lt N S t c d kn (fun j st => bif Nat.beq j id then kn st else kx j st) kr
  | .scope c, d, kn, kx, kr => joinC E H lt N S t c d kn kx kr
  | .loop c, d, _, kx, kr => joinC E H lt N S t c (d + 1) (fun st => S d (headR lt c st)) kx kr
  | _, _, _, _, _ => fun _ => none

/-- a place in a function that is read on the spot: the way to it -/
def locR [DecidableEq α] (E : Env2) (N : Nat) (S : Nat → St → Option α) (fin : Nat → LT → Code → Nat → (St → Option α) → (Nat → St → Option α) → (St → Option α) → (St → Option α) → St → Option α) : Nat → List PE → List (Code × LT) → LT → Code → Nat → (St → Option α) → (Nat → St → Option α) → (St → Option α) → (St → Option α) → St → Option α
  | lv, [], _, lt, c, d, kn, kx, kr => fin lv lt c d kn kx kr
  | lv + 1, .call rg i g :: p, ys, lt, c, d, kn, kx, kr => match lk g E.inl with
    | some (fn, lt') => match fn.body with
      | some c' => locR E N S fin lv p ys lt' c' (d + depReg rg c) (fun st => (resR E st fn.results.toList).bind fun vs => retAt E (hnd E N (lv + 1)) lt N S rg i c d kn kx kr st (resRV vs)) (fun _ _ => none)
          (fun st => (resR E st fn.results.toList).bind fun vs => retAt E (hnd E N (lv + 1)) lt N S rg i c d kn kx kr st (resRV vs))
      | none => fun _ _ => none
    | none => fun _ _ => none
  | lv + 1, .rng rg g :: p, ys, lt, c, d, kn, kx, kr => match lk g E.inl with
    | some (fn, lt') => match fn.body with
      | some c' => locR E N S fin lv p ((bodyRF rg c, lt) :: ys) lt' c' (d + depRF rg c) (fun st => (resR E st fn.results.toList).bind fun _ => rfAt E (hnd E N (lv + 1)) lt N S rg c d kn kx kr st) (fun _ _ => none)
          (fun st => (resR E st fn.results.toList).bind fun _ => rfAt E (hnd E N (lv + 1)) lt N S rg c d kn kx kr st)
      | none => fun _ _ => none
    | none => fun _ _ => none
  | lv + 1, .yld rg i n :: p, ys, lt, c, d, kn, kx, kr => match nthY ys n with
    | some (b, lt') => locR E N S fin lv p ys lt' b (d + depReg rg c) (endR none true (retAt E (hnd E N (lv + 1)) lt N S rg i c d kn kx kr)) (fun j => endR (some (.exit j)) false (retAt E (hnd E N (lv + 1)) lt N S rg i c d kn kx kr)) (endR (some .ret) false (retAt E (hnd E N (lv + 1)) lt N S rg i c d kn kx kr))
    | none => fun _ _ => none
  | 0, _ :: _, _, _, _, _, _, _, _ => fun _ _ => none
end

def flocG (E : Env2) (lt : LT) (lv N : Nat) (fn : Func) (rs : List Ty) (os : List Bool) (p : List PE) (S : Nat → St → Option (resDen rs)) (fin : Nat → LT → Code → Nat → (St → Option (resDen rs)) → (Nat → St → Option (resDen rs)) → (St → Option (resDen rs)) → (St → Option (resDen rs)) → St → Option (resDen rs)) : (St → Option (resDen rs)) → St → Option (resDen rs) :=
  match fn.body with
  | some c => locR E N S fin lv p [] lt c 0 (fun st => (resR E st fn.results.toList).bind fun vs => resK st.l (lessL (ownId os vs) st.l) (lessR (ownId os vs)) rs os vs some) (fun _ _ => none)
      (fun st => (resR E st fn.results.toList).bind fun vs => resK st.l (lessL (ownId os vs) st.l) (lessR (ownId os vs)) rs os vs some)
  | none => fun _ _ => none

def floc (E : Env2) (lt : LT) (lv N : Nat) (fn : Func) (rs : List Ty) (os : List Bool) (p : List PE) (k : Nat) (S : Nat → St → Option (resDen rs)) : (St → Option (resDen rs)) → St → Option (resDen rs) :=
  flocG E lt lv N fn rs os p S fun lv lt c d kn kx kr => bodyR E (hnd E N lv) lt N S c k d kn kx kr
def jloc (E : Env2) (lt : LT) (lv N : Nat) (fn : Func) (rs : List Ty) (os : List Bool) (p : List PE) (t : Nat) (S : Nat → St → Option (resDen rs)) : St → Option (resDen rs) :=
  flocG E lt lv N fn rs os p S (fun lv lt c d kn kx kr _ => joinC E (hnd E N lv) lt N S t c d kn kx kr) fun _ => none

/-- the same in one that calls itself -/
def flocGR (E : Env2) (lt : LT) (lv N : Nat) (fn : Func) (c : RecC) (y : BtsD c.bp) (p : List PE) (S : Nat → St → Option (wD c.bp c.w × resDen c.rs)) (fin : Nat → LT → Code → Nat → (St → Option (wD c.bp c.w × resDen c.rs)) → (Nat → St → Option (wD c.bp c.w × resDen c.rs)) → (St → Option (wD c.bp c.w × resDen c.rs)) → (St → Option (wD c.bp c.w × resDen c.rs)) → St → Option (wD c.bp c.w × resDen c.rs)) : (St → Option (wD c.bp c.w × resDen c.rs)) → St → Option (wD c.bp c.w × resDen c.rs) :=
  match fn.body with
  | some code => locR E N S fin lv p [] lt code 0 (doneR E fn c y) (fun _ _ => none) (doneR E fn c y)
  | none => fun _ _ => none
def flocR (E : Env2) (lt : LT) (lv N : Nat) (fn : Func) (c : RecC) (y : BtsD c.bp) (p : List PE) (k : Nat) (S : Nat → St → Option (wD c.bp c.w × resDen c.rs)) : (St → Option (wD c.bp c.w × resDen c.rs)) → St → Option (wD c.bp c.w × resDen c.rs) :=
  flocGR E lt lv N fn c y p S fun lv lt code d kn kx kr => bodyR E (hnd E N lv) lt N S code k d kn kx kr

/-- the same in one that is given a slice of its callers' own -/
def flocO (E : Env2) (lt : LT) (lv N : Nat) (fn : Func) (e : Ty) (p : List PE) (k : Nat) (S : Nat → St → Option (Ty.slice e).den) : (St → Option (Ty.slice e).den) → St → Option (Ty.slice e).den :=
  match fn.body with
  | some code => @locR _ (decD (.slice e)) E N S (fun lv lt code d kn kx kr => @bodyR _ (decD (.slice e)) E (@hnd _ (decD (.slice e)) E N lv) lt N S code k d kn kx kr) lv p [] lt code 0 (doneO E fn e) (fun _ _ => none) (doneO E fn e)
  | none => fun _ _ => none

def outerR {α : Type} (s0 : St → Option α) (S : Nat → St → Option α) : Nat → St → Option α
  | 0 => s0
  | n + 1 => S n
def nowhereR {α : Type} : Nat → St → Option α := fun _ _ => none

/-- rounds over plain variables -/
def iterV {V α : Type} (g : (V → Option α) → V → Option α) : Nat → V → Option α
  | 0 => fun _ => none
  | n + 1 => g (iterV g n)

theorem iterR_eq {V α : Type} {f : (St → Option α) → St → Option α} (emb : V → St) {g : (V → Option α) → V → Option α} (h : ∀ self v, f self (emb v) = g (fun v => self (emb v)) v) : ∀ N v, iterR f N (emb v) = iterV g N v
  | 0, _ => rfl
  | n + 1, v => by
    show f (iterR f n) (emb v) = g (iterV g n) v
    rw [h]
    congr 1
    funext v
    exact iterR_eq emb h n v

theorem joinR_eq {V α : Type} {f : St → Option α} {emb : V → St} {g : V → Option α} (h : ∀ v, f (emb v) = g v) : (fun v => joinR f (emb v)) = g := funext h

/-- the rounds of a loop that come to R -/
theorem iterV_run {V α : Type} {g : (V → Option α) → V → Option α} (I : V → Prop) (m : V → Nat) (R : V → Option α) (h : ∀ v self, I v → (∀ v', I v' → m v' < m v → self v' = R v') → g self v = R v) :
    ∀ N v, I v → m v < N → iterV g N v = R v
  | 0, _, _, h => by omega
  | n + 1, v, hI, hm => h v _ hI fun v' h1 h2 => iterV_run I m R h n v' h1 (by omega)

theorem wrap_id {k : IntKind} {n : Int} (h : k.min ≤ n ∧ n ≤ k.max) : k.wrap n = n := by
  cases k <;> simp [IntKind.min, IntKind.max, IntKind.wrap, IntKind.signed, IntKind.bits] at * <;> (try split) <;> omega
theorem wrap_i64 {n : Int} (h : -9223372036854775808 ≤ n) (h' : n ≤ 9223372036854775807) : IntKind.i64.wrap n = n := wrap_id ⟨h, h'⟩
theorem getI_nat {α : Type} (xs : List α) (i : Nat) : getI xs (i : Int) = xs[i]? := by
  have : decide ((0 : Int) ≤ (i : Int)) = true := by simp
  rw [getI, this]
  simp

/-- rounds enough for all -/
def big : Nat := 18446744073709551616
/-- a contract: what the reading is, for each number of rounds -/
theorem rzl {P : Program} {E : Env2} {G : Fn2} {f : FuncId} {fn : Func} {c : Code} (F : Nat → resDen G.ps → Option (resDen G.rs)) (hE : Env2Ok P E) {lt : LT} {lv : Nat} (hf : P.funcs[f]? = some fn) (h : ∀ N x, rise E lt lv N fn G.ps G.rs G.os x = F N x) (hF : ∀ x, G.F x = F big x := by intro x; kernel_rfl) (hb : fn.body = some c := by rfl) (hn : (fn.name == "runtime.NumGoroutine") = false := by decide)
    (hd : dstsOk fn.ntmps c = true := by kernel_rfl) (hps : Nat.ble G.ps.length fn.ntmps = true := by kernel_rfl) (hone : Nat.ble (G.os.filter (fun b => b)).length 1 = true := by kernel_rfl) (hlen : Nat.beq G.os.length G.rs.length = true := by kernel_rfl) : Rises P f G := by
  obtain ⟨ps, rs, os, F'⟩ := G
  exact rises_of hE hf hb hn hd hps hone hlen fun x _ _ h' => ⟨lt, lv, big, (h big x).trans ((hF x).symm.trans h')⟩

/-! ### shorter words for generated texts (small.py) -/
def sV (i : Nat) (t : Ty) (x : t.den) : Nat × RV := (i, .val ⟨t, x⟩)
def lT (a : List (Nat × List Nat)) : LT := { live := a, keep := [] }
def lK (a b : List (Nat × List Nat)) : LT := { live := a, keep := b }
def eN (t : List (TypeId × Ty)) (f : List (FuncId × Fn2)) : Env2 := { tab := t, fs := f, inl := [] }
theorem rzz {P : Program} (E : Env2) (lt : LT) {G : Fn2} {f : FuncId} {fn : Func} {c : Code} (F : Nat → resDen G.ps → Option (resDen G.rs)) (hE : Env2Ok P E) (hf : P.funcs[f]? = some fn) (h : ∀ N x, rise E lt 6 N fn G.ps G.rs G.os x = F N x := by intro N x; kernel_rfl) (hF : ∀ x, G.F x = F big x := by intro x; kernel_rfl) (hb : fn.body = some c := by rfl) (hn : (fn.name == "runtime.NumGoroutine") = false := by decide)
    (hd : dstsOk fn.ntmps c = true := by kernel_rfl) (hps : Nat.ble G.ps.length fn.ntmps = true := by kernel_rfl) (hone : Nat.ble (G.os.filter (fun b => b)).length 1 = true := by kernel_rfl) (hlen : Nat.beq G.os.length G.rs.length = true := by kernel_rfl) : Rises P f G :=
  rzl F hE hf h hF hb hn hd hps hone hlen

end Go.Lift
