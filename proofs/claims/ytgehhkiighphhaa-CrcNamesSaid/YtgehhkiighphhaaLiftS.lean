/- Loops of a typed reading, each by itself. -/
import Derived.Test.YtgehhkiighphhaaLiftR
namespace Go.Lift

def nl : Code → Nat
  | .seq a b => nl a + nl b
  | .cond _ a b => nl a + nl b
  | .block _ c => nl c
  | .loop c => nl c + 1
  | _ => 0

/-- what one round of a loop does: the k-th one in the text's order; the loops around it go on by S -/
def bodyAt {α : Type} (E : Env) (el : TypeId → Option TypeId) (N : Nat) (S : Nat → Fr → Option α) : Code → Nat → Nat → (Fr → Option α) → (Nat → Fr → Option α) → (Fr → Option α) → (Fr → Option α) → Fr → Option α
  | .seq a b, k, d, kn, kx, kr => bif Nat.blt k (nl a) then bodyAt E el N S a k d (fun fr => den E el N b kn kx kr (pruneC E b fr)) kx kr else bodyAt E el N S b (k - nl a) d kn kx kr
  | .cond _ a b, k, d, kn, kx, kr => bif Nat.blt k (nl a) then bodyAt E el N S a k d kn kx kr else bodyAt E el N S b (k - nl a) d kn kx kr
  | .block id c, k, d, kn, kx, kr => bodyAt E el N S c k d kn (fun j fr => bif Nat.beq j id then kn fr else kx j fr) kr
  | .loop c, k, d, _, kx, kr => bif Nat.beq k 0 then fun self fr => den E el N c (fun fr => self (pruneC E c fr)) kx kr fr else bodyAt E el N S c (k - 1) (d + 1) (fun fr => S d (pruneC E c fr)) kx kr
  | _, _, _, _, _, _ => fun _ _ => none

def fbody (E : Env) (el : TypeId → Option TypeId) (N : Nat) (fn : Func) (rs : List Ty) (k : Nat) (S : Nat → Fr → Option (resDen rs)) : (Fr → Option (resDen rs)) → Fr → Option (resDen rs) :=
  match fn.body with
  | some c => bodyAt E el N S c k 0 (fun fr => (resTV E fr fn.results.toList).bind (packL rs)) (fun _ _ => none) (fun fr => (resTV E fr fn.results.toList).bind (packL rs))
  | none => fun _ _ => none

def outer {α : Type} (s0 : Fr → Option α) (S : Nat → Fr → Option α) : Nat → Fr → Option α
  | 0 => s0
  | n + 1 => S n
def nowhere {α : Type} : Nat → Fr → Option α := fun _ _ => none

/-- rounds over plain variables -/
def iterV {V α : Type} (g : (V → Option α) → V → Option α) : Nat → V → Option α
  | 0 => fun _ => none
  | n + 1 => g (iterV g n)

theorem iter_eq {V α : Type} {f : (Fr → Option α) → Fr → Option α} (emb : V → Fr) {g : (V → Option α) → V → Option α} (h : ∀ self v, f self (emb v) = g (fun v => self (emb v)) v) : ∀ N v, iter f N (emb v) = iterV g N v
  | 0, _ => rfl
  | n + 1, v => by
    show f (iter f n) (emb v) = g (iterV g n) v
    rw [h]
    congr 1
    funext v
    exact iter_eq emb h n v

/-- the rounds of a loop that come to R -/
theorem iterV_run {V α : Type} {g : (V → Option α) → V → Option α} (I : V → Prop) (m : V → Nat) (R : V → Option α) (h : ∀ v self, I v → (∀ v', I v' → m v' < m v → self v' = R v') → g self v = R v) :
    ∀ N v, I v → m v < N → iterV g N v = R v
  | 0, _, _, h => by omega
  | n + 1, v, hI, hm => h v _ hI fun v' h1 h2 => iterV_run I m R h n v' h1 (by omega)

theorem wrap_id {k : IntKind} {n : Int} (h : k.min ≤ n ∧ n ≤ k.max) : k.wrap n = n := by
  cases k <;> simp [IntKind.min, IntKind.max, IntKind.wrap, IntKind.signed, IntKind.bits] at * <;> (try split) <;> omega
theorem wrap_i64 {n : Int} (h : -9223372036854775808 ≤ n) (h' : n ≤ 9223372036854775807) : IntKind.i64.wrap n = n := wrap_id ⟨h, h'⟩
theorem getI_nat {α : Type} (xs : List α) (i : Nat) : getI xs (i : Int) = xs[i]? := by
  have : decide ((0 : Int) ≤ (i : Int)) = true := by simp
  rw [getI, this]
  simp

/-- a loop over the elements of a list, handed on -/
def foldC {σ α β : Type} (step : β → σ → (σ → Option α) → Option α) (fin : σ → Option α) : List β → σ → Option α
  | [], s => fin s
  | x :: r, s => step x s (foldC step fin r)

theorem wrap_succ {i n : Nat} (hi : i < n) (hn : n ≤ maxLen) : IntKind.i64.wrap ((i : Int) + 1) = ((i + 1 : Nat) : Int) := by
  have hm : maxLen ≤ 9223372036854775807 := by decide
  rw [wrap_i64 (by omega) (by omega)]
  simp

theorem range_run {V σ α β : Type} {g : (V → Option α) → V → Option α} {xs : List β} (st : σ → Nat → V) (step : β → σ → (σ → Option α) → Option α) (fin : σ → Option α)
    (hlast : ∀ self s, g self (st s xs.length) = fin s) (hstep : ∀ self s i (h : i < xs.length), g self (st s i) = step xs[i] s (fun s' => self (st s' (i + 1)))) :
    ∀ (k i N : Nat), i + k = xs.length → k < N → ∀ s, iterV g N (st s i) = foldC step fin (xs.drop i) s
  | 0, i, N + 1, hi, _, s => by
    have : i = xs.length := by omega
    subst this
    rw [List.drop_length]
    exact hlast _ _
  | k + 1, i, N + 1, hi, hN, s => by
    have hlt : i < xs.length := by omega
    rw [List.drop_eq_getElem_cons hlt]
    show g (iterV g N) (st s i) = step xs[i] s (foldC step fin (xs.drop (i + 1)))
    rw [hstep _ _ _ hlt]
    congr 1
    funext s'
    exact range_run st step fin hlast hstep k (i + 1) N (by omega) (by omega) s'

theorem range_all {V σ α β : Type} {g : (V → Option α) → V → Option α} {xs : List β} (st : σ → Nat → V) (step : β → σ → (σ → Option α) → Option α) (fin : σ → Option α) {N : Nat} (hN : xs.length < N)
    (hlast : ∀ self s, g self (st s xs.length) = fin s) (hstep : ∀ self s i (h : i < xs.length), g self (st s i) = step xs[i] s (fun s' => self (st s' (i + 1)))) (s : σ) :
    iterV g N (st s 0) = foldC step fin xs s := range_run st step fin hlast hstep xs.length 0 N (by omega) hN s

theorem foldC_append {σ β : Type} (f : β → σ → Option σ) : ∀ (a b : List β) (s : σ), foldC (fun x s k => (f x s).bind k) some (a ++ b) s = (foldC (fun x s k => (f x s).bind k) some a s).bind (foldC (fun x s k => (f x s).bind k) some b)
  | [], b, s => rfl
  | x :: a, b, s => by
    simp only [List.cons_append, foldC, Option.bind_assoc]
    congr 1
    funext s'
    exact foldC_append f a b s'
end Go.Lift
