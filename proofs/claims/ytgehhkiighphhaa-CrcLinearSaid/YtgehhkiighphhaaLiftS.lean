/- Loops of a typed reading, each by itself. -/
import Derived.Test.YtgehhkiighphhaaLiftR
namespace Go.Lift

def nl : Code → Nat
  | .seq a b => nl a + nl b
  | .cond _ a b => nl a + nl b
  | .block _ c => nl c
  | .loop c => nl c + 1
  | _ => 0

/-- what one round of a loop does: the k-th one in the text's order; the loops around it go on by S -/
def bodyAt {α : Type} (E : Env) (el : TypeId → Option TypeId) (N : Nat) (S : Nat → Fr → Option α) : Code → Nat → Nat → (Fr → Option α) → (Nat → Fr → Option α) → (Fr → Option α) → (Fr → Option α) → Fr → Option α
  | .seq a b, k, d, kn, kx, kr => bif Nat.blt k (nl a) then bodyAt E el N S a k d (fun fr => den E el N b kn kx kr (pruneC E b fr)) kx kr else bodyAt E el N S b (k - nl a) d kn kx kr
  | .cond _ a b, k, d, kn, kx, kr => bif Nat.blt k (nl a) then bodyAt E el N S a k d kn kx kr else bodyAt E el N S b (k - nl a) d kn kx kr
  | .block id c, k, d, kn, kx, kr => bodyAt E el N S c k d kn (fun j fr => bif Nat.beq j id then kn fr else kx j fr) kr
  | .loop c, k, d, _, kx, kr => bif Nat.beq k 0 then fun self fr => den E el N c (fun fr => self (pruneC E c fr)) kx kr fr else bodyAt E el N S c (k - 1) (d + 1) (fun fr => S d (pruneC E c fr)) kx kr
  | _, _, _, _, _, _ => fun _ _ => none

def fbody (E : Env) (el : TypeId → Option TypeId) (N : Nat) (fn : Func) (rs : List Ty) (k : Nat) (S : Nat → Fr → Option (resDen rs)) : (Fr → Option (resDen rs)) → Fr → Option (resDen rs) :=
  match fn.body with
  | some c => bodyAt E el N S c k 0 (fun fr => (resTV E fr fn.results.toList).bind (packL rs)) (fun _ _ => none) (fun fr => (resTV E fr fn.results.toList).bind (packL rs))
  | none => fun _ _ => none

def outer {α : Type} (s0 : Fr → Option α) (S : Nat → Fr → Option α) : Nat → Fr → Option α
  | 0 => s0
  | n + 1 => S n
def nowhere {α : Type} : Nat → Fr → Option α := fun _ _ => none

/-- rounds over plain variables -/
def iterV {V α : Type} (g : (V → Option α) → V → Option α) : Nat → V → Option α
  | 0 => fun _ => none
  | n + 1 => g (iterV g n)

theorem iter_eq {V α : Type} {f : (Fr → Option α) → Fr → Option α} (emb : V → Fr) {g : (V → Option α) → V → Option α} (h : ∀ self v, f self (emb v) = g (fun v => self (emb v)) v) : ∀ N v, iter f N (emb v) = iterV g N v
  | 0, _ => rfl
  | n + 1, v => by
    show f (iter f n) (emb v) = g (iterV g n) v
    rw [h]
    congr 1
    funext v
    exact iter_eq emb h n v

/-- the rounds of a loop that come to R -/
theorem iterV_run {V α : Type} {g : (V → Option α) → V → Option α} (I : V → Prop) (m : V → Nat) (R : V → Option α) (h : ∀ v self, I v → (∀ v', I v' → m v' < m v → self v' = R v') → g self v = R v) :
    ∀ N v, I v → m v < N → iterV g N v = R v
  | 0, _, _, h => by omega
  | n + 1, v, hI, hm => h v _ hI fun v' h1 h2 => iterV_run I m R h n v' h1 (by omega)

theorem wrap_id {k : IntKind} {n : Int} (h : k.min ≤ n ∧ n ≤ k.max) : k.wrap n = n := by
  cases k <;> simp [IntKind.min, IntKind.max, IntKind.wrap, IntKind.signed, IntKind.bits] at * <;> (try split) <;> omega
theorem wrap_i64 {n : Int} (h : -9223372036854775808 ≤ n) (h' : n ≤ 9223372036854775807) : IntKind.i64.wrap n = n := wrap_id ⟨h, h'⟩
theorem getI_nat {α : Type} (xs : List α) (i : Nat) : getI xs (i : Int) = xs[i]? := by
  have : decide ((0 : Int) ≤ (i : Int)) = true := by simp
  rw [getI, this]
  simp
end Go.Lift
