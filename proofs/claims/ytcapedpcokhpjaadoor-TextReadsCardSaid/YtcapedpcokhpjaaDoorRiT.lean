/- Operations look at few places: two frames that tell the same there give the same. -/
import Derived.Test.YtcapedpcokhpjaaDoorRiM
namespace Go.Lift
open Go.RowKit

theorem any_mem {C : List Nat} {i : Nat} : C.any (Nat.beq i) = true ↔ i ∈ C := by
  rw [List.any_eq_true]
  constructor
  · rintro ⟨x, h1, h2⟩
    have := Nat.eq_of_beq_eq_true h2
    subst this
    exact h1
  · intro h
    exact ⟨i, h, by simp⟩

/-- what is told of some slots and some blocks is the same -/
structure Ag (S C : List Nat) (st st' : St) : Prop where
  s : ∀ i ∈ S, lk i st.s = lk i st'.s
  l : ∀ i ∈ C, lk i st.l = lk i st'.l
  b : st.b = st'.b
  n : ∀ i ∈ S, ∀ rv, lk i st.s = some rv → inC C rv = true
  c : ∀ i ∈ C, ∀ ty con, lk i st.l = some (.var ty con) → inC C con = true

section
variable {α : Type} {S C : List Nat} {st st' : St} {E : Env2}

theorem evR_loc (h : Ag S C st st') (ty : Option Ty) (x : Operand) (hx : ∀ i, x = .tmp i → i ∈ S) : evR ty x st.s = evR ty x st'.s := by
  unfold evR
  cases x with
  | tmp i => simp only [h.s i (hx i rfl)]
  | _ => rfl
theorem evR_in (h : Ag S C st st') (ty : Option Ty) (x : Operand) (hx : ∀ i, x = .tmp i → i ∈ S) : inC C (evR ty x st.s) = true := by
  cases x with
  | tmp i =>
    simp only [evR]
    cases hl : lk i st.s with
    | none => rfl
    | some rv => exact h.n i (hx i rfl) rv hl
  | const v =>
    simp only [evR]
    split
    · cases isNilV v <;> rfl
    · split <;> rfl
    · rfl
  | func f => rfl
  | global g => simp only [evR]; split <;> rfl

theorem partK_loc {k k' : Ty → RV → Option α} (hk : ∀ t rv, inC C rv = true → k t rv = k' t rv) : ∀ (t : Ty) (rv : RV) (p : List Step), inC C rv = true → partK k t rv p = partK k' t rv p := by
  intro t rv p
  fun_induction partK k t rv p with
  | case1 t rv => intro h; simpa only [partK] using hk t rv h
  | case2 a b x y p ih =>
    intro h
    simp only [inC, Bool.and_eq_true] at h
    simpa only [partK] using ih h.1
  | case3 a b x y p n ih =>
    intro h
    simp only [inC, Bool.and_eq_true] at h
    simpa only [partK] using ih h.2
  | case4 t v s p =>
    intro _
    simp only [partK]
    congr 1
    funext u
    exact hk _ _ rfl
  | case5 t rv p h1 h2 h3 h4 =>
    intro _
    unfold partK
    split
    · exact (h1 rfl).elim
    · exact (h3 _ _ _ _ _ rfl rfl rfl).elim
    · exact (h4 _ _ _ _ _ _ rfl rfl rfl).elim
    · exact (h2 _ _ _ rfl rfl).elim
    · rfl

theorem peekC_loc {pk pk' : RV → (TV → Option α) → Option α} (hpk : ∀ rv k, inC C rv = true → pk rv k = pk' rv k) : ∀ (rv : RV) (t : Ty) (k : t.den → Option α), inC C rv = true → peekC pk rv t k = peekC pk' rv t k := by
  intro rv
  induction rv with
  | pair x y ihx ihy =>
    intro t k h
    simp only [inC, Bool.and_eq_true] at h
    cases t with
    | pair a b =>
      simp only [peekC]
      rw [ihx a _ h.1]
      congr 1
      funext z
      exact ihy b _ h.2
    | _ => rfl
  | val v => intro t k h; rfl
  | unit => intro t k h; rfl
  | any => intro t k h; rfl
  | _ => intro t k h; exact hpk _ _ h

theorem peekK_loc (h : Ag S C st st') : ∀ (n : Nat) (rv : RV) (k : TV → Option α), inC C rv = true → peekK st.l n rv k = peekK st'.l n rv k
  | 0, _, _, _ => rfl
  | n + 1, rv, k, hr => by
    have ih : ∀ rv (k : TV → Option α), inC C rv = true → peekK st.l n rv k = peekK st'.l n rv k := fun rv k hr => peekK_loc h n rv k hr
    cases rv with
    | row id => simp only [peekK, h.l id (any_mem.1 hr)]
    | sub id lo hi => simp only [peekK, h.l id (any_mem.1 hr)]
    | loc id p =>
      simp only [peekK]
      rw [← h.l id (any_mem.1 hr)]
      cases hl : lk id st.l with
      | none => rfl
      | some ob =>
        cases ob with
        | var ty con => exact partK_loc (fun t rv hrv => peekC_loc ih rv t _ hrv) ty con p (h.c id (any_mem.1 hr) ty con hl)
        | row t xs => rfl
    | agg t r => exact peekC_loc ih r t _ hr
    | _ => rfl

theorem shK_loc (h : Ag S C st st') : ∀ (is : List Nat) (k : List (Nat × AV) → Option α), (∀ i ∈ is, i ∈ S) → shK st.l st.s is k = shK st'.l st'.s is k
  | [], _, _ => rfl
  | i :: r, k, hi => by
    simp only [shK]
    rw [← h.s i (hi i (by simp))]
    cases hl : lk i st.s with
    | none => rfl
    | some rv =>
      simp only
      rw [peekK_loc h 6 rv _ (h.n i (hi i (by simp)) rv hl)]
      congr 1
      funext v
      exact shK_loc h r _ fun j hj => hi j (by simp [hj])

theorem allVal_loc (h : Ag S C st st') (is : List Nat) (hi : ∀ i ∈ is, i ∈ S) : allVal st.s is = allVal st'.s is := by
  unfold allVal
  induction is with
  | nil => rfl
  | cons i r ih =>
    simp only [List.all_cons]
    rw [h.s i (hi i (by simp)), ih fun j hj => hi j (by simp [hj])]

theorem shOp_loc (h : Ag S C st st') {o : Oper} (hS : ∀ i ∈ slotsOf o, i ∈ S) (k : RV → Option Ob → Option α) : shOp E o st k = shOp E o st' k := by
  unfold shOp
  rw [shK_loc h _ _ hS, allVal_loc h _ hS]

theorem buildR_loc (h : Ag S C st st') : ∀ (t : Ty) (i : Nat) (ps : List (Nat × Operand)), (∀ i, Operand.tmp i ∈ ps.map (·.2) → i ∈ S) → buildR st.s t i ps = buildR st'.s t i ps := by
  intro t
  induction t with
  | pair a b iha ihb =>
    intro i ps hp
    cases ps with
    | nil => simp only [buildR]; rw [ihb (i + 1) [] (by simp)]
    | cons p r =>
      obtain ⟨j, x⟩ := p
      unfold buildR
      rw [evR_loc h (some a) x (fun i hi => hp i (by simp [hi])), ihb (i + 1) r (fun i hi => hp i (by simp at hi ⊢; exact .inr hi)), ihb (i + 1) ((j, x) :: r) hp]
  | _ => intro i ps hp; cases ps <;> rfl

theorem partsR_loc (h : Ag S C st st') {t : Ty} : ∀ (i : Nat) (ps : List (Nat × Operand)), (∀ i, Operand.tmp i ∈ ps.map (·.2) → i ∈ S) → partsR t st.s i ps = partsR t st'.s i ps
  | _, [], _ => rfl
  | i, (j, x) :: r, hp => by
    unfold partsR
    rw [evR_loc h (some t) x (fun i hi => hp i (by simp [hi])), partsR_loc h (i + 1) r fun i hi => hp i (by simp at hi ⊢; exact .inr hi)]

theorem argsR_loc (h : Ag S C st st') {tab : List (TypeId × Ty)} : ∀ (xs : List Operand) (ts : List TypeId) (k : List TV → Option α), (∀ i, Operand.tmp i ∈ xs → i ∈ S) → argsR tab st.l st.s xs ts k = argsR tab st'.l st'.s xs ts k
  | [], [], _, _ => rfl
  | [], _ :: _, _, _ => rfl
  | _ :: _, [], _, _ => rfl
  | x :: xs, t :: ts, k, hp => by
    simp only [argsR]
    have hx : ∀ i, x = .tmp i → i ∈ S := fun i hi => hp i (by simp [hi])
    rw [← evR_loc h (lk t tab) x hx, peekK_loc h 6 _ _ (evR_in h (lk t tab) x hx)]
    congr 1
    funext v
    exact argsR_loc h xs ts _ fun i hi => hp i (by simp [hi])
theorem allArgs_loc (h : Ag S C st st') {tab : List (TypeId × Ty)} : ∀ (xs : List Operand) (ts : List TypeId), (∀ i, Operand.tmp i ∈ xs → i ∈ S) → allArgs tab st.s xs ts = allArgs tab st'.s xs ts
  | [], [], _ => rfl
  | [], _ :: _, _ => rfl
  | _ :: _, [], _ => rfl
  | x :: xs, t :: ts, hp => by
    simp only [allArgs]
    rw [evR_loc h (lk t tab) x (fun i hi => hp i (by simp [hi])), allArgs_loc h xs ts fun i hi => hp i (by simp [hi])]

theorem slots_mem {o : Oper} {i : Nat} (h : Operand.tmp i ∈ o.op.operands) : i ∈ slotsOf o := by
  unfold slotsOf
  rw [List.mem_filterMap]
  exact ⟨.tmp i, by simpa using h, rfl⟩

theorem opP_loc (h : Ag S C st st') {o : Oper} (hS : ∀ i ∈ slotsOf o, i ∈ S) (id : Nat) (k : RV → Option Ob → Option α) : opP E o st id k = opP E o st' id k := by
  have sh := shOp_loc (E := E) h hS k
  have hs : ∀ i, Operand.tmp i ∈ o.op.operands → i ∈ S := fun i hi => hS i (slots_mem hi)
  have hav := allVal_loc h _ hS
  obtain ⟨dst, op, type, pos, af, guard⟩ := o
  have e1 : ∀ (ty : Option Ty) (x : Operand), x ∈ op.operands → evR ty x st.s = evR ty x st'.s := fun ty x hx => evR_loc h ty x fun i hi => hs i (by rw [← hi]; exact hx)
  have e2 : ∀ (ty : Option Ty) (x : Operand), x ∈ op.operands → inC C (evR ty x st'.s) = true := fun ty x hx => e1 ty x hx ▸ evR_in h ty x fun i hi => hs i (by rw [← hi]; exact hx)
  cases op with
  | move x => simp only [opP]; rw [e1 _ x (by simp [Op.operands])]
  | assign x => simp only [opP]; rw [e1 _ x (by simp [Op.operands])]
  | pick c x y => simp only [opP]; rw [e1 _ x (by simp [Op.operands]), e1 _ y (by simp [Op.operands]), e1 _ c (by simp [Op.operands])]
  | alloc t => rfl
  | box t x => simp only [opP]; simp only [e1 _ x (by simp [Op.operands])]
  | load T x =>
    simp only [opP, sh]
    rw [e1 _ x (by simp [Op.operands])]
    have hin := e2 (lk type E.tab) x (by simp [Op.operands])
    split
    · rename_i i p heq
      rw [heq] at hin
      rw [← h.l i (any_mem.1 hin)]
    · rfl
  | nilCheck x => simp only [opP, sh]; rw [e1 _ x (by simp [Op.operands])]
  | fieldAddr T x f =>
    simp only [opP, sh]
    rw [e1 _ x (by simp [Op.operands])]
    have hin := e2 (lk type E.tab) x (by simp [Op.operands])
    split
    · rename_i i p heq
      rw [heq] at hin
      rw [← h.l i (any_mem.1 hin)]
    · rfl
  | field T x f => simp only [opP, sh]; rw [e1 _ x (by simp [Op.operands])]
  | indexAddr T x i =>
    simp only [opP, sh]
    rw [e1 _ x (by simp [Op.operands]), e1 _ i (by simp [Op.operands])]
    have hin := e2 (lk type E.tab) x (by simp [Op.operands])
    split
    · rename_i id p heq
      rw [heq] at hin
      rw [← h.l id (any_mem.1 hin)]
    · rename_i id heq
      rw [heq] at hin
      rw [← h.l id (any_mem.1 hin)]
    · rename_i id lo hi heq
      rw [heq] at hin
      rw [← h.l id (any_mem.1 hin)]
    · rfl
  | slice T x lo hi mx =>
    cases mx with
    | some m => simp only [opP, sh]
    | none =>
      have hlo : (lo.map fun y => evR (some (.int .i64)) y st.s) = (lo.map fun y => evR (some (.int .i64)) y st'.s) := by
        cases lo with
        | none => rfl
        | some y => simp only [Option.map_some]; rw [e1 _ y (by simp [Op.operands])]
      have hhi : (hi.map fun y => evR (some (.int .i64)) y st.s) = (hi.map fun y => evR (some (.int .i64)) y st'.s) := by
        cases hi with
        | none => rfl
        | some y => simp only [Option.map_some]; rw [e1 _ y (by simp [Op.operands])]
      simp only [opP, sh, hlo, hhi]
      rw [e1 _ x (by simp [Op.operands])]
      have hin := e2 (lk type E.tab) x (by simp [Op.operands])
      split
      · rename_i id heq
        rw [heq] at hin
        rw [← h.l id (any_mem.1 hin)]
      · rename_i id a b heq
        rw [heq] at hin
        rw [← h.l id (any_mem.1 hin)]
      · rfl
  | extract x i => simp only [opP]; rw [e1 _ x (by simp [Op.operands])]
  | makeFunc f first caps =>
    cases f with
    | func g =>
      simp only [opP]
      have : (caps.toList.map fun x => evR none x st.s) = (caps.toList.map fun x => evR none x st'.s) := by
        refine List.map_congr_left fun x hx => e1 none x ?_
        simp only [Op.operands]
        simp
        exact Or.inr (by simpa using hx)
      rw [this]
    | _ => simp only [opP, sh]
  | build t parts =>
    have hp : ∀ i, Operand.tmp i ∈ parts.toList.map (·.2) → i ∈ S := fun i hi => hs i (by simpa [Op.operands] using hi)
    simp only [opP, sh, hav]
    congr 1
    funext ty
    congr 1
    cases ty <;> simp only [buildR_loc h _ _ _ hp]
  | buildSlice t n parts =>
    have hp : ∀ i, Operand.tmp i ∈ parts.toList.map (·.2) → i ∈ S := fun i hi => hs i (by simpa [Op.operands] using hi)
    simp only [opP]
    congr 1
    funext ty
    cases ty <;> simp only [partsR_loc h _ _ hp]
  | convert src dst x => simp only [opP, sh]; simp only [e1 _ x (by simp [Op.operands])]
  | makeSlice t l c => simp only [opP]; simp only [e1 _ l (by simp [Op.operands]), e1 _ c (by simp [Op.operands])]
  | call c =>
    obtain ⟨callee, args, ts⟩ := c
    cases callee with
    | value f =>
      cases f with
      | func f =>
        have hp : ∀ i, Operand.tmp i ∈ args.toList → i ∈ S := fun i hi => hs i (by simp [Op.operands, Call.operands]; simpa using hi)
        simp only [opP]
        congr 1
        funext fn
        unfold callP
        rw [allArgs_loc h _ _ hp, argsR_loc h _ _ _ hp]
      | _ => simp only [opP, sh]
    | invoke r m => simp only [opP, sh]
    | builtin b => simp only [opP, sh]
  | _ => simp only [opP, sh]

theorem dstR_loc (h : Ag S C st st') {e : Ty} {rv : RV} (hr : inC C rv = true) : dstR st.l e rv = dstR st'.l e rv := by
  cases rv with
  | row id => simp only [dstR, h.l id (any_mem.1 hr)]
  | sub id lo hi => simp only [dstR, h.l id (any_mem.1 hr)]
  | _ => rfl
theorem srcR_loc (h : Ag S C st st') {tab : List (TypeId × Ty)} {u : TypeId} {e : Ty} {rv : RV} (hr : inC C rv = true) : srcR tab u st.l e rv = srcR tab u st'.l e rv := by
  cases rv with
  | row id => simp only [srcR, h.l id (any_mem.1 hr)]
  | sub id lo hi => simp only [srcR, h.l id (any_mem.1 hr)]
  | val v => obtain ⟨t, y⟩ := v; cases t <;> rfl
  | _ => rfl

theorem appK_loc (h : Ag S C st st') {args : Array Operand} {ts : Array TypeId} (hp : ∀ i, Operand.tmp i ∈ args.toList → i ∈ S) (k : (e : Ty) → List e.den → Option Nat → Option α) : appK E args ts st k = appK E args ts st' k := by
  unfold appK
  split
  · rename_i sx x t u hargs hts
    have e1 : ∀ ty, evR ty sx st.s = evR ty sx st'.s := fun ty => evR_loc h ty sx fun i hi => hp i (by rw [hargs, hi]; simp)
    have e2 : ∀ ty, evR ty x st.s = evR ty x st'.s := fun ty => evR_loc h ty x fun i hi => hp i (by rw [hargs, hi]; simp)
    split
    · rename_i e _
      rw [dstR_loc h (evR_in h (some (.slice e)) sx fun i hi => hp i (by rw [hargs, hi]; simp)), srcR_loc h (evR_in h (lk u E.tab) x fun i hi => hp i (by rw [hargs, hi]; simp)), e1, e2]
    · rfl
  · rfl

theorem storeK_loc (h : Ag S C st st') {t : TypeId} {x y : Operand} (hx : ∀ i, x = .tmp i → i ∈ S) (hy : ∀ i, y = .tmp i → i ∈ S) (k : Nat → Ob → Option α) : storeK E t x y st k = storeK E t x y st' k := by
  have e1 : ∀ ty, evR ty x st.s = evR ty x st'.s := fun ty => evR_loc h ty x hx
  have e2 : ∀ ty, evR ty y st.s = evR ty y st'.s := fun ty => evR_loc h ty y hy
  have hin := evR_in h (lk t E.tab) x hx
  unfold storeK
  simp only [e2]
  rw [e1] at hin ⊢
  split
  · rename_i id p heq
    rw [heq] at hin
    rw [← h.l id (any_mem.1 hin)]
  · rfl
end
end Go.Lift
