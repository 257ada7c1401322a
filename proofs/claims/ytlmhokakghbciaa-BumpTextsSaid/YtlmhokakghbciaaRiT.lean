/- Operations look at few places: two frames that tell the same there give the same. -/
import Derived.Test.YtlmhokakghbciaaRiQ
namespace Go.Lift
open Go.RowKit

theorem any_mem {C : List Nat} {i : Nat} : C.any (Nat.beq i) = true ↔ i ∈ C := by
  rw [List.any_eq_true]
  constructor
  · rintro ⟨x, h1, h2⟩
    have := Nat.eq_of_beq_eq_true h2
    subst this
    exact h1
  · intro h
    exact ⟨i, h, by simp⟩

/-- what is told of some slots and some blocks is the same -/
structure Ag (S C : List Nat) (st st' : St) : Prop where
  s : ∀ i ∈ S, lk i st.s = lk i st'.s
  l : ∀ i ∈ C, lk i st.l = lk i st'.l
  b : st.b = st'.b
  n : ∀ i ∈ S, ∀ rv, lk i st.s = some rv → inC C rv = true
  c : ∀ i ∈ C, ∀ ty con, lk i st.l = some (.var ty con) → inC C con = true
  y : ∀ i ∈ C, ∀ con q, lk i st.l = some (.lp con q) → inC C con = true

section
variable {α : Type} {S C : List Nat} {st st' : St} {E : Env2}

theorem evR_loc (h : Ag S C st st') (ty : Option Ty) (x : Operand) (hx : ∀ i, x = .tmp i → i ∈ S) : evR ty x st.s = evR ty x st'.s := by
  unfold evR
  cases x with
  | tmp i => simp only [h.s i (hx i rfl)]
  | _ => rfl
theorem evR_in (h : Ag S C st st') (ty : Option Ty) (x : Operand) (hx : ∀ i, x = .tmp i → i ∈ S) : inC C (evR ty x st.s) = true := by
  cases x with
  | tmp i =>
    simp only [evR]
    cases hl : lk i st.s with
    | none => rfl
    | some rv => exact h.n i (hx i rfl) rv hl
  | const v =>
    simp only [evR]
    split
    · cases isNilV v <;> rfl
    · split <;> rfl
    · rfl
  | func f => rfl
  | global g => simp only [evR]; split <;> rfl

theorem partK_loc {k k' : Ty → RV → Option α} (hk : ∀ t rv, inC C rv = true → k t rv = k' t rv) : ∀ (t : Ty) (rv : RV) (p : List Step), inC C rv = true → partK k t rv p = partK k' t rv p := by
  intro t rv p
  fun_induction partK k t rv p with
  | case1 t rv => intro h; simpa only [partK] using hk t rv h
  | case2 a b x y p ih =>
    intro h
    simp only [inC, Bool.and_eq_true] at h
    simpa only [partK] using ih h.1
  | case3 a b x y p n ih =>
    intro h
    simp only [inC, Bool.and_eq_true] at h
    simpa only [partK] using ih h.2
  | case4 t v s p =>
    intro _
    simp only [partK]
    congr 1
    funext u
    exact hk _ _ rfl
  | case5 t rv p h1 h2 h3 h4 =>
    intro _
    unfold partK
    split
    · exact (h1 rfl).elim
    · exact (h3 _ _ _ _ _ rfl rfl rfl).elim
    · exact (h4 _ _ _ _ _ _ rfl rfl rfl).elim
    · exact (h2 _ _ _ rfl rfl).elim
    · rfl

theorem peekC_loc {pk pk' : RV → (TV → Option α) → Option α} (hpk : ∀ rv k, inC C rv = true → pk rv k = pk' rv k) : ∀ (rv : RV) (t : Ty) (k : t.den → Option α), inC C rv = true → peekC pk rv t k = peekC pk' rv t k := by
  intro rv
  induction rv with
  | pair x y ihx ihy =>
    intro t k h
    simp only [inC, Bool.and_eq_true] at h
    cases t with
    | pair a b =>
      simp only [peekC]
      rw [ihx a _ h.1]
      congr 1
      funext z
      exact ihy b _ h.2
    | _ => rfl
  | val v => intro t k h; rfl
  | unit => intro t k h; rfl
  | any => intro t k h; rfl
  | _ => intro t k h; exact hpk _ _ h

theorem peekK_loc (h : Ag S C st st') : ∀ (n : Nat) (rv : RV) (k : TV → Option α), inC C rv = true → peekK st.l n rv k = peekK st'.l n rv k
  | 0, _, _, _ => rfl
  | n + 1, rv, k, hr => by
    have ih : ∀ rv (k : TV → Option α), inC C rv = true → peekK st.l n rv k = peekK st'.l n rv k := fun rv k hr => peekK_loc h n rv k hr
    cases rv with
    | row id => simp only [peekK, h.l id (any_mem.1 hr)]
    | sub id lo hi => simp only [peekK, h.l id (any_mem.1 hr)]
    | loc id p =>
      simp only [peekK]
      rw [← h.l id (any_mem.1 hr)]
      cases hl : lk id st.l with
      | none => rfl
      | some ob =>
        cases ob with
        | var ty con => exact partK_loc (fun t rv hrv => peekC_loc ih rv t _ hrv) ty con p (h.c id (any_mem.1 hr) ty con hl)
        | row t xs => rfl
        | mp kt vt es => rfl
        | lp c q => rfl
    | agg t r => exact peekC_loc ih r t _ hr
    | _ => rfl

theorem shK_loc (h : Ag S C st st') : ∀ (is : List Nat) (k : List (Nat × AV) → Option α), (∀ i ∈ is, i ∈ S) → shK st.l st.s is k = shK st'.l st'.s is k
  | [], _, _ => rfl
  | i :: r, k, hi => by
    simp only [shK]
    rw [← h.s i (hi i (by simp))]
    cases hl : lk i st.s with
    | none => rfl
    | some rv =>
      simp only
      rw [peekK_loc h 6 rv _ (h.n i (hi i (by simp)) rv hl)]
      congr 1
      funext v
      exact shK_loc h r _ fun j hj => hi j (by simp [hj])

theorem allVal_loc (h : Ag S C st st') (is : List Nat) (hi : ∀ i ∈ is, i ∈ S) : allVal st.s is = allVal st'.s is := by
  unfold allVal
  induction is with
  | nil => rfl
  | cons i r ih =>
    simp only [List.all_cons]
    rw [h.s i (hi i (by simp)), ih fun j hj => hi j (by simp [hj])]

theorem shOp_loc (h : Ag S C st st') {o : Oper} (hS : ∀ i ∈ slotsOf o, i ∈ S) (k : RV → Option Ob → Option α) : shOp E o st k = shOp E o st' k := by
  unfold shOp
  rw [shK_loc h _ _ hS, allVal_loc h _ hS]

theorem buildR_loc (h : Ag S C st st') : ∀ (t : Ty) (i : Nat) (ps : List (Nat × Operand)), (∀ i, Operand.tmp i ∈ ps.map (·.2) → i ∈ S) → buildR st.s t i ps = buildR st'.s t i ps := by
  intro t
  induction t with
  | pair a b iha ihb =>
    intro i ps hp
    cases ps with
    | nil => simp only [buildR]; rw [ihb (i + 1) [] (by simp)]
    | cons p r =>
      obtain ⟨j, x⟩ := p
      unfold buildR
      rw [evR_loc h (some a) x (fun i hi => hp i (by simp [hi])), ihb (i + 1) r (fun i hi => hp i (by simp at hi ⊢; exact .inr hi)), ihb (i + 1) ((j, x) :: r) hp]
  | _ => intro i ps hp; cases ps <;> rfl

theorem partsR_loc (h : Ag S C st st') {t : Ty} : ∀ (i : Nat) (ps : List (Nat × Operand)), (∀ i, Operand.tmp i ∈ ps.map (·.2) → i ∈ S) → partsR t st.s i ps = partsR t st'.s i ps
  | _, [], _ => rfl
  | i, (j, x) :: r, hp => by
    unfold partsR
    rw [evR_loc h (some t) x (fun i hi => hp i (by simp [hi])), partsR_loc h (i + 1) r fun i hi => hp i (by simp at hi ⊢; exact .inr hi)]

theorem argsR_loc (h : Ag S C st st') {tab : List (TypeId × Ty)} : ∀ (xs : List Operand) (ts : List TypeId) (k : List TV → Option α), (∀ i, Operand.tmp i ∈ xs → i ∈ S) → argsR tab st.l st.s xs ts k = argsR tab st'.l st'.s xs ts k
  | [], [], _, _ => rfl
  | [], _ :: _, _, _ => rfl
  | _ :: _, [], _, _ => rfl
  | x :: xs, t :: ts, k, hp => by
    simp only [argsR]
    have hx : ∀ i, x = .tmp i → i ∈ S := fun i hi => hp i (by simp [hi])
    rw [← evR_loc h (lk t tab) x hx, peekK_loc h 6 _ _ (evR_in h (lk t tab) x hx)]
    congr 1
    funext v
    exact argsR_loc h xs ts _ fun i hi => hp i (by simp [hi])
theorem allArgs_loc (h : Ag S C st st') {tab : List (TypeId × Ty)} : ∀ (xs : List Operand) (ts : List TypeId), (∀ i, Operand.tmp i ∈ xs → i ∈ S) → allArgs tab st.s xs ts = allArgs tab st'.s xs ts
  | [], [], _ => rfl
  | [], _ :: _, _ => rfl
  | _ :: _, [], _ => rfl
  | x :: xs, t :: ts, hp => by
    simp only [allArgs]
    rw [evR_loc h (lk t tab) x (fun i hi => hp i (by simp [hi])), allArgs_loc h xs ts fun i hi => hp i (by simp [hi])]

theorem slots_mem {o : Oper} {i : Nat} (h : Operand.tmp i ∈ o.op.operands) : i ∈ slotsOf o := by
  unfold slotsOf
  rw [List.mem_filterMap]
  exact ⟨.tmp i, by simpa using h, rfl⟩

theorem opP_loc (h : Ag S C st st') {o : Oper} (hS : ∀ i ∈ slotsOf o, i ∈ S) (id : Nat) (k : RV → Option Ob → Option α) : opP E o st id k = opP E o st' id k := by
  have sh := shOp_loc (E := E) h hS k
  have hs : ∀ i, Operand.tmp i ∈ o.op.operands → i ∈ S := fun i hi => hS i (slots_mem hi)
  have hav := allVal_loc h _ hS
  obtain ⟨dst, op, type, pos, af, guard⟩ := o
  have e1 : ∀ (ty : Option Ty) (x : Operand), x ∈ op.operands → evR ty x st.s = evR ty x st'.s := fun ty x hx => evR_loc h ty x fun i hi => hs i (by rw [← hi]; exact hx)
  have e2 : ∀ (ty : Option Ty) (x : Operand), x ∈ op.operands → inC C (evR ty x st'.s) = true := fun ty x hx => e1 ty x hx ▸ evR_in h ty x fun i hi => hs i (by rw [← hi]; exact hx)
  have nl : ∀ (k : RV → Option α) (alt : Option α), nilP E { dst := dst, op := op, type := type, pos := pos, after := af, guard := guard } st k alt = nilP E { dst := dst, op := op, type := type, pos := pos, after := af, guard := guard } st' k alt := by
    intro k alt
    cases op with
    | binOp op t x y u =>
      cases y with
      | const v => simp only [nilP]; rw [e1 none x (by simp [Op.operands])]
      | _ => rfl
    | slice T x lo hi mx =>
      cases lo with
      | some _ => cases mx <;> rfl
      | none =>
        cases hi with
        | none => cases mx <;> rfl
        | some y =>
          cases mx with
          | some _ => rfl
          | none => simp only [nilP]; rw [e1 none x (by simp [Op.operands]), e1 (some (.int .i64)) y (by simp [Op.operands])]
    | call c =>
      obtain ⟨callee, args, ts⟩ := c
      cases callee with
      | builtin b =>
        cases b with
        | cap =>
          simp only [nilP]
          split
          · rename_i x t hargs hts
            rw [e1 none x (by simp [Op.operands, Call.operands]; rw [← Array.mem_toList_iff, hargs]; simp)]
          · rfl
        | _ => rfl
      | _ => rfl
    | _ => rfl
  cases op with
  | move x => simp only [opP]; rw [e1 _ x (by simp [Op.operands])]
  | assign x => simp only [opP]; rw [e1 _ x (by simp [Op.operands])]
  | pick c x y => simp only [opP]; rw [e1 _ x (by simp [Op.operands]), e1 _ y (by simp [Op.operands]), e1 _ c (by simp [Op.operands])]
  | alloc t => rfl
  | box t x => simp only [opP]; simp only [e1 _ x (by simp [Op.operands])]
  | load T x =>
    simp only [opP, sh]
    rw [e1 _ x (by simp [Op.operands])]
    have hin := e2 (lk type E.tab) x (by simp [Op.operands])
    split
    · rename_i i p heq
      rw [heq] at hin
      rw [← h.l i (any_mem.1 hin)]
    · rfl
  | nilCheck x => simp only [opP, sh]; rw [e1 _ x (by simp [Op.operands])]
  | fieldAddr T x f =>
    simp only [opP, sh]
    rw [e1 _ x (by simp [Op.operands])]
    have hin := e2 (lk type E.tab) x (by simp [Op.operands])
    split
    · rename_i i p heq
      rw [heq] at hin
      rw [← h.l i (any_mem.1 hin)]
    · rfl
  | field T x f => simp only [opP, sh]; rw [e1 _ x (by simp [Op.operands])]
  | indexAddr T x i =>
    simp only [opP, sh]
    rw [e1 _ x (by simp [Op.operands]), e1 _ i (by simp [Op.operands])]
    have hin := e2 (lk type E.tab) x (by simp [Op.operands])
    split
    · rename_i id p heq
      rw [heq] at hin
      rw [← h.l id (any_mem.1 hin)]
    · rename_i id heq
      rw [heq] at hin
      rw [← h.l id (any_mem.1 hin)]
    · rename_i id lo hi heq
      rw [heq] at hin
      rw [← h.l id (any_mem.1 hin)]
    · rfl
  | slice T x lo hi mx =>
    cases mx with
    | some z =>
      cases hi with
      | none => simp only [opP, sh, nl]
      | some y =>
        have hlo : (lo.map fun y => evR (some (.int .i64)) y st.s) = (lo.map fun y => evR (some (.int .i64)) y st'.s) := by
          cases lo with
          | none => rfl
          | some y => simp only [Option.map_some]; rw [e1 _ y (by simp [Op.operands])]
        have hhi : ((some y).map fun y => evR (some (.int .i64)) y st.s) = ((some y).map fun y => evR (some (.int .i64)) y st'.s) := by
          simp only [Option.map_some]; rw [e1 _ y (by simp [Op.operands])]
        have hz := e1 (some (.int .i64)) z (by simp [Op.operands])
        simp only [opP, sh, hlo, hhi, hz]
        rw [e1 _ x (by simp [Op.operands])]
        have hin := e2 (lk type E.tab) x (by simp [Op.operands])
        split
        · rename_i id heq
          rw [heq] at hin
          rw [← h.l id (any_mem.1 hin)]
        · rename_i id a b heq
          rw [heq] at hin
          rw [← h.l id (any_mem.1 hin)]
        · rfl
    | none =>
      have hlo : (lo.map fun y => evR (some (.int .i64)) y st.s) = (lo.map fun y => evR (some (.int .i64)) y st'.s) := by
        cases lo with
        | none => rfl
        | some y => simp only [Option.map_some]; rw [e1 _ y (by simp [Op.operands])]
      have hhi : (hi.map fun y => evR (some (.int .i64)) y st.s) = (hi.map fun y => evR (some (.int .i64)) y st'.s) := by
        cases hi with
        | none => rfl
        | some y => simp only [Option.map_some]; rw [e1 _ y (by simp [Op.operands])]
      simp only [opP, sh, hlo, hhi, nl]
      rw [e1 _ x (by simp [Op.operands])]
      have hin := e2 (lk type E.tab) x (by simp [Op.operands])
      split
      · rename_i id heq
        rw [heq] at hin
        rw [← h.l id (any_mem.1 hin)]
      · rename_i id a b heq
        rw [heq] at hin
        rw [← h.l id (any_mem.1 hin)]
      · rfl
  | extract x i => simp only [opP]; rw [e1 _ x (by simp [Op.operands])]
  | makeFunc f first caps =>
    cases f with
    | func g =>
      simp only [opP]
      have : (caps.toList.map fun x => evR none x st.s) = (caps.toList.map fun x => evR none x st'.s) := by
        refine List.map_congr_left fun x hx => e1 none x ?_
        simp only [Op.operands]
        simp
        exact Or.inr (by simpa using hx)
      rw [this]
    | _ => simp only [opP, sh, nl]
  | build t parts =>
    have hp : ∀ i, Operand.tmp i ∈ (sortP parts.toList).map (·.2) → i ∈ S := fun i hi => hs i (by
      obtain ⟨p, h1, h2⟩ := List.mem_map.1 hi
      have : Operand.tmp i ∈ parts.toList.map (·.2) := List.mem_map.2 ⟨p, mem_sortP.1 h1, h2⟩
      simpa [Op.operands] using this)
    simp only [opP, sh, hav]
    congr 1
    funext ty
    congr 1
    cases ty <;> simp only [buildR_loc h _ _ _ hp]
  | buildSlice t n parts =>
    have hp : ∀ i, Operand.tmp i ∈ parts.toList.map (·.2) → i ∈ S := fun i hi => hs i (by simpa [Op.operands] using hi)
    simp only [opP]
    congr 1
    funext ty
    cases ty <;> simp only [partsR_loc h _ _ hp]
  | convert src dst x => simp only [opP, sh]; simp only [e1 _ x (by simp [Op.operands])]
  | makeMap t hint => cases hint <;> simp only [opP, sh, nl]
  | lookup t m x c =>
    simp only [opP, lookK]
    have hin := e2 none m (by simp [Op.operands])
    rw [e1 none m (by simp [Op.operands])]
    split
    · rename_i i heq
      rw [heq] at hin
      rw [← h.l i (any_mem.1 hin)]
      split
      · rename_i kt vt es _
        rw [← e1 (some kt) x (by simp [Op.operands]), peekK_loc h 6 _ _ (evR_in h (some kt) x fun i hi => hs i (by rw [← hi]; simp [Op.operands]))]
      · rfl
    · rfl
  | makeSlice t l c => simp only [opP]; simp only [e1 _ l (by simp [Op.operands]), e1 _ c (by simp [Op.operands])]
  | call c =>
    obtain ⟨callee, args, ts⟩ := c
    cases callee with
    | value f =>
      have hp : ∀ i, Operand.tmp i ∈ args.toList → i ∈ S := fun i hi => hs i (by simp [Op.operands, Call.operands]; exact .inr (by simpa using hi))
      simp only [opP]
      rw [e1 none f (by simp [Op.operands, Call.operands])]
      split
      · congr 1
        funext fn
        unfold callP
        rw [allArgs_loc h _ _ hp, argsR_loc h _ _ _ hp]
      · rfl
    | invoke r m => simp only [opP, sh, nl]
    | builtin b => simp only [opP, sh, nl]
  | _ => simp only [opP, sh, nl]

theorem dstR_loc (h : Ag S C st st') {e : Ty} {rv : RV} (hr : inC C rv = true) : dstR st.l e rv = dstR st'.l e rv := by
  cases rv with
  | row id => simp only [dstR, h.l id (any_mem.1 hr)]
  | sub id lo hi => simp only [dstR, h.l id (any_mem.1 hr)]
  | _ => rfl
theorem srcR_loc (h : Ag S C st st') {tab : List (TypeId × Ty)} {u : TypeId} {e : Ty} {rv : RV} (hr : inC C rv = true) : srcR tab u st.l e rv = srcR tab u st'.l e rv := by
  cases rv with
  | row id => simp only [srcR, h.l id (any_mem.1 hr)]
  | sub id lo hi => simp only [srcR, h.l id (any_mem.1 hr)]
  | val v => obtain ⟨t, y⟩ := v; cases t <;> rfl
  | _ => rfl

theorem appK_loc (h : Ag S C st st') {args : Array Operand} {ts : Array TypeId} (hp : ∀ i, Operand.tmp i ∈ args.toList → i ∈ S) (k : (e : Ty) → List e.den → Option Nat → Option α) : appK E args ts st k = appK E args ts st' k := by
  unfold appK
  split
  · rename_i sx x t u hargs hts
    have e1 : ∀ ty, evR ty sx st.s = evR ty sx st'.s := fun ty => evR_loc h ty sx fun i hi => hp i (by rw [hargs, hi]; simp)
    have e2 : ∀ ty, evR ty x st.s = evR ty x st'.s := fun ty => evR_loc h ty x fun i hi => hp i (by rw [hargs, hi]; simp)
    split
    · rename_i e _
      rw [dstR_loc h (evR_in h (some (.slice e)) sx fun i hi => hp i (by rw [hargs, hi]; simp)), srcR_loc h (evR_in h (lk u E.tab) x fun i hi => hp i (by rw [hargs, hi]; simp)), e1, e2]
    · rfl
  · rfl

theorem mapK_loc (h : Ag S C st st') {t : TypeId} {m x y : Operand} (hm : ∀ i, m = .tmp i → i ∈ S) (hx : ∀ i, x = .tmp i → i ∈ S) (hy : ∀ i, y = .tmp i → i ∈ S) (k : Nat → Ob → Option α) : mapK E t m x y st k = mapK E t m x y st' k := by
  have hin := evR_in h none m hm
  unfold mapK
  rw [← evR_loc h none m hm]
  split
  · rename_i i heq
    rw [heq] at hin
    rw [← h.l i (any_mem.1 hin)]
    split
    · rename_i kt vt es _
      rw [← evR_loc h (some kt) x hx, ← evR_loc h (some vt) y hy, peekK_loc h 6 _ _ (evR_in h (some kt) x hx)]
      congr 1
      congr 1
      funext v
      congr 1
      funext z
      exact peekK_loc h 6 _ _ (evR_in h (some vt) y hy)
    · rfl
  · rfl

theorem storeK_loc (h : Ag S C st st') {t : TypeId} {x y : Operand} (hx : ∀ i, x = .tmp i → i ∈ S) (hy : ∀ i, y = .tmp i → i ∈ S) (k : Nat → Ob → Option α) : storeK E t x y st k = storeK E t x y st' k := by
  have e1 : ∀ ty, evR ty x st.s = evR ty x st'.s := fun ty => evR_loc h ty x hx
  have e2 : ∀ ty, evR ty y st.s = evR ty y st'.s := fun ty => evR_loc h ty y hy
  have hin := evR_in h (lk t E.tab) x hx
  unfold storeK
  simp only [e2]
  rw [e1] at hin ⊢
  split
  · rename_i id p heq
    rw [heq] at hin
    rw [← h.l id (any_mem.1 hin)]
  · rfl

theorem idsR_in : ∀ {rv : RV} {acc : List Nat} {i : Nat}, inC C rv = true → i ∈ idsR rv acc → i ∈ C ∨ i ∈ acc := by
  intro rv
  induction rv with
  | row id => intro acc i h hi; rcases List.mem_cons.1 hi with rfl | hi; exact .inl (any_mem.1 h); exact .inr hi
  | sub id _ _ => intro acc i h hi; rcases List.mem_cons.1 hi with rfl | hi; exact .inl (any_mem.1 h); exact .inr hi
  | loc id _ => intro acc i h hi; rcases List.mem_cons.1 hi with rfl | hi; exact .inl (any_mem.1 h); exact .inr hi
  | mp id => intro acc i h hi; rcases List.mem_cons.1 hi with rfl | hi; exact .inl (any_mem.1 h); exact .inr hi
  | yl id => intro acc i h hi; rcases List.mem_cons.1 hi with rfl | hi; exact .inl (any_mem.1 h); exact .inr hi
  | clo f c ih => intro acc i h hi; exact ih h hi
  | agg t r ih => intro acc i h hi; exact ih h hi
  | tup r ih => intro acc i h hi; exact ih h hi
  | pair a b iha ihb =>
    intro acc i h hi
    simp only [inC, Bool.and_eq_true] at h
    rcases iha h.1 hi with h1 | h1
    · exact .inl h1
    · exact ihb h.2 h1
  | _ => intro acc i _ hi; exact .inr hi

theorem idsL_in : ∀ {rvs : List RV}, (∀ rv ∈ rvs, inC C rv = true) → ∀ i ∈ idsL rvs, i ∈ C
  | [], _, i, hi => by simp [idsL] at hi
  | r :: rs, h, i, hi => by
    rcases idsR_in (h r (by simp)) hi with h1 | h1
    · exact h1
    · exact idsL_in (fun rv hr => h rv (by simp [hr])) i h1

theorem reach_loc (h : Ag S C st st') : ∀ (n : Nat) (todo seen : List Nat), (∀ i ∈ todo, i ∈ C) → reach st.l n todo seen = reach st'.l n todo seen ∧ ∀ i ∈ reach st.l n todo seen, i ∈ C ∨ i ∈ seen
  | 0, _, seen, _ => ⟨rfl, fun i hi => .inr hi⟩
  | n + 1, [], seen, _ => ⟨rfl, fun i hi => .inr hi⟩
  | n + 1, id :: todo, seen, ht => by
    have hid := ht id (by simp)
    have ht' : ∀ i ∈ todo, i ∈ C := fun i hi => ht i (by simp [hi])
    have snoc : ∀ {i : Nat}, i ∈ C ∨ i ∈ seen ++ [id] → i ∈ C ∨ i ∈ seen := by
      intro i hi
      rcases hi with hi | hi
      · exact .inl hi
      · rcases List.mem_append.1 hi with hi | hi
        · exact .inr hi
        · simp at hi; subst hi; exact .inl hid
    simp only [reach]
    rw [← h.l id hid]
    cases seen.any (Nat.beq id) with
    | true => exact reach_loc h n todo seen ht'
    | false =>
      simp only [cond_false]
      split
      · rename_i t con hl
        obtain ⟨h1, h2⟩ := reach_loc h n (idsR con todo) (seen ++ [id]) fun i hi => (idsR_in (h.c id hid t con hl) hi).elim (fun h => h) (ht' i)
        exact ⟨h1, fun i hi => snoc (h2 i hi)⟩
      · obtain ⟨h1, h2⟩ := reach_loc h n todo (seen ++ [id]) ht'
        exact ⟨h1, fun i hi => snoc (h2 i hi)⟩
      · obtain ⟨h1, h2⟩ := reach_loc h n todo (seen ++ [id]) ht'
        exact ⟨h1, fun i hi => snoc (h2 i hi)⟩
      · rename_i con q hl
        obtain ⟨h1, h2⟩ := reach_loc h n (idsR con todo) (seen ++ [id]) fun i hi => (idsR_in (h.y id hid con q hl) hi).elim (fun h => h) (ht' i)
        exact ⟨h1, fun i hi => snoc (h2 i hi)⟩
      · exact reach_loc h n todo seen ht'

theorem renL_loc (h : Ag S C st st') {f : Nat → Option Nat} : ∀ (ids : List Nat) (n : Nat), (∀ i ∈ ids, i ∈ C) → renL f st.l ids n = renL f st'.l ids n
  | [], _, _ => rfl
  | i :: r, n, hi => by
    simp only [renL]
    rw [← h.l i (hi i (by simp)), renL_loc h r (n + 1) fun j hj => hi j (by simp [hj])]

theorem listP_in : ∀ {r : RV} {cs : List RV}, listP r = some cs → inC C r = true → ∀ rv ∈ cs, inC C rv = true := by
  intro r
  induction r with
  | unit => intro cs h _ rv hr; cases h; cases hr
  | pair a b _ ihb =>
    intro cs h hc rv hr
    simp only [inC, Bool.and_eq_true] at hc
    simp only [listP] at h
    obtain ⟨r, h1, h⟩ := Option.bind_eq_some_iff.1 h
    cases h
    rcases List.mem_cons.1 hr with rfl | hr
    · exact hc.1
    · exact ihb h1 hc.2 rv hr
  | _ => intro cs h; cases h

theorem recK_loc (h : Ag S C st st') {c : RecC} {args : Array Operand} {ts : Array TypeId} {caps : RV} (hp : ∀ i, Operand.tmp i ∈ args.toList → i ∈ S) (hc : inC C caps = true) (k : Nat → Ob → RV → Option α) : recK E c args ts caps st k = recK E c args ts caps st' k := by
  have hargs : ((args.toList.zip ts.toList).map fun p => evR (lk p.2 E.tab) p.1 st.s) = (args.toList.zip ts.toList).map fun p => evR (lk p.2 E.tab) p.1 st'.s :=
    List.map_congr_left fun p hp' => evR_loc h _ p.1 fun i e => hp i (by rw [← e]; exact (List.of_mem_zip hp').1)
  have hin : ∀ rv ∈ (args.toList.zip ts.toList).map fun p => evR (lk p.2 E.tab) p.1 st.s, inC C rv = true := by
    intro rv hr
    obtain ⟨p, hp', rfl⟩ := List.mem_map.1 hr
    exact evR_in h _ p.1 fun i e => hp i (by rw [← e]; exact (List.of_mem_zip hp').1)
  unfold recK
  rw [← hargs]
  congr 1
  cases hcs : listP caps with
  | none => rfl
  | some cs =>
    simp only [Option.bind_some]
    have hin2 : ∀ rv ∈ ((args.toList.zip ts.toList).map fun p => evR (lk p.2 E.tab) p.1 st.s) ++ cs, inC C rv = true := by
      intro rv hr
      rcases List.mem_append.1 hr with hr | hr
      · exact hin rv hr
      · exact listP_in hcs hc rv hr
    obtain ⟨h1, h2⟩ := reach_loc h 200 (idsL (((args.toList.zip ts.toList).map fun p => evR (lk p.2 E.tab) p.1 st.s) ++ cs)) [] (idsL_in hin2)
    unfold recE
    have h3 : idsOf st'.l (((args.toList.zip ts.toList).map fun p => evR (lk p.2 E.tab) p.1 st.s) ++ cs) = idsOf st.l (((args.toList.zip ts.toList).map fun p => evR (lk p.2 E.tab) p.1 st.s) ++ cs) := h1.symm
    have h4 : ∀ i ∈ idsOf st.l (((args.toList.zip ts.toList).map fun p => evR (lk p.2 E.tab) p.1 st.s) ++ cs), i ∈ C := fun i hi => (h2 i hi).resolve_right (by simp)
    rw [h3]
    generalize idsOf st.l (((args.toList.zip ts.toList).map fun p => evR (lk p.2 E.tab) p.1 st.s) ++ cs) = ids at h4
    have h5 : renL (fun id => idxN id ids 0) st.l ids 0 = renL (fun id => idxN id ids 0) st'.l ids 0 := renL_loc h ids 0 h4
    simp only [h5]

theorem recOr_loc (h : Ag S C st st') {o : Oper} (hS : ∀ i ∈ slotsOf o, i ∈ S) {γ : Type} {T : List (FuncId × γ)} {yes yes' : γ → Array Operand → Array TypeId → RV → Option α} {no no' : Option α} (hn : no = no')
    (hy : ∀ c args ts caps, (∀ i, Operand.tmp i ∈ args.toList → i ∈ S) → inC C caps = true → yes c args ts caps = yes' c args ts caps) : recOr T o st yes no = recOr T o st' yes' no' := by
  unfold recOr
  subst hn
  split
  · rename_i f args ts hop
    have hf : ∀ i, f = .tmp i → i ∈ S := fun i hi => hS i (slots_mem (by simp [hop, Op.operands, Call.operands, hi]))
    rw [← evR_loc h none f hf]
    have hin := evR_in h none f hf
    split
    · rename_i g caps heq
      rw [heq] at hin
      split
      · exact hy _ _ _ _ (fun i hi => hS i (slots_mem (by simp [hop, Op.operands, Call.operands]; simp at hi; exact .inr hi))) hin
      · rfl
    · rfl
  · rfl

theorem recOr_inv {γ : Type} {T : List (FuncId × γ)} {o : Oper} {yes : γ → Array Operand → Array TypeId → RV → Option α} {no : Option α} {r : α} (h : recOr T o st yes no = some r) :
    (∃ f args ts g caps c, o.op = .call { callee := .value f, args := args, argTypes := ts } ∧ evR none f st.s = .clo g caps ∧ lk g T = some c ∧ yes c args ts caps = some r) ∨ no = some r := by
  unfold recOr at h
  split at h
  · rename_i f args ts hop
    split at h
    · rename_i g caps heq
      split at h
      · rename_i c hc
        exact .inl ⟨f, args, ts, g, caps, c, hop, heq, hc, h⟩
      · exact .inr h
    · exact .inr h
  · exact .inr h

theorem recOr_pc {γ : Type} {T : List (FuncId × γ)} {X : Type} {o : Oper} {yes : (β : Type) → (X → Option β) → γ → Array Operand → Array TypeId → RV → Option β} {no : (β : Type) → (X → Option β) → Option β} (hy : ∀ c a t r, PC (fun β k => yes β k c a t r)) (hn : PC no) : PC (fun β k => recOr T o st (yes β k) (no β k)) := by
  unfold recOr
  split
  · split
    · split
      · exact hy _ _ _ _
      · exact hn
    · exact hn
  · exact hn

theorem giveK_loc (h : Ag S C st st') {c : OwnC} {args : Array Operand} {ts : Array TypeId} {caps : RV} (hp : ∀ i, Operand.tmp i ∈ args.toList → i ∈ S) (k : (e : Ty) → List e.den → Option Nat → Option α) : giveK E c args ts caps st k = giveK E c args ts caps st' k := by
  unfold giveK
  split
  · rename_i sx xs t us hargs _
    have e1 : evR (lk t E.tab) sx st.s = evR (lk t E.tab) sx st'.s := evR_loc h _ sx fun i hi => hp i (by rw [hargs, hi]; simp)
    have e2 : ((xs.zip us).map fun p => evR (lk p.2 E.tab) p.1 st.s) = (xs.zip us).map fun p => evR (lk p.2 E.tab) p.1 st'.s :=
      List.map_congr_left fun p hp' => evR_loc h _ p.1 fun i e => hp i (by rw [hargs, ← e]; exact List.mem_cons_of_mem _ (List.of_mem_zip hp').1)
    rw [dstR_loc h (evR_in h (lk t E.tab) sx fun i hi => hp i (by rw [hargs, hi]; simp)), e1, e2]
  · rfl
theorem giveK_pc {c : OwnC} {args : Array Operand} {ts : Array TypeId} {caps : RV} : PC (fun β (k : ((e : Ty) × List e.den × Option Nat) → Option β) => giveK E c args ts caps st fun e z old => k ⟨e, z, old⟩) := by
  unfold giveK
  split
  · exact PC.bif (PC.bind (X := (e : Ty) × List e.den × Option Nat) fun X => PC.bind fun y => PC.bind fun z => PC.ret _) PC.none
  · exact PC.none

theorem partsC_loc (h : Ag S C st st') {id : Nat} {u : Ty} {xs : List u.den} {t : Ty} : ∀ (i : Nat) (ps : List (Nat × Operand)), (∀ i, Operand.tmp i ∈ ps.map (·.2) → i ∈ S) → partsC id u xs t st.s i ps = partsC id u xs t st'.s i ps
  | _, [], _ => rfl
  | i, (j, x) :: r, hp => by
    unfold partsC
    rw [evR_loc h (some t) x fun i e => hp i (by simp [e]), partsC_loc h (i + 1) r fun i hi => hp i (by simp at hi ⊢; exact .inr hi)]

theorem opIds_loc (h : Ag S C st st') {o : Oper} (hS : ∀ i ∈ slotsOf o, i ∈ S) : opIds o st = opIds o st' := by
  unfold opIds
  have : ∀ l : List Nat, (∀ i ∈ l, i ∈ S) → l.foldr (fun i acc => match lk i st.s with | some rv => idsR rv acc | none => acc) [] = l.foldr (fun i acc => match lk i st'.s with | some rv => idsR rv acc | none => acc) [] := by
    intro l
    induction l with
    | nil => intro _; rfl
    | cons i l ih =>
      intro hl
      simp only [List.foldr_cons]
      rw [ih fun j hj => hl j (by simp [hj]), h.s i (hl i (by simp))]
  exact this _ hS
theorem opIds_in (h : Ag S C st st') {o : Oper} (hS : ∀ i ∈ slotsOf o, i ∈ S) : ∀ i ∈ opIds o st, i ∈ C := by
  unfold opIds
  have : ∀ l : List Nat, (∀ i ∈ l, i ∈ S) → ∀ i ∈ l.foldr (fun i acc => match lk i st.s with | some rv => idsR rv acc | none => acc) [], i ∈ C := by
    intro l
    induction l with
    | nil => intro _ i hi; simp at hi
    | cons j l ih =>
      intro hl i hi
      simp only [List.foldr_cons] at hi
      cases hs : lk j st.s with
      | none => rw [hs] at hi; exact ih (fun j hj => hl j (by simp [hj])) i hi
      | some rv =>
        rw [hs] at hi
        exact (idsR_in (h.n j (hl j (by simp)) rv hs) hi).elim (fun h => h) (ih (fun j hj => hl j (by simp [hj])) i)
  exact this _ hS

theorem buildC_loc (h : Ag S C st st') {t : TypeId} {n : Nat} {parts : List (Nat × Operand)} {id : Nat} (hp : ∀ i, Operand.tmp i ∈ parts.map (·.2) → i ∈ S) (hid : id ∈ C) (k : (e : Ty) → List e.den → Option α) : buildC E t n parts id st k = buildC E t n parts id st' k := by
  unfold buildC
  rw [← h.l id hid]
  split
  · congr 1
    funext ty
    split
    · rw [partsC_loc h 0 parts hp]
    · rfl
  · rfl
end
end Go.Lift
