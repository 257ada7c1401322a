/- Package script: what is read, by the program and by the reference of layer 11: the script with these bytes, if there is one. -/
import Derived.Test.YtmioekkonoehpaaScrB
set_option linter.unusedVariables false
set_option linter.unusedSimpArgs false
set_option maxRecDepth 100000
namespace Go.Proofs.Ytmioekkonoehpaa
open Go.Lift

/-! ### a number -/
theorem cod_inj {a b : Int} {r r' : List Int} (ha : Nm a) (hb : Nm b) (h : cod a ++ r = cod b ++ r') : a = b ∧ r = r' := by
  have h1 := rd_of_vary a.toNat r (by have := ha.2; omega)
  have h2 := rd_of_vary b.toNat r' (by have := hb.2; omega)
  have h' : vary a.toNat ++ r = vary b.toNat ++ r' := h
  rw [h', h2] at h1
  have e : b.toNat = a.toNat := congrArg Prod.fst h1
  have e' : a = b := by have := ha.1; have := hb.1; omega
  subst e'
  exact ⟨rfl, List.append_cancel_left h⟩
theorem codeL_inj : ∀ {l m : List Int}, (∀ n ∈ l, Nm n) → (∀ n ∈ m, Nm n) → codeL l = codeL m → l = m
  | [], [], _, _, _ => rfl
  | [], b :: m, _, _, h => by
    have h1 := codeL_len (b :: m)
    rw [← h] at h1
    simp [codeL] at h1
  | a :: l, [], _, _, h => by
    have h1 := codeL_len (a :: l)
    rw [h] at h1
    simp [codeL] at h1
  | a :: l, b :: m, ha, hb, h => by
    unfold codeL at h
    rw [List.flatMap_cons, List.flatMap_cons] at h
    obtain ⟨rfl, h2⟩ := cod_inj (ha a (by simp)) (hb b (by simp)) h
    rw [codeL_inj (fun n hn => ha n (by simp [hn])) (fun n hn => hb n (by simp [hn])) h2]

theorem rd_good {bs : List Int} (hb : Bytes bs) (h : (rd 10 0 bs).2.2 = 0) : (rd 10 0 bs).1 < 18446744073709551616 ∧ (rd 10 0 bs).2.1 ≤ bs.length ∧ 1 ≤ (rd 10 0 bs).2.1 ∧ vary (rd 10 0 bs).1 = bs.take (rd 10 0 bs).2.1 := by
  obtain ⟨r1, r2, r3, r4, _⟩ := rd_read 9 0 bs rfl hb h
  exact ⟨by simpa using r2, r4, r3, r1⟩
/-- a number that is at most m, from a on: it, and where it ends -/
def rd1 (bs : List Int) (a : Nat) (m : Int) : Option (Int × Nat) :=
  if (rd 10 0 (bs.drop a)).2.2 = 0 ∧ ((rd 10 0 (bs.drop a)).1 : Int) ≤ m then some (((rd 10 0 (bs.drop a)).1 : Int), a + (rd 10 0 (bs.drop a)).2.1) else none
theorem rd1_of {bs : List Int} {a : Nat} {m n : Int} {r : List Int} (hn : Nm n) (hm : n ≤ m) (h : bs.drop a = cod n ++ r) : rd1 bs a m = some (n, a + (cod n).length) := by
  unfold rd1
  rw [h, show cod n = vary n.toNat from rfl, rd_of_vary n.toNat r (by have := hn.2; omega)]
  have := hn.1
  rw [if_pos ⟨rfl, by dsimp only; omega⟩]
  dsimp only
  rw [Int.toNat_of_nonneg hn.1]
theorem rd1_some {bs : List Int} (hb : Bytes bs) {a a' : Nat} {m n : Int} (h : rd1 bs a m = some (n, a')) : 0 ≤ n ∧ n ≤ m ∧ bs.drop a = cod n ++ bs.drop a' ∧ a < a' ∧ (a ≤ bs.length → a' ≤ bs.length) := by
  unfold rd1 at h
  split at h
  · rename_i c
    cases h
    obtain ⟨r2, r4, r3, r1⟩ := rd_good (fun c hc => hb c (List.mem_of_mem_drop hc)) c.1
    refine ⟨by omega, c.2, ?_, by omega, fun ha => by rw [List.length_drop] at r4; omega⟩
    rw [show cod (((rd 10 0 (bs.drop a)).1 : Nat) : Int) = vary (rd 10 0 (bs.drop a)).1 from rfl, r1, ← List.drop_drop]
    exact (List.take_append_drop _ _).symm
  · cases h

/-! ### the program -/
def stS (bs : List Int) : Option Nat → (List Int × Int × Unit) × Bool × Unit
  | some a => ((bs, ((a : Int), ())), (false, ()))
  | none => (zc, (true, ()))
def nx (bs : List Int) (m : Int) : Option Nat → Option Nat × Int
  | some a => match rd1 bs a m with
    | some q => (some q.2, q.1)
    | none => (none, 0)
  | none => (none, 0)
theorem nx_some (bs : List Int) (m : Int) (a : Nat) : nx bs m (some a) = (match rd1 bs a m with
    | some q => (some q.2, q.1)
    | none => (none, 0)) := rfl
def In (bs : List Int) (st : Option Nat) : Prop := ∀ a, st = some a → a ≤ bs.length
theorem num11 {bs : List Int} (hb : Bytes bs) (hl : bs.length ≤ 6100) {m : Int} (hm : Nm m) {st : Option Nat} (hs : In bs st) :
    cscript_reader_number ((), (m, ())) (stS bs st, ()) = some (stS bs (nx bs m st).1, (nx bs m st).2) := by
  show rscript_reader_number big _ _ = _
  rw [big_pos]
  show nscript_reader_number (rscript_reader_number (big - 1)) (stS bs st, ()) ((), (m, ())) = _
  have h0 := hm.1
  have h1 := hm.2
  have hw : IntKind.u64.wrap m = m := wrap_id ⟨by rw [min_u64]; omega, by rw [max_u64]; omega⟩
  unfold nscript_reader_number
  dsimp only
  rw [hw]
  cases st with
  | none =>
    show ((cwire_Unvary (zc, m)).bind _) = _
    rw [unvary_eq zc m (fun c hc => by cases hc), if_pos (by decide), Option.bind_some, show outc zc.1 zc.2.1.toNat m 0 0 (rd 10 0 (zc.1.drop zc.2.1.toNat)) = (zc, 0, 24) from rfl]
    rfl
  | some a =>
    have ha := hs a rfl
    show ((cwire_Unvary ((bs, ((a : Int), ())), m)).bind _) = _
    rw [unvary_eq (bs, ((a : Int), ())) m hb, if_pos ⟨by show bs.length ≤ 200000; omega, by show (0 : Int) ≤ a; omega, by show (a : Int) ≤ bs.length; omega⟩, Option.bind_some]
    dsimp only [nx, stS]
    rw [Int.toNat_natCast]
    unfold rd1 outc
    by_cases c1 : (rd 10 0 (bs.drop a)).2.2 = 0
    · rw [if_pos c1, Nat.pow_zero, Nat.mul_one, Nat.zero_add]
      by_cases c2 : ((rd 10 0 (bs.drop a)).1 : Int) ≤ m
      · rw [if_neg (by omega), if_pos ⟨c1, c2⟩]
        dsimp only
        rw [cond_false, wrap_i64 (by omega) (by omega)]
        rfl
      · rw [if_pos (by omega), if_neg (fun h => c2 h.2)]
        rfl
    · rw [if_neg c1, if_neg (fun h => c1 h.1)]
      dsimp only
      rw [cond_false, show ((rd 10 0 (bs.drop a)).2.2 != 0) = true by simpa using c1]
      rfl
theorem nx_in {bs : List Int} (hb : Bytes bs) {m : Int} {st : Option Nat} (hs : In bs st) : In bs (nx bs m st).1 := by
  intro a h
  cases st with
  | none => cases h
  | some b =>
    rw [nx_some] at h
    cases hr : rd1 bs b m with
    | none => rw [hr] at h; cases h
    | some q =>
      rw [hr] at h
      cases h
      exact (rd1_some hb (n := q.1) (a' := q.2) hr).2.2.2.2 (hs b rfl)
theorem nx_le (bs : List Int) (hb : Bytes bs) {m : Int} (hm : 0 ≤ m) (st : Option Nat) : 0 ≤ (nx bs m st).2 ∧ (nx bs m st).2 ≤ m := by
  cases st with
  | none => exact ⟨Int.le_refl _, hm⟩
  | some b =>
    rw [nx_some]
    cases hr : rd1 bs b m with
    | none => exact ⟨Int.le_refl _, hm⟩
    | some q =>
      obtain ⟨q1, q2, _⟩ := rd1_some hb (n := q.1) (a' := q.2) hr
      exact ⟨q1, q2⟩
/-- numbers one behind the other, each one with its limit -/
def rdL (bs : List Int) : List Int → Option Nat → Option Nat × List Int
  | [], st => (st, [])
  | m :: ms, st => ((rdL bs ms (nx bs m st).1).1, (nx bs m st).2 :: (rdL bs ms (nx bs m st).1).2)
theorem rdL_none (bs : List Int) : ∀ ms, (rdL bs ms none).1 = none
  | [] => rfl
  | m :: ms => rdL_none bs ms
theorem rdL_len (bs : List Int) : ∀ ms st, (rdL bs ms st).2.length = ms.length
  | [], _ => rfl
  | m :: ms, st => by rw [rdL, List.length_cons, rdL_len bs ms, List.length_cons]
theorem rdL_append (bs : List Int) : ∀ (l m : List Int) (st : Option Nat), rdL bs (l ++ m) st = ((rdL bs m (rdL bs l st).1).1, (rdL bs l st).2 ++ (rdL bs m (rdL bs l st).1).2)
  | [], m, st => by simp [rdL]
  | x :: l, m, st => by rw [List.cons_append, rdL, rdL, rdL_append bs l m]; rfl
theorem rdL_some {bs : List Int} (hb : Bytes bs) : ∀ (ms : List Int) (a : Nat) {a' : Nat}, a ≤ bs.length → (rdL bs ms (some a)).1 = some a' → bs.drop a = codeL (rdL bs ms (some a)).2 ++ bs.drop a' ∧ a' ≤ bs.length
  | [], a, a', ha, h => by cases h; exact ⟨rfl, ha⟩
  | m :: ms, a, a', ha, h => by
    rw [rdL] at h ⊢
    dsimp only at h ⊢
    rw [nx_some] at h ⊢
    cases hr : rd1 bs a m with
    | none => rw [hr] at h; rw [rdL_none] at h; cases h
    | some q =>
      rw [hr] at h
      dsimp only at h ⊢
      obtain ⟨q1, q2, q3, q4, q5⟩ := rd1_some hb (n := q.1) (a' := q.2) hr
      obtain ⟨e, e'⟩ := rdL_some hb ms q.2 (q5 ha) h
      refine ⟨?_, e'⟩
      rw [q3, e]
      unfold codeL
      rw [List.flatMap_cons, List.append_assoc]
theorem rdL_of (bs : List Int) : ∀ (ns ms : List Int) (a : Nat) (r : List Int), ns.length = ms.length → (∀ n ∈ ns, Nm n) → (∀ p ∈ ns.zip ms, p.1 ≤ p.2) → bs.drop a = codeL ns ++ r → rdL bs ms (some a) = (some (a + (codeL ns).length), ns)
  | [], [], a, r, _, _, _, _ => by simp [rdL, codeL]
  | [], _ :: _, _, _, h, _, _, _ => by simp at h
  | _ :: _, [], _, _, h, _, _, _ => by simp at h
  | n :: ns, m :: ms, a, r, hl, hn, hz, h => by
    have hc : codeL (n :: ns) = cod n ++ codeL ns := by unfold codeL; rw [List.flatMap_cons]
    rw [hc, List.append_assoc] at h
    have h1 := rd1_of (hn n (by simp)) (hz (n, m) (by simp)) h
    have e : nx bs m (some a) = (some (a + (cod n).length), n) := by rw [nx_some, h1]
    have h2 : bs.drop (a + (cod n).length) = codeL ns ++ r := by rw [← List.drop_drop, h, List.drop_left]
    rw [rdL, e, rdL_of bs ns ms _ r (by simpa using hl) (fun x hx => hn x (by simp [hx])) (fun p hp => hz p (by simp [hp])) h2, hc, List.length_append, Nat.add_assoc]

def fin11 (bs : List Int) (l : Lim) (st : Option Nat) (ps : List Int) : Scr × Int :=
  match st with
  | none => (zs, 12)
  | some a => if a = bs.length ∧ OkS (ps, (l, ())) then ((ps, (l, ())), 0) else (zs, 12)
theorem set_cat : ∀ {l : List Int} {i : Nat} (x : Int) (r : List Int), i < l.length → (List.set l i x).take (i + 1) ++ r = l.take i ++ x :: r := fun {l i} x r h => by
  rw [take_set_self l i x h, List.append_assoc]; rfl
theorem picks11 {bs : List Int} (hb : Bytes bs) (hl : bs.length ≤ 6100) (l : Lim) (n : Nat) (hn : n ≤ 2000) (self0 : Nat → Nat) (z z' : Lim × Unit) (e e' : List Int) :
    ∀ (k i M : Nat) (st : Option Nat) (L : List Int), i + k = n → k < M → L.length = n → In bs st →
      iterV (gscript_Decode_0 (fun _ => List.replicate) big) M ((n : Int), (i : Int), stS bs st, z, e, (l, ()), L, z', e', bs) = some (fin11 bs l (rdL bs (List.replicate k 65535) st).1 (L.take i ++ (rdL bs (List.replicate k 65535) st).2))
  | k, i, 0, _, _, _, h, _, _ => by omega
  | 0, i, M + 1, st, L, hi, _, hL, hs => by
    rw [iterV_succ]
    show hscript_Decode_0 _ _ _ = _
    unfold hscript_Decode_0
    dsimp only
    rw [decide_eq_false (by omega), cond_false, List.replicate_zero]
    show _ = some (fin11 bs l st (L.take i ++ []))
    rw [List.append_nil, List.take_of_length_le (by omega)]
    cases st with
    | none => rfl
    | some a =>
      show (bif (false : Bool) then _ else (bif ((a : Int) != (bs.length : Int)) then _ else _)) = _
      rw [cond_false]
      unfold fin11
      dsimp only
      by_cases ha : a = bs.length
      · rw [show ((a : Int) != (bs.length : Int)) = false by rw [ha]; simp, cond_false, chk11, Option.bind_some]
        by_cases ho : OkS (L, (l, ()))
        · rw [if_pos ho, if_pos ⟨ha, ho⟩]; rfl
        · rw [if_neg ho, if_neg (fun h => ho h.2)]; rfl
      · rw [show ((a : Int) != (bs.length : Int)) = true by simpa using fun h => ha (by omega), cond_true, if_neg (fun h => ha h.1)]; rfl
  | k + 1, i, M + 1, st, L, hi, hM, hL, hs => by
    rw [iterV_succ]
    show hscript_Decode_0 _ _ _ = _
    unfold hscript_Decode_0
    dsimp only
    rw [decide_eq_true (by omega), cond_true, num11 hb hl ⟨by omega, by omega⟩ hs, Option.bind_some]
    dsimp only
    rw [decide_eq_true (show (0 : Int) ≤ (i : Int) by omega), decide_eq_true (show (i : Int) < (L.length : Int) by omega), Bool.and_self, cond_true, wrap_succ (show i < n by omega) (by have := maxLen_ge; omega), Int.toNat_natCast]
    rw [picks11 hb hl l n hn self0 z z' e e' k (i + 1) M _ _ (by omega) (by omega) (by rw [List.length_set]; exact hL) (nx_in hb hs), List.replicate_succ, rdL, set_cat _ _ (by omega)]

def decS (bs : List Int) : Scr × Int :=
  let q := rdL bs [5000, 4096, 16384, 16, 2000] (some 0)
  let v := fun i => q.2.getD i 0
  let r := rdL bs (List.replicate (v 4).toNat 65535) q.1
  fin11 bs (v 0, (v 1, (v 2, (v 3, ())))) r.1 r.2
theorem dec11 {bs : List Int} (hb : Bytes bs) : cscript_Decode bs = some (if bs.length > 6100 then (zs, 4) else decS bs) := by
  show nscript_Decode _ (iterV (gscript_Decode_0 (fun _ => List.replicate) big) big) bs = _
  unfold nscript_Decode
  by_cases hl : bs.length > 6100
  · rw [decide_eq_true (by omega), cond_true, if_pos hl]; rfl
  rw [decide_eq_false (by omega), cond_false, if_neg hl]
  replace hl : bs.length ≤ 6100 := by omega
  have i0 : In bs (some 0) := fun a h => by cases h; exact Nat.zero_le _
  have i1 := nx_in hb (m := 5000) i0
  have i2 := nx_in hb (m := 4096) i1
  have i3 := nx_in hb (m := 16384) i2
  have i4 := nx_in hb (m := 16) i3
  have i5 := nx_in hb (m := 2000) i4
  show ((cscript_reader_number ((), ((5000 : Int), ())) (stS bs (some 0), ())).bind _) = _
  rw [num11 hb hl ⟨by omega, by omega⟩ i0, Option.bind_some]
  dsimp only
  rw [num11 hb hl ⟨by omega, by omega⟩ i1, Option.bind_some]
  dsimp only
  rw [num11 hb hl ⟨by omega, by omega⟩ i2, Option.bind_some]
  dsimp only
  rw [num11 hb hl ⟨by omega, by omega⟩ i3, Option.bind_some]
  dsimp only
  rw [num11 hb hl ⟨by omega, by omega⟩ i4, Option.bind_some]
  dsimp only
  have hv := nx_le bs hb (m := 2000) (by omega) (nx bs 16 (nx bs 16384 (nx bs 4096 (nx bs 5000 (some 0)).1).1).1).1
  unfold decS
  dsimp only [rdL]
  show _ = some (fin11 bs ((nx bs 5000 (some 0)).2, ((nx bs 4096 (nx bs 5000 (some 0)).1).2, ((nx bs 16384 (nx bs 4096 (nx bs 5000 (some 0)).1).1).2, ((nx bs 16 (nx bs 16384 (nx bs 4096 (nx bs 5000 (some 0)).1).1).1).2, ())))) (rdL bs (List.replicate (Int.toNat (nx bs 2000 (nx bs 16 (nx bs 16384 (nx bs 4096 (nx bs 5000 (some 0)).1).1).1).1).2) 65535) (nx bs 2000 (nx bs 16 (nx bs 16384 (nx bs 4096 (nx bs 5000 (some 0)).1).1).1).1).1).1 (rdL bs (List.replicate (Int.toNat (nx bs 2000 (nx bs 16 (nx bs 16384 (nx bs 4096 (nx bs 5000 (some 0)).1).1).1).1).2) 65535) (nx bs 2000 (nx bs 16 (nx bs 16384 (nx bs 4096 (nx bs 5000 (some 0)).1).1).1).1).1).2)
  generalize nx bs 5000 (some 0) = q1 at *
  generalize nx bs 4096 q1.1 = q2 at *
  generalize nx bs 16384 q2.1 = q3 at *
  generalize nx bs 16 q3.1 = q4 at *
  generalize nx bs 2000 q4.1 = q5 at *
  obtain ⟨k, hk⟩ := Int.eq_ofNat_of_zero_le hv.1
  rw [hk] at hv ⊢
  rw [decide_eq_true (show (0 : Int) ≤ (k : Int) by omega), decide_eq_true (show (k : Int) ≤ (k : Int) by omega), decide_eq_true (show (k : Int) ≤ 68719476736 by omega), Bool.and_self, Bool.and_self, Bool.and_self, cond_true, Int.toNat_natCast]
  show iterV (gscript_Decode_0 (fun _ => List.replicate) big) big (((List.replicate k (0 : Int)).length : Int), ((0 : Nat) : Int), stS bs q5.1, _, _, _, List.replicate k (0 : Int), _, _, bs) = _
  rw [List.length_replicate]
  exact (picks11 hb hl _ k (by omega) id _ _ _ _ k 0 big q5.1 (List.replicate k 0) (by omega) (by unfold big; omega) (List.length_replicate) i5).trans (by rw [List.take_zero, List.nil_append])

theorem decS_of {bs : List Int} {s : Scr} (ho : OkS s) (h : codeS s = bs) : decS bs = (s, 0) := by
  obtain ⟨ps, ⟨a, b, c, d, u⟩, u'⟩ := s
  have hn := nums_ok ho
  obtain ⟨h1, ⟨⟨_, l1⟩, ⟨_, l2⟩, ⟨_, l3⟩, _, l4⟩, h3⟩ := id ho
  have e : codeS (ps, ((a, b, c, d, u), u')) = codeL [a, b, c, d, (ps.length : Int)] ++ codeL ps := List.flatMap_append
  have r1 := rdL_of bs [a, b, c, d, (ps.length : Int)] [5000, 4096, 16384, 16, 2000] 0 (codeL ps) rfl (fun n h => hn n (List.mem_append_left _ h)) (by
    intro p hp
    simp only [List.zip_cons_cons, List.zip_nil_right, List.mem_cons, List.not_mem_nil, or_false] at hp
    dsimp only at h1 l1 l2 l3 l4
    rcases hp with rfl | rfl | rfl | rfl | rfl <;> dsimp only <;> omega) (by rw [List.drop_zero, ← h, e])
  have r2 := rdL_of bs ps (List.replicate ps.length 65535) (0 + (codeL [a, b, c, d, (ps.length : Int)]).length) [] (by simp) (fun n h => hn n (List.mem_append_right _ h)) (by
    intro p hp
    obtain ⟨x, y⟩ := p
    have hp2 := List.of_mem_zip hp
    have := (h3 x hp2.1).2
    rw [(List.mem_replicate.1 hp2.2).2]
    exact this) (by rw [Nat.zero_add, List.append_nil, ← h, e, List.drop_left])
  unfold decS
  rw [r1]
  show fin11 bs (a, (b, (c, (d, ())))) (rdL bs (List.replicate (Int.toNat (ps.length : Int)) 65535) _).1 (rdL bs (List.replicate (Int.toNat (ps.length : Int)) 65535) _).2 = _
  rw [Int.toNat_natCast, r2]
  unfold fin11
  dsimp only
  rw [if_pos ⟨by rw [← h, e, List.length_append]; omega, ho⟩]
theorem decS_cases {bs : List Int} (hb : Bytes bs) : (∃ s, OkS s ∧ codeS s = bs ∧ decS bs = (s, 0)) ∨ ((∀ s, OkS s → codeS s ≠ bs) ∧ decS bs = (zs, 12)) := by
  have key : (∃ s, OkS s ∧ codeS s = bs ∧ decS bs = (s, 0)) ∨ decS bs = (zs, 12) := by
    unfold decS
    dsimp only
    generalize hq : rdL bs [5000, 4096, 16384, 16, 2000] (some 0) = q
    generalize hr : rdL bs (List.replicate (q.2.getD 4 0).toNat 65535) q.1 = r
    cases hr1 : r.1 with
    | none => exact .inr rfl
    | some a =>
      unfold fin11
      dsimp only
      split
      · rename_i c
        obtain ⟨c1, c2⟩ := c
        refine .inl ⟨_, c2, ?_, rfl⟩
        obtain ⟨b, hq1⟩ : ∃ b, q.1 = some b := by
          cases hq1 : q.1 with
          | none => rw [hq1] at hr; rw [← hr, rdL_none] at hr1; cases hr1
          | some b => exact ⟨b, rfl⟩
        have lq : q.2.length = 5 := by rw [← hq, rdL_len]; rfl
        have lr : r.2.length = (q.2.getD 4 0).toNat := by rw [← hr, rdL_len, List.length_replicate]
        obtain ⟨e1, hb1⟩ := rdL_some hb [5000, 4096, 16384, 16, 2000] 0 (a' := b) (Nat.zero_le _) (by rw [hq]; exact hq1)
        rw [hq1] at hr
        obtain ⟨e2, hb2⟩ := rdL_some hb (List.replicate (q.2.getD 4 0).toNat 65535) b (a' := a) hb1 (by rw [hr]; exact hr1)
        rw [hq, List.drop_zero] at e1
        rw [hr, c1, List.drop_length, List.append_nil] at e2
        have h0 : 0 ≤ q.2.getD 4 0 := by
          rw [← hq]
          exact (nx_le bs hb (m := 2000) (by omega) _).1
        have hl5 : q.2 = [q.2.getD 0 0, q.2.getD 1 0, q.2.getD 2 0, q.2.getD 3 0, q.2.getD 4 0] := by
          match hq2 : q.2, lq with
          | [_, _, _, _, _], _ => rfl
        have : (r.2.length : Int) = q.2.getD 4 0 := by rw [lr]; omega
        rw [e1, e2]
        show codeL ([q.2.getD 0 0, q.2.getD 1 0, q.2.getD 2 0, q.2.getD 3 0, (r.2.length : Int)] ++ r.2) = _
        rw [this, ← hl5]
        exact List.flatMap_append
      · exact .inr rfl
  rcases key with h | h
  · exact .inl h
  · refine .inr ⟨fun s ho hs => ?_, h⟩
    rw [decS_of ho hs] at h
    cases h

/-! ### the reference -/
theorem numbers11 {bs : List Int} (hb : Bytes bs) (hl : bs.length ≤ 6100) : ∀ (k M a : Nat) (out : List Int), a ≤ bs.length → bs.length - a ≤ k → k < M → out.length ≤ a →
    ∃ r, iterV (gref11_numbers_0 big) M (bs, out, (bs, ((a : Int), ()))) = some r ∧ ((r.2 = true ∧ ∃ l, r.1 = out ++ l ∧ codeL l = bs.drop a ∧ ∀ n ∈ l, Nm n) ∨ (r = ([], false) ∧ ∀ l, (∀ n ∈ l, Nm n) → codeL l ≠ bs.drop a))
  | k, 0, _, _, _, _, h, _ => by omega
  | k, M + 1, a, out, ha, hk, hM, ho => by
    rw [iterV_succ]
    have hst : gref11_numbers_0 big (iterV (gref11_numbers_0 big) M) (bs, out, (bs, ((a : Int), ()))) = bif decide ((a : Int) < (bs.length : Int)) then (match rd1 bs a 1000000 with | some q => iterV (gref11_numbers_0 big) M (bs, out ++ [q.1], (bs, ((q.2 : Int), ()))) | none => some ([], false)) else some (out, true) := by
      show href11_numbers_0 _ _ = _
      unfold href11_numbers_0
      dsimp only
      by_cases hlt : a < bs.length
      rotate_left
      · rw [decide_eq_false (by omega), cond_false, cond_false]
      rw [decide_eq_true (by omega), cond_true, cond_true, rUnvary_eq _ _ hb, unvary_eq (bs, ((a : Int), ())) 1000000 hb, if_pos ⟨by show bs.length ≤ 200000; omega, by show (0 : Int) ≤ a; omega, by show (a : Int) ≤ bs.length; omega⟩, Option.bind_some]
      dsimp only
      rw [Int.toNat_natCast]
      unfold rd1 outc
      by_cases c1 : (rd 10 0 (bs.drop a)).2.2 = 0
      · rw [if_pos c1, Nat.pow_zero, Nat.mul_one, Nat.zero_add]
        by_cases c2 : ((rd 10 0 (bs.drop a)).1 : Int) ≤ 1000000
        · rw [if_neg (by omega), if_pos ⟨c1, c2⟩]
          dsimp only
          rw [show ((0 : Int) != 0) = false from rfl, cond_false, wrap_i64 (by omega) (by omega), app11 (by simp only [List.length_cons, List.length_nil]; omega), cond_true]
          rfl
        · rw [if_pos (by omega), if_neg (fun h => c2 h.2)]
          rfl
      · rw [if_neg c1, if_neg (fun h => c1 h.1)]
        dsimp only
        rw [show ((rd 10 0 (bs.drop a)).2.2 != 0) = true by simpa using c1]
        rfl
    rw [hst]
    by_cases hlt : a < bs.length
    rotate_left
    · rw [decide_eq_false (by omega), cond_false]
      exact ⟨_, rfl, .inl ⟨rfl, [], by simp, by rw [List.drop_of_length_le (by omega)]; rfl, fun n h => by cases h⟩⟩
    rw [decide_eq_true (by omega), cond_true]
    have none_nil : ∀ l, codeL l = bs.drop a → l ≠ [] := fun l h e => by
      subst e
      have := congrArg List.length h
      rw [List.length_drop] at this
      simp [codeL] at this
      omega
    cases hr : rd1 bs a 1000000 with
    | none =>
      refine ⟨_, rfl, .inr ⟨rfl, fun l hn h => ?_⟩⟩
      cases l with
      | nil => exact none_nil [] h rfl
      | cons n l =>
        unfold codeL at h
        rw [List.flatMap_cons] at h
        rw [rd1_of (hn n (by simp)) (hn n (by simp)).2 h.symm] at hr
        cases hr
    | some q =>
      obtain ⟨n, a'⟩ := q
      obtain ⟨q1, q2, q3, q4, q5⟩ := rd1_some hb hr
      dsimp only
      obtain ⟨r, h1, h2⟩ := numbers11 hb hl (k - 1) M a' (out ++ [n]) (q5 ha) (by omega) (by omega) (by rw [List.length_append, List.length_singleton]; omega)
      refine ⟨r, h1, ?_⟩
      rcases h2 with ⟨h3, l, h4, h5, h6⟩ | ⟨h3, h4⟩
      · refine .inl ⟨h3, n :: l, by rw [h4, List.append_assoc]; rfl, ?_, ?_⟩
        · unfold codeL at h5 ⊢
          rw [List.flatMap_cons, h5, q3]
        · intro x hx
          rcases List.mem_cons.1 hx with rfl | hx
          · exact ⟨q1, q2⟩
          · exact h6 x hx
      · refine .inr ⟨h3, fun l hn h => ?_⟩
        cases l with
        | nil => exact none_nil [] h rfl
        | cons m l =>
          unfold codeL at h
          rw [List.flatMap_cons, q3] at h
          exact h4 l (fun x hx => hn x (by simp [hx])) (cod_inj (hn m (by simp)) ⟨q1, q2⟩ h).2
theorem rDec11 {bs : List Int} (hb : Bytes bs) (hl : bs.length ≤ 6100) : (∃ s, OkS s ∧ codeS s = bs ∧ cref11_Decode bs = some (s, 0)) ∨ ((∀ s, OkS s → codeS s ≠ bs) ∧ cref11_Decode bs = some (zs, 12)) := by
  have hd : cref11_Decode bs = nref11_Decode bs := rfl
  rw [hd]
  unfold nref11_Decode
  rw [decide_eq_false (by omega), cond_false]
  obtain ⟨⟨l, ok⟩, h1, h2⟩ := numbers11 hb hl bs.length big 0 [] (Nat.zero_le _) (by omega) (by unfold big; omega) (Nat.le_refl _)
  rw [show cref11_numbers bs = some (l, ok) from h1, Option.bind_some]
  rcases h2 with ⟨h3, l', h4, h5, h6⟩ | ⟨h3, h4⟩
  rotate_left
  · cases h3
    exact .inr ⟨fun s ho h => h4 (nums s) (nums_ok ho) (by rw [List.drop_zero]; exact h), rfl⟩
  replace h3 : ok = true := h3
  replace h4 : l = l' := h4.trans (List.nil_append _)
  subst h3 h4
  rw [List.drop_zero] at h5
  have hun : ∀ s, OkS s → codeS s = bs → nums s = l := fun s ho h => codeL_inj (nums_ok ho) h6 (h.trans h5.symm)
  dsimp only
  rw [Bool.not_true, cond_false]
  match l, h5, h6, hun with
  | a :: b :: c :: d :: e :: r, h5, h6, hun =>
    have he := h6 e (by simp)
    have hlen : r.length ≤ 6100 := by
      have := (codeL_len (a :: b :: c :: d :: e :: r)).1
      rw [h5] at this
      simp only [List.length_cons] at this
      omega
    rw [decide_eq_false (by simp only [List.length_cons]; omega), cond_false]
    rw [decide_eq_true (show (0 : Int) ≤ 4 by omega), decide_eq_true (show (4 : Int) < ((a :: b :: c :: d :: e :: r).length : Int) by simp only [List.length_cons]; omega), Bool.and_self, cond_true]
    rw [show nth (a :: b :: c :: d :: e :: r) (Int.toNat 4) = some e from rfl, Option.bind_some, wrap_i64 (by have := he.1; omega) (by have := he.2; omega)]
    have hc : ((a :: b :: c :: d :: e :: r).length : Int) = 5 + (r.length : Int) := by simp only [List.length_cons]; omega
    rw [hc]
    by_cases hr : (r.length : Int) = e
    rotate_left
    · rw [show ((5 + (r.length : Int)) != 5 + e) = true by simpa using fun h => hr (by omega), cond_true]
      refine .inr ⟨fun s ho h => hr ?_, rfl⟩
      have := hun s ho h
      unfold nums at this
      simp only [List.cons_append, List.nil_append, List.cons.injEq] at this
      obtain ⟨_, _, _, _, e1, e2⟩ := this
      rw [← e1, e2]
    rw [show ((5 + (r.length : Int)) != 5 + e) = false by rw [hr]; simp, cond_false]
    rw [decide_eq_true (show (0 : Int) ≤ 0 by omega), decide_eq_true (show (0 : Int) < 5 + (r.length : Int) by omega), Bool.and_self, cond_true, show nth (a :: b :: c :: d :: e :: r) (Int.toNat 0) = some a from rfl, Option.bind_some,
      decide_eq_true (show (0 : Int) ≤ 1 by omega), decide_eq_true (show (1 : Int) < 5 + (r.length : Int) by omega), Bool.and_self, cond_true, show nth (a :: b :: c :: d :: e :: r) (Int.toNat 1) = some b from rfl, Option.bind_some,
      decide_eq_true (show (0 : Int) ≤ 2 by omega), decide_eq_true (show (2 : Int) < 5 + (r.length : Int) by omega), Bool.and_self, cond_true, show nth (a :: b :: c :: d :: e :: r) (Int.toNat 2) = some c from rfl, Option.bind_some,
      decide_eq_true (show (0 : Int) ≤ 3 by omega), decide_eq_true (show (3 : Int) < 5 + (r.length : Int) by omega), Bool.and_self, cond_true, show nth (a :: b :: c :: d :: e :: r) (Int.toNat 3) = some d from rfl, Option.bind_some,
      decide_eq_true (show (0 : Int) ≤ 5 by omega), decide_eq_true (show (5 : Int) ≤ 5 + (r.length : Int) by omega), Bool.and_self, cond_true, List.take_length, show List.drop (Int.toNat 5) (a :: b :: c :: d :: e :: r) = r from rfl, app11 (by simp only [List.length_nil]; omega), cond_true]
    show (∃ s, OkS s ∧ codeS s = bs ∧ ((cref11_Check (r, ((a, b, c, d, ()), ()))).bind fun x14 => (bif (x14 != (0 : Int)) then some (zs, (12 : Int)) else some ((r, ((a, b, c, d, ()), ())), (0 : Int)))) = some (s, 0)) ∨ _ ∧ ((cref11_Check (r, ((a, b, c, d, ()), ()))).bind fun x14 => (bif (x14 != (0 : Int)) then some (zs, (12 : Int)) else some ((r, ((a, b, c, d, ()), ())), (0 : Int)))) = _
    rw [rChk11, Option.bind_some]
    by_cases ho : OkS (r, ((a, b, c, d, ()), ()))
    · rw [if_pos ho]
      refine .inl ⟨_, ho, ?_, rfl⟩
      rw [← h5, ← hr]; rfl
    · rw [if_neg ho]
      refine .inr ⟨fun s ho' h => ho ?_, rfl⟩
      have := hun s ho' h
      obtain ⟨ps, ⟨a', b', c', d', u⟩, u'⟩ := s
      unfold nums at this
      simp only [List.cons_append, List.nil_append, List.cons.injEq] at this
      obtain ⟨rfl, rfl, rfl, rfl, e1, rfl⟩ := this
      exact ho'
  | [], h5, h6, hun | [_], h5, h6, hun | [_, _], h5, h6, hun | [_, _, _], h5, h6, hun | [_, _, _, _], h5, h6, hun =>
    refine .inr ⟨fun s ho h => ?_, rfl⟩
    have := congrArg List.length (hun s ho h)
    unfold nums at this
    simp only [List.cons_append, List.nil_append, List.length_cons, List.length_nil] at this
    omega
theorem rDecL {bs : List Int} (hl : bs.length > 6100) : cref11_Decode bs = some (zs, 4) := by
  show nref11_Decode bs = _
  unfold nref11_Decode
  rw [decide_eq_true (by omega), cond_true]; rfl
theorem codeS_inj {s t : Scr} (hs : OkS s) (ht : OkS t) (h : codeS s = codeS t) : s = t := by
  have := decS_of hs h
  rw [decS_of ht rfl] at this
  exact (congrArg Prod.fst this).symm
end Go.Proofs.Ytmioekkonoehpaa
