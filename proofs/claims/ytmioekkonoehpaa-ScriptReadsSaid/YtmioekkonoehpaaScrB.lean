/- Package script: which scripts are valid, their bytes, cut scripts and picks, by the program and by the reference of layer 11. -/
import Derived.Test.YtmioekkonoehpaaScrW
set_option linter.unusedVariables false
set_option linter.unusedSimpArgs false
set_option maxRecDepth 100000
namespace Go.Proofs.Ytmioekkonoehpaa
open Go.Lift

abbrev Lim := Int × Int × Int × Int × Unit
abbrev Scr := List Int × Lim × Unit
def zs : Scr := ([], ((0, (0, (0, (0, ())))), ()))
def OkL (l : Lim) : Prop := (1 ≤ l.1 ∧ l.1 ≤ 5000) ∧ (0 ≤ l.2.1 ∧ l.2.1 ≤ 4096) ∧ (0 ≤ l.2.2.1 ∧ l.2.2.1 ≤ 16384) ∧ 1 ≤ l.2.2.2.1 ∧ l.2.2.2.1 ≤ 16
instance (l : Lim) : Decidable (OkL l) := by unfold OkL; infer_instance
def Pk (n : Int) : Prop := 0 ≤ n ∧ n ≤ 65535
instance (n : Int) : Decidable (Pk n) := by unfold Pk; infer_instance
def OkS (s : Scr) : Prop := s.1.length ≤ 2000 ∧ OkL s.2.1 ∧ ∀ p ∈ s.1, Pk p
instance (s : Scr) : Decidable (OkS s) := by unfold OkS; infer_instance

theorem andB {p q : Prop} [Decidable p] [Decidable q] : (bif decide p then some (decide q) else some false) = some (decide (p ∧ q)) := by
  by_cases h : p <;> simp [h]
theorem valid11 (l : Lim) : cscript_valid l = some (decide (OkL l)) := by
  show nscript_valid l = _
  unfold nscript_valid
  simp only [andB]
  exact congrArg some (decide_eq_decide.2 (by unfold OkL; constructor <;> (intro h; omega)))
theorem limited11 (l : Lim) : cref11_Limited l = some (decide (OkL l)) := by
  show nref11_Limited l = _
  unfold nref11_Limited
  simp only [andB]
  exact congrArg some (decide_eq_decide.2 (by unfold OkL; constructor <;> (intro h; omega)))
theorem isPick11 (n : Int) : cscript_isPick n = some (decide (Pk n)) := by
  show nscript_isPick n = _
  unfold nscript_isPick
  simp only [andB]
  exact congrArg some (decide_eq_decide.2 Iff.rfl)

theorem chk11 (s : Scr) : cscript_Check s = some (if OkS s then 0 else 8) := by
  show nscript_Check (iterV (gscript_Check_0 big) big) s = _
  unfold nscript_Check
  by_cases h1 : s.1.length ≤ 2000
  rotate_left
  · rw [decide_eq_true (by omega), cond_true, if_neg (fun h => h1 h.1)]
  rw [decide_eq_false (by omega), cond_false, valid11, Option.bind_some]
  by_cases h2 : OkL s.2.1
  rotate_left
  · rw [decide_eq_false h2, Bool.not_false, cond_true, if_neg (fun h => h2 h.2.1)]
  rw [decide_eq_true h2, Bool.not_true, cond_false]
  refine range_post (g := gscript_Check_0 big) (n := s.1.length) (fun (_ : Unit) (i : Nat) => (s.1, (s.1.length : Int), (i : Int))) (fun i _ => ∀ p ∈ s.1.take i, Pk p) (fun r => r = some (if OkS s then 0 else 8)) ?_ ?_ s.1.length 0 big (by simp) (by unfold big; omega) () (by simp)
  · intro self _ h
    rw [List.take_length] at h
    show hscript_Check_0 self _ = _
    unfold hscript_Check_0
    dsimp only
    rw [decide_eq_false (by omega), cond_false, if_pos ⟨h1, h2, h⟩]
  · intro self _ i hi h
    have hst : gscript_Check_0 big self (s.1, (s.1.length : Int), (i : Int)) = bif (!decide (Pk s.1[i])) then some 8 else self (s.1, (s.1.length : Int), ((i + 1 : Nat) : Int)) := by
      show hscript_Check_0 self _ = _
      unfold hscript_Check_0
      dsimp only
      rw [decide_eq_true (by omega), cond_true, getI_at hi, Option.bind_some, isPick11, Option.bind_some, wrap_succ hi (by have := maxLen_ge; omega)]
    by_cases e : Pk s.1[i]
    · left
      refine ⟨(), ?_, by rw [hst, decide_eq_true e, Bool.not_true, cond_false]⟩
      intro p hp
      rw [List.take_succ_eq_append_getElem hi] at hp
      rcases List.mem_append.1 hp with hp | hp
      · exact h p hp
      · rw [List.mem_singleton.1 hp]; exact e
    · right
      rw [hst, decide_eq_false e, Bool.not_false, cond_true, if_neg (fun h' => e (h'.2.2 _ (List.getElem_mem hi)))]
theorem rChk11 (s : Scr) : cref11_Check s = some (if OkS s then 0 else 8) := by
  show nref11_Check (iterV (gref11_Check_0 big) big) s = _
  unfold nref11_Check
  by_cases h1 : s.1.length ≤ 2000
  rotate_left
  · rw [decide_eq_true (by omega), cond_true, if_neg (fun h => h1 h.1)]
  rw [decide_eq_false (by omega), cond_false, limited11, Option.bind_some]
  by_cases h2 : OkL s.2.1
  rotate_left
  · rw [decide_eq_false h2, Bool.not_false, cond_true, if_neg (fun h => h2 h.2.1)]
  rw [decide_eq_true h2, Bool.not_true, cond_false]
  refine range_post (g := gref11_Check_0 big) (n := s.1.length) (fun (_ : Unit) (i : Nat) => ((i : Int), s)) (fun i _ => ∀ p ∈ s.1.take i, Pk p) (fun r => r = some (if OkS s then 0 else 8)) ?_ ?_ s.1.length 0 big (by simp) (by unfold big; omega) () (by simp)
  · intro self _ h
    rw [List.take_length] at h
    show href11_Check_0 self _ = _
    unfold href11_Check_0
    dsimp only
    rw [decide_eq_false (by omega), cond_false, if_pos ⟨h1, h2, h⟩]
  · intro self _ i hi h
    have hst : gref11_Check_0 big self ((i : Int), s) = if Pk s.1[i] then self (((i + 1 : Nat) : Int), s) else some 8 := by
      show href11_Check_0 self _ = _
      unfold href11_Check_0
      dsimp only
      rw [decide_eq_true (by omega), cond_true, getI_at hi, Option.bind_some, Option.bind_some, wrap_succ hi (by have := maxLen_ge; omega)]
      by_cases g1 : s.1[i] < 0
      · rw [decide_eq_true g1, cond_true, if_neg (fun h => by have := h.1; omega)]
      rw [decide_eq_false g1, cond_false]
      by_cases g2 : s.1[i] > 65535
      · rw [decide_eq_true g2, cond_true, if_neg (fun h => by have := h.2; omega)]
      rw [decide_eq_false g2, cond_false, if_pos ⟨by omega, by omega⟩]
    by_cases e : Pk s.1[i]
    · left
      refine ⟨(), ?_, by rw [hst, if_pos e]⟩
      intro p hp
      rw [List.take_succ_eq_append_getElem hi] at hp
      rcases List.mem_append.1 hp with hp | hp
      · exact h p hp
      · rw [List.mem_singleton.1 hp]; exact e
    · right
      rw [hst, if_neg e, if_neg (fun h' => e (h'.2.2 _ (List.getElem_mem hi)))]

/-! ### bytes -/
theorem nth_get {α : Type} : ∀ (xs : List α) (i : Nat), nth xs i = xs[i]?
  | [], i => by cases i <;> rfl
  | x :: xs, 0 => rfl
  | x :: xs, i + 1 => (nth_get xs i).trans List.getElem?_cons_succ.symm
theorem nthA {α : Type} {xs : List α} {i : Nat} (h : i < xs.length) : nth xs (Int.toNat (i : Int)) = some xs[i] := by rw [nth_get, Int.toNat_natCast, List.getElem?_eq_getElem h]
def cod (n : Int) : List Int := vary n.toNat
def codeL (l : List Int) : List Int := l.flatMap cod
def nums (s : Scr) : List Int := [s.2.1.1, s.2.1.2.1, s.2.1.2.2.1, s.2.1.2.2.2.1, (s.1.length : Int)] ++ s.1
def codeS (s : Scr) : List Int := codeL (nums s)
/-- numbers that a script may have -/
def Nm (n : Int) : Prop := 0 ≤ n ∧ n ≤ 1000000
theorem nums_ok {s : Scr} (h : OkS s) : ∀ n ∈ nums s, Nm n := by
  obtain ⟨h1, h2, h3⟩ := h
  unfold OkL at h2
  intro n hn
  unfold nums at hn
  rcases List.mem_append.1 hn with hn | hn
  · simp only [List.mem_cons, List.not_mem_nil, or_false] at hn
    unfold Nm
    rcases hn with rfl | rfl | rfl | rfl | rfl <;> omega
  · have := h3 n hn
    unfold Pk at this; unfold Nm
    omega
theorem varyI {n : Int} (h : Nm n) : cwire_Vary (IntKind.u64.wrap n) = some (cod n) := by
  obtain ⟨k, rfl⟩ := Int.eq_ofNat_of_zero_le h.1
  have := h.2
  rw [wrap_id ⟨by rw [min_u64]; omega, by rw [max_u64]; omega⟩, vary_eq k (by omega), cod, Int.toNat_natCast]
theorem minI {n : Int} (h : Nm n) : cref02_Minimal (IntKind.u64.wrap n) = some (cod n) := by
  obtain ⟨k, rfl⟩ := Int.eq_ofNat_of_zero_le h.1
  have := h.2
  rw [wrap_id ⟨by rw [min_u64]; omega, by rw [max_u64]; omega⟩, minimal_eq k (by omega), cod, Int.toNat_natCast]
theorem cod_len (n : Int) : 1 ≤ (cod n).length ∧ (cod n).length ≤ 10 := vary_len _
theorem codeL_len : ∀ l : List Int, l.length ≤ (codeL l).length ∧ (codeL l).length ≤ 10 * l.length
  | [] => by simp [codeL]
  | a :: l => by
    have h1 := codeL_len l
    have h2 := cod_len a
    unfold codeL at h1 ⊢
    rw [List.flatMap_cons, List.length_append, List.length_cons]
    omega
theorem app11 {a b : List Int} (h : a.length + b.length ≤ 68719476736) : (Nat.ble 1 1 && Nat.ble (List.length a + List.length b) lim) = true := by
  rw [b11, ble_lim h]; rfl

theorem loop_app {V α β : Type} {g : (V → Option β) → V → Option β} {mk : Nat → List Int → V} {l : List α} {cod : α → List Int} {kk : List Int → Option β} {B : Nat}
    (hs : ∀ self i x (h : i < l.length), x.length + (cod l[i]).length ≤ B → g self (mk i x) = self (mk (i + 1) (x ++ cod l[i]))) (he : ∀ self x, x.length ≤ B → g self (mk l.length x) = kk x) :
    ∀ (k i M : Nat) (x : List Int), i + k = l.length → k < M → x.length + ((l.drop i).flatMap cod).length ≤ B → iterV g M (mk i x) = kk (x ++ (l.drop i).flatMap cod)
  | k, i, 0, _, _, h, _ => by omega
  | 0, i, M + 1, x, hi, _, hx => by
    rw [iterV_succ, show i = l.length by omega, he _ _ (by omega)]
    simp
  | k + 1, i, M + 1, x, hi, hM, hx => by
    have hi' : i < l.length := by omega
    rw [List.drop_eq_getElem_cons hi', List.flatMap_cons] at hx ⊢
    rw [List.length_append] at hx
    rw [iterV_succ, hs _ i x hi' (by omega), loop_app hs he k (i + 1) M _ (by omega) (by omega) (by rw [List.length_append]; omega), List.append_assoc]

theorem enc11 (s : Scr) : cscript_Encode s = some (if OkS s then (codeS s, 0) else ([], 8)) := by
  show nscript_Encode (iterV (gscript_Encode_0 big) big) s = _
  unfold nscript_Encode
  rw [chk11, Option.bind_some]
  by_cases h : OkS s
  rotate_left
  · rw [if_neg h, if_neg h]; rfl
  rw [if_pos h, if_pos h, show ((0 : Int) != 0) = false from rfl, cond_false]
  have hn := nums_ok h
  obtain ⟨h1, h2, h3⟩ := h
  show iterV (gscript_Encode_0 big) big ([s.2.1.1, s.2.1.2.1, s.2.1.2.2.1, s.2.1.2.2.2.1, (s.1.length : Int)], (0 : Int), s, ([] : List Int)) = _
  have hin : ∀ (self : (List Int × Int × Scr × List Int) → Option (List Int × Int)) (x : List Int), x.length ≤ 1000000 → iterV (gscript_Encode_1 big self) big (s.1, (s.1.length : Int), (0 : Int), x) = some (x ++ codeL s.1, 0) := by
    intro self x hx
    have hl := codeL_len s.1
    refine loop_app (g := gscript_Encode_1 big self) (mk := fun i x => (s.1, (s.1.length : Int), (i : Int), x)) (l := s.1) (cod := cod) (kk := fun x => some (x, (0 : Int))) (B := 2000000) ?_ ?_ s.1.length 0 big x (by omega) (by unfold big; omega) (by rw [List.drop_zero]; unfold codeL at hl; omega)
    · intro self' i x hi hx
      show hscript_Encode_1 self self' _ = _
      unfold hscript_Encode_1
      dsimp only
      rw [decide_eq_true (by omega), cond_true, getI_at hi, Option.bind_some, varyI (hn _ (List.mem_append_right _ (List.getElem_mem hi))), Option.bind_some, app11 (by omega), cond_true, wrap_succ hi (by have := maxLen_ge; omega)]
      rfl
    · intro self' x hx
      show hscript_Encode_1 self self' _ = _
      unfold hscript_Encode_1
      dsimp only
      rw [decide_eq_false (by omega), cond_false]
  have hl := codeL_len [s.2.1.1, s.2.1.2.1, s.2.1.2.2.1, s.2.1.2.2.2.1, (s.1.length : Int)]
  rw [show codeS s = codeL [s.2.1.1, s.2.1.2.1, s.2.1.2.2.1, s.2.1.2.2.2.1, (s.1.length : Int)] ++ codeL s.1 from List.flatMap_append]
  refine (loop_app (g := gscript_Encode_0 big) (mk := fun i x => ([s.2.1.1, s.2.1.2.1, s.2.1.2.2.1, s.2.1.2.2.2.1, (s.1.length : Int)], (i : Int), s, x)) (l := [s.2.1.1, s.2.1.2.1, s.2.1.2.2.1, s.2.1.2.2.2.1, (s.1.length : Int)]) (cod := cod) (kk := fun x => some (x ++ codeL s.1, (0 : Int))) (B := 1000000) ?_ ?_ 5 0 big [] (by rfl) (by unfold big; omega) (by rw [List.drop_zero]; unfold codeL at hl; simp only [List.length_cons, List.length_nil] at hl ⊢; omega)).trans (by rw [List.drop_zero, List.nil_append]; rfl)
  · intro self i x hi hx
    show hscript_Encode_0 _ self _ = _
    unfold hscript_Encode_0
    dsimp only
    rw [decide_eq_true (by simp only [List.length_cons, List.length_nil] at hi; omega), cond_true, getI_at hi, Option.bind_some, varyI (hn _ (List.mem_append_left _ (List.getElem_mem hi))), Option.bind_some, app11 (by omega), cond_true, wrap_succ hi (by have := maxLen_ge; simp only [List.length_cons, List.length_nil]; omega)]
    rfl
  · intro self x hx
    show hscript_Encode_0 (iterV (gscript_Encode_1 big self) big) self _ = _
    unfold hscript_Encode_0
    dsimp only
    rw [decide_eq_false (by simp only [List.length_cons, List.length_nil]; omega), cond_false]
    exact hin self x hx
theorem rEnc11 (s : Scr) : cref11_Encode s = some (if OkS s then (codeS s, 0) else ([], 8)) := by
  show nref11_Encode s = _
  unfold nref11_Encode
  rw [rChk11, Option.bind_some]
  by_cases h : OkS s
  rotate_left
  · rw [if_neg h, if_neg h]; rfl
  rw [if_pos h, if_pos h, show ((0 : Int) != 0) = false from rfl, cond_false]
  have hn := nums_ok h
  obtain ⟨h1, h2, h3⟩ := h
  have key : cref11_Coded s = some (codeS s) := by
    show nref11_Coded (iterV (gref11_Coded_0 big) big) s = _
    unfold nref11_Coded
    dsimp only
    rw [app11 (by simp only [List.length_cons, List.length_nil]; omega), cond_true]
    show iterV (gref11_Coded_0 big) big ((0 : Int), nums s, ([] : List Int)) = _
    have hl := codeL_len (nums s)
    have hlen : (nums s).length = 5 + s.1.length := by unfold nums; rw [List.length_append]; rfl
    refine (loop_app (g := gref11_Coded_0 big) (mk := fun i x => ((i : Int), nums s, x)) (l := nums s) (cod := cod) (kk := fun x => some x) (B := 2000000) ?_ ?_ (nums s).length 0 big [] (by omega) (by rw [hlen]; unfold big; omega) (by rw [List.drop_zero]; unfold codeL at hl; simp only [List.length_nil]; omega)).trans (by rw [List.drop_zero, List.nil_append]; rfl)
    · intro self i x hi hx
      show href11_Coded_0 self _ = _
      unfold href11_Coded_0
      dsimp only
      rw [decide_eq_true (show (i : Int) < ((nums s).length : Int) by omega), cond_true, decide_eq_true (show (0 : Int) ≤ (i : Int) by omega), Bool.and_true, cond_true, nthA hi, Option.bind_some, minI (hn _ (List.getElem_mem hi)), Option.bind_some, app11 (by omega), cond_true, wrap_succ hi (by have := maxLen_ge; omega)]
      rfl
    · intro self x hx
      show href11_Coded_0 self _ = _
      unfold href11_Coded_0
      dsimp only
      rw [decide_eq_false (by omega), cond_false]
  rw [key]; rfl

/-! ### cuts and picks -/
theorem cut11 (s : Scr) (n : Int) : cscript_Cut (s, n) = some (if OkS s then (if 0 ≤ n ∧ n ≤ (s.1.length : Int) then ((s.1.take n.toNat, s.2), 0) else (zs, 2)) else (zs, 8)) := by
  show nscript_Cut (s, n) = _
  unfold nscript_Cut
  dsimp only
  rw [chk11, Option.bind_some]
  by_cases h : OkS s
  rotate_left
  · rw [if_neg h, if_neg h]; rfl
  rw [if_pos h, if_pos h, show ((0 : Int) != 0) = false from rfl, cond_false]
  have h1 := h.1
  by_cases g1 : n < 0
  · rw [decide_eq_true g1, cond_true, if_neg (by omega)]; rfl
  rw [decide_eq_false g1, cond_false]
  by_cases g2 : n > (s.1.length : Int)
  · rw [decide_eq_true g2, cond_true, if_neg (by omega)]; rfl
  rw [decide_eq_false g2, cond_false, decide_eq_true (show 0 ≤ n by omega), decide_eq_true (show n ≤ (s.1.length : Int) by omega), Bool.and_self, cond_true, app11 (by rw [List.length_take]; simp only [List.length_nil]; omega), cond_true, if_pos (by omega)]
  rfl
theorem rCut11 (s : Scr) (n : Int) : cref11_Cut (s, n) = some (if OkS s then (if 0 ≤ n ∧ n ≤ (s.1.length : Int) then ((s.1.take n.toNat, s.2), 0) else (zs, 2)) else (zs, 8)) := by
  show nref11_Cut (s, n) = _
  unfold nref11_Cut
  dsimp only
  rw [rChk11, Option.bind_some]
  by_cases h : OkS s
  rotate_left
  · rw [if_neg h, if_neg h]; rfl
  rw [if_pos h, if_pos h, show ((0 : Int) != 0) = false from rfl, cond_false]
  have h1 := h.1
  by_cases g1 : n < 0
  · rw [decide_eq_true g1, cond_true, if_neg (by omega)]; rfl
  rw [decide_eq_false g1, cond_false]
  by_cases g2 : n > (s.1.length : Int)
  · rw [decide_eq_true g2, cond_true, if_neg (by omega)]; rfl
  rw [decide_eq_false g2, cond_false, decide_eq_true (show 0 ≤ n by omega), decide_eq_true (show n ≤ (s.1.length : Int) by omega), Bool.and_self, cond_true, app11 (by rw [List.length_take]; simp only [List.length_nil]; omega), cond_true, if_pos (by omega)]
  rfl
def pck (p r : Int) : Int × Int := if Pk p ∧ 0 ≤ r ∧ r ≤ 16 then (if r = 0 then (0, 6) else (p.tmod r, 0)) else (0, 2)
theorem pick11 (p r : Int) : cscript_Pick (p, r) = some (pck p r) := by
  show nscript_Pick (p, r) = _
  unfold nscript_Pick pck
  dsimp only
  rw [isPick11, Option.bind_some]
  by_cases h : Pk p
  rotate_left
  · rw [decide_eq_false h, Bool.not_false, cond_true, if_neg (fun g => h g.1)]
  rw [decide_eq_true h, Bool.not_true, cond_false]
  by_cases g1 : r < 0
  · rw [decide_eq_true g1, cond_true, if_neg (by omega)]
  rw [decide_eq_false g1, cond_false]
  by_cases g2 : r > 16
  · rw [decide_eq_true g2, cond_true, if_neg (by omega)]
  rw [decide_eq_false g2, cond_false, if_pos ⟨h, by omega, by omega⟩]
  by_cases g3 : r = 0
  · subst g3; rfl
  rw [show (r == 0) = false by simpa using g3, cond_false, cond_false, if_neg g3]
theorem rPick11 (p r : Int) : cref11_Pick (p, r) = some (pck p r) := by
  show nref11_Pick (p, r) = _
  unfold nref11_Pick pck
  dsimp only
  by_cases g4 : p < 0
  · rw [decide_eq_true g4, cond_true, if_neg (fun h => by have := h.1.1; omega)]
  rw [decide_eq_false g4, cond_false]
  by_cases g5 : p > 65535
  · rw [decide_eq_true g5, cond_true, if_neg (fun h => by have := h.1.2; omega)]
  rw [decide_eq_false g5, cond_false]
  by_cases g1 : r < 0
  · rw [decide_eq_true g1, cond_true, if_neg (by omega)]
  rw [decide_eq_false g1, cond_false]
  by_cases g2 : r > 16
  · rw [decide_eq_true g2, cond_true, if_neg (by omega)]
  rw [decide_eq_false g2, cond_false, if_pos ⟨⟨by omega, by omega⟩, by omega, by omega⟩]
  by_cases g3 : r = 0
  · subst g3; rfl
  rw [show (r == 0) = false by simpa using g3, cond_false, cond_false, if_neg g3]

/-! ### comparisons -/
theorem sameL (a b : List Int) (h : a.length ≤ 1000000) : cref04_SameInts (a, b) = some (decide (a = b)) := by
  show nref04_SameInts (iterV (gref04_SameInts_0 big) big) _ = _
  unfold nref04_SameInts
  dsimp only
  by_cases hl : a.length = b.length
  · rw [show ((a.length : Int) != (b.length : Int)) = false by rw [hl]; simp, cond_false]
    refine range_post (g := gref04_SameInts_0 big) (n := a.length) (fun (_ : Unit) (i : Nat) => (a, b, (i : Int))) (fun i _ => a.take i = b.take i) (fun r => r = some (decide (a = b))) ?_ ?_
      a.length 0 big (by simp) (by unfold big; omega) () (by simp)
    · intro self s h
      rw [List.take_length, List.take_of_length_le (by omega)] at h
      show href04_SameInts_0 self _ = _
      unfold href04_SameInts_0
      dsimp only
      rw [decide_eq_false (by omega), cond_false, decide_eq_true h]
    · intro self s i hi h
      have hi' : i < b.length := by omega
      have hst : gref04_SameInts_0 big self (a, b, (i : Int)) = bif (a[i] != b[i]) then some false else self (a, b, ((i + 1 : Nat) : Int)) := by
        show href04_SameInts_0 self _ = _
        unfold href04_SameInts_0
        dsimp only
        rw [decide_eq_true (by omega), cond_true, getI_at hi, Option.bind_some, getI_at hi', Option.bind_some, wrap_succ hi (by have := maxLen_ge; omega)]
      by_cases e : a[i] = b[i]
      · left
        refine ⟨(), ?_, by rw [hst, show (a[i] != b[i]) = false by rw [e]; simp]; rfl⟩
        rw [List.take_succ_eq_append_getElem hi, List.take_succ_eq_append_getElem hi', h, e]
      · right
        rw [hst, show (a[i] != b[i]) = true by simpa using e, cond_true]
        congr 1
        symm
        apply decide_eq_false
        intro hh
        subst hh
        exact e rfl
  · rw [show ((a.length : Int) != (b.length : Int)) = true by simpa using fun h => hl (by omega), cond_true, decide_eq_false (fun h => hl (by rw [h]))]
theorem same11 (a b : Scr) (h : a.1.length ≤ 1000000) : cref11_Same (a, b) = some (decide (a = b)) := by
  show nref11_Same (a, b) = _
  unfold nref11_Same
  dsimp only
  obtain ⟨p, l, u⟩ := a
  obtain ⟨q, m, v⟩ := b
  by_cases e : l = m
  · rw [eqD_iff.2 (show l = m from e), cond_true, sameL _ _ h, Option.bind_some]
    subst e
    congr 1
    rw [decide_eq_decide]
    exact ⟨fun h => by cases h; rfl, fun h => by cases h; rfl⟩
  · rw [eqD_false (show l ≠ m from e), cond_false, decide_eq_false (fun h => e (by cases h; rfl))]

/-- scripts that are not great -/
theorem great11 (s : Scr) : ∃ g, cref11_Great s = some g ∧ (g = false → s.1.length ≤ 2100 ∧ (OkS s → s.1.length ≤ 300)) := by
  show ∃ g, nref11_Great s = some g ∧ _
  unfold nref11_Great
  by_cases h1 : (s.1.length : Int) > 300
  · rw [decide_eq_true h1, cond_true]
    by_cases h2 : (s.1.length : Int) ≤ 2000
    · rw [decide_eq_true h2, cond_true]
      exact ⟨true, rfl, fun h => by cases h⟩
    · rw [decide_eq_false h2, cond_false]
      exact ⟨_, rfl, fun h => ⟨by have := of_decide_eq_false h; omega, fun h => by have := h.1; omega⟩⟩
  · rw [decide_eq_false h1, cond_false]
    exact ⟨_, rfl, fun h => ⟨by omega, fun _ => by omega⟩⟩
theorem alive11 : claw11_alive () = some true := by kernel_rfl
theorem wf11_i64 {n : Int} (w : Wf (.int .i64) n) : -9223372036854775808 ≤ n ∧ n ≤ 9223372036854775807 := by
  simpa only [Wf, min_i64, show IntKind.i64.max = 9223372036854775807 by decide] using w
theorem wf11_bytes {b : List Int} (w : Wf (.slice (.int .u8)) b) : Bytes b := fun c hc => by
  have := w.2 c hc
  simpa only [Wf, show IntKind.u8.min = 0 by decide, show IntKind.u8.max = 255 by decide] using this

/-! ### ScriptTells -/
theorem tells_true11 (x : Scr × Int × Int × Int) : claw11_ScriptTells x = some true := by
  obtain ⟨s, n, p, r⟩ := x
  show nlaw11_ScriptTells (s, n, p, r) = _
  unfold nlaw11_ScriptTells
  dsimp only
  obtain ⟨g, h1, h2⟩ := great11 s
  rw [h1, Option.bind_some]
  cases g with
  | true => rfl
  | false =>
  obtain ⟨hl, _⟩ := h2 rfl
  rw [cond_false, app11 (by simp only [List.length_nil]; omega), cond_true, enc11, Option.bind_some, rEnc11, Option.bind_some, cut11, Option.bind_some, rCut11, Option.bind_some, pick11, Option.bind_some, rPick11, Option.bind_some, chk11, Option.bind_some, rChk11, Option.bind_some, beq_self_eq_true, cond_true, eqD_self, cond_true, beq_self_eq_true, cond_true, same11 _ _ (by
    split
    · split
      · rw [List.length_take]; omega
      · exact Nat.zero_le _
    · exact Nat.zero_le _), Option.bind_some, decide_eq_true rfl, cond_true, beq_self_eq_true, cond_true, beq_self_eq_true, cond_true, beq_self_eq_true, cond_true]
  show (cref04_SameInts (s.1, [] ++ s.1)).bind _ = _
  rw [sameL _ _ (by omega), Option.bind_some, List.nil_append, decide_eq_true rfl]
end Go.Proofs.Ytmioekkonoehpaa
