/- The laws TextBack, TextOne and TextLists of layer 3 are true for all typed arguments. -/
import Derived.Test.YtcapedpcokhpjaaDoorTextI
import Derived.Test.YtcapedpcokhpjaaDoorTextL
set_option linter.unusedVariables false
set_option linter.unusedSimpArgs false
set_option maxRecDepth 100000
namespace Go.Proofs.YtcapedpcokhpjaaDoor
open Go.Lift

theorem alive_true : claw03_alive () = some true := by
  refine Eq.trans ?_ (rfl : some true = some true)
  kernel_rfl

theorem short_eq (l : List (List Int)) (hl : l.length ≤ maxLen) : cref03_Short l = some (decide (Short l)) := by
  have := range_run (g := gref03_Short_0 big) (xs := l) (fun (_ : Unit) (i : Nat) => (l, (i : Int))) (fun x s k => bif decide ((List.length x : Int) > 400) then some false else k s)
    (fun _ => some (decide ((List.length l : Int) ≤ 64))) (by
      intro self b
      show href03_Short_0 self _ = _
      unfold href03_Short_0
      dsimp only
      rw [decide_eq_false (by omega), cond_false]) (by
      intro self b i hi
      show href03_Short_0 self _ = _
      unfold href03_Short_0
      dsimp only
      rw [decide_eq_true (by omega), cond_true, getI_at hi, Option.bind_some, wrap_succ hi hl]) l.length 0 big (by omega) (by have := maxLen_big; omega) ()
  rw [List.drop_zero] at this
  refine Eq.trans this ?_
  have e : ∀ m : List (List Int), foldC (fun (x : List Int) (s : Unit) (k : Unit → Option Bool) => bif decide ((List.length x : Int) > 400) then some false else k s) (fun _ => some (decide ((List.length l : Int) ≤ 64))) m () = some (decide (l.length ≤ 64 ∧ ∀ x ∈ m, x.length ≤ 400)) := by
    intro m
    induction m with
    | nil => simp [foldC]; omega
    | cons x m ih =>
      show (bif decide ((List.length x : Int) > 400) then some false else foldC _ _ m ()) = _
      by_cases hx : x.length ≤ 400
      · rw [decide_eq_false (by omega), cond_false, ih]
        simp [hx]
      · rw [decide_eq_true (by omega), cond_true]
        simp [hx]
  rw [e]
  rfl

theorem same_self (l : List (List Int)) (hl : l.length ≤ maxLen) : cref03_Same (l, l) = some true := by
  have := range_run (g := gref03_Same_0 big) (xs := l) (fun (_ : Unit) (i : Nat) => (l, l, (i : Int))) (fun x s k => k s)
    (fun _ => some true) (by
      intro self b
      show href03_Same_0 self _ = _
      unfold href03_Same_0
      dsimp only
      rw [decide_eq_false (by omega), cond_false]) (by
      intro self b i hi
      show href03_Same_0 self _ = _
      unfold href03_Same_0
      dsimp only
      rw [decide_eq_true (by omega), cond_true, getI_at hi, Option.bind_some, Option.bind_some, show eqD .str l[i] l[i] = true from eqD_self _ _, show (!true) = false by rfl, cond_false, wrap_succ hi hl]) l.length 0 big (by omega) (by have := maxLen_big; omega) ()
  rw [List.drop_zero] at this
  show nref03_Same (iterV (gref03_Same_0 big) big) (l, l) = _
  unfold nref03_Same
  dsimp only
  rw [show ((List.length l : Int) != (List.length l : Int)) = false by simp, cond_false]
  refine Eq.trans this ?_
  have e : ∀ m : List (List Int), foldC (fun (x : List Int) (s : Unit) (k : Unit → Option Bool) => k s) (fun _ => some true) m () = some true := by
    intro m
    induction m with
    | nil => rfl
    | cons x m ih => exact ih
  exact e l

/-! ### written, then read -/
theorem digs_begins {b : Nat} (hb : b ≤ 16) {s : List Int} (h : Dgs b s) : begins [45] s = false := by
  cases e : begins [45] s with
  | false => rfl
  | true =>
    obtain ⟨t, rfl⟩ := begins_iff.1 e
    obtain ⟨d, hd, h45⟩ := h 45 (by simp)
    have := (hexd_byte d (by omega)).2.2.1
    omega

theorem dN_bytes {b : Nat} (hb : 2 ≤ b) (hb' : b ≤ 16) (u : Nat) : ∀ x ∈ dN b u, 48 ≤ x ∧ x ≤ 102 := by
  intro x hx
  obtain ⟨d, hd, rfl⟩ := dN_dgs hb u x hx
  exact (hexd_byte d (by omega)).2.2
theorem decI_plain (n : Int) : ∀ x ∈ decI n, 32 ≤ x ∧ x ≤ 126 := by
  intro x hx
  rw [decI_dN] at hx
  split at hx
  · rcases List.mem_cons.1 hx with rfl | hx
    · decide
    · have := dN_bytes (b := 10) (by omega) (by omega) _ x hx; omega
  · have := dN_bytes (b := 10) (by omega) (by omega) _ x hx; omega
theorem decI_len (n : Int) (h0 : -9223372036854775808 ≤ n) (h1 : n ≤ 9223372036854775807) : (decI n).length ≤ 20 := by
  rw [decI_dN]
  split
  · have := dN_len (b := 10) (by omega) 19 n.natAbs (by omega)
    simp; omega
  · have := dN_len (b := 10) (by omega) 19 n.toNat (by omega)
    omega

theorem unnumber_number (n : Int) (h0 : -9223372036854775808 ≤ n) (h1 : n ≤ 9223372036854775807) : ctext_Unnumber (decI n) = some (n, 0) := by
  rw [unnumber_eq _ fun x hx => by have := decI_plain n x hx; omega]
  have hl := decI_len n h0 h1
  rw [unnum, if_neg (by omega)]
  rw [decI_dN]
  by_cases h : n < 0
  · have hw := whole_dN (b := 10) (by omega) (by omega) n.natAbs
    rw [if_pos h, show begins [45] (45 :: dN 10 n.natAbs) = true from begins_app [45] _, if_pos rfl]
    rw [if_neg (by
      intro e
      have e2 : dN 10 n.natAbs = [48] := by simpa using e
      have := val_dN (b := 10) (by omega) (by omega) n.natAbs
      rw [e2] at this
      have e3 : val 10 [48] = 0 := by decide
      omega)]
    rw [show List.drop 1 (45 :: dN 10 n.natAbs) = dN 10 n.natAbs by rfl, wholeB_iff.2 hw, if_pos rfl, val_dN (by omega) (by omega), if_pos (by omega)]
    congr 2
    omega
  · have hw := whole_dN (b := 10) (by omega) (by omega) n.toNat
    rw [if_neg h, digs_begins (b := 10) (by omega) hw.2.2, if_neg (by simp), wholeB_iff.2 hw, if_pos rfl, val_dN (by omega) (by omega), if_pos (by omega)]
    congr 2
    omega

theorem hexT_plain (u : Nat) : ∀ x ∈ [48, 120] ++ dN 16 u, 32 ≤ x ∧ x ≤ 126 := by
  intro x hx
  rcases List.mem_append.1 hx with hx | hx
  · simp at hx; omega
  · have := dN_bytes (b := 16) (by omega) (by omega) _ x hx; omega
theorem unhex_hex (u : Nat) (hu : u < 18446744073709551616) : ctext_Unhex ([48, 120] ++ dN 16 u) = some ((u : Int), 0) := by
  rw [unhex_eq _ fun x hx => by have := hexT_plain u x hx; omega]
  have hl := dN_len (b := 16) (by omega) 16 u (by omega)
  have hw := whole_dN (b := 16) (by omega) (by omega) u
  rw [unhx, if_neg (by simp; omega), begins_app, if_pos rfl, show List.drop 2 ([48, 120] ++ dN 16 u) = dN 16 u by rfl, wholeB_iff.2 hw, if_pos rfl, val_dN (by omega) (by omega), if_pos (by omega)]

theorem inQ_plain {s : List Int} (hs : Bytes s) : ∀ x ∈ inQ s, 32 ≤ x ∧ x ≤ 126 := by
  intro x hx
  rw [inQ] at hx
  rcases List.mem_cons.1 hx with rfl | hx
  · decide
  · rcases List.mem_append.1 hx with hx | hx
    · obtain ⟨c, hc, hx⟩ := List.mem_flatMap.1 hx
      exact form_plain (hs c hc) x hx
    · simp at hx; omega
theorem inQ_bytes {s : List Int} (hs : Bytes s) : Bytes (inQ s) := fun x hx => by have := inQ_plain hs x hx; omega
theorem joined_bytes : ∀ {l : List (List Int)}, (∀ x ∈ l, Bytes x) → Bytes (joined l)
  | [], _ => by intro c hc; simp [joined] at hc; omega
  | [x], h => by
    rw [joined]
    exact bytes_app.2 ⟨inQ_bytes (h x (by simp)), by intro c hc; simp at hc; omega⟩
  | x :: y :: l, h => by
    rw [joined]
    exact bytes_app.2 ⟨bytes_app.2 ⟨inQ_bytes (h x (by simp)), by intro c hc; simp at hc; omega⟩, joined_bytes fun z hz => h z (by simp [hz])⟩
theorem listed_bytes {l : List (List Int)} (h : ∀ x ∈ l, Bytes x) : Bytes (listed l) := by
  intro c hc
  rw [listed] at hc
  rcases List.mem_cons.1 hc with rfl | hc
  · decide
  · exact joined_bytes h c hc
theorem joined_le : ∀ {l : List (List Int)}, (∀ x ∈ l, x.length ≤ 500) → (joined l).length ≤ 2010 * l.length + 1
  | [], _ => by simp [joined]
  | [x], h => by
    have := inQ_len x
    have := h x (by simp)
    simp [joined]; omega
  | x :: y :: l, h => by
    have h1 := inQ_len x
    have h2 := h x (by simp)
    have ih := joined_le (l := y :: l) fun z hz => h z (by simp [hz])
    simp only [joined, List.length_append, List.length_cons, List.length_nil] at ih ⊢
    omega

theorem unquote_quote {s : List Int} (hs : Bytes s) (hl : s.length ≤ 400) : ctext_Unquote (inQ s) = some (s, 0) := by
  have := inQ_len s
  rw [unquote_eq _ (inQ_bytes hs), if_neg (by omega)]
  have e := dqs_of (o := s) (r := []) hs
  rw [List.append_nil] at e
  rw [e]
  dsimp only
  rw [if_pos rfl, if_neg (by omega)]
theorem unlist_list {l : List (List Int)} (hb : ∀ x ∈ l, Bytes x) (h : Short l) : ctext_Unlist (listed l) = some (l, 0) := by
  have := joined_le (l := l) fun x hx => by have := h.2 x hx; omega
  have h64 := h.1
  rw [unlist_eq _ (listed_bytes hb), if_neg (by simp [listed]; omega), dls_of hb]
  dsimp only
  rw [if_pos h]

theorem back_true (x : Int × Int × (List Int) × (List (List Int))) (w : WfL [(.int .i64), (.int .u64), .str, (.slice .str)] x) : claw03_TextBack x = some true := by
  obtain ⟨i, n, s, l⟩ := x
  obtain ⟨hi, hn, hs, hl⟩ := w
  have hi0 : -9223372036854775808 ≤ i := by simpa using hi.1
  have hi1 : i ≤ 9223372036854775807 := by simpa using hi.2
  obtain ⟨u, rfl⟩ : ∃ u : Nat, n = (u : Int) := ⟨n.toNat, (Int.toNat_of_nonneg (by simpa using hn.1)).symm⟩
  have hu : u < 18446744073709551616 := by
    have : (u : Int) ≤ 18446744073709551615 := by simpa using hn.2
    omega
  have hsb : Bytes s := hs.2
  have hlb : ∀ y ∈ l, Bytes y := fun y hy => (hl.2 y hy).2
  have hll : l.length ≤ maxLen := hl.1
  show nlaw03_TextBack (i, (u : Int), s, l) = _
  unfold nlaw03_TextBack
  dsimp only
  rw [alive_true]
  by_cases h : s.length ≤ 400
  · rw [decide_eq_false (by omega), cond_false, short_eq l hll, Option.bind_some]
    by_cases hS : Short l
    · rw [decide_eq_true hS, show (!true) = false by rfl, cond_false, number_eq, Option.bind_some, unnumber_number i hi0 hi1, Option.bind_some, hex_eq u hu, Option.bind_some, unhex_hex u hu, Option.bind_some,
        quote_eq s hsb, if_pos h, Option.bind_some, unquote_quote hsb h, Option.bind_some, list_eq l hlb, if_pos hS, Option.bind_some, unlist_list hlb hS, Option.bind_some]
      simp only [beq_self_eq_true, cond_true]
      rw [show eqD .str s s = true from eqD_self _ _, cond_true, same_self l hll]
      rfl
    · rw [decide_eq_false hS]; rfl
  · rw [decide_eq_true (by omega)]; rfl

/-! ### read, then written -/
theorem unnum_one {s : List Int} (h : (unnum s).2 = 0) : decI (unnum s).1 = s := by
  unfold unnum at h ⊢
  split
  · rename_i h0; rw [if_pos h0] at h; exact absurd h (by decide)
  rename_i h0
  rw [if_neg h0] at h
  split
  · rename_i hb
    rw [if_pos hb] at h
    split
    · rename_i h1; rw [if_pos h1] at h; exact absurd h (by decide)
    rename_i h1
    rw [if_neg h1] at h
    split
    · rename_i hw
      rw [if_pos hw] at h
      split
      · rename_i hv
        obtain ⟨t, rfl⟩ := begins_iff.1 hb
        have e1 : List.drop 1 ([45] ++ t) = t := rfl
        rw [e1] at hw hv ⊢
        have hw' := wholeB_iff.1 hw
        have ht := dN_val (b := 10) (by omega) (by omega) t.length t rfl hw'
        have hp : val 10 t ≠ 0 := by
          intro e
          rw [e] at ht
          rw [show dN 10 0 = [48] by rw [dN, dif_pos (.inl (by omega))]; rfl] at ht
          exact h1 (by rw [← ht]; rfl)
        dsimp only
        rw [decI_dN, if_pos (by omega), show (-((val 10 t : Nat) : Int)).natAbs = val 10 t by omega, ht]
        rfl
      · rename_i hv; rw [if_neg hv] at h; exact absurd h (by decide)
    · rename_i hw; rw [if_neg hw] at h; exact absurd h (by decide)
  · rename_i hb
    rw [if_neg hb] at h
    split
    · rename_i hw
      rw [if_pos hw] at h
      split
      · rename_i hv
        have hw' := wholeB_iff.1 hw
        have ht := dN_val (b := 10) (by omega) (by omega) s.length s rfl hw'
        dsimp only
        rw [decI_dN, if_neg (by omega), Int.toNat_natCast, ht]
      · rename_i hv; rw [if_neg hv] at h; exact absurd h (by decide)
    · rename_i hw; rw [if_neg hw] at h; exact absurd h (by decide)

theorem unhx_one {s : List Int} (h : (unhx s).2 = 0) : ∃ u : Nat, u < 18446744073709551616 ∧ (unhx s).1 = (u : Int) ∧ [48, 120] ++ dN 16 u = s := by
  unfold unhx at h ⊢
  split
  · rename_i h0; rw [if_pos h0] at h; exact absurd h (by decide)
  rename_i h0
  rw [if_neg h0] at h
  split
  · rename_i hb
    rw [if_pos hb] at h
    split
    · rename_i hw
      rw [if_pos hw] at h
      split
      · rename_i hv
        obtain ⟨t, rfl⟩ := begins_iff.1 hb
        have e1 : List.drop 2 ([48, 120] ++ t) = t := rfl
        rw [e1] at hw hv ⊢
        have ht := dN_val (b := 16) (by omega) (by omega) t.length t rfl (wholeB_iff.1 hw)
        exact ⟨val 16 t, by omega, rfl, by rw [ht]⟩
      · rename_i hv; rw [if_neg hv] at h; exact absurd h (by decide)
    · rename_i hw; rw [if_neg hw] at h; exact absurd h (by decide)
  · rename_i hb; rw [if_neg hb] at h; exact absurd h (by decide)

theorem unquote_one {s : List Int} (hs : Bytes s) : ∃ c, ctext_Unquote s = some c ∧ (c.2 = 0 → Bytes c.1 ∧ c.1.length ≤ 400 ∧ s = inQ c.1) := by
  refine ⟨_, unquote_eq s hs, ?_⟩
  split
  · intro h; exact absurd h (by decide)
  · split
    · intro h; exact absurd h (by decide)
    · rename_i o r hd
      obtain ⟨h1, h2, h3⟩ := dqs_some hs hd
      split
      · rename_i hr
        subst hr
        split
        · intro h; exact absurd h (by decide)
        · rename_i ho
          intro _
          exact ⟨h1, by dsimp only; omega, by rw [h3, List.append_nil]⟩
      · intro h; exact absurd h (by decide)
theorem unlist_one {s : List Int} (hs : Bytes s) : ∃ d, ctext_Unlist s = some d ∧ (d.2 = 0 → (∀ x ∈ d.1, Bytes x) ∧ Short d.1 ∧ s = listed d.1) := by
  refine ⟨_, unlist_eq s hs, ?_⟩
  split
  · intro h; exact absurd h (by decide)
  · split
    · intro h; exact absurd h (by decide)
    · rename_i l hd
      obtain ⟨h1, h2⟩ := dls_some hs hd
      split
      · rename_i hS
        intro _
        exact ⟨h1, hS, h2⟩
      · intro h; exact absurd h (by decide)

theorem one_true (x : List Int) (w : WfL [.str] x) : claw03_TextOne x = some true := by
  have hb : Bytes x := w.2
  obtain ⟨c, hc, hc2⟩ := unquote_one hb
  obtain ⟨d, hd, hd2⟩ := unlist_one hb
  have ha := unnumber_eq x hb
  have hx := unhex_eq x hb
  have ha2 := unnum_one (s := x)
  have hx2 := unhx_one (s := x)
  generalize unnum x = a at ha ha2
  generalize unhx x = b at hx hx2
  have f1 : a.2 = 0 → ctext_Number a.1 = some x := fun h => by rw [number_eq, ha2 h]
  have f2 : b.2 = 0 → ctext_Hex b.1 = some x := fun h => by
    obtain ⟨u, h1, h2, h3⟩ := hx2 h
    rw [h2, hex_eq u h1, h3]
  have f3 : c.2 = 0 → ctext_Quote c.1 = some (x, 0) := fun h => by
    obtain ⟨h1, h2, h3⟩ := hc2 h
    rw [quote_eq _ h1, if_pos h2, ← h3]
  have f4 : d.2 = 0 → ctext_List d.1 = some (x, 0) := fun h => by
    obtain ⟨h1, h2, h3⟩ := hd2 h
    rw [list_eq _ h1, if_pos h2, ← h3]
  show nlaw03_TextOne x = _
  unfold nlaw03_TextOne
  rw [alive_true]
  by_cases h : 2000 < x.length
  · rw [decide_eq_true (by omega)]; rfl
  rw [decide_eq_false (by omega), cond_false, ha, Option.bind_some, hx, Option.bind_some, hc, Option.bind_some, hd, Option.bind_some]
  have hself : eqD .str x x = true := eqD_self _ _
  have n1 : ∀ {v : Int}, v ≠ 0 → (v == 0) = false := fun h => beq_eq_false_iff_ne.2 h
  have n2 : ∀ {v : Int}, v = 0 → (v == 0) = true := fun h => beq_iff_eq.2 h
  by_cases g4 : d.2 = 0
  · rw [n2 g4, f4 g4]
    by_cases g3 : c.2 = 0
    · rw [n2 g3, f3 g3]
      by_cases g2 : b.2 = 0
      · rw [n2 g2, f2 g2]
        by_cases g1 : a.2 = 0
        · rw [n2 g1, f1 g1]; simp [hself]
        · rw [n1 g1]; simp [hself]
      · rw [n1 g2]
        by_cases g1 : a.2 = 0
        · rw [n2 g1, f1 g1]; simp [hself]
        · rw [n1 g1]; simp [hself]
    · rw [n1 g3]
      by_cases g2 : b.2 = 0
      · rw [n2 g2, f2 g2]
        by_cases g1 : a.2 = 0
        · rw [n2 g1, f1 g1]; simp [hself]
        · rw [n1 g1]; simp [hself]
      · rw [n1 g2]
        by_cases g1 : a.2 = 0
        · rw [n2 g1, f1 g1]; simp [hself]
        · rw [n1 g1]; simp [hself]
  · rw [n1 g4]
    by_cases g3 : c.2 = 0
    · rw [n2 g3, f3 g3]
      by_cases g2 : b.2 = 0
      · rw [n2 g2, f2 g2]
        by_cases g1 : a.2 = 0
        · rw [n2 g1, f1 g1]; simp [hself]
        · rw [n1 g1]; simp [hself]
      · rw [n1 g2]
        by_cases g1 : a.2 = 0
        · rw [n2 g1, f1 g1]; simp [hself]
        · rw [n1 g1]; simp [hself]
    · rw [n1 g3]
      by_cases g2 : b.2 = 0
      · rw [n2 g2, f2 g2]
        by_cases g1 : a.2 = 0
        · rw [n2 g1, f1 g1]; simp [hself]
        · rw [n1 g1]; simp [hself]
      · rw [n1 g2]
        by_cases g1 : a.2 = 0
        · rw [n2 g1, f1 g1]; simp [hself]
        · rw [n1 g1]; simp [hself]

/-! ### lists, one behind the other -/
def bodyL : List (List Int) → List Int
  | [] => []
  | [x] => inQ x
  | x :: y :: l => inQ x ++ ([44, 32] ++ bodyL (y :: l))
theorem joined_body : ∀ l, joined l = bodyL l ++ [93]
  | [] => rfl
  | [x] => rfl
  | x :: y :: l => by rw [joined, joined_body (y :: l), bodyL]; simp
theorem body_app : ∀ (l m : List (List Int)), l ≠ [] → m ≠ [] → bodyL (l ++ m) = bodyL l ++ ([44, 32] ++ bodyL m)
  | [], m, h, _ => absurd rfl h
  | [x], y :: m, _, _ => rfl
  | [x], [], _, h => absurd rfl h
  | x :: y :: l, m, _, hm => by
    have := body_app (y :: l) m (by simp) hm
    show inQ x ++ ([44, 32] ++ bodyL (y :: l ++ m)) = _
    rw [this, bodyL]
    simp

theorem lists_true (x : (List (List Int)) × (List (List Int))) (w : WfL [(.slice .str), (.slice .str)] x) : claw03_TextLists x = some true := by
  obtain ⟨l, m⟩ := x
  obtain ⟨wl, wm⟩ := w
  have hlb : ∀ y ∈ l, Bytes y := fun y hy => (wl.2 y hy).2
  have hmb : ∀ y ∈ m, Bytes y := fun y hy => (wm.2 y hy).2
  have hab : ∀ y ∈ l ++ m, Bytes y := fun y hy => by
    rcases List.mem_append.1 hy with h | h
    · exact hlb y h
    · exact hmb y h
  show nlaw03_TextLists (l, m) = _
  unfold nlaw03_TextLists
  dsimp only
  rw [alive_true]
  by_cases h1 : l.length ≤ 64
  · rw [decide_eq_false (by omega), cond_false]
    by_cases h2 : m.length ≤ 64
    · rw [decide_eq_false (by omega), cond_false]
      have hmax := maxLen_ge
      have hlim := lim_le
      rw [show (Nat.ble 1 1 && Nat.ble (List.length ([] : List (List Int)) + List.length l) lim) = true from Nat.ble_eq_true_of_le (by simp; omega), cond_true]
      rw [show List.append ([] : List (List Int)) l = l by rfl]
      rw [show (Nat.ble 1 1 && Nat.ble (List.length l + List.length m) lim) = true from Nat.ble_eq_true_of_le (by omega), cond_true]
      rw [show List.append l m = l ++ m by rfl, short_eq (l ++ m) (by simp; omega), Option.bind_some]
      by_cases hS : Short (l ++ m)
      · have hSl : Short l := ⟨by omega, fun y hy => hS.2 y (by simp [hy])⟩
        have hSm : Short m := ⟨by omega, fun y hy => hS.2 y (by simp [hy])⟩
        rw [decide_eq_true hS, show (!true) = false by rfl, cond_false, list_eq l hlb, if_pos hSl, Option.bind_some, list_eq m hmb, if_pos hSm, Option.bind_some, cond_true, cond_true, list_eq _ hab, if_pos hS, Option.bind_some]
        dsimp only
        rw [show ((0 : Int) != 0) = false by decide]
        simp only [cond_false]
        have el : listed l = (91 :: bodyL l) ++ [93] := by rw [listed, joined_body]; rfl
        have em : listed m = 91 :: joined m := rfl
        have hl2 : (listed l).length = (bodyL l).length + 2 := by rw [el]; simp
        have hm2 : (listed m).length = (joined m).length + 1 := by rw [em]; simp
        have hjm : 1 ≤ (joined m).length := by rw [joined_body]; simp
        have hjl := joined_le (l := l) fun x hx => by have := hSl.2 x hx; omega
        have hjm2 := joined_le (l := m) fun x hx => by have := hSm.2 x hx; omega
        rw [joined_body l] at hjl
        simp only [List.length_append, List.length_cons, List.length_nil] at hjl
        rw [decide_eq_false (show ¬ ((List.length (listed l) : Int) < 2) by omega), decide_eq_false (show ¬ ((List.length (listed m) : Int) < 2) by omega)]
        simp only [cond_false]
        have hw : IntKind.i64.wrap ((List.length (listed l) : Int) - 1) = (((bodyL l).length + 1 : Nat) : Int) := by
          rw [wrap_i64 (by omega) (by omega)]; omega
        rw [hw]
        rw [show (decide (0 ≤ (((bodyL l).length + 1 : Nat) : Int)) && decide ((((bodyL l).length + 1 : Nat) : Int) ≤ (List.length (listed l) : Int))) = true by rw [decide_eq_true (by omega), decide_eq_true (by omega)]; rfl]
        rw [show (decide ((0 : Int) ≤ 1) && decide ((1 : Int) ≤ (List.length (listed m) : Int))) = true by rw [decide_eq_true (by omega), decide_eq_true (by omega)]; rfl]
        have ht : List.take (Int.toNat (((bodyL l).length + 1 : Nat) : Int)) (listed l) = 91 :: bodyL l := by
          rw [Int.toNat_natCast, el]
          rw [List.take_append_of_le_length (by simp)]
          exact List.take_of_length_le (by simp)
        have hd : List.drop (Int.toNat 1) (listed m) = joined m := rfl
        rw [ht, hd]
        simp only [cond_true]
        by_cases hln : l = []
        · subst hln
          rw [decide_eq_false (show ¬ ((List.length ([] : List (List Int)) : Int) > 0) by simp)]
          simp only [cond_false]
          rw [Nat.ble_eq_true_of_le (show List.length (91 :: bodyL []) + List.length ([] : List Int) ≤ lim by simp [bodyL]; omega), cond_true]
          rw [Nat.ble_eq_true_of_le (show List.length (List.append (91 :: bodyL []) ([] : List Int)) + List.length (joined m) ≤ lim by simp [bodyL]; omega), cond_true]
          rw [show eqD .str (listed ([] ++ m)) (List.append (List.append (91 :: bodyL []) []) (joined m)) = true from eqD_iff.2 rfl]
          rfl
        · have hl0 : 0 < l.length := List.length_pos_iff.2 hln
          rw [decide_eq_true (show ((List.length l : Int) > 0) by omega)]
          simp only [cond_true]
          by_cases hmn : m = []
          · subst hmn
            rw [decide_eq_false (show ¬ ((List.length ([] : List (List Int)) : Int) > 0) by simp)]
            simp only [cond_false]
            rw [Nat.ble_eq_true_of_le (show List.length (91 :: bodyL l) + List.length ([] : List Int) ≤ lim by simp; omega), cond_true]
            rw [Nat.ble_eq_true_of_le (show List.length (List.append (91 :: bodyL l) ([] : List Int)) + List.length (joined []) ≤ lim by simp [joined]; omega), cond_true]
            rw [show eqD .str (listed (l ++ [])) (List.append (List.append (91 :: bodyL l) []) (joined [])) = true from eqD_iff.2 (by rw [List.append_nil, el]; simp [joined])]
            rfl
          · have hm0 : 0 < m.length := List.length_pos_iff.2 hmn
            rw [decide_eq_true (show ((List.length m : Int) > 0) by omega)]
            simp only [cond_true]
            rw [Nat.ble_eq_true_of_le (show List.length (91 :: bodyL l) + List.length ([44, 32] : List Int) ≤ lim by simp; omega), cond_true]
            rw [Nat.ble_eq_true_of_le (show List.length (List.append (91 :: bodyL l) ([44, 32] : List Int)) + List.length (joined m) ≤ lim by simp; omega), cond_true]
            rw [show eqD .str (listed (l ++ m)) (List.append (List.append (91 :: bodyL l) [44, 32]) (joined m)) = true from eqD_iff.2 (by
              rw [listed, joined_body, body_app l m hln hmn, joined_body m]; simp)]
            rfl
      · rw [decide_eq_false hS]; rfl
    · rw [decide_eq_true (by omega)]; rfl
  · rw [decide_eq_true (by omega)]; rfl
end Go.Proofs.YtcapedpcokhpjaaDoor
