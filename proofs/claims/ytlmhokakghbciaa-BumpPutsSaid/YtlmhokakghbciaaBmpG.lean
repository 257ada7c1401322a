/- Package bump: the laws BumpPuts and BumpTexts. -/
import Derived.Test.YtlmhokakghbciaaBmpF
set_option linter.unusedVariables false
set_option linter.unusedSimpArgs false
set_option maxRecDepth 100000
namespace Go.Proofs.Ytlmhokakghbciaa
open Go.Lift
namespace Bp
open Rg (Rgn zR OkR w64 i64)

theorem puts_body {r : Rgn} {b : List Int} {lim : Int} {ts : List (List Int)} (hr : r.2.1.length ≤ 16500) (hb : b.length ≤ 4200) (ht : ts.length ≤ 40) : iterV (glaw14_BumpPuts_0 big) big (b, lim, ts, (0 : Int), r) = some true := by
  refine (Rg.loop_find (mk := fun i : Nat => ((b, lim, ts, (i : Int), r) : Y15)) (q := fun i => if 100 < (ts.getD i []).length then some (some true) else none) (n := ts.length) (r := some true) ?_ ?_ ts.length 0 big (by omega) (Rg.small (n := ts.length) (by omega))).trans ?_
  · intro self i hi
    show hlaw14_BumpPuts_0 self _ = _
    unfold hlaw14_BumpPuts_0
    dsimp only
    rw [decide_eq_true (by omega), cond_true, getI_at hi, Option.bind_some, show ts.getD i [] = ts[i] by simp [hi]]
    by_cases c : 100 < (ts[i]).length
    · rw [decide_eq_true (by omega), cond_true, if_pos c]; rfl
    · rw [decide_eq_false (by omega), cond_false, if_neg c, i64 (by omega) (by omega)]; rfl
  · intro self
    show hlaw14_BumpPuts_0 self _ = _
    unfold hlaw14_BumpPuts_0
    dsimp only
    rw [decide_eq_false (by omega), cond_false, Rg.lim_ok (by omega), cond_true, Rg.lim_ok (by omega), cond_true]
    rw [show ((r.1, List.append ([] : List Int) r.2.1, ()) : Rgn) = r from rfl, show List.append ([] : List Int) b = b from rfl]
    rw [put_eq, rPut_eq, texts_eq, rTexts_eq, Option.bind_some, Option.bind_some, Option.bind_some, Option.bind_some, Rg.same_self, Option.bind_some, cond_true, beq_self_eq_true, cond_true, beq_self_eq_true, cond_true, Rg.same_self, Option.bind_some, cond_true, same_words _ (by have := textsS_len ts lim; have := maxLen_ge; omega), Option.bind_some, cond_true, beq_self_eq_true, cond_true, Rg.same_self, Option.bind_some, cond_true, eqD_self]
  · cases h : (List.range' 0 ts.length).findSome? fun i => if 100 < (ts.getD i []).length then some (some true) else none with
    | none => rfl
    | some z =>
      obtain ⟨i, _, hi⟩ := List.exists_of_findSome?_eq_some h
      split at hi
      · cases hi; rfl
      · cases hi
theorem puts_true14 (x : Rgn × List Int × Int × List (List Int)) (w : WfL [Rg.Tr, .slice (.int .u8), .int .i64, .slice .str] x) : claw14_BumpPuts x = some true := by
  obtain ⟨r, b, lim, ts⟩ := x
  show nlaw14_BumpPuts (iterV (glaw14_BumpPuts_0 big) big) (r, b, lim, ts) = _
  unfold nlaw14_BumpPuts
  dsimp only
  obtain ⟨g, h1, h2⟩ := great_eq r
  rw [h1, Option.bind_some]
  cases g with
  | true => rfl
  | false =>
  have hr := h2 rfl
  rw [cond_false]
  by_cases c3 : (b.length : Int) > 4200
  · rw [decide_eq_true c3]
    cases decide ((b.length : Int) > 400) <;> cases decide ((b.length : Int) ≤ 4096) <;> rfl
  by_cases c4 : (ts.length : Int) > 40
  · rw [decide_eq_true c4]
    cases decide ((b.length : Int) > 400) <;> cases decide ((b.length : Int) ≤ 4096) <;> cases decide ((b.length : Int) > 4200) <;> rfl
  rw [puts_body hr (by omega) (by omega), decide_eq_false c3, decide_eq_false c4]
  cases decide ((b.length : Int) > 400) <;> cases decide ((b.length : Int) ≤ 4096) <;> rfl

/-! ### where texts stand -/
def B (ts : List (List Int)) : List Int := (ts.map pad).flatten
def A (b : Int) : List (List Int) → List Int
  | [] => []
  | t :: ts => b :: A (b + sz t.length) ts
theorem B_cons (t : List Int) (ts : List (List Int)) : B (t :: ts) = pad t ++ B ts := rfl
theorem B_app (a b : List (List Int)) : B (a ++ b) = B a ++ B b := by simp [B]
theorem B_succ {ts : List (List Int)} {i : Nat} (h : i < ts.length) : B (ts.take (i + 1)) = B (ts.take i) ++ pad ts[i] := by
  rw [List.take_succ_eq_append_getElem h, B_app]
  simp [B]
theorem B_split {ts : List (List Int)} {i : Nat} (h : i < ts.length) : B ts = B (ts.take i) ++ (pad ts[i] ++ B (ts.drop (i + 1))) := by
  conv => lhs; rw [← List.take_append_drop i ts, B_app, List.drop_eq_getElem_cons h, B_cons]
theorem B_mod : ∀ ts : List (List Int), (B ts).length % 8 = 0
  | [] => rfl
  | t :: ts => by
    have := pad_len t
    have := sz_bd (n := (t.length : Int)) (by omega)
    have := B_mod ts
    rw [B_cons, List.length_append]
    omega
theorem A_len : ∀ (b : Int) (ts : List (List Int)), (A b ts).length = ts.length
  | _, [] => rfl
  | b, t :: ts => by simp [A, A_len]
theorem A_get : ∀ (ts : List (List Int)) (b : Int) (i : Nat), i < ts.length → getI (A b ts) (i : Int) = some (b + ((B (ts.take i)).length : Int))
  | [], _, _, h => by simp at h
  | t :: ts, b, 0, _ => by
    have h : 0 < (A b (t :: ts)).length := by simp [A]
    rw [getI_at h]
    simp [A, B]
  | t :: ts, b, i + 1, h => by
    have hi : i < ts.length := by simpa using h
    have ih := A_get ts (b + sz t.length) i hi
    have h1 : i < (A (b + sz t.length) ts).length := by rw [A_len]; exact hi
    rw [getI_at h1] at ih
    have h2 : i + 1 < (A b (t :: ts)).length := by rw [A_len]; exact h
    rw [getI_at h2]
    have e : (A b (t :: ts))[i + 1] = (A (b + sz t.length) ts)[i] := rfl
    rw [e, Option.some.inj ih, List.take_succ_cons, B_cons, List.length_append]
    have := pad_len t
    refine congrArg some ?_
    omega

theorem runT_eq {l : Int} (h0 : 0 ≤ l) (h1 : l ≤ 16384) : ∀ (ts : List (List Int)) (hb as_ : List Int), (∀ t ∈ ts, t.length ≤ 64) → hb.length % 8 = 0 → hb.length ≤ l →
    runT l ts (65536, (hb, ())) as_ = if (hb.length + (B ts).length : Int) ≤ l then ((65536, (hb ++ B ts, ())), as_ ++ A (65536 + hb.length) ts, 0) else (zR, [], 18)
  | [], hb, as_, _, _, h2 => by
    rw [if_pos (by simp [B]; omega)]
    simp [runT, B, A]
  | t :: ts, hb, as_, ht, h8, h2 => by
    have hlim : limS (65536, (hb, ())) l = 0 := lim0 (show OkH (65536, (hb, ())) from ⟨rfl, h8, by dsimp only; omega⟩) h0 h1
    have htl := ht t (by simp)
    have hp := pad_len t
    have hs := sz_bd (n := (t.length : Int)) (by omega)
    have hB : ((B (t :: ts)).length : Int) = sz t.length + (B ts).length := by
      rw [B_cons, List.length_append]
      omega
    have hput : putF (65536, (hb, ())) t l = if (hb.length : Int) + sz t.length ≤ l then (full (65536, (hb, ())) t, 65536 + (hb.length : Int), 0) else (zR, 0, 18) := by
      rw [putF, if_pos hlim, if_pos (by omega)]
    rw [runT, hput]
    by_cases c : (hb.length : Int) + sz t.length ≤ l
    · rw [if_pos c, if_pos rfl]
      have hlen : ((hb ++ pad t).length : Int) = hb.length + sz t.length := by rw [List.length_append]; omega
      have ih := runT_eq h0 h1 ts (hb ++ pad t) (as_ ++ [65536 + (hb.length : Int)]) (fun t ht' => ht t (by simp [ht'])) (by omega) (by omega)
      refine Eq.trans ih ?_
      rw [hB, hlen]
      by_cases c2 : (hb.length : Int) + sz t.length + (B ts).length ≤ l
      · rw [if_pos c2, if_pos (by omega)]
        refine Prod.ext (Prod.ext rfl (Prod.ext ?_ rfl)) (Prod.ext ?_ rfl)
        · show hb ++ pad t ++ B ts = _
          rw [B_cons, List.append_assoc]
        · show as_ ++ [_] ++ A _ ts = _
          rw [List.append_assoc, A, ← Int.add_assoc]
          rfl
      · rw [if_neg c2, if_neg (by omega)]
    · rw [if_neg c, if_neg (by decide), if_neg (by omega)]
theorem bad_no {ts : List (List Int)} (h : ∀ t ∈ ts, t.length ≤ 64) : badT ts = false := by
  unfold badT
  rw [List.any_eq_false]
  intro t ht
  have := h t ht
  simp
  omega
theorem texts_S {ts : List (List Int)} {l : Int} (h0 : 0 ≤ l) (h1 : l ≤ 16384) (hl : ts.length ≤ 32) (h : ∀ t ∈ ts, t.length ≤ 64) : textsS ts l = if ((B ts).length : Int) ≤ l then ((65536, (B ts, ())), A 65536 ts, 0) else (zR, [], 18) := by
  rw [textsS, if_pos ⟨h0, h1⟩, if_pos hl, bad_no h, if_neg (by simp), runT_eq h0 h1 ts [] [] h rfl (by simpa using h0)]
  simp

theorem bytes_at {ts : List (List Int)} {i : Nat} (hi : i < ts.length) (hl : (B ts).length ≤ 16384) : Rg.bytesS (65536, (B ts, ())) (65536 + ((B (ts.take i)).length : Int)) (ts[i].length : Int) = (ts[i], 0) := by
  have hs := B_split hi
  have hp := pad_len ts[i]
  have hz := sz_bd (n := (ts[i].length : Int)) (by omega)
  have hlen : (B ts).length = (B (ts.take i)).length + ((pad ts[i]).length + (B (ts.drop (i + 1))).length) := by
    conv => lhs; rw [hs]
    simp
  have hok : OkH (65536, (B ts, ())) := ⟨rfl, B_mod ts, hl⟩
  unfold Rg.bytesS
  rw [if_pos hok.reg, if_neg (by omega), if_pos (show Rg.HasR (65536, (B ts, ())) _ _ from ⟨by dsimp only; omega, by dsimp only; omega⟩)]
  refine Prod.ext ?_ rfl
  show (List.drop (65536 + ((B (ts.take i)).length : Int) - 65536).toNat (B ts)).take (ts[i].length : Int).toNat = _
  rw [show (65536 + ((B (ts.take i)).length : Int) - 65536).toNat = (B (ts.take i)).length by omega, Int.toNat_natCast]
  conv => lhs; rw [hs]
  rw [List.drop_left, pad, List.append_assoc, List.take_left]

theorem texts_loop {l m : List (List Int)} {lim : Int} {self0 : Y14 → Option Bool} (hl : l.length ≤ 16) (hm : m.length ≤ 16) (h0 : 0 ≤ lim) (h1 : lim ≤ 16384) (hsm : ∀ t ∈ l ++ m, t.length ≤ 64) (hB : ((B (l ++ m)).length : Int) ≤ lim) :
    iterV (glaw14_BumpTexts_1 big self0) big (l, lim, true, l ++ m, A 65536 (l ++ m), A 65536 l, (0 : Int), (65536, (B (l ++ m), ())), (65536, (B l, ()))) = some true := by
  have hal : (l ++ m).length = l.length + m.length := List.length_append
  generalize hall : l ++ m = all at *
  have htk : ∀ i, i ≤ l.length → all.take i = l.take i := fun i hi => by rw [← hall, List.take_append_of_le_length hi]
  have hmx : ∀ i, i ≤ l.length → max i l.length = l.length := fun i hi => by omega
  have e0 : B l = B (all.take (max 0 l.length)) := by rw [hmx 0 (by omega), htk _ (Nat.le_refl _), List.take_length]
  rw [e0]
  refine Rg.loop_det (mk := fun i : Nat => ((l, lim, true, all, A 65536 all, A 65536 l, (i : Int), (65536, (B all, ())), (65536, (B (all.take (max i l.length)), ()))) : Y8)) (n := all.length) ?_ ?_ all.length 0 big (by omega) (Rg.small (n := all.length) (by omega))
  · intro self i hi
    show hlaw14_BumpTexts_1 self0 self _ = _
    unfold hlaw14_BumpTexts_1
    dsimp only
    have hwi : IntKind.i64.wrap ((i : Int) + 1) = ((i + 1 : Nat) : Int) := by rw [i64 (by omega) (by omega)]; rfl
    have hat := A_get all 65536 i hi
    have htl := hsm _ (List.getElem_mem hi)
    have hs := sz_bd (n := (all[i].length : Int)) (by omega)
    have hp := pad_len all[i]
    have hsp := congrArg List.length (B_split hi)
    rw [List.length_append, List.length_append] at hsp
    rw [decide_eq_true (by omega), cond_true, hat, Option.bind_some, getI_at hi, Option.bind_some, Rg.bytes_eq, bytes_at hi (by omega), Option.bind_some]
    dsimp only
    rw [show ((0 : Int) != 0) = false from rfl, cond_false, Option.bind_some, eqD_self, Bool.not_true, cond_false]
    have tailL : i < l.length → ∀ (X Y : Option Bool), (bif (decide ((i : Int) < (List.length l : Int))) then ((getI (A 65536 l) (i : Int)).bind fun x14 => ((some (65536 + ((B (all.take i)).length : Int)) : Option Int).bind fun x15 => (bif (x14 != x15) then (some false) else (bif (decide ((i : Int) ≥ (List.length l : Int))) then X else self (l, lim, true, all, A 65536 all, A 65536 l, ((i + 1 : Nat) : Int), (65536, (B all, ())), (65536, (B (all.take (max i l.length)), ()))))))) else Y) = self (l, lim, true, all, A 65536 all, A 65536 l, ((i + 1 : Nat) : Int), (65536, (B all, ())), (65536, (B (all.take (max (i + 1) l.length)), ()))) := by
      intro hil X Y
      rw [decide_eq_true (by omega), cond_true, A_get l 65536 i hil, Option.bind_some, Option.bind_some, ← htk i (by omega), show (∀ z : Int, (z != z) = false) from fun z => by simp, cond_false, decide_eq_false (by omega), cond_false, show max (i + 1) l.length = max i l.length by omega]
    have tailM : ¬ i < l.length → ((cbump_Put ((65536, (B (all.take (max i l.length)), ())), all[i], lim)).bind fun x17 => (bif (x17.2.2 != (0 : Int)) then (some false) else ((some (65536 + ((B (all.take i)).length : Int)) : Option Int).bind fun x18 => (bif (x17.2.1 != x18) then (some false) else self (l, lim, true, all, A 65536 all, A 65536 l, ((i + 1 : Nat) : Int), (65536, (B all, ())), x17.1))))) = self (l, lim, true, all, A 65536 all, A 65536 l, ((i + 1 : Nat) : Int), (65536, (B all, ())), (65536, (B (all.take (max (i + 1) l.length)), ()))) := by
      intro hil
      have hmod := B_mod (all.take i)
      rw [show max i l.length = i by omega, show max (i + 1) l.length = i + 1 by omega, put_eq, putF, if_pos (lim0 (show OkH (65536, (B (all.take i), ())) from ⟨rfl, hmod, by dsimp only; omega⟩) h0 h1), if_pos (by omega), if_pos (by dsimp only; omega), Option.bind_some]
      dsimp only
      rw [show ((0 : Int) != 0) = false from rfl, cond_false, Option.bind_some, show (∀ z : Int, (z != z) = false) from fun z => by simp, cond_false, B_succ hi]
      rfl
    rw [hwi]
    by_cases i0 : (i : Int) > 0
    · have hpos : i - 1 < all.length := by omega
      have hat1 := A_get all 65536 (i - 1) hpos
      have hsc := B_succ hpos
      rw [show i - 1 + 1 = i by omega] at hsc
      have hp1 := pad_len all[i - 1]
      have hs1 := sz_bd (n := (all[i - 1].length : Int)) (by omega)
      have hsl := congrArg List.length hsc
      rw [List.length_append] at hsl
      rw [decide_eq_true i0, cond_true, Option.bind_some, i64 (n := (i : Int) - 1) (by omega) (by omega), show (i : Int) - 1 = ((i - 1 : Nat) : Int) by omega, hat1, Option.bind_some, decide_eq_false (by omega), cond_false]
      by_cases hil : i < l.length
      · exact tailL hil _ _
      · rw [decide_eq_false (by omega), cond_false, decide_eq_true (by omega), cond_true, Option.bind_some]
        exact tailM hil
    · rw [decide_eq_false i0, cond_false]
      by_cases hil : i < l.length
      · exact tailL hil _ _
      · rw [decide_eq_false (by omega), cond_false, decide_eq_true (by omega), cond_true, Option.bind_some]
        exact tailM hil
  · intro self
    show hlaw14_BumpTexts_1 self0 self _ = _
    unfold hlaw14_BumpTexts_1
    dsimp only
    rw [decide_eq_false (by omega), cond_false, cond_true, show max all.length l.length = all.length by omega, List.take_length, Rg.same_self]
    rfl

theorem lim_okG {α : Type} {l : List α} {k : Nat} (h : k + l.length ≤ 100000) : (Nat.ble 1 1 && Nat.ble (k + List.length l) lim) = true := by
  have := Rg.lim_ok (l := List.replicate (k + l.length) (0 : Int)) (by simp; omega)
  simpa using this

theorem texts_true14 (x : List (List Int) × List (List Int) × Int) (w : WfL [.slice .str, .slice .str, .int .i64] x) : claw14_BumpTexts x = some true := by
  obtain ⟨l, m, lim⟩ := x
  show nlaw14_BumpTexts (iterV (glaw14_BumpTexts_0 big) big) (l, m, lim) = _
  unfold nlaw14_BumpTexts
  dsimp only
  rw [alive14, Option.bind_some]
  by_cases c1 : (l.length : Int) > 16
  · rw [decide_eq_true c1, cond_true]
  rw [decide_eq_false c1, cond_false]
  by_cases c2 : (m.length : Int) > 16
  · rw [decide_eq_true c2, cond_true]
  rw [decide_eq_false c2, cond_false]
  by_cases c3 : lim < 0
  · rw [decide_eq_true c3, cond_true]
  rw [decide_eq_false c3, cond_false]
  by_cases c4 : lim > 16384
  · rw [decide_eq_true c4, cond_true]
  rw [decide_eq_false c4, cond_false, Bool.not_true, cond_false, lim_okG (k := List.length ([] : List (List Int))) (by simp; omega), cond_true]
  rw [show List.append ([] : List (List Int)) l = l from rfl, lim_okG (by omega), cond_true]
  show iterV (glaw14_BumpTexts_0 big) big ((fun (_ : Unit) (i : Nat) => ((l, lim, true, (i : Int), l ++ m) : Y14)) () 0) = some true
  have hal : (l ++ m).length = l.length + m.length := List.length_append
  refine range_post (n := (l ++ m).length) (fun (_ : Unit) (i : Nat) => ((l, lim, true, (i : Int), l ++ m) : Y14)) (fun i _ => ∀ j (h : j < (l ++ m).length), j < i → (l ++ m)[j].length ≤ 64) (fun o => o = some true) ?_ ?_ (l ++ m).length 0 big (by omega) (Rg.small (n := (l ++ m).length) (by omega)) () (fun j _ h => by omega)
  · intro self _ hI
    show hlaw14_BumpTexts_0 (iterV (glaw14_BumpTexts_1 big self) big) self _ = _
    have hsm : ∀ t ∈ l ++ m, t.length ≤ 64 := by
      intro t ht
      obtain ⟨j, hj, rfl⟩ := List.getElem_of_mem ht
      exact hI j hj hj
    unfold hlaw14_BumpTexts_0
    dsimp only
    rw [decide_eq_false (by omega), cond_false, texts_eq, texts_eq, Option.bind_some, Option.bind_some, texts_S (by omega) (by omega) (by omega) hsm, texts_S (by omega) (by omega) (by omega) (fun t ht => hsm t (by simp [ht]))]
    by_cases c : ((B (l ++ m)).length : Int) ≤ lim
    · have hB := congrArg List.length (B_app l m)
      rw [List.length_append] at hB
      rw [if_pos c, if_pos (by omega)]
      dsimp only
      rw [show ((0 : Int) != 0) = false from rfl, cond_false, cond_false, A_len, A_len, show (((l ++ m).length : Int) != (l ++ m).length) = false by simp, cond_false, show ((l.length : Int) != l.length) = false by simp, cond_false]
      exact texts_loop (by omega) (by omega) (by omega) (by omega) hsm c
    · rw [if_neg c]
      rfl
  · intro self _ i hi hI
    show _ ∨ hlaw14_BumpTexts_0 (iterV (glaw14_BumpTexts_1 big self) big) self _ = _
    have e : hlaw14_BumpTexts_0 (iterV (glaw14_BumpTexts_1 big self) big) self (l, lim, true, (i : Int), l ++ m) = bif decide (((l ++ m)[i].length : Int) > 64) then some true else self (l, lim, true, ((i + 1 : Nat) : Int), l ++ m) := by
      unfold hlaw14_BumpTexts_0
      dsimp only
      rw [decide_eq_true (by omega), cond_true, decide_eq_true (by omega), Bool.and_true, cond_true, Int.toNat_natCast, show nth (l ++ m) i = some (l ++ m)[i] from List.getElem?_eq_getElem hi, Option.bind_some, i64 (by omega) (by omega)]
      rfl
    by_cases c : ((l ++ m)[i].length : Int) > 64
    · refine .inr ?_
      rw [e, decide_eq_true c, cond_true]
    · refine .inl ⟨(), ?_, ?_⟩
      · intro j hj hji
        by_cases hji' : j = i
        · subst hji'; omega
        · exact hI j hj (by omega)
      · show hlaw14_BumpTexts_0 (iterV (glaw14_BumpTexts_1 big self) big) self (l, lim, true, (i : Int), l ++ m) = _
        rw [e, decide_eq_false c, cond_false]
end Bp
end Go.Proofs.Ytlmhokakghbciaa
