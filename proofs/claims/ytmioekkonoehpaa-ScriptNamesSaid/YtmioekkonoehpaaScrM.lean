/- Package script: the law ScriptNames. -/
import Derived.Test.YtmioekkonoehpaaScrE
import Derived.Test.YtmioekkonoehpaaScrN
set_option linter.unusedVariables false
set_option linter.unusedSimpArgs false
set_option maxRecDepth 100000
namespace Go.Proofs.Ytmioekkonoehpaa
open Go.Lift

abbrev rpl : (α : Type) → Nat → α → List α := fun _ => List.replicate
def mostL : Lim := (5000, (4096, (16384, (16, ()))))
def body2 (self2 : Int × Lim × List Int → Option Bool) (v : Int × Lim × List Int) : Option Bool := hlaw11_ScriptNames_2 rpl (fun _ => none) (fun _ => none) self2 v
theorem names_loops (L2 : Int × Lim × List Int → Option Bool) : nlaw11_ScriptNames rpl (iterV (fun self0 v => hlaw11_ScriptNames_0 rpl (iterV (fun self1 v => hlaw11_ScriptNames_1 rpl L2 self0 self1 v) big) self0 v) big) () = L2 (0, mostL, List.replicate 2000 0) := by kernel_rfl
theorem set_mid (i k : Nat) (a b : Int) : List.set (List.replicate i a ++ List.replicate (k + 1) b) i a = List.replicate (i + 1) a ++ List.replicate k b := by
  rw [List.replicate_succ (n := k), List.set_append_right _ _ (by simp), List.length_replicate, Nat.sub_self, List.set_cons_zero, List.replicate_succ', List.append_assoc]
  rfl
theorem names_loop2 : ∀ (k i M : Nat), i + k = 2000 → k < M → iterV body2 M ((i : Int), mostL, List.replicate i 65535 ++ List.replicate k 0) = body2 (fun _ => none) (2000, mostL, List.replicate 2000 65535)
  | k, i, 0, _, h => by omega
  | 0, i, M + 1, hi, _ => by
    obtain rfl : i = 2000 := by omega
    rw [iterV_succ, List.replicate_zero, List.append_nil]
    show hlaw11_ScriptNames_2 _ _ _ _ _ = hlaw11_ScriptNames_2 _ _ _ _ _
    unfold hlaw11_ScriptNames_2
    rfl
  | k + 1, i, M + 1, hi, hM => by
    rw [iterV_succ]
    have : body2 (iterV body2 M) ((i : Int), mostL, List.replicate i 65535 ++ List.replicate (k + 1) 0) = iterV body2 M (((i + 1 : Nat) : Int), mostL, List.replicate (i + 1) 65535 ++ List.replicate k 0) := by
      show hlaw11_ScriptNames_2 _ _ _ _ _ = _
      unfold hlaw11_ScriptNames_2
      dsimp only
      rw [decide_eq_true (by omega), cond_true, decide_eq_true (by omega), decide_eq_true (by rw [List.length_append, List.length_replicate, List.length_replicate]; omega), Bool.and_self, cond_true, Int.toNat_natCast, set_mid, wrap_succ (show i < 2000 by omega) (by have := maxLen_ge; omega)]
    rw [this]
    exact names_loop2 k (i + 1) M (by omega) (by omega)
def mostS : Scr := (List.replicate 2000 65535, (mostL, ()))
theorem most_ok : OkS mostS := ⟨by show (List.replicate 2000 (65535 : Int)).length ≤ 2000; rw [List.length_replicate]; exact Nat.le_refl _, by unfold mostS OkL mostL; decide, fun p hp => by
  rw [(List.mem_replicate.1 hp).2]; unfold Pk; decide⟩
theorem rep_len : ∀ n : Nat, (codeL (List.replicate n 65535)).length = 3 * n
  | 0 => rfl
  | n + 1 => by
    have := rep_len n
    unfold codeL at this ⊢
    rw [List.replicate_succ, List.flatMap_cons, List.length_append, this, show (cod 65535).length = 3 from rfl]
    omega
theorem most_len : (codeS mostS).length = 6010 := by
  have e : codeS mostS = codeL [5000, 4096, 16384, 16, ((List.replicate 2000 (65535 : Int)).length : Int)] ++ codeL (List.replicate 2000 65535) := List.flatMap_append
  rw [e, List.length_append, rep_len, List.length_replicate]
  rfl
theorem least_eq : claw11_least () = some ([], ((1, (0, (0, (1, ())))), ())) := rfl
theorem cut_least {n : Int} (h : ¬ (0 ≤ n ∧ n ≤ 0)) : cscript_Cut (([], ((1, (0, (0, (1, ())))), ())), n) = some (zs, 2) := by
  rw [cut11, if_pos (by decide), if_neg (by exact h)]
theorem dec_rep : cscript_Decode (rpl Int (Int.toNat 6101) 0) = some (zs, 4) := by
  show cscript_Decode (List.replicate (Int.toNat 6101) 0) = _
  rw [dec11 (fun c hc => by rw [(List.mem_replicate.1 hc).2]; decide), if_pos (by rw [List.length_replicate]; decide)]
theorem small1 : cscript_Decode [] = some (zs, 12) := by kernel_rfl
theorem small2 : cscript_Decode [1, 0, 0, 1, 1] = some (zs, 12) := by kernel_rfl
theorem small3 : cscript_Decode [1, 0, 0, 1, 0, 0] = some (zs, 12) := by kernel_rfl
theorem small4 : cscript_Decode [0, 0, 0, 1, 0] = some (zs, 12) := by kernel_rfl
theorem small5 : cscript_Decode [129, 0, 0, 0, 1, 0] = some (zs, 12) := by kernel_rfl
theorem small6 : cscript_Decode [1, 0, 0, 1, 1, 128, 128, 4] = some (zs, 12) := by kernel_rfl
theorem small7 : cscript_Decode [1, 0, 0, 1, 0] = some (([], ((1, (0, (0, (1, ())))), ())), 0) := by kernel_rfl
theorem small8 : cscript_Pick (-1, 1) = some (0, 2) := by kernel_rfl
theorem small9 : cscript_Pick (65536, 1) = some (0, 2) := by kernel_rfl
theorem small10 : cscript_Pick (0, -1) = some (0, 2) := by kernel_rfl
theorem small11 : cscript_Pick (0, 17) = some (0, 2) := by kernel_rfl
theorem small12 : cscript_Pick (65535, 0) = some (0, 6) := by kernel_rfl
theorem names_last' {L c : List Int} {s : Scr} (e1 : cscript_Encode (L, (mostL, ())) = some (c, 0)) (e2 : cscript_Decode c = some (s, 0)) (hs : s = (L, (mostL, ()))) (hl : s.1.length ≤ 1000000) (hc : c.length = 6010) : body2 (fun _ => none) (2000, mostL, L) = some true := by
  show hlaw11_ScriptNames_2 _ _ _ _ _ = _
  unfold hlaw11_ScriptNames_2
  dsimp only
  rw [decide_eq_false (by omega), cond_false, e1, Option.bind_some]
  dsimp only
  rw [e2, Option.bind_some, least_eq, Option.bind_some, cut_least (n := 1) (by decide), Option.bind_some, Option.bind_some, cut_least (n := -1) (by decide), Option.bind_some,
    decide_eq_true (show (0 : Int) ≤ 6101 by decide), decide_eq_true (show (6101 : Int) ≤ 6101 by decide), decide_eq_true (show (6101 : Int) ≤ 68719476736 by decide), Bool.and_self, Bool.and_self, Bool.and_self, cond_true, dec_rep, Option.bind_some]
  rw [small1, Option.bind_some, small2, Option.bind_some, small3, Option.bind_some, small4, Option.bind_some, small5, Option.bind_some, small6, Option.bind_some, small7, Option.bind_some, small8, Option.bind_some, small9, Option.bind_some, small10, Option.bind_some, small11, Option.bind_some, small12, Option.bind_some]
  dsimp only
  rw [hc]
  simp only [beq_self_eq_true, cond_true, Option.bind_some, show (((6010 : Nat) : Int) == 6010) = true from rfl]
  rw [← hs, same11 _ _ hl, Option.bind_some, decide_eq_true rfl, cond_true, same11 _ _ (Nat.zero_le _), Option.bind_some, decide_eq_true rfl, cond_true, alive11]
  rfl
theorem names_last : body2 (fun _ => none) (2000, mostL, List.replicate 2000 65535) = some true :=
  names_last' (c := codeS mostS) (s := mostS) (by rw [show ((List.replicate 2000 65535, (mostL, ())) : Scr) = mostS from rfl, enc11, if_pos most_ok]) (by rw [dec11 (codeS_bytes most_ok), if_neg (by rw [most_len]; decide), decS_of most_ok rfl]) rfl (okS_len most_ok) most_len
theorem names_true11 : claw11_ScriptNames () = some true := by
  have h := names_loop2 2000 0 big rfl (by unfold big; omega)
  rw [List.replicate_zero, List.nil_append, names_last] at h
  exact (show claw11_ScriptNames () = _ from names_loops (iterV body2 big)).trans h
end Go.Proofs.Ytmioekkonoehpaa
