/- WireOne: what is read, written again, gives the bytes that were read. -/
import Derived.Test.YtdhlomachkionaaWireFirst0
set_option linter.unusedVariables false
set_option linter.unusedSimpArgs false
set_option maxRecDepth 100000
namespace Go.Proofs.Ytdhlomachkionaa
open Go.Lift

theorem untext_one (x : List Int) (hx : x.length ≤ 2000) (hb : Bytes x) (h : (outt (x, ((0 : Int), ())) 200000).2.2 = 0) :
    cwire_Text (outt (x, ((0 : Int), ())) 200000).2.1 = some (x.take (outt (x, ((0 : Int), ())) 200000).1.2.1.toNat, 0) ∧ 1 ≤ (outt (x, ((0 : Int), ())) 200000).1.2.1 ∧ (outt (x, ((0 : Int), ())) 200000).1.2.1 ≤ (x.length : Int) := by
  have hv : Valid (x, ((0 : Int), ())) := ⟨by simp only; omega, by simp, by simp⟩
  revert h
  unfold outt
  rw [if_neg (not_not_intro hv), if_neg (by omega)]
  simp only [Int.toNat_zero, List.drop_zero]
  intro h
  by_cases he : (outc x 0 200000 0 0 (rd 10 0 x)).2.2 = 0
  · obtain ⟨h2, h3, h4⟩ := outc_num he
    obtain ⟨r1, r2, r3, r4, _⟩ := rd_read 9 0 x rfl hb h2
    rw [h4] at h ⊢
    generalize hn : (rd 10 0 x).1 = n at *
    generalize hu : (rd 10 0 x).2.1 = u at *
    have e0 : (0 + n * 128 ^ 0) = n := by omega
    have e1 : 0 + u = u := by omega
    rw [e0] at h3
    rw [e0, e1] at h ⊢
    simp only [ne_eq, not_true_eq_false, if_false] at h ⊢
    by_cases hs : (x.length : Int) - (u : Int) < (n : Int)
    · rw [if_pos hs] at h; simp at h
    · rw [if_neg hs]
      have e2 : ((u : Int) + (n : Int)).toNat = u + n := by omega
      have hlen : ((x.take (u + n)).drop u).length = n := by simp; omega
      simp only [e2, Int.toNat_natCast]
      refine ⟨?_, by omega, by omega⟩
      rw [text_eq, hlen, if_neg (by omega), vary, r1]
      congr 2
      rw [List.drop_take, ← List.take_add]
      congr 1
      omega
  · rw [if_pos he] at h
    exact absurd h he

theorem one_true (x : List Int) (w : WfL [(.slice (.int .u8))] x) : claw02_WireOne x = some true := by
  obtain ⟨_, hb0⟩ := w
  have hb : Bytes x := fun c hc => by
    have := hb0 c hc
    simpa only [Wf, min_u8, max_u8] using this
  show nlaw02_WireOne x = some true
  simp only [nlaw02_WireOne, alive_true, Option.bind_some]
  by_cases h1 : x.length > 2000
  · rw [decide_eq_true (by omega)]; rfl
  rw [decide_eq_false (show ¬ ((x.length : Int) > 2000) by omega)]
  have hv : Valid (x, ((0 : Int), ())) := ⟨by simp only; omega, by simp, by simp⟩
  have hnew : cwire_New x = some ((x, (0, ())), 0) := by rw [new_eq, if_neg (by omega)]
  have hun := unvary_eq (x, ((0 : Int), ())) 18446744073709551615 hb
  have hus := unsigned_eq (x, ((0 : Int), ())) hb
  have hut := untext_eq (x, ((0 : Int), ())) 200000 hb
  rw [if_pos hv] at hun hus
  simp only [Int.toNat_zero, List.drop_zero] at hun hus
  have g00 : ((0 : Int) != (0 : Int)) = false := rfl
  simp only [cond_false, hnew, Option.bind_some, g00, hun, hus, hut]
  -- the text
  have fin : (bif ((outt (x, ((0 : Int), ())) 200000).2.2 != (0 : Int)) then some true else ((cwire_Text (outt (x, ((0 : Int), ())) 200000).2.1).bind fun x11 => (bif (x11.2 == (0 : Int)) then (bif (decide ((outt (x, ((0 : Int), ())) 200000).1.2.1 ≥ (1 : Int))) then (bif (decide ((outt (x, ((0 : Int), ())) 200000).1.2.1 ≤ (List.length x : Int))) then (bif (decide (0 ≤ (outt (x, ((0 : Int), ())) 200000).1.2.1) && decide ((outt (x, ((0 : Int), ())) 200000).1.2.1 ≤ (List.length x : Int))) then (bif (eqD .str x11.1 (List.take (Int.toNat (outt (x, ((0 : Int), ())) 200000).1.2.1) x)) then some true else (some false)) else none) else (some false)) else (some false)) else (some false)))) = some true := by
    by_cases he : (outt (x, ((0 : Int), ())) 200000).2.2 = 0
    · obtain ⟨h2, h3, h4⟩ := untext_one x (by omega) hb he
      have g1 : ((outt (x, ((0 : Int), ())) 200000).2.2 != (0 : Int)) = false := by rw [bne_eq_false_iff_eq]; exact he
      rw [g1, h2]
      simp only [cond_false, Option.bind_some, eqD_self]
      rw [decide_eq_true (show (outt (x, ((0 : Int), ())) 200000).1.2.1 ≥ 1 from h3), decide_eq_true h4, decide_eq_true (show (0 : Int) ≤ (outt (x, ((0 : Int), ())) 200000).1.2.1 by omega)]
      rfl
    · have g1 : ((outt (x, ((0 : Int), ())) 200000).2.2 != (0 : Int)) = true := by rw [bne_iff_ne]; exact he
      rw [g1]; rfl
  by_cases he : (outc x 0 18446744073709551615 0 0 (rd 10 0 x)).2.2 = 0
  · obtain ⟨h2, h3, h4⟩ := outc_num he
    obtain ⟨r1, r2, r3, r4, _⟩ := rd_read 9 0 x rfl hb h2
    rw [h4]
    generalize hn : (rd 10 0 x).1 = n at *
    generalize hu : (rd 10 0 x).2.1 = u at *
    have e0 : (0 + n * 128 ^ 0) = n := by omega
    have e1 : 0 + u = u := by omega
    have hn64 : n < 18446744073709551616 := r2
    obtain ⟨q1, q2⟩ := half_range hn64
    rw [e0, e1]
    have hsg := signed_eq (half n) q1 q2
    rw [dbl_half] at hsg
    have g0 : ((0 : Int) == (0 : Int)) = true := rfl
    have g1 : decide ((u : Int) < 1) = false := decide_eq_false (by omega)
    have g2 : decide ((u : Int) > (x.length : Int)) = false := decide_eq_false (by omega)
    have g3 : decide ((u : Int) ≤ (x.length : Int)) = true := decide_eq_true (by omega)
    have g4 : decide ((0 : Int) ≤ (u : Int)) = true := decide_eq_true (by omega)
    have g5 : ((u : Int) != (u : Int)) = false := by simp
    have hvt : vary n = x.take u := r1
    simp only [outs, if_true, g0, cond_true, g1, cond_false, g2, vary_eq n hn64, Option.bind_some, g3, g4, Bool.and_self, Int.toNat_natCast, hvt, eqD_self, Bool.not_true, g00, g5, hsg]
    exact fin
  · have g0 : ((outc x 0 18446744073709551615 0 0 (rd 10 0 x)).2.2 == (0 : Int)) = false := by rw [beq_eq_false_iff_ne]; exact he
    have g1 : ((outc x 0 18446744073709551615 0 0 (rd 10 0 x)).2.2 != (outc x 0 18446744073709551615 0 0 (rd 10 0 x)).2.2) = false := by simp
    simp only [g0, cond_false, outs, if_neg he, g1]
    exact fin
end Go.Proofs.Ytdhlomachkionaa
