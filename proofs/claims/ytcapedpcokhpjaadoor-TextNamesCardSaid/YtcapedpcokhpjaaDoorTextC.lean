/- A function of Go's library that package text calls, by a contract: a number's decimal digits. -/
import Derived.Test.YtcapedpcokhpjaaDoorRiP
import Derived.Test.YtcapedpcokhpjaaDoorShelf
namespace Go.Lift

/-- the place of a byte in a text, or -1 -/
def idxI : List Int → Int → Int
  | [], _ => -1
  | b :: l, c => if b = c then 0 else if idxI l c = -1 then -1 else idxI l c + 1

/-- a number's digits to the base 10 -/
def digsN (u : Nat) : List Int :=
  if h : u < 10 then [((48 + u : Nat) : Int)] else digsN (u / 10) ++ [((48 + u % 10 : Nat) : Int)]
termination_by u
decreasing_by omega

def decI (n : Int) : List Int := if n < 0 then 45 :: digsN n.natAbs else digsN n.toNat

/-- the bytes of a string, as numbers -/
def numsOf (l : List UInt8) : List Int := l.map fun b => (b.toNat : Int)

theorem decDigits_digs : ∀ (u : Nat), numsOf (Lib.decDigits u) = digsN u := by
  intro u
  induction u using Nat.strongRecOn with
  | ind u ih =>
    rw [Lib.decDigits, digsN]
    by_cases h : u < 10
    · rw [dif_pos h, dif_pos h]
      simp [numsOf, UInt8.toNat_ofNat']
      omega
    · rw [dif_neg h, dif_neg h]
      simp only [numsOf, List.map_append, List.map_cons, List.map_nil]
      have := ih (u / 10) (by omega)
      simp only [numsOf] at this
      rw [this]
      simp [UInt8.toNat_ofNat']
      omega
theorem itoa_dec (n : Int) : numsOf (Lib.itoa n) = decI n := by
  unfold Lib.itoa decI
  split
  · have := decDigits_digs n.natAbs
    simp only [numsOf, List.map_cons] at this ⊢
    rw [this]
    rfl
  · exact decDigits_digs n.toNat
theorem decDigits_len : ∀ (k u : Nat), u < 10 ^ k → (Lib.decDigits u).length ≤ max k 1
  | 0, u, h => by
    have : u = 0 := by omega
    subst this
    rw [Lib.decDigits]; simp
  | k + 1, u, h => by
    rw [Lib.decDigits]
    by_cases h1 : u < 10
    · rw [dif_pos h1]; simp
    · rw [dif_neg h1]
      have hk : u / 10 < 10 ^ k := by rw [Nat.pow_succ] at h; omega
      have := decDigits_len k (u / 10) hk
      have hk1 : 1 ≤ k := by
        cases k with
        | zero => simp at h; omega
        | succ k => omega
      simp
      omega
theorem itoa_len (n : Int) (h0 : -9223372036854775808 ≤ n) (h1 : n ≤ 9223372036854775807) : (Lib.itoa n).length ≤ 20 := by
  unfold Lib.itoa
  split
  · have := decDigits_len 19 n.natAbs (by omega)
    simp; omega
  · have := decDigits_len 19 n.toNat (by omega)
    omega
end Go.Lift

namespace Go.Proofs.YtcapedpcokhpjaaDoor
open Go.Lift Go.RowKit

theorem below_grow {w : World} (k : Nat) (os : Array Obj) : Below w.heap.size w (Sort.grow (w.drewN k) os) :=
  ⟨rfl, rfl, rfl, by simp [Sort.grow, World.drewN], fun i hi => by
    simp only [Sort.grow, World.drewN]
    rw [Array.getElem?_append_left hi]⟩

theorem str_of {M : Own} {w : World} (l : List UInt8) (h : l.length ≤ maxLen) : VOk M w .str (numsOf l) (.string ⟨l.toArray⟩) :=
  ⟨_, rfl, ⟨l.toArray⟩, rfl, rfl, by show (List.toArray l).size ≤ maxLen; simpa using h⟩

/-! ### a number's digits -/
def cstrconv_FormatInt (x : Int × Int) : Option (List Int) := bif decide (x.2 = 10) then some (decI x.1) else none
def Gstrconv_FormatInt : Fn2 := ⟨[.int .i64, .int .i64], [.str], [false], fun x => cstrconv_FormatInt x⟩
theorem Lstrconv_FormatInt : Rises Tryd.prog 41 Gstrconv_FormatInt where
  enters := enters_of Tryd.func41 (by kernel_rfl) rfl
  one := by decide
  len := rfl
  calls := by
    intro w M args vs x r hm hg ha hx hr
    have hv := unpack_pack hx
    subst hv
    match args, ha with
    | [u1, u2], ⟨h1, h2, _⟩ =>
      obtain ⟨rfl, hn⟩ := h1.int
      obtain ⟨rfl, _⟩ := h2.int
      obtain ⟨hb, hr⟩ := bif_some (show (bif decide (x.2 = 10) then some (decI x.1) else none) = some r from hr)
      cases hr
      have h10 : x.2 = 10 := of_decide_eq_true hb
      rw [h10]
      simp only [IntKind.min, IntKind.max, IntKind.signed, IntKind.bits] at hn
      have n0 : -9223372036854775808 ≤ x.1 := by simpa using hn.1
      have n1 : x.1 ≤ 9223372036854775807 := by simpa using hn.2
      obtain ⟨cs, T, fz, g1, g2, g3⟩ := hg 2 ⟨_, gl2⟩ rfl
      have g4 := (Seq.ints g2.2).1
      refine (Any.strconv_FormatInt_10 Tryd.laysM173 x.1 n0 n1 w (show (Tryd.prog.globalNamed _).bind _ = _ from ?_)).mono ?_
      · rw [show Tryd.prog.globalNamed _ = some 2 by kernel_rfl, Option.bind_some, g1]
        rw [g4]
        rfl
      · rintro e w' ⟨rfl, k, os, rfl⟩
        have hb := below_grow (w := w) k os
        refine ⟨[.string ⟨(Lib.itoa x.1).toArray⟩], M, rfl, ⟨hb, fun _ _ m => m, fun _ _ m => .inl m, fun b o m => Nat.lt_of_lt_of_le (hm b o m) hb.size⟩, _, rfl, ?_⟩
        have := str_of (M := M) (w := Sort.grow (w.drewN k) os) (Lib.itoa x.1) (by have := itoa_len x.1 n0 n1; simp only [maxLen]; omega)
        rw [itoa_dec] at this
        exact this

end Go.Proofs.YtcapedpcokhpjaaDoor
