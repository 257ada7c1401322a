/- Two functions of Go's library that package text calls, by contracts: the place of a byte, and the error of a number that is too great. -/
import Derived.Test.YtcapedpcokhpjaaDoorTextC
namespace Go.Lift
theorem indexByte_idx (l : List UInt8) (c : Int) (h : 0 ≤ c) (h' : c ≤ 255) : Lib.indexByte l c.toNat.toUInt8 = idxI (numsOf l) c := by
  have hc : (c.toNat.toUInt8.toNat : Int) = c := by
    have : c.toNat < 256 := by omega
    simp [Nat.toUInt8, UInt8.toNat_ofNat']
    omega
  induction l with
  | nil => rfl
  | cons b l ih =>
    have e : (b == c.toNat.toUInt8) = decide (((b.toNat : Int)) = c) := by
      rw [Bool.eq_iff_iff]
      simp only [beq_iff_eq, decide_eq_true_eq]
      constructor
      · intro h; rw [h]; exact hc
      · intro h; apply UInt8.toNat_inj.1; omega
    have g : idxI (numsOf (b :: l)) c = if (b.toNat : Int) = c then 0 else if idxI (numsOf l) c = -1 then -1 else idxI (numsOf l) c + 1 := rfl
    rw [g, ← ih]
    simp only [Lib.indexByte, e, decide_eq_true_eq, beq_iff_eq]

end Go.Lift

namespace Go.Proofs.YtcapedpcokhpjaaDoor
open Go.Lift Go.RowKit

/-! ### the place of a byte -/
def cistringslite_IndexByte (x : List Int × Int) : Option Int := some (idxI x.1 x.2)
def Gistringslite_IndexByte : Fn2 := ⟨[.str, .int .u8], [.int .i64], [false], fun x => cistringslite_IndexByte x⟩
theorem idxI_range : ∀ (l : List Int) (c : Int), -1 ≤ idxI l c ∧ idxI l c ≤ List.length l
  | [], _ => by simp [idxI]
  | b :: l, c => by
    have := idxI_range l c
    simp only [idxI, List.length_cons]
    split
    · omega
    · split <;> omega
theorem Listringslite_IndexByte : Rises Tryd.prog 58 Gistringslite_IndexByte where
  enters := enters_of Tryd.func58 (by kernel_rfl) rfl
  one := by decide
  len := rfl
  calls := by
    intro w M args vs x r hm hg ha hx hr
    have hv := unpack_pack hx
    subst hv
    match args, ha with
    | [u1, u2], ⟨h1, h2, _⟩ =>
      obtain ⟨s, rfl, hs, l⟩ := h1.str
      obtain ⟨rfl, hc⟩ := h2.int
      cases hr
      simp only [IntKind.min, IntKind.max, IntKind.signed, IntKind.bits] at hc
      refine (Any.stringslite_IndexByte Tryd.lays217 s x.2 w).mono ?_
      rintro e w' ⟨rfl, rfl⟩
      have hx1 : x.1 = numsOf s.data.toList := hs
      refine ⟨[.int .i64 (idxI x.1 x.2)], M, ?_, Gr.refl hm, _, rfl, ?_⟩
      · rw [indexByte_idx _ _ (by simpa using hc.1) (by simp at hc; omega), hx1]; rfl
      · have := idxI_range x.1 x.2
        have hl : (List.length x.1 : Int) ≤ maxLen := by rw [hx1]; simp only [numsOf, List.length_map]; exact Int.ofNat_le.2 l
        refine VOk.mk_int ?_
        simp only [maxLen] at hl
        simp [IntKind.min, IntKind.max, IntKind.signed, IntKind.bits]
        omega

/-! ### the error of a number that is too great -/
def cstrconv_toError (x : List Int × List Int × Int × Int × Option (Option (Nat × Int))) : Option (Option (Option (Nat × Int))) := bif decide (x.2.2.2.2 = some (some (80, 1))) && Nat.ble (List.length x.2.1) 281474976710656 then some (some none) else none
def Gstrconv_toError : Fn2 := ⟨[.str, .str, .int .i64, .int .i64, .ifc], [.ifc], [false], fun x => cstrconv_toError x⟩
theorem Lstrconv_toError : Rises Tryd.prog 49 Gstrconv_toError where
  enters := enters_of Tryd.func49 (by kernel_rfl) rfl
  one := by decide
  len := rfl
  calls := by
    intro w M args vs x r hm hg ha hx hr
    have hv := unpack_pack hx
    subst hv
    match args, ha with
    | [u1, u2, u3, u4, u5], ⟨h1, h2, h3, h4, h5, _⟩ =>
      obtain ⟨s1, rfl, _, l1⟩ := h1.str
      obtain ⟨s2, rfl, hs2, l2⟩ := h2.str
      obtain ⟨rfl, _⟩ := h3.int
      obtain ⟨rfl, _⟩ := h4.int
      obtain ⟨hb, hr⟩ := bif_some (show (bif decide (x.2.2.2.2 = some (some (80, 1))) && Nat.ble (List.length x.2.1) 281474976710656 then some (some none) else none) = some r from hr)
      cases hr
      simp only [Bool.and_eq_true, decide_eq_true_eq] at hb
      have h5' := h5.ifc
      have e5 : u5 = .iface 80 (.int .i64 1) := by
        have : IfcOk x.2.2.2.2 u5 := h5'
        rw [hb.1] at this
        exact this
      subst e5
      have hsz : s2.size ≤ 281474976710656 := by
        have h6 := Nat.le_of_ble_eq_true hb.2
        have hx2 : x.2.1 = numsOf s2.data.toList := hs2
        rw [hx2] at h6
        simp only [numsOf, List.length_map] at h6
        exact h6
      obtain ⟨cs, T, fz, g1, ⟨ev, rfl, g2⟩, g3⟩ := hg 1 ⟨.ifc, gl1⟩ rfl
      have hev : ev = .nilIface ∨ ∃ te pe, ev = .iface te pe := .inr g2
      refine (Any.strconv_toError_range Tryd.laysC245 s1 s2 x.2.2.1 x.2.2.2.1 ev w hsz (by
        show w.cell? ⟨1, 0, none⟩ = some ev
        rw [cell_of_row _ _ _ _ _ _ g1]; rfl) hev).mono ?_
      rintro e w' ⟨N, rfl, _, _, hb⟩
      exact ⟨[_], M, rfl, ⟨hb, fun _ _ m => m, fun _ _ m => .inl m, fun b o m => Nat.lt_of_lt_of_le (hm b o m) hb.size⟩, _, rfl, VOk.mk_ifc ⟨_, _, rfl⟩⟩
end Go.Proofs.YtcapedpcokhpjaaDoor
