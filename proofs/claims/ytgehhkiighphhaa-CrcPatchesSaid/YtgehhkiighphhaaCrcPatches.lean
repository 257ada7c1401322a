/- The law CrcPatches: four bytes make any checksum, and no other four do. -/
import Derived.Test.YtgehhkiighphhaaCrcC
import Derived.Test.YtgehhkiighphhaaRows
import Derived.WalkKit
import Derived.ProofKit
import Derived.OpenShut
import Derived.ChangeOld
import Derived.Below
namespace Go.Proofs.Ytgehhkiighphhaa
open Go.Lift

/-! ### numbers -/
def turnN (x : Nat) : Nat := if x % 2 = 1 then (x / 2) ^^^ 3988292384 else x / 2
def elN (x : Nat) : Nat := turnN (turnN (turnN (turnN (turnN (turnN (turnN (turnN x)))))))
theorem xor_div (a b k : Nat) : (a ^^^ b) / 2 ^ k = (a / 2 ^ k) ^^^ (b / 2 ^ k) := by
  simp only [← Nat.shiftRight_eq_div_pow, Nat.shiftRight_xor_distrib]
theorem xor_mid (a b p q : Nat) : (a ^^^ p) ^^^ (b ^^^ q) = (a ^^^ b) ^^^ (p ^^^ q) := by
  rw [Nat.xor_assoc, Nat.xor_assoc, ← Nat.xor_assoc p, Nat.xor_comm p b, Nat.xor_assoc]
theorem turnN_xor (a b : Nat) : turnN (a ^^^ b) = turnN a ^^^ turnN b := by
  have h := xor_div a b 1
  have hm : (a ^^^ b) % 2 = (a % 2) ^^^ (b % 2) := Nat.xor_mod_two_pow (n := 1)
  simp only [Nat.pow_one] at h
  unfold turnN
  rw [h, hm]
  rcases Nat.mod_two_eq_zero_or_one a with ha | ha <;> rcases Nat.mod_two_eq_zero_or_one b with hb | hb <;> rw [ha, hb]
  · simp
  · simp [Nat.xor_assoc]
  · simp; rw [Nat.xor_assoc, Nat.xor_comm (b / 2), ← Nat.xor_assoc]
  · simp; rw [xor_mid, Nat.xor_self, Nat.xor_zero]
theorem elN_xor (a b : Nat) : elN (a ^^^ b) = elN a ^^^ elN b := by simp only [elN, turnN_xor]
theorem tbl_eq : tbl = (List.range 256).map fun i => ((elN i : Nat) : Int) := by kernel_rfl
theorem tbl_at {a : Nat} (h : a < 256) : nth tbl a = some ((elN a : Nat) : Int) := by
  show tbl[a]? = _
  rw [tbl_eq]
  simp [h]
theorem el_lt {a : Nat} (h : a < 256) : elN a < 4294967296 := by
  have hc : ((List.range 256).all fun i => decide (elN i < 4294967296)) = true := by kernel_rfl
  have := List.all_eq_true.1 hc a (by simpa using h)
  simpa using this
theorem el_hi {a : Nat} (h : a < 256) (h0 : elN a / 2 ^ 24 = 0) : a = 0 := by
  have hc : ((List.range 256).all fun i => !(Nat.beq (elN i / 2 ^ 24) 0) || Nat.beq i 0) = true := by kernel_rfl
  have := List.all_eq_true.1 hc a (by simpa using h)
  rw [h0] at this
  simpa using this
theorem xor_lt {a b : Nat} (ha : a < 256) (hb : b < 256) : a ^^^ b < 256 := Nat.xor_lt_two_pow (n := 8) ha hb
theorem hi_inj {a b : Nat} (ha : a < 256) (hb : b < 256) (h : elN a / 2 ^ 24 = elN b / 2 ^ 24) : a = b := by
  have h1 := el_hi (xor_lt ha hb) (by rw [elN_xor, xor_div, h, Nat.xor_self])
  rw [← Nat.xor_zero a, ← Nat.xor_self b, ← Nat.xor_assoc, h1, Nat.zero_xor]
theorem bits_xor {k : IntKind} {a b : Nat} (hs : k.signed = false) (ha : a < 2 ^ k.bits) (hb : b < 2 ^ k.bits) : bits .xor k (a : Int) (b : Int) = ((a ^^^ b : Nat) : Int) := by
  have h := Nat.xor_lt_two_pow ha hb
  simp only [bits, BitVec.ofInt_natCast, BitVec.toNat_xor, BitVec.toNat_ofNat, Nat.mod_eq_of_lt ha, Nat.mod_eq_of_lt hb]
  simp only [IntKind.wrap, hs]
  simp
  exact_mod_cast Nat.mod_eq_of_lt h
theorem alive_true : c16 () = some true := by kernel_rfl

theorem ediv (n k : Nat) : (n : Int).fdiv (2 ^ k) = ((n / 2 ^ k : Nat) : Int) := by
  rw [Int.fdiv_eq_ediv_of_nonneg _ (Int.pow_nonneg (by decide)), Int.natCast_ediv, Int.natCast_pow]
  rfl
theorem xor_lt32 {a b : Nat} (ha : a < 4294967296) (hb : b < 4294967296) : a ^^^ b < 4294967296 := Nat.xor_lt_two_pow (n := 32) ha hb
def stN (s c : Nat) : Nat := (s / 256) ^^^ elN ((s % 256) ^^^ c)
def stepsN (b : List Int) (s : Nat) : Nat := b.foldl (fun s c => stN s c.toNat) s
def Bytes (b : List Int) : Prop := ∀ c ∈ b, 0 ≤ c ∧ c ≤ 255
theorem stN_lt {s c : Nat} (hs : s < 4294967296) (hc : c < 256) : stN s c < 4294967296 :=
  xor_lt32 (Nat.lt_of_le_of_lt (Nat.div_le_self _ _) hs) (el_lt (xor_lt (Nat.mod_lt _ (by decide)) hc))
theorem getI_tbl {a : Nat} (h : a < 256) : getI tbl (a : Int) = some ((elN a : Nat) : Int) := by
  rw [getI_nat]; exact tbl_at h
theorem c33_nat {s c : Nat} (hs : s < 4294967296) (hc : c < 256) : c33 (tbl, (s : Int), (c : Int)) = some ((stN s c : Nat) : Int) := by
  have h1 : IntKind.u8.wrap (s : Int) = ((s % 256 : Nat) : Int) := by rw [IntKind.wrap_u8]; simp
  have hm : s % 256 < 256 := Nat.mod_lt _ (by decide)
  have h2 : bits .xor .u8 ((s % 256 : Nat) : Int) (c : Int) = (((s % 256) ^^^ c : Nat) : Int) := bits_xor rfl hm hc
  have h3 : bits .xor .u32 ((s / 2 ^ 8 : Nat) : Int) ((elN ((s % 256) ^^^ c) : Nat) : Int) = (((s / 2 ^ 8) ^^^ elN ((s % 256) ^^^ c) : Nat) : Int) :=
    bits_xor rfl (Nat.lt_of_le_of_lt (Nat.div_le_self _ _) hs) (el_lt (xor_lt hm hc))
  simp only [c33, n33, h1, h2, getI_tbl (xor_lt hm hc), Option.bind_some, ediv, h3, stN]
theorem c25_nat : ∀ {b : List Int} {s : Nat}, Bytes b → s < 4294967296 → c25 (tbl, (s : Int), b) = some ((stepsN b s : Nat) : Int) ∧ stepsN b s < 4294967296
  | [], s, _, hs => ⟨rfl, hs⟩
  | c :: b, s, hb, hs => by
    obtain ⟨h0, h1⟩ := hb c (by simp)
    obtain ⟨n, rfl⟩ := Int.eq_ofNat_of_zero_le h0
    have hn : n < 256 := by omega
    have ih := c25_nat (b := b) (s := stN s n) (fun c h => hb c (by simp [h])) (stN_lt hs hn)
    refine ⟨?_, by simpa [stepsN] using ih.2⟩
    have : c25 (tbl, (s : Int), (n : Int) :: b) = (c33 (tbl, (s : Int), (n : Int))).bind fun s' => c25 (tbl, s', b) := rfl
    rw [this, c33_nat hs hn, Option.bind_some, ih.1]
    simp [stepsN]
theorem eqD_self (t : Ty) (x : t.den) : eqD t x x = true := by
  unfold eqD
  exact @decide_eq_true _ (decD t x x) rfl
theorem ones_lt : (4294967295 : Nat) < 4294967296 := by decide
theorem xor_ones {s : Nat} (hs : s < 4294967296) : bits .xor .u32 (s : Int) (4294967295 : Int) = ((s ^^^ 4294967295 : Nat) : Int) := bits_xor (b := 4294967295) rfl hs ones_lt
theorem c11_nat {b : List Int} {s : Nat} (hb : Bytes b) (hl : b.length ≤ 200000) (hs : s < 4294967296) : c11 (tbl, (s : Int), b) = some (((stepsN b (s ^^^ 4294967295) ^^^ 4294967295 : Nat) : Int), 0) := by
  have c20e : c20 () = some tbl := rfl
  have h := c25_nat hb (xor_lt32 hs ones_lt)
  have e : decide ((List.length b : Int) > 200000) = false := decide_eq_false (by omega)
  simp only [c11, n11, c20e, Option.bind_some, eqD_self, Bool.not_true, cond_false, e, xor_ones hs, h.1, xor_ones h.2]
theorem stepsN_append (a b : List Int) (s : Nat) : stepsN (a ++ b) s = stepsN b (stepsN a s) := by simp [stepsN]
theorem xx (a b : Nat) : (a ^^^ b) ^^^ b = a := by rw [Nat.xor_assoc, Nat.xor_self, Nat.xor_zero]


/-! ### four bytes -/
def invL : List Nat := [0, 65, 195, 130, 134, 199, 69, 4, 77, 12, 142, 207, 203, 138, 8, 73, 154, 219, 89, 24, 28, 93, 223, 158, 215, 150, 20, 85, 81, 16, 146, 211, 117, 52, 182, 247, 243, 178, 48, 113, 56, 121, 251, 186, 190, 255, 125, 60, 239, 174, 44, 109, 105, 40, 170, 235, 162, 227, 97, 32, 36, 101, 231, 166, 234, 171, 41, 104, 108, 45, 175, 238, 167, 230, 100, 37, 33, 96, 226, 163, 112, 49, 179, 242, 246, 183, 53, 116, 61, 124, 254, 191, 187, 250, 120, 57, 159, 222, 92, 29, 25, 88, 218, 155, 210, 147, 17, 80, 84, 21, 151, 214, 5, 68, 198, 135, 131, 194, 64, 1, 72, 9, 139, 202, 206, 143, 13, 76, 149, 212, 86, 23, 19, 82, 208, 145, 216, 153, 27, 90, 94, 31, 157, 220, 15, 78, 204, 141, 137, 200, 74, 11, 66, 3, 129, 192, 196, 133, 7, 70, 224, 161, 35, 98, 102, 39, 165, 228, 173, 236, 110, 47, 43, 106, 232, 169, 122, 59, 185, 248, 252, 189, 63, 126, 55, 118, 244, 181, 177, 240, 114, 51, 127, 62, 188, 253, 249, 184, 58, 123, 50, 115, 241, 176, 180, 245, 119, 54, 229, 164, 38, 103, 99, 34, 160, 225, 168, 233, 107, 42, 46, 111, 237, 172, 10, 75, 201, 136, 140, 205, 79, 14, 71, 6, 132, 197, 193, 128, 2, 67, 144, 209, 83, 18, 22, 87, 213, 148, 221, 156, 30, 95, 91, 26, 152, 217]
def zN (s : Nat) : Nat := (s / 256) ^^^ elN (s % 256)
def zeroN : Nat → Nat → Nat
  | 0, s => s
  | n + 1, s => zeroN n (zN s)
def wordN : List Int → Nat
  | [] => 0
  | c :: r => c.toNat ^^^ (256 * wordN r)
theorem xor_mod8 (a b : Nat) : (a ^^^ b) % 256 = (a % 256) ^^^ (b % 256) := Nat.xor_mod_two_pow (n := 8)
theorem xor_div8 (a b : Nat) : (a ^^^ b) / 256 = (a / 256) ^^^ (b / 256) := xor_div a b 8
theorem elN_zero : elN 0 = 0 := by decide
theorem zN_xor (a b : Nat) : zN (a ^^^ b) = zN a ^^^ zN b := by
  simp only [zN, xor_mod8, xor_div8, elN_xor]
  rw [xor_mid]
theorem zN_up (w : Nat) : zN (256 * w) = w := by
  have h1 : 256 * w / 256 = w := by omega
  have h2 : 256 * w % 256 = 0 := by omega
  simp only [zN, h1, h2, elN_zero, Nat.xor_zero]
theorem stN_z {s c : Nat} (hc : c < 256) : stN s c = zN (s ^^^ c) := by
  have h1 : c / 256 = 0 := by omega
  have h2 : c % 256 = c := by omega
  simp only [stN, zN, xor_mod8, xor_div8, h1, h2, Nat.xor_zero]
theorem zN_lt {s : Nat} (h : s < 4294967296) : zN s < 4294967296 := by
  have := stN_lt (c := 0) h (by decide)
  rwa [stN_z (by decide), Nat.xor_zero] at this
theorem steps_word : ∀ (b : List Int) (s : Nat), Bytes b → stepsN b s = zeroN b.length (s ^^^ wordN b)
  | [], s, _ => by simp [stepsN, wordN, zeroN]
  | c :: b, s, h => by
    obtain ⟨h0, h1⟩ := h c (by simp)
    have ih := steps_word b (stN s c.toNat) (fun c h' => h c (by simp [h']))
    have : stepsN (c :: b) s = stepsN b (stN s c.toNat) := rfl
    rw [this, ih, stN_z (by omega)]
    simp only [List.length_cons, zeroN, wordN]
    rw [← Nat.xor_assoc, zN_xor (s ^^^ c.toNat), zN_up]
theorem zN_inj {a b : Nat} (ha : a < 4294967296) (hb : b < 4294967296) (h : zN a = zN b) : a = b := by
  have hx := xor_lt32 ha hb
  have h0 : zN (a ^^^ b) = 0 := by rw [zN_xor, h, Nat.xor_self]
  have h1 : elN ((a ^^^ b) % 256) = (a ^^^ b) / 256 := by
    have h2 : (a ^^^ b) / 256 ^^^ elN ((a ^^^ b) % 256) = 0 := h0
    have h3 := xx ((a ^^^ b) / 256) (elN ((a ^^^ b) % 256))
    rw [h2, Nat.zero_xor] at h3
    exact h3
  have h2 : elN ((a ^^^ b) % 256) / 2 ^ 24 = 0 := by rw [h1]; omega
  have h3 := el_hi (Nat.mod_lt _ (by decide)) h2
  rw [h3, elN_zero] at h1
  have h4 : a ^^^ b = 0 := by omega
  have h5 := xx a b
  rw [h4, Nat.zero_xor] at h5
  exact h5.symm
theorem zeroN_lt : ∀ (n : Nat) {s : Nat}, s < 4294967296 → zeroN n s < 4294967296
  | 0, _, h => h
  | n + 1, _, h => zeroN_lt n (zN_lt h)
theorem zeroN_inj : ∀ (n : Nat) {a b : Nat}, a < 4294967296 → b < 4294967296 → zeroN n a = zeroN n b → a = b
  | 0, _, _, _, _, h => h
  | n + 1, _, _, ha, hb, h => zN_inj ha hb (zeroN_inj n (zN_lt ha) (zN_lt hb) h)
theorem search (h : Nat) (x : Int × Int) : ∀ (l : List Nat), (∀ i ∈ l, i < 256) → (∃ i ∈ l, elN i / 2 ^ 24 = h) →
    ∃ i, foldC (fun (i : Nat) (_ : Unit) k => (getI tbl (i : Int)).bind fun y => bif (IntKind.u8.wrap (y.fdiv (2 ^ 24)) == (h : Int)) then some (i : Int) else k ()) (fun _ => some 0) l () = some ((i : Nat) : Int) ∧ i < 256 ∧ elN i / 2 ^ 24 = h
  | [], _, ⟨_, h, _⟩ => by simp at h
  | j :: l, hl, he => by
    have hj := hl j (by simp)
    have hw : IntKind.u8.wrap (((elN j : Nat) : Int).fdiv (2 ^ 24)) = ((elN j / 2 ^ 24 : Nat) : Int) := by
      rw [ediv, IntKind.wrap_u8]
      have := el_lt hj
      omega
    simp only [foldC, getI_tbl hj, Option.bind_some, hw]
    by_cases e : elN j / 2 ^ 24 = h
    · refine ⟨j, ?_, hj, e⟩
      rw [e]
      simp
    · have e' : (((elN j / 2 ^ 24 : Nat) : Int) == (h : Int)) = false := beq_eq_false_iff_ne.2 (by exact_mod_cast e)
      rw [e']
      simp only [cond_false]
      exact search h x l (fun i hi => hl i (by simp [hi])) (by
        obtain ⟨i, hi, hh⟩ := he
        rcases List.mem_cons.1 hi with rfl | hi
        · exact (e hh).elim
        · exact ⟨i, hi, hh⟩)
theorem inv_at {h : Nat} (hh : h < 256) : ∃ i ∈ List.range 256, elN i / 2 ^ 24 = h := by
  have hc : ((List.range 256).all fun h => Nat.blt (invL.getD h 0) 256 && Nat.beq (elN (invL.getD h 0) / 2 ^ 24) h) = true := by kernel_rfl
  have := List.all_eq_true.1 hc h (by simpa using hh)
  simp only [Bool.and_eq_true] at this
  refine ⟨invL.getD h 0, ?_, Nat.eq_of_beq_eq_true this.2⟩
  have h1 := this.1
  rw [List.mem_range]
  exact Nat.le_of_ble_eq_true h1
theorem back1_nat {x : Nat} (hx : x < 4294967296) : ∃ b, back1 tbl (x : Int) = some ((b : Nat) : Int) ∧ b < 4294967296 ∧ zN b = x := by
  have hh : x / 2 ^ 24 < 256 := by omega
  obtain ⟨i, h1, hi, he⟩ := search (x / 2 ^ 24) (0, 0) (List.range 256) (by simp) (inv_at hh)
  have hq : (x ^^^ elN i) / 2 ^ 24 = 0 := by rw [xor_div, he, Nat.xor_self]
  have hw : IntKind.u8.wrap ((x : Int).fdiv (2 ^ 24)) = ((x / 2 ^ 24 : Nat) : Int) := by
    rw [ediv, IntKind.wrap_u8]
    omega
  have h34 : c34 (tbl, ((x / 2 ^ 24 : Nat) : Int)) = some (i : Int) := h1
  have hb1 : bits .xor .u32 (x : Int) ((elN i : Nat) : Int) = ((x ^^^ elN i : Nat) : Int) := bits_xor rfl hx (el_lt hi)
  have hw2 : IntKind.u32.wrap (((x ^^^ elN i : Nat) : Int) * 2 ^ 8) = (((x ^^^ elN i) * 256 : Nat) : Int) := by
    rw [IntKind.wrap_u32]
    omega
  have hw3 : IntKind.u32.wrap ((i : Nat) : Int) = (i : Int) := by rw [IntKind.wrap_u32]; omega
  have hor : bits .or .u32 (((x ^^^ elN i) * 256 : Nat) : Int) (i : Int) = (((x ^^^ elN i) * 256 ||| i : Nat) : Int) :=
    (bits_nat .u32 32 (Nat.le_refl _) (fun n h h' => by rw [IntKind.wrap_u32]; omega) _ _ (by omega) (by omega)).2
  have hor2 : (x ^^^ elN i) * 256 ||| i = 256 * (x ^^^ elN i) + i := by
    rw [Nat.mul_comm]
    exact (Nat.two_pow_add_eq_or_of_lt (i := 8) hi (x ^^^ elN i)).symm
  refine ⟨256 * (x ^^^ elN i) + i, ?_, by omega, ?_⟩
  · simp only [back1, hw, h34, Option.bind_some, getI_tbl hi, hb1, hw2, hw3, hor, hor2]
  · have h2 : (256 * (x ^^^ elN i) + i) / 256 = x ^^^ elN i := by omega
    have h3 : (256 * (x ^^^ elN i) + i) % 256 = i := by omega
    simp only [zN, h2, h3, xx]
theorem c28_nat {x : Nat} (hx : x < 4294967296) : ∃ b, c28 (tbl, (x : Int)) = some ((b : Nat) : Int) ∧ b < 4294967296 ∧ zeroN 4 b = x := by
  obtain ⟨a, a1, a2, a3⟩ := back1_nat hx
  obtain ⟨b, b1, b2, b3⟩ := back1_nat a2
  obtain ⟨c, c1, c2, c3⟩ := back1_nat b2
  obtain ⟨d, d1, d2, d3⟩ := back1_nat c2
  refine ⟨d, ?_, d2, ?_⟩
  · simp only [c28, a1, Option.bind_some, b1, c1, d1]
  · simp only [zeroN, d3, c3, b3, a3]
theorem low (q c : Nat) (hc : c < 256) : c ^^^ (256 * q) = 256 * q + c := by
  have h1 : (c ^^^ (256 * q)) / 256 = q := by
    rw [xor_div8, show c / 256 = 0 by omega, show 256 * q / 256 = q by omega, Nat.zero_xor]
  have h2 : (c ^^^ (256 * q)) % 256 = c := by
    rw [xor_mod8, show c % 256 = c by omega, show 256 * q % 256 = 0 by omega, Nat.xor_zero]
  omega
theorem word_eq : ∀ (c : Int) (r : List Int), 0 ≤ c → c ≤ 255 → wordN (c :: r) = 256 * wordN r + c.toNat
  | c, r, h0, h1 => low _ _ (by omega)
theorem word_lt : ∀ (b : List Int), Bytes b → wordN b < 256 ^ b.length
  | [], _ => by simp [wordN]
  | c :: b, h => by
    obtain ⟨h0, h1⟩ := h c (by simp)
    have ih := word_lt b fun c h' => h c (by simp [h'])
    rw [word_eq c b h0 h1, List.length_cons, Nat.pow_succ]
    omega
theorem word_inj : ∀ (a b : List Int), Bytes a → Bytes b → a.length = b.length → wordN a = wordN b → a = b
  | [], [], _, _, _, _ => rfl
  | [], _ :: _, _, _, h, _ => by simp at h
  | _ :: _, [], _, _, h, _ => by simp at h
  | c :: a, d :: b, ha, hb, hl, h => by
    obtain ⟨c0, c1⟩ := ha c (by simp)
    obtain ⟨d0, d1⟩ := hb d (by simp)
    rw [word_eq c a c0 c1, word_eq d b d0 d1] at h
    have e1 : c = d := by omega
    have e2 := word_inj a b (fun c h' => ha c (by simp [h'])) (fun c h' => hb c (by simp [h'])) (by simpa using hl) (by omega)
    rw [e1, e2]

theorem patches (x : Int × Int × List Int) (w : WfL [.int .u32, .int .u32, .arr 4 (.int .u8)] x) : c6 x = some true := by
  obtain ⟨a', want', other⟩ := x
  obtain ⟨⟨a0, a1⟩, ⟨b0, b1⟩, hlen, hby⟩ := w
  have m0 : IntKind.u32.min = 0 := by decide
  have m1 : IntKind.u32.max = 4294967295 := by decide
  have n0 : IntKind.u8.min = 0 := by decide
  have n1 : IntKind.u8.max = 255 := by decide
  simp only [m0, m1] at a0 a1 b0 b1
  have hother : Bytes other := fun c hc => by
    have := hby c hc
    simpa only [Wf, n0, n1] using this
  obtain ⟨a, rfl⟩ := Int.eq_ofNat_of_zero_le a0
  obtain ⟨want, rfl⟩ := Int.eq_ofNat_of_zero_le b0
  have ha : a < 4294967296 := by have : ((a : Int)) ≤ 4294967295 := a1; omega
  have hw : want < 4294967296 := by have : ((want : Int)) ≤ 4294967295 := b1; omega
  have c20e : c20 () = some tbl := rfl
  obtain ⟨b, hb, hblt, hbz⟩ := c28_nat (xor_lt32 hw ones_lt)
  have hs := xor_lt32 ha ones_lt
  have hy := xor_lt32 hs hblt
  have hxy : bits .xor .u32 ((a ^^^ 4294967295 : Nat) : Int) (b : Int) = (((a ^^^ 4294967295) ^^^ b : Nat) : Int) := bits_xor rfl hs hblt
  generalize hyy : (a ^^^ 4294967295) ^^^ b = y at *
  have d0 : IntKind.u8.wrap (y : Int) = ((y % 256 : Nat) : Int) := by rw [IntKind.wrap_u8]; omega
  have d1 : IntKind.u8.wrap ((y / 2 ^ 8 : Nat) : Int) = ((y / 2 ^ 8 % 256 : Nat) : Int) := by rw [IntKind.wrap_u8]; omega
  have d2 : IntKind.u8.wrap ((y / 2 ^ 16 : Nat) : Int) = ((y / 2 ^ 16 % 256 : Nat) : Int) := by rw [IntKind.wrap_u8]; omega
  have d3 : IntKind.u8.wrap ((y / 2 ^ 24 : Nat) : Int) = ((y / 2 ^ 24 % 256 : Nat) : Int) := by rw [IntKind.wrap_u8]; omega
  have h15 : c15 (tbl, (a : Int), (want : Int)) = some ([((y % 256 : Nat) : Int), ((y / 2 ^ 8 % 256 : Nat) : Int), ((y / 2 ^ 16 % 256 : Nat) : Int), ((y / 2 ^ 24 % 256 : Nat) : Int)], 0) := by
    simp only [c15, n15, c20e, Option.bind_some, eqD_self, Bool.not_true, cond_false, xor_ones ha, xor_ones hw, hb, hxy, ediv, d0, d1, d2, d3]
  generalize hpp : ([((y % 256 : Nat) : Int), ((y / 2 ^ 8 % 256 : Nat) : Int), ((y / 2 ^ 16 % 256 : Nat) : Int), ((y / 2 ^ 24 % 256 : Nat) : Int)] : List Int) = p at *
  have hp : Bytes p := by
    subst hpp
    intro c hc
    simp only [List.mem_cons, List.not_mem_nil, or_false] at hc
    rcases hc with rfl | rfl | rfl | rfl <;> omega
  have hpl : p.length = 4 := by subst hpp; rfl
  have hpw : wordN p = y := by
    subst hpp
    rw [word_eq _ _ (by omega) (by omega), word_eq _ _ (by omega) (by omega), word_eq _ _ (by omega) (by omega), word_eq _ _ (by omega) (by omega)]
    simp only [wordN, Int.toNat_natCast]
    omega
  have hsy : (a ^^^ 4294967295) ^^^ y = b := by rw [← hyy, ← Nat.xor_assoc, Nat.xor_self, Nat.zero_xor]
  have e3 : stepsN p (a ^^^ 4294967295) ^^^ 4294967295 = want := by
    rw [steps_word p _ hp, hpl, hpw, hsy, hbz, xx]
  have h3 := c11_nat hp (by omega) ha
  rw [e3] at h3
  have h4 := c11_nat hother (by have : other.length = 4 := hlen; omega) ha
  have e4 : ((((stepsN other (a ^^^ 4294967295) ^^^ 4294967295 : Nat) : Int)) == (want : Int)) = eqD (.arr 4 (.int .u8)) other p := by
    by_cases h : other = p
    · subst h
      rw [e3, eqD_self]
      simp
    · have h1 : eqD (.arr 4 (.int .u8)) other p = false := by
        unfold eqD
        exact @decide_eq_false _ (decD (.arr 4 (.int .u8)) other p) h
      rw [h1]
      refine beq_eq_false_iff_ne.2 fun e => h ?_
      have e' : stepsN other (a ^^^ 4294967295) ^^^ 4294967295 = want := by exact_mod_cast e
      have e5 : stepsN other (a ^^^ 4294967295) = stepsN p (a ^^^ 4294967295) := by
        rw [← xx (stepsN other (a ^^^ 4294967295)) 4294967295, ← xx (stepsN p (a ^^^ 4294967295)) 4294967295, e', e3]
      have hol : other.length = 4 := hlen
      rw [steps_word other _ hother, steps_word p _ hp, hol, hpl] at e5
      have lo := word_lt other hother
      have lp := word_lt p hp
      rw [hol] at lo
      rw [hpl] at lp
      have e6 := zeroN_inj 4 (xor_lt32 hs (by omega)) (xor_lt32 hs (by omega)) e5
      have e7 : wordN other = wordN p := by
        rw [← Nat.zero_xor (wordN other), ← Nat.xor_self (a ^^^ 4294967295), Nat.xor_assoc, e6, ← Nat.xor_assoc, Nat.xor_self, Nat.zero_xor]
      exact word_inj other p hother hp (by omega) e7
  have z0 : ((0 : Int) == 0) = true := rfl
  simp only [c6, n6, c20e, Option.bind_some, h15, h3, h4, z0, cond_true, beq_self_eq_true, e4, alive_true]

/-! ### the law CrcPatches -/
namespace crcPatches
open Go.ChangeShapes Go.WideShapes Go.ChangeAt Go.RowKit
theorem own : ownKnob Try.prog.godebug = none := by kernel_rfl
theorem laidOut : laidOutB Try.prog = true := by kernel_rfl

set_option maxRecDepth 100000 in
theorem lifted (os : Os) (started : os.Started) (H : Type) (enc : TypeId × Value → H) :
    ReturnsInHanded {} Try.checked os 6 .any (Rows.crcPatchesSpec.pre6 enc Try.prog Try.f6 Rows.crcPatchesRow.domain false) (Rows.crcPatchesSpec.post enc Try.prog Try.f6 false true false false) := by
  refine returnsInHanded_of_change (C := Try.checked) own started (by kernel_rfl) Try.func6
    (ChangeSpec.witness6 (enc := enc) (C := Try.checked) false ⟨#[], #[.int .u32 0, .int .u32 0, .agg #[.int .u8 0, .int .u8 0, .int .u8 0, .int .u8 0]], []⟩ 8 (by kernel_rfl) (by kernel_rfl) (by kernel_rfl) (by kernel_rfl)) ?_
  intro W base args ds gs before hval0 hW hcnd _
  have hval : ∀ (j : Nat) t v, Try.f6.params[j]? = some t → args[j]? = some v → Value.okWide Try.prog W .any base t v := hval0
  have hW' := hW
  obtain ⟨p, q, hA0, hV, rfl, hfz, hnd⟩ := hW
  have hA : DataW.TrodAll enc Try.prog W 0 (fun _ => true) true Try.f6.params.toList args.toList ds p := hA0
  have hlt : ∀ x ∈ p, x.block < W.heap.size := hA.lt
  have hlen : ds.length = 3 := trodAll_length hA
  obtain ⟨rfl, rfl⟩ := trodVars_none hV
  refine (law_run (fn := F6) (E := E6) tabOk L6 (fun x w => by
    have h : c6 x = some true := patches x w
    show Option.map _ (c6 x) = _
    rw [h]
    rfl) (ts := Try.f6.params.toList) (by kernel_rfl) (by kernel_rfl) (fun j t v h h' => hval j t v (by simpa using h) h') hA).mono fun e W' ⟨he, bel⟩ => ?_
  subst he
  have hB := trodAll_below laidOut bel (by kernel_rfl) hA hlt
  match ds, hlen with
  | [d0, d1, d2], _ => exact ⟨_, rfl, _, _, _, [], _, [], hW', trodAll_mk1 (shut_bool Try.underlying4 _), hB, rfl, bel.frame _, fun h => by cases h⟩

theorem over : Rows.crcPatchesRow.holds Try.pinned (OpenSpec.ofChange Rows.crcPatchesSpec) :=
  OpenClaim.holds_of_wide 6 Try.f6 rfl rfl rfl rfl rfl rfl rfl ⟨rfl, rfl, rfl, rfl, rfl⟩ rfl rfl rfl rfl rfl (by kernel_rfl) Try.func6 (by kernel_rfl)
    (of_decide_eq_true (by kernel_rfl)) (by unfold Func.isWrapper; first | (rw [if_pos (by decide +kernel)]; kernel_rfl) | (rw [if_neg (by decide +kernel)]; exact ⟨rfl, rfl⟩))
    (fun os started H enc _ => lifted os started H enc)

theorem proved : Rows.CrcPatchesSaid := over
end crcPatches
#print axioms crcPatches.proved
end Go.Proofs.Ytgehhkiighphhaa
