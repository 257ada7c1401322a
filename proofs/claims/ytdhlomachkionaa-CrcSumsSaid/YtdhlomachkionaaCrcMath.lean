/- Checksums as plain numbers: each step is linear, and four bytes that stand side by side are told from the sum. -/
import Derived.Test.YtdhlomachkionaaBase
import Derived.KernelRfl
set_option linter.unusedVariables false
set_option maxRecDepth 100000
namespace Go.Lift

def turnN (x : Nat) : Nat := if x % 2 = 1 then (x / 2) ^^^ 3988292384 else x / 2
def elN (x : Nat) : Nat := turnN (turnN (turnN (turnN (turnN (turnN (turnN (turnN x)))))))
theorem xor_div (a b k : Nat) : (a ^^^ b) / 2 ^ k = (a / 2 ^ k) ^^^ (b / 2 ^ k) := by
  simp only [← Nat.shiftRight_eq_div_pow, Nat.shiftRight_xor_distrib]
theorem xor_mid (a b p q : Nat) : (a ^^^ p) ^^^ (b ^^^ q) = (a ^^^ b) ^^^ (p ^^^ q) := by
  rw [Nat.xor_assoc, Nat.xor_assoc, ← Nat.xor_assoc p, Nat.xor_comm p b, Nat.xor_assoc]
theorem turnN_xor (a b : Nat) : turnN (a ^^^ b) = turnN a ^^^ turnN b := by
  have h := xor_div a b 1
  have hm : (a ^^^ b) % 2 = (a % 2) ^^^ (b % 2) := Nat.xor_mod_two_pow (n := 1)
  simp only [Nat.pow_one] at h
  unfold turnN
  rw [h, hm]
  rcases Nat.mod_two_eq_zero_or_one a with ha | ha <;> rcases Nat.mod_two_eq_zero_or_one b with hb | hb <;> rw [ha, hb]
  · simp
  · simp [Nat.xor_assoc]
  · simp; rw [Nat.xor_assoc, Nat.xor_comm (b / 2), ← Nat.xor_assoc]
  · simp; rw [xor_mid, Nat.xor_self, Nat.xor_zero]
theorem elN_xor (a b : Nat) : elN (a ^^^ b) = elN a ^^^ elN b := by simp only [elN, turnN_xor]
/-- the table -/
def tbl : List Int := (List.range 256).map fun i => ((elN i : Nat) : Int)
theorem tbl_at {a : Nat} (h : a < 256) : nth tbl a = some ((elN a : Nat) : Int) := by
  show tbl[a]? = _
  simp [tbl, h]
theorem tbl_len : tbl.length = 256 := by simp [tbl]
theorem el_lt {a : Nat} (h : a < 256) : elN a < 4294967296 := by
  have hc : ((List.range 256).all fun i => decide (elN i < 4294967296)) = true := by kernel_rfl
  have := List.all_eq_true.1 hc a (by simpa using h)
  simpa using this
theorem el_hi {a : Nat} (h : a < 256) (h0 : elN a / 2 ^ 24 = 0) : a = 0 := by
  have hc : ((List.range 256).all fun i => !(Nat.beq (elN i / 2 ^ 24) 0) || Nat.beq i 0) = true := by kernel_rfl
  have := List.all_eq_true.1 hc a (by simpa using h)
  rw [h0] at this
  simpa using this
theorem xor_lt {a b : Nat} (ha : a < 256) (hb : b < 256) : a ^^^ b < 256 := Nat.xor_lt_two_pow (n := 8) ha hb
theorem hi_inj {a b : Nat} (ha : a < 256) (hb : b < 256) (h : elN a / 2 ^ 24 = elN b / 2 ^ 24) : a = b := by
  have h1 := el_hi (xor_lt ha hb) (by rw [elN_xor, xor_div, h, Nat.xor_self])
  rw [← Nat.xor_zero a, ← Nat.xor_self b, ← Nat.xor_assoc, h1, Nat.zero_xor]
theorem xor_lt32 {a b : Nat} (ha : a < 4294967296) (hb : b < 4294967296) : a ^^^ b < 4294967296 := Nat.xor_lt_two_pow (n := 32) ha hb
def stN (s c : Nat) : Nat := (s / 256) ^^^ elN ((s % 256) ^^^ c)
def stepsN (b : List Int) (s : Nat) : Nat := b.foldl (fun s c => stN s c.toNat) s
theorem stN_lt {s c : Nat} (hs : s < 4294967296) (hc : c < 256) : stN s c < 4294967296 :=
  xor_lt32 (Nat.lt_of_le_of_lt (Nat.div_le_self _ _) hs) (el_lt (xor_lt (Nat.mod_lt _ (by decide)) hc))
theorem getI_tbl {a : Nat} (h : a < 256) : getI tbl (a : Int) = some ((elN a : Nat) : Int) := by
  rw [getI_nat]; exact tbl_at h
theorem ones_lt : (4294967295 : Nat) < 4294967296 := by decide
theorem xor_ones {s : Nat} (hs : s < 4294967296) : bits .xor .u32 (s : Int) (4294967295 : Int) = ((s ^^^ 4294967295 : Nat) : Int) := bits_xor (b := 4294967295) rfl hs ones_lt
theorem stepsN_append (a b : List Int) (s : Nat) : stepsN (a ++ b) s = stepsN b (stepsN a s) := by simp [stepsN]
theorem xx (a b : Nat) : (a ^^^ b) ^^^ b = a := by rw [Nat.xor_assoc, Nat.xor_self, Nat.xor_zero]


def zN (s : Nat) : Nat := (s / 256) ^^^ elN (s % 256)
def zeroN : Nat → Nat → Nat
  | 0, s => s
  | n + 1, s => zeroN n (zN s)
def wordN : List Int → Nat
  | [] => 0
  | c :: r => c.toNat ^^^ (256 * wordN r)
theorem xor_mod8 (a b : Nat) : (a ^^^ b) % 256 = (a % 256) ^^^ (b % 256) := Nat.xor_mod_two_pow (n := 8)
theorem xor_div8 (a b : Nat) : (a ^^^ b) / 256 = (a / 256) ^^^ (b / 256) := xor_div a b 8
theorem elN_zero : elN 0 = 0 := by decide
theorem zN_xor (a b : Nat) : zN (a ^^^ b) = zN a ^^^ zN b := by
  simp only [zN, xor_mod8, xor_div8, elN_xor]
  rw [xor_mid]
theorem zN_up (w : Nat) : zN (256 * w) = w := by
  have h1 : 256 * w / 256 = w := by omega
  have h2 : 256 * w % 256 = 0 := by omega
  simp only [zN, h1, h2, elN_zero, Nat.xor_zero]
theorem stN_z {s c : Nat} (hc : c < 256) : stN s c = zN (s ^^^ c) := by
  have h1 : c / 256 = 0 := by omega
  have h2 : c % 256 = c := by omega
  simp only [stN, zN, xor_mod8, xor_div8, h1, h2, Nat.xor_zero]
theorem zN_lt {s : Nat} (h : s < 4294967296) : zN s < 4294967296 := by
  have := stN_lt (c := 0) h (by decide)
  rwa [stN_z (by decide), Nat.xor_zero] at this
theorem steps_word : ∀ (b : List Int) (s : Nat), Bytes b → stepsN b s = zeroN b.length (s ^^^ wordN b)
  | [], s, _ => by simp [stepsN, wordN, zeroN]
  | c :: b, s, h => by
    obtain ⟨h0, h1⟩ := h c (by simp)
    have ih := steps_word b (stN s c.toNat) (fun c h' => h c (by simp [h']))
    have : stepsN (c :: b) s = stepsN b (stN s c.toNat) := rfl
    rw [this, ih, stN_z (by omega)]
    simp only [List.length_cons, zeroN, wordN]
    rw [← Nat.xor_assoc, zN_xor (s ^^^ c.toNat), zN_up]
theorem zN_inj {a b : Nat} (ha : a < 4294967296) (hb : b < 4294967296) (h : zN a = zN b) : a = b := by
  have hx := xor_lt32 ha hb
  have h0 : zN (a ^^^ b) = 0 := by rw [zN_xor, h, Nat.xor_self]
  have h1 : elN ((a ^^^ b) % 256) = (a ^^^ b) / 256 := by
    have h2 : (a ^^^ b) / 256 ^^^ elN ((a ^^^ b) % 256) = 0 := h0
    have h3 := xx ((a ^^^ b) / 256) (elN ((a ^^^ b) % 256))
    rw [h2, Nat.zero_xor] at h3
    exact h3
  have h2 : elN ((a ^^^ b) % 256) / 2 ^ 24 = 0 := by rw [h1]; omega
  have h3 := el_hi (Nat.mod_lt _ (by decide)) h2
  rw [h3, elN_zero] at h1
  have h4 : a ^^^ b = 0 := by omega
  have h5 := xx a b
  rw [h4, Nat.zero_xor] at h5
  exact h5.symm
theorem zeroN_lt : ∀ (n : Nat) {s : Nat}, s < 4294967296 → zeroN n s < 4294967296
  | 0, _, h => h
  | n + 1, _, h => zeroN_lt n (zN_lt h)
theorem zeroN_inj : ∀ (n : Nat) {a b : Nat}, a < 4294967296 → b < 4294967296 → zeroN n a = zeroN n b → a = b
  | 0, _, _, _, _, h => h
  | n + 1, _, _, ha, hb, h => zN_inj ha hb (zeroN_inj n (zN_lt ha) (zN_lt hb) h)
theorem low (q c : Nat) (hc : c < 256) : c ^^^ (256 * q) = 256 * q + c := by
  have h1 : (c ^^^ (256 * q)) / 256 = q := by
    rw [xor_div8, show c / 256 = 0 by omega, show 256 * q / 256 = q by omega, Nat.zero_xor]
  have h2 : (c ^^^ (256 * q)) % 256 = c := by
    rw [xor_mod8, show c % 256 = c by omega, show 256 * q % 256 = 0 by omega, Nat.xor_zero]
  omega
theorem word_eq : ∀ (c : Int) (r : List Int), 0 ≤ c → c ≤ 255 → wordN (c :: r) = 256 * wordN r + c.toNat
  | c, r, h0, h1 => low _ _ (by omega)
theorem word_lt : ∀ (b : List Int), Bytes b → wordN b < 256 ^ b.length
  | [], _ => by simp [wordN]
  | c :: b, h => by
    obtain ⟨h0, h1⟩ := h c (by simp)
    have ih := word_lt b fun c h' => h c (by simp [h'])
    rw [word_eq c b h0 h1, List.length_cons, Nat.pow_succ]
    omega
theorem word_inj : ∀ (a b : List Int), Bytes a → Bytes b → a.length = b.length → wordN a = wordN b → a = b
  | [], [], _, _, _, _ => rfl
  | [], _ :: _, _, _, h, _ => by simp at h
  | _ :: _, [], _, _, h, _ => by simp at h
  | c :: a, d :: b, ha, hb, hl, h => by
    obtain ⟨c0, c1⟩ := ha c (by simp)
    obtain ⟨d0, d1⟩ := hb d (by simp)
    rw [word_eq c a c0 c1, word_eq d b d0 d1] at h
    have e1 : c = d := by omega
    have e2 := word_inj a b (fun c h' => ha c (by simp [h'])) (fun c h' => hb c (by simp [h'])) (by simpa using hl) (by omega)
    rw [e1, e2]


theorem stN_inj {s s' c : Nat} (hs : s < 4294967296) (hs' : s' < 4294967296) (hc : c < 256) (h : stN s c = stN s' c) : s = s' := by
  rw [stN_z hc, stN_z hc] at h
  have h1 := zN_inj (xor_lt32 hs (by omega)) (xor_lt32 hs' (by omega)) h
  rw [← xx s c, h1, xx]
theorem stepsN_lt : ∀ (b : List Int) {s : Nat}, Bytes b → s < 4294967296 → stepsN b s < 4294967296
  | [], _, _, hs => hs
  | c :: b, s, hb, hs => by
    have hc := hb c (by simp)
    exact stepsN_lt b (fun d hd => hb d (by simp [hd])) (stN_lt hs (by omega))
theorem stepsN_inj : ∀ (b : List Int) {s s' : Nat}, Bytes b → s < 4294967296 → s' < 4294967296 → stepsN b s = stepsN b s' → s = s'
  | [], _, _, _, _, _, h => h
  | c :: b, s, s', hb, hs, hs', h => by
    have hc := hb c (by simp)
    have hc' : c.toNat < 256 := by omega
    exact stN_inj hs hs' hc' (stepsN_inj b (fun d hd => hb d (by simp [hd])) (stN_lt hs hc') (stN_lt hs' hc') h)
/-- strings that differ in at most four bytes side by side have different sums -/
theorem steps_four {p m m' q : List Int} {s : Nat} (hp : Bytes p) (hm : Bytes m) (hm' : Bytes m') (hq : Bytes q) (hl : m.length = m'.length) (h4 : m.length ≤ 4) (hs : s < 4294967296) (h : stepsN (p ++ (m ++ q)) s = stepsN (p ++ (m' ++ q)) s) : m = m' := by
  simp only [stepsN_append] at h
  have hs1 := stepsN_lt p hp hs
  have h1 := stepsN_inj q hq (stepsN_lt m hm hs1) (stepsN_lt m' hm' hs1) h
  rw [steps_word m _ hm, steps_word m' _ hm', hl] at h1
  have w1 := word_lt m hm
  have w2 := word_lt m' hm'
  have hp4 : 256 ^ m.length ≤ 256 ^ 4 := Nat.pow_le_pow_right (by decide) h4
  have e4 : (256 : Nat) ^ 4 = 4294967296 := by decide
  rw [← hl] at w2
  have h2 := zeroN_inj m'.length (xor_lt32 hs1 (show wordN m < 4294967296 by omega)) (xor_lt32 hs1 (show wordN m' < 4294967296 by omega)) h1
  have h3 : wordN m = wordN m' := by
    have e1 := xx (wordN m) (stepsN p s)
    rw [Nat.xor_comm (wordN m), h2, Nat.xor_comm (stepsN p s), xx] at e1
    exact e1.symm
  exact word_inj m m' hm hm' hl h3
end Go.Lift
