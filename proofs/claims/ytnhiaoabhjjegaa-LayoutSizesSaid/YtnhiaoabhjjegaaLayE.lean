/- What package layout and layer 5's reference compute: sizes, alignments, offsets, cells, padding. -/
import Derived.Test.YtnhiaoabhjjegaaKindQ
import Derived.Test.YtnhiaoabhjjegaaLayR
set_option linter.unusedVariables false
set_option linter.unusedSimpArgs false
set_option maxRecDepth 100000
namespace Go.Proofs.Ytnhiaoabhjjegaa
open Go.Lift

abbrev Ext := Int × (Int × Unit)

/-! ### multiples -/
def Al (a : Int) : Prop := a = 1 ∨ a = 8
def upS (n a : Int) : Int := if a = 1 then n else (n + 7) / 8 * 8
theorem upS_ge {n a : Int} (h : Al a) : n ≤ upS n a ∧ upS n a ≤ n + 7 ∧ a ∣ upS n a := by
  unfold upS
  rcases h with rfl | rfl
  · rw [if_pos rfl]; exact ⟨by omega, by omega, Int.one_dvd n⟩
  · rw [if_neg (by decide)]; exact ⟨by omega, by omega, Int.dvd_mul_left _ _⟩
theorem upS_self {n a : Int} (h : Al a) (hd : a ∣ n) : upS n a = n := by
  unfold upS
  rcases h with rfl | rfl
  · rw [if_pos rfl]
  · rw [if_neg (by decide)]; omega

theorem up_form {n a : Int} (ha : Al a) (h0 : 0 ≤ n) (h1 : n ≤ 1000000000000) : (bif (a == 0) then none else some (IntKind.i64.wrap (IntKind.i64.wrap ((IntKind.i64.wrap (IntKind.i64.wrap (n + a) - 1)).tdiv a) * a))) = some (upS n a) := by
  unfold upS
  rcases ha with rfl | rfl
  · rw [show ((1 : Int) == 0) = false from rfl, cond_false, if_pos rfl, wrap_i64 (n := n + 1) (by omega) (by omega), wrap_i64 (n := n + 1 - 1) (by omega) (by omega), Int.tdiv_one, wrap_i64 (n := n + 1 - 1) (by omega) (by omega), Int.mul_one, wrap_i64 (n := n + 1 - 1) (by omega) (by omega)]
    congr 1
    omega
  · rw [show ((8 : Int) == 0) = false from rfl, cond_false, if_neg (by decide), wrap_i64 (n := n + 8) (by omega) (by omega), wrap_i64 (n := n + 8 - 1) (by omega) (by omega), Int.tdiv_eq_ediv_of_nonneg (by omega), wrap_i64 (n := (n + 8 - 1) / 8) (by omega) (by omega), wrap_i64 (n := (n + 8 - 1) / 8 * 8) (by omega) (by omega)]
    congr 1
    omega
theorem multiple_eq {n a : Int} (ha : Al a) (h0 : 0 ≤ n) (h1 : n ≤ 1000000000000) : clayout_multiple (n, a) = some (upS n a) := by
  show nlayout_multiple (n, a) = _
  unfold nlayout_multiple
  exact up_form ha h0 h1
theorem rup_eq {n a : Int} (ha : Al a) (h0 : 0 ≤ n) (h1 : n ≤ 1000000000000) : cref05_up (n, a) = some (upS n a) := by
  show nref05_up (n, a) = _
  unfold nref05_up
  exact up_form ha h0 h1

/-! ### fields together -/
def ext (all : List Ext) (i : Int) : Ext := all.getD i.toNat (1, (1, ()))
abbrev sz (all : List Ext) (i : Int) : Int := (ext all i).1
abbrev al (all : List Ext) (i : Int) : Int := (ext all i).2.1
theorem getI_ext {a : List Ext} {e : Int} (h0 : 0 ≤ e) (h : e < (a.length : Int)) : getI a e = some (ext a e) := by
  obtain ⟨k, rfl⟩ := Int.eq_ofNat_of_zero_le h0
  have hk : k < a.length := by omega
  rw [getI_at hk]
  simp [hk, ext]
theorem nth_ext {a : List Ext} {e : Int} (h0 : 0 ≤ e) (h : e < (a.length : Int)) : nth a (Int.toNat e) = some (ext a e) := by
  obtain ⟨k, rfl⟩ := Int.eq_ofNat_of_zero_le h0
  have hk : k < a.length := by omega
  show a[k]? = _
  simp [hk, ext]
theorem ext_app {a b : List Ext} {e : Int} (h0 : 0 ≤ e) (h : e < (a.length : Int)) : ext (a ++ b) e = ext a e := by
  unfold ext
  rw [List.getD_eq_getElem?_getD, List.getD_eq_getElem?_getD, List.getElem?_append_left (by omega)]

def togStep (all : List Ext) (s : List Int × (Int × Int)) (f : Fld) : List Int × (Int × Int) := (s.1 ++ [upS s.2.1 (al all f.2.1)], (upS s.2.1 (al all f.2.1) + sz all f.2.1, max s.2.2 (al all f.2.1)))
def togS (all : List Ext) (fs : List Fld) : List Int × (Int × Int) := fs.foldl (togStep all) ([], (0, 1))
theorem togS_snoc (all : List Ext) (fs : List Fld) (f : Fld) : togS all (fs ++ [f]) = togStep all (togS all fs) f := by simp [togS]
theorem togS_take (all : List Ext) {fs : List Fld} {k : Nat} (h : k < fs.length) : togS all (fs.take (k + 1)) = togStep all (togS all (fs.take k)) fs[k] := by rw [List.take_succ_eq_append_getElem h, togS_snoc]
theorem togS_congr {a b : List Ext} : ∀ (fs : List Fld), (∀ f ∈ fs, ext a f.2.1 = ext b f.2.1) → togS a fs = togS b fs := by
  intro fs h
  unfold togS
  generalize (([], (0, 1)) : List Int × (Int × Int)) = s
  induction fs generalizing s with
  | nil => rfl
  | cons f r ih =>
    rw [List.foldl_cons, List.foldl_cons]
    have : togStep a s f = togStep b s f := by unfold togStep al sz; rw [h f (by simp)]
    rw [this]
    exact ih (fun g hg => h g (by simp [hg])) _
theorem togS_len (all : List Ext) (fs : List Fld) : (togS all fs).1.length = fs.length := by
  have : ∀ (fs : List Fld) (s : List Int × (Int × Int)), (fs.foldl (togStep all) s).1.length = s.1.length + fs.length := by
    intro fs
    induction fs with
    | nil => intro s; rfl
    | cons f r ih => intro s; rw [List.foldl_cons, ih]; simp [togStep]; omega
  unfold togS
  rw [this]
  simp

/-- fields whose sizes are known to be at most something -/
def Fits (all : List Ext) (g : Int → Int) (fs : List Fld) : Prop := ∀ f ∈ fs, 1 ≤ sz all f.2.1 ∧ sz all f.2.1 + 7 ≤ g f.2.1 ∧ Al (al all f.2.1)
def sumG (g : Int → Int) (fs : List Fld) : Int := (fs.map fun f => g f.2.1).sum
theorem sumG_snoc (g : Int → Int) (fs : List Fld) (f : Fld) : sumG g (fs ++ [f]) = sumG g fs + g f.2.1 := by simp [sumG]
theorem togS_bound {all : List Ext} {g : Int → Int} {fs : List Fld} (h : Fits all g fs) : ∀ k, k ≤ fs.length → 0 ≤ (togS all (fs.take k)).2.1 ∧ (togS all (fs.take k)).2.1 ≤ sumG g (fs.take k) ∧ Al (togS all (fs.take k)).2.2 ∧ (0 < k → 1 ≤ (togS all (fs.take k)).2.1)
  | 0, _ => by simp [togS, sumG, Al]
  | k + 1, hk => by
    have ih := togS_bound h k (by omega)
    have hf := h _ (List.getElem_mem (show k < fs.length by omega))
    rw [togS_take all (by omega), List.take_succ_eq_append_getElem (by omega), sumG_snoc]
    have hu := upS_ge (n := (togS all (fs.take k)).2.1) hf.2.2
    unfold togStep
    dsimp only
    refine ⟨by omega, by omega, ?_, by omega⟩
    have h1 := ih.2.2.1
    have h2 := hf.2.2
    unfold Al at h1 h2 ⊢
    omega
theorem sumG_take {g : Int → Int} : ∀ (fs : List Fld) (k : Nat), (∀ f ∈ fs, 0 ≤ g f.2.1) → sumG g (fs.take k) ≤ sumG g fs
  | [], k, _ => by simp [sumG]
  | f :: r, 0, h => by
    have h1 := sumG_take r 0 fun x hx => h x (by simp [hx])
    have h2 := h f (by simp)
    simp only [sumG, List.take_zero, List.map_nil, List.sum_nil, List.map_cons, List.sum_cons] at h1 ⊢
    omega
  | f :: r, k + 1, h => by
    have h1 := sumG_take r k fun x hx => h x (by simp [hx])
    simp only [sumG, List.take_succ_cons, List.map_cons, List.sum_cons] at h1 ⊢
    omega
theorem fits_pos {all : List Ext} {g : Int → Int} {fs : List Fld} (h : Fits all g fs) : ∀ f ∈ fs, 0 ≤ g f.2.1 := fun f hf => by have := h f hf; omega
theorem togS_le {all : List Ext} {g : Int → Int} {fs : List Fld} (h : Fits all g fs) (hs : sumG g fs ≤ 900000) {k : Nat} (hk : k ≤ fs.length) : 0 ≤ (togS all (fs.take k)).2.1 ∧ (togS all (fs.take k)).2.1 ≤ 900000 ∧ Al (togS all (fs.take k)).2.2 := by
  have h1 := togS_bound h k hk
  have h2 := sumG_take fs k (fits_pos h)
  exact ⟨h1.1, by omega, h1.2.2.1⟩

theorem together_eq {all : List Ext} {g : Int → Int} {fs : List Fld} (hf : Fits all g fs) (hs : sumG g fs ≤ 900000) (hi : ∀ f ∈ fs, 0 ≤ f.2.1 ∧ f.2.1 < all.length) (hl : fs.length ≤ 1000) :
    clayout_together (all, fs) = some ((togS all fs).1, (upS (togS all fs).2.1 (togS all fs).2.2, ((togS all fs).2.2, ()))) := by
  show nlayout_together _ (iterV (glayout_together_0 _ big) big) (all, fs) = _
  unfold nlayout_together
  dsimp only
  rw [decide_eq_true (by omega), decide_eq_true (by omega), decide_eq_true (by omega)]
  simp only [Bool.and_true, cond_true, Int.toNat_natCast]
  refine range_post (g := glayout_together_0 (fun _ => List.replicate) big) (n := fs.length) (fun (s : List Int × (Int × Int)) (i : Nat) => (all, fs, (fs.length : Int), (i : Int), ((0 : Int), ((0 : Int), ())), s.1, (s.2.1, (s.2.2, ())))) (fun i s => s = ((togS all (fs.take i)).1 ++ List.replicate (fs.length - i) 0, (togS all (fs.take i)).2)) (fun r => r = some ((togS all fs).1, (upS (togS all fs).2.1 (togS all fs).2.2, ((togS all fs).2.2, ())))) ?_ ?_
    fs.length 0 big (by simp) (by unfold big; omega) (List.replicate fs.length 0, (0, 1)) (by simp [togS])
  · rintro self s rfl
    have hb := togS_le hf hs (Nat.le_refl _)
    rw [List.take_length] at hb ⊢
    show hlayout_together_0 _ self _ = _
    unfold hlayout_together_0
    dsimp only
    rw [decide_eq_false (by omega), cond_false, multiple_eq hb.2.2 hb.1 (by omega), Option.bind_some]
    simp
  · rintro self s i hlt rfl
    left
    refine ⟨_, rfl, ?_⟩
    have hb := togS_le hf hs (Nat.le_of_lt hlt)
    have hfi := hf _ (List.getElem_mem hlt)
    have hix := hi _ (List.getElem_mem hlt)
    have hu := upS_ge (n := (togS all (fs.take i)).2.1) hfi.2.2
    have hb1 := togS_le hf hs (show i + 1 ≤ fs.length by omega)
    have hlen := togS_len all (fs.take i)
    rw [List.length_take, Nat.min_eq_left (by omega)] at hlen
    rw [togS_take all hlt] at hb1 ⊢
    unfold togStep at hb1 ⊢
    dsimp only at hb1 ⊢
    generalize togS all (fs.take i) = T at *
    have hset : ∀ v : Int, (T.1 ++ List.replicate (fs.length - i) 0).set i v = T.1 ++ [v] ++ List.replicate (fs.length - (i + 1)) 0 := by
      intro v
      rw [show fs.length - i = (fs.length - (i + 1)) + 1 by omega, List.replicate_succ, List.set_append_right _ _ (by omega), hlen, Nat.sub_self, List.set_cons_zero, List.append_assoc]
      rfl
    have hsl : (T.1 ++ List.replicate (fs.length - i) (0 : Int)).length = fs.length := by simp [hlen]; omega
    have hsl2 : ∀ v : Int, (T.1 ++ [v] ++ List.replicate (fs.length - (i + 1)) (0 : Int)).length = fs.length := by intro v; simp [hlen]; omega
    have hnth : ∀ v : Int, nth (T.1 ++ [v] ++ List.replicate (fs.length - (i + 1)) (0 : Int)) i = some v := by
      intro v
      show (T.1 ++ [v] ++ List.replicate (fs.length - (i + 1)) (0 : Int))[i]? = some v
      rw [List.append_assoc, List.getElem?_append_right (by omega), hlen, Nat.sub_self]
      rfl
    show hlayout_together_0 _ self _ = _
    unfold hlayout_together_0
    dsimp only
    have d1 : decide ((i : Int) < (fs.length : Int)) = true := decide_eq_true (by omega)
    have d2 : decide (0 ≤ (i : Int)) = true := decide_eq_true (by omega)
    simp only [d1, d2, cond_true, getI_at hlt, Option.bind_some, getI_ext hix.1 hix.2, multiple_eq hfi.2.2 hb.1 (by omega), hsl, Int.toNat_natCast, hset, hsl2, Bool.and_self, hnth]
    rw [wrap_succ hlt (by have := maxLen_ge; omega), wrap_i64 (n := upS T.2.1 (al all fs[i].2.1) + sz all fs[i].2.1) (by omega) (by omega), max_if]

/-! ### all sizes of a table -/
def extOne (acc : List Ext) (t : Typ) : Ext :=
  if t.1 = 2 ∨ t.1 = 4 then (8, (8, ()))
  else if t.1 = 3 then (16, (8, ()))
  else if t.1 = 7 then (24, (8, ()))
  else if t.1 = 6 then (t.2.2.1 * sz acc t.2.1, (al acc t.2.1, ()))
  else if t.1 = 5 then (upS (togS acc t.2.2.2.1).2.1 (togS acc t.2.2.2.1).2.2, ((togS acc t.2.2.2.1).2.2, ()))
  else (1, (1, ()))
def exGo : List Typ → List Ext → List Ext
  | [], acc => acc
  | t :: r, acc => exGo r (acc ++ [extOne acc t])
theorem exGo_snoc : ∀ (l : List Typ) (t : Typ) (acc : List Ext), exGo (l ++ [t]) acc = exGo l acc ++ [extOne (exGo l acc) t]
  | [], t, acc => rfl
  | u :: r, t, acc => exGo_snoc r t _
theorem exGo_len : ∀ (l : List Typ) (acc : List Ext), (exGo l acc).length = acc.length + l.length
  | [], acc => rfl
  | u :: r, acc => by rw [exGo, exGo_len]; simp; omega
theorem exGo_append : ∀ (a b : List Typ) (acc : List Ext), exGo (a ++ b) acc = exGo b (exGo a acc)
  | [], _, _ => rfl
  | t :: r, b, acc => exGo_append r b _
theorem exGo_pre : ∀ (b : List Typ) (acc : List Ext), ∃ s, exGo b acc = acc ++ s
  | [], acc => ⟨[], by simp [exGo]⟩
  | t :: r, acc => by
    obtain ⟨s, h⟩ := exGo_pre r (acc ++ [extOne acc t])
    exact ⟨[extOne acc t] ++ s, by rw [exGo, h, List.append_assoc]⟩
def exS (l : List Typ) : List Ext := exGo l []
theorem exS_len (l : List Typ) : (exS l).length = l.length := by unfold exS; rw [exGo_len]; simp
theorem exT_len {l : List Typ} {i : Nat} (hi : i ≤ l.length) : (exGo (l.take i) []).length = i := by rw [exGo_len]; simp; omega
theorem exS_pre (l : List Typ) (i : Nat) : ∃ s, exS l = exGo (l.take i) [] ++ s := by
  have : exS l = exGo (l.drop i) (exGo (l.take i) []) := by
    unfold exS
    rw [← exGo_append, List.take_append_drop]
  rw [this]
  exact exGo_pre _ _
theorem ext_take {l : List Typ} {i : Nat} (hi : i ≤ l.length) {p : Int} (h0 : 0 ≤ p) (h1 : p < i) : ext (exGo (l.take i) []) p = ext (exS l) p := by
  obtain ⟨s, hs⟩ := exS_pre l i
  rw [hs, ext_app h0 (by rw [exT_len hi]; exact h1)]
theorem extOne_congr {a b : List Ext} {t : Typ} (h : ∀ p ∈ partsS t, ext a p = ext b p) : extOne a t = extOne b t := by
  unfold extOne
  split
  · rfl
  split
  · rfl
  split
  · rfl
  split
  · rename_i h6
    have e := h t.2.1 (by unfold partsS; rw [if_pos h6]; simp)
    unfold sz al
    rw [e]
  split
  · rename_i h6 h5
    have e : togS a t.2.2.2.1 = togS b t.2.2.2.1 := togS_congr _ fun f hf => h f.2.1 (by unfold partsS; rw [if_neg h6, if_pos h5]; exact List.mem_map.2 ⟨f, hf, rfl⟩)
    rw [e]
  · rfl
theorem ext_at {l : List Typ} (hb : Built l) {i : Int} {t : Typ} (ht : getI l i = some t) : ext (exS l) i = extOne (exS l) t := by
  obtain ⟨h0, h1, hx, rfl⟩ := getI_some ht
  obtain ⟨s, hs⟩ := exS_pre l (i.toNat + 1)
  rw [List.take_succ_eq_append_getElem hx, exGo_snoc] at hs
  have hl := exT_len (l := l) (i := i.toNat) (by omega)
  have e1 : ext (exS l) i = extOne (exGo (l.take i.toNat) []) l[i.toNat] := by
    rw [hs, ext]
    rw [List.append_assoc, List.getD_eq_getElem?_getD, List.getElem?_append_right (by omega), hl, Nat.sub_self]
    rfl
  rw [e1]
  exact extOne_congr fun p hp => by
    have := parts_ix hb hx p hp
    exact ext_take (by omega) this.1 this.2

/-! ### sizes are bounded by widths -/
def wS (l : List Typ) (i : Int) : Int := (wN l 4).getD i.toNat 0
theorem w_at {l : List Typ} (hv : Valid l) {j : Nat} (hj : j < l.length) : wS l j = wOne (wN l 3) (wN l 4) l[j] ∧ wS l j ≤ 5000 := by
  have h := wN_at hv.2.1 3 hj
  have hlen := (wN_ok hv.2.1 4).2
  have hne : wS l j ≠ 5001 := by
    intro e
    apply hv.2.2
    rw [← e]
    unfold wS
    rw [Int.toNat_natCast, List.getD_eq_getElem?_getD, List.getElem?_eq_getElem (by omega)]
    exact List.getElem_mem _
  have e : wS l j = cap (wOne (wN l 3) (wN l 4) l[j]) := by unfold wS; rw [Int.toNat_natCast]; exact h
  rw [e] at hne ⊢
  unfold cap at hne ⊢
  split at hne
  · exact absurd rfl hne
  · rename_i h1
    rw [if_neg h1]
    omega
def Gd (w : Int) (x : Ext) : Prop := 1 ≤ x.1 ∧ x.1 + 7 ≤ 32 * w ∧ Al x.2.1 ∧ x.2.1 ∣ x.1
theorem sumG_mul (l : List Typ) (fs : List Fld) : sumG (fun p => 32 * wS l p) fs = 32 * sumT (wN l 4) fs := by
  induction fs with
  | nil => rfl
  | cons f r ih =>
    simp only [sumG, sumT, List.map_cons, List.sum_cons] at ih ⊢
    rw [ih, Int.mul_add]
    rfl
theorem wS_pos {l : List Typ} (hv : Valid l) {j : Nat} (hj : j < l.length) : 1 ≤ wS l j := by
  rw [(w_at hv hj).1]
  have h3 := (wN_ok hv.2.1 3).1
  have h4 := (wN_ok hv.2.1 4).1
  have hbt := hv.2.1 j hj
  generalize l[j] = t at *
  have h5 := h3.getD t.2.1.toNat
  have h6 := h4.getD t.2.1.toNat
  unfold wOne
  split
  · omega
  split
  · omega
  split
  · rename_i hk
    have h7 := built_arr hbt hk
    have := mul16 h7.2.2.1 h7.2.2.2 h6.1 h6.2
    omega
  split
  · have := sumT_bound h4 t.2.2.2.1
    omega
  · omega

theorem ex_good {l : List Typ} (hv : Valid l) : ∀ i, i ≤ l.length → ∀ j : Nat, j < i → Gd (wS l j) (ext (exGo (l.take i) []) j)
  | 0, _, j, hj => by omega
  | i + 1, hi, j, hj => by
    have ih := ex_good hv i (by omega)
    have hl := exT_len (l := l) (i := i) (by omega)
    rw [List.take_succ_eq_append_getElem (by omega), exGo_snoc]
    by_cases hji : j < i
    · rw [ext_app (by omega) (by omega)]
      exact ih j hji
    · have : j = i := by omega
      subst this
      have e1 : ext (exGo (l.take j) [] ++ [extOne (exGo (l.take j) []) l[j]]) j = extOne (exGo (l.take j) []) l[j] := by
        unfold ext
        rw [Int.toNat_natCast, List.getD_eq_getElem?_getD, List.getElem?_append_right (by omega), hl, Nat.sub_self]
        rfl
      rw [e1]
      have hjl : j < l.length := hi
      have hw := (w_at hv hjl).1
      have hp := wS_pos hv hjl
      have hbt := hv.2.1 j hjl
      have hih : ∀ p : Int, 0 ≤ p → p < j → Gd (wS l p) (ext (exGo (l.take j) []) p) := by
        intro p h0 h1
        have := ih p.toNat (by omega)
        rwa [Int.toNat_of_nonneg h0] at this
      clear e1 ih hl
      generalize exGo (l.take j) [] = acc at *
      generalize l[j] = t at *
      unfold extOne
      split
      · exact ⟨by decide, by show (8 : Int) + 7 ≤ _; omega, .inr rfl, ⟨1, rfl⟩⟩
      rename_i h24
      split
      · exact ⟨by decide, by show (16 : Int) + 7 ≤ _; omega, .inr rfl, ⟨2, rfl⟩⟩
      split
      · exact ⟨by decide, by show (24 : Int) + 7 ≤ _; omega, .inr rfl, ⟨3, rfl⟩⟩
      rename_i h7
      split
      · rename_i h6
        have hx := built_arr hbt h6
        obtain ⟨g1, g2, g3, g4⟩ := hih t.2.1 hx.1 hx.2.1
        unfold wOne at hw
        rw [if_neg (by omega), if_neg h7, if_pos h6] at hw
        have hw : wS l j = 1 + t.2.2.1 * wS l t.2.1 := hw
        have m1 := Int.mul_le_mul_of_nonneg_left g2 (show 0 ≤ t.2.2.1 by omega)
        rw [Int.mul_add, Int.mul_left_comm] at m1
        have m2 := Int.mul_le_mul hx.2.2.1 g1 (by omega) (by omega)
        refine ⟨?_, ?_, g3, Int.dvd_mul_of_dvd_right g4⟩
        · show 1 ≤ t.2.2.1 * (ext acc t.2.1).1
          omega
        · show t.2.2.1 * (ext acc t.2.1).1 + 7 ≤ _
          omega
      rename_i h6
      split
      · rename_i h5
        have hx := built_str hbt h5
        have hfits : Fits acc (fun p => 32 * wS l p) t.2.2.2.1 := by
          intro f hf
          have := hx.2 f hf
          obtain ⟨g1, g2, g3, g4⟩ := hih f.2.1 this.1 this.2
          exact ⟨g1, g2, g3⟩
        have hb := togS_bound hfits _ (Nat.le_refl _)
        rw [List.take_length, sumG_mul] at hb
        unfold wOne at hw
        rw [if_neg (by omega), if_neg h7, if_neg h6, if_pos h5] at hw
        have hu := upS_ge (n := (togS acc t.2.2.2.1).2.1) hb.2.2.1
        refine ⟨?_, ?_, hb.2.2.1, hu.2.2⟩
        · have := hb.2.2.2 (by omega)
          show 1 ≤ upS _ _
          omega
        · show upS _ _ + 7 ≤ _
          omega
      · exact ⟨by decide, by show (1 : Int) + 7 ≤ _; omega, .inl rfl, ⟨1, rfl⟩⟩

theorem ext_good {l : List Typ} (hv : Valid l) {i : Int} (h0 : 0 ≤ i) (h1 : i < l.length) : Gd (wS l i) (ext (exS l) i) := by
  have := ex_good hv l.length (Nat.le_refl _) i.toNat (by omega)
  rw [List.take_length, Int.toNat_of_nonneg h0] at this
  exact this
theorem ext_ok {l : List Typ} (hv : Valid l) {i : Int} (h0 : 0 ≤ i) (h1 : i < l.length) : 1 ≤ sz (exS l) i ∧ sz (exS l) i ≤ 160000 ∧ Al (al (exS l) i) ∧ al (exS l) i ∣ sz (exS l) i := by
  obtain ⟨g1, g2, g3, g4⟩ := ext_good hv h0 h1
  have := (w_at hv (show i.toNat < l.length by omega)).2
  rw [Int.toNat_of_nonneg h0] at this
  exact ⟨g1, by show (ext (exS l) i).1 ≤ _; omega, g3, g4⟩

/-- fields of a struct of the table fit -/
theorem str_fits {l : List Typ} (hv : Valid l) {i : Nat} (hi : i < l.length) (h5 : (l[i]).1 = 5) : Fits (exGo (l.take i) []) (fun p => 32 * wS l p) (l[i]).2.2.2.1 ∧ sumG (fun p => 32 * wS l p) (l[i]).2.2.2.1 ≤ 900000 := by
  have hx := built_str (hv.2.1 i hi) h5
  constructor
  · intro f hf
    have := hx.2 f hf
    obtain ⟨g1, g2, g3, g4⟩ := ex_good hv i (by omega) f.2.1.toNat (by omega)
    rw [Int.toNat_of_nonneg this.1] at g1 g2 g3 g4
    exact ⟨g1, g2, g3⟩
  · have hw := w_at hv hi
    unfold wOne at hw
    rw [if_neg (by omega), if_neg (by omega), if_neg (by omega), if_pos h5] at hw
    rw [sumG_mul]
    omega
theorem strS_fits {l : List Typ} (hv : Valid l) {i : Int} {t : Typ} (ht : getI l i = some t) (h5 : t.1 = 5) : Fits (exS l) (fun p => 32 * wS l p) t.2.2.2.1 ∧ sumG (fun p => 32 * wS l p) t.2.2.2.1 ≤ 900000 := by
  obtain ⟨h0, h1, hx, rfl⟩ := getI_some ht
  obtain ⟨g1, g2⟩ := str_fits hv hx h5
  have hs := (built_str (hv.2.1 i.toNat hx) h5).2
  refine ⟨fun f hf => ?_, g2⟩
  have h3 := hs f hf
  have := g1 f hf
  unfold sz al at this ⊢
  rwa [ext_take (by omega) h3.1 h3.2] at this

theorem extentOf_eq {acc : List Ext} {t : Typ} (h6 : t.1 = 6 → 0 ≤ t.2.1 ∧ t.2.1 < acc.length ∧ 0 ≤ t.2.2.1 * sz acc t.2.1 ∧ t.2.2.1 * sz acc t.2.1 ≤ 900000)
    (h5 : t.1 = 5 → clayout_together (acc, t.2.2.2.1) = some ((togS acc t.2.2.2.1).1, (upS (togS acc t.2.2.2.1).2.1 (togS acc t.2.2.2.1).2.2, ((togS acc t.2.2.2.1).2.2, ())))) : clayout_extentOf (t, acc) = some (extOne acc t) := by
  show nlayout_extentOf _ = _
  unfold nlayout_extentOf extOne
  dsimp only
  by_cases k2 : t.1 = 2
  · rw [if_pos (.inl k2), k2]; rfl
  rw [show (t.1 == 2) = false from decide_eq_false k2, cond_false]
  by_cases k4 : t.1 = 4
  · rw [if_pos (.inr k4), k4]; rfl
  rw [if_neg (by omega), show (t.1 == 4) = false from decide_eq_false k4, cond_false]
  by_cases k3 : t.1 = 3
  · rw [if_pos k3, k3]; rfl
  rw [if_neg k3, show (t.1 == 3) = false from decide_eq_false k3, cond_false]
  by_cases k7 : t.1 = 7
  · rw [if_pos k7, k7]; rfl
  rw [if_neg k7, show (t.1 == 7) = false from decide_eq_false k7, cond_false]
  by_cases k6 : t.1 = 6
  · have h := h6 k6
    rw [if_pos k6, show (t.1 == 6) = true from decide_eq_true k6, cond_true, getI_ext h.1 h.2.1, Option.bind_some, wrap_i64 (n := t.2.2.1 * sz acc t.2.1) (by have := h.2.2; omega) (by have := h.2.2; omega)]
  rw [if_neg k6, show (t.1 == 6) = false from decide_eq_false k6, cond_false]
  by_cases k5 : t.1 = 5
  · rw [if_pos k5, show (t.1 == 5) = true from decide_eq_true k5, cond_true, h5 k5, Option.bind_some]
  · rw [if_neg k5, show (t.1 == 5) = false from decide_eq_false k5, cond_false]

theorem arr_bound {l : List Typ} (hv : Valid l) {i : Nat} (hi : i < l.length) (h6 : (l[i]).1 = 6) : (0 ≤ (l[i]).2.1 ∧ (l[i]).2.1 < i) ∧ 0 ≤ (l[i]).2.2.1 * sz (exGo (l.take i) []) (l[i]).2.1 ∧ (l[i]).2.2.1 * sz (exGo (l.take i) []) (l[i]).2.1 ≤ 900000 := by
  have hx := built_arr (hv.2.1 i hi) h6
  have ht : getI l (i : Int) = some l[i] := getI_at hi
  have e := ext_at hv.2.1 ht
  have ho := ext_ok hv (i := (i : Int)) (by omega) (by omega)
  unfold sz at ho ⊢
  rw [ext_take (by omega) hx.1 hx.2.1]
  rw [e] at ho
  unfold extOne at ho
  rw [if_neg (by omega), if_neg (by omega), if_neg (by omega), if_pos h6] at ho
  have h1 : 1 ≤ (l[i]).2.2.1 * (ext (exS l) (l[i]).2.1).1 := ho.1
  have h2 : (l[i]).2.2.1 * (ext (exS l) (l[i]).2.1).1 ≤ 160000 := ho.2.1
  exact ⟨⟨hx.1, hx.2.1⟩, by omega, by omega⟩

theorem extents_eq {l : List Typ} (hv : Valid l) : clayout_extents l = some (exS l) := by
  have hlen := hv.1
  show nlayout_extents (iterV (glayout_extents_0 big) big) l = _
  unfold nlayout_extents
  refine range_post (g := glayout_extents_0 big) (n := l.length) (fun (r : List Ext) (i : Nat) => (l, (l.length : Int), (i : Int), r)) (fun i r => r = exGo (l.take i) []) (fun q => q = some (exS l)) ?_ ?_
    l.length 0 big (by simp) (by unfold big; omega) _ (by simp [exGo])
  · rintro self s rfl
    rw [List.take_length]
    show hlayout_extents_0 self _ = _
    unfold hlayout_extents_0
    dsimp only
    rw [decide_eq_false (by omega), cond_false]
    rfl
  · rintro self s i hi rfl
    left
    refine ⟨_, rfl, ?_⟩
    have hl := exT_len (l := l) (i := i) (by omega)
    rw [List.take_succ_eq_append_getElem hi, exGo_snoc]
    show hlayout_extents_0 self _ = _
    unfold hlayout_extents_0
    dsimp only
    rw [decide_eq_true (by omega), cond_true, getI_at hi, Option.bind_some, extentOf_eq (fun h6 => by have := arr_bound hv hi h6; exact ⟨this.1.1, by omega, this.2⟩) (fun h5 => by
      have hx := (built_str (hv.2.1 i hi) h5)
      obtain ⟨g1, g2⟩ := str_fits hv hi h5
      exact together_eq g1 g2 (fun f hf => by have := hx.2 f hf; omega) (by omega)), Option.bind_some, ble_k rfl (by simp [hl]; omega), cond_true, wrap_succ hi (by have := maxLen_ge; omega)]
    rfl

theorem isIndexL_eq (x n : Int) : clayout_isIndex (x, n) = some (idxB x n) := by
  show nlayout_isIndex (x, n) = _
  unfold nlayout_isIndex idxB
  dsimp only
  by_cases h : 0 ≤ x
  · rw [decide_eq_true (show x ≥ 0 from h)]; rfl
  · rw [decide_eq_false (show ¬ x ≥ 0 from h)]; rfl

/-- the error of a table and an index -/
def errS (l : List Typ) (i : Int) : Int := if Valid l then (if 0 ≤ i ∧ i < l.length then (if sz (exS l) i ≤ 256 then 0 else 16) else 2) else 8
theorem errS_ok {l : List Typ} {i : Int} (h : errS l i = 0) : Valid l ∧ 0 ≤ i ∧ i < l.length ∧ sz (exS l) i ≤ 256 := by
  unfold errS at h
  split at h
  · rename_i hv
    split at h
    · rename_i hi
      split at h
      · rename_i hs
        exact ⟨hv, hi.1, hi.2, hs⟩
      · cases h
    · cases h
  · cases h
theorem errS_zero {l : List Typ} {i : Int} (hv : Valid l) (h0 : 0 ≤ i) (h1 : i < l.length) (hs : sz (exS l) i ≤ 256) : errS l i = 0 := by
  unfold errS; rw [if_pos hv, if_pos ⟨h0, h1⟩, if_pos hs]

theorem measured_eq (l : List Typ) (i : Int) : clayout_measured (l, i) = some (if errS l i = 0 then exS l else [], errS l i) := by
  show nlayout_measured _ = _
  unfold nlayout_measured
  dsimp only
  rw [Check_eq, Option.bind_some]
  by_cases hv : Valid l
  · rw [if_pos hv, show ((0 : Int) != 0) = false from rfl, cond_false, isIndexL_eq, Option.bind_some]
    by_cases hi : 0 ≤ i ∧ i < l.length
    · rw [idxB_iff.2 hi, Bool.not_true, cond_false, extents_eq hv, Option.bind_some, decide_eq_true hi.1, decide_eq_true (by rw [exS_len]; exact hi.2), Bool.true_and, cond_true, nth_ext hi.1 (by rw [exS_len]; exact hi.2), Option.bind_some]
      by_cases hs : sz (exS l) i ≤ 256
      · rw [errS_zero hv hi.1 hi.2 hs, decide_eq_false (by show ¬ sz (exS l) i > 256; omega), cond_false, if_pos rfl]
      · have : errS l i = 16 := by unfold errS; rw [if_pos hv, if_pos hi, if_neg hs]
        rw [this, decide_eq_true (by show sz (exS l) i > 256; omega), cond_true, if_neg (by decide)]
    · have hb : idxB i l.length = false := by
        rw [Bool.eq_false_iff]; intro h; exact hi (idxB_iff.1 h)
      have : errS l i = 2 := by unfold errS; rw [if_pos hv, if_neg hi]
      rw [hb, Bool.not_false, cond_true, this, if_neg (by decide)]
  · have : errS l i = 8 := by unfold errS; rw [if_neg hv]
    rw [if_neg hv, this, if_neg (by decide)]; rfl

theorem Size_eq (l : List Typ) (i : Int) : clayout_Size (l, i) = some (if errS l i = 0 then (sz (exS l) i, (al (exS l) i, 0)) else (0, (0, errS l i))) := by
  show nlayout_Size _ = _
  unfold nlayout_Size
  dsimp only
  rw [measured_eq, Option.bind_some]
  by_cases h : errS l i = 0
  · obtain ⟨hv, h0, h1, hs⟩ := errS_ok h
    simp only [h, if_true]
    rw [show ((0 : Int) != 0) = false from rfl, cond_false, decide_eq_true h0, decide_eq_true (by rw [exS_len]; exact h1), Bool.true_and, cond_true, nth_ext h0 (by rw [exS_len]; exact h1), Option.bind_some]
    first
      | rfl
      | (rw [getI_ext h0 (by rw [exS_len]; exact h1)]; rfl)
  · simp only [if_neg h]
    rw [show (errS l i != 0) = true by simpa using h, cond_true]
end Go.Proofs.Ytnhiaoabhjjegaa

set_option linter.unusedVariables false
set_option linter.unusedSimpArgs false
set_option maxRecDepth 100000
namespace Go.Proofs.Ytnhiaoabhjjegaa
open Go.Lift

abbrev Cel := Int × (Int × Unit)

/-! ### parts with their offsets -/
def isC (t : Typ) : Prop := t.1 = 6 ∨ t.1 = 5
instance (t : Typ) : Decidable (isC t) := by unfold isC; infer_instance
def cnt (t : Typ) : Nat := if t.1 = 6 then t.2.2.1.toNat else t.2.2.2.1.length
def sub (t : Typ) (j : Nat) : Int := if t.1 = 6 then t.2.1 else (t.2.2.2.1.map (·.2.1)).getD j 0
def off (S : List Ext) (t : Typ) (j : Nat) : Int := if t.1 = 6 then j * sz S t.2.1 else (togS S t.2.2.2.1).1.getD j 0
def fin (S : List Ext) (t : Typ) (j : Nat) : Int := if t.1 = 6 then j * sz S t.2.1 else (togS S (t.2.2.2.1.take j)).2.1

theorem sub_part {t : Typ} (hk : isC t) {j : Nat} (hj : j < cnt t) : sub t j ∈ partsS t := by
  unfold sub partsS cnt at *
  by_cases h6 : t.1 = 6
  · rw [if_pos h6, if_pos h6]; simp
  · have h5 : t.1 = 5 := hk.resolve_left h6
    rw [if_neg h6] at hj
    rw [if_neg h6, if_neg h6, if_pos h5]
    rw [List.getD_eq_getElem?_getD, List.getElem?_eq_getElem (by simpa using hj)]
    exact List.getElem_mem _
theorem sub_lt {l : List Typ} (hb : Built l) {i : Int} {t : Typ} (ht : getI l i = some t) (hk : isC t) {j : Nat} (hj : j < cnt t) : 0 ≤ sub t j ∧ sub t j < i := part_lt hb ht (sub_part hk hj)
theorem sub_fld {t : Typ} (h5 : t.1 = 5) {j : Nat} (hj : j < t.2.2.2.1.length) : sub t j = (t.2.2.2.1[j]).2.1 := by
  unfold sub
  rw [if_neg (by omega), List.getD_eq_getElem?_getD, List.getElem?_eq_getElem (by simpa using hj)]
  simp

theorem cnt_pos {t : Typ} {i n : Int} (hk : isC t) (h : builtB t i n = true) : 1 ≤ cnt t := by
  unfold cnt
  by_cases h6 : t.1 = 6
  · rw [if_pos h6]; have := built_arr h h6; omega
  · have h5 : t.1 = 5 := hk.resolve_left h6
    rw [if_neg h6]; have := built_str h h5; omega

/-- an induction over the types of a table: what holds of the parts holds of the whole -/
theorem typ_ind {l : List Typ} (hb : Built l) {P : Int → Prop} (h : ∀ i t, getI l i = some t → (isC t → ∀ j, j < cnt t → P (sub t j)) → P i) : ∀ (n : Nat) (i : Int), i.toNat < n → 0 ≤ i → i < l.length → P i
  | 0, _, h0, _, _ => by omega
  | n + 1, i, hn, h0, h1 => by
    obtain ⟨t, ht⟩ := getI_in h0 h1
    refine h i t ht fun hk j hj => ?_
    have := sub_lt hb ht hk hj
    exact typ_ind hb h n (sub t j) (by omega) this.1 (by omega)

theorem comp_zero (S : List Ext) (t : Typ) : fin S t 0 = 0 := by
  unfold fin
  split
  · simp
  · rfl

section
variable {l : List Typ} (hv : Valid l) {i : Int} {t : Typ} (ht : getI l i = some t) (hk : isC t)
include hv ht hk

theorem sub_ok {j : Nat} (hj : j < cnt t) : 1 ≤ sz (exS l) (sub t j) ∧ Al (al (exS l) (sub t j)) ∧ al (exS l) (sub t j) ∣ sz (exS l) (sub t j) := by
  have h := sub_lt hv.2.1 ht hk hj
  obtain ⟨h0, h1, _, _⟩ := getI_some ht
  have := ext_ok hv h.1 (by omega)
  exact ⟨this.1, this.2.2.1, this.2.2.2⟩

theorem comp_step {j : Nat} (hj : j < cnt t) : fin (exS l) t j ≤ off (exS l) t j ∧ off (exS l) t j + sz (exS l) (sub t j) = fin (exS l) t (j + 1) ∧ al (exS l) (sub t j) ∣ off (exS l) t j := by
  by_cases h6 : t.1 = 6
  · have hs := sub_ok hv ht hk hj
    unfold fin off sub at *
    simp only [if_pos h6] at *
    refine ⟨Int.le_refl _, ?_, Int.dvd_mul_of_dvd_right hs.2.2⟩
    rw [Int.natCast_succ, Int.add_mul, Int.one_mul]
  · have h5 : t.1 = 5 := hk.resolve_left h6
    have hj' : j < t.2.2.2.1.length := by unfold cnt at hj; rwa [if_neg h6] at hj
    obtain ⟨g1, g2⟩ := strS_fits hv ht h5
    have hfi := g1 _ (List.getElem_mem hj')
    have hb := togS_bound g1 j (by omega)
    have hu := upS_ge (n := (togS (exS l) (t.2.2.2.1.take j)).2.1) hfi.2.2
    rw [sub_fld h5 hj']
    unfold fin off
    rw [if_neg h6, if_neg h6, if_neg h6, togS_take _ hj']
    have hat : (togS (exS l) t.2.2.2.1).1.getD j 0 = upS (togS (exS l) (t.2.2.2.1.take j)).2.1 (al (exS l) (t.2.2.2.1[j]).2.1) := by
      have hp : ∃ s, (togS (exS l) t.2.2.2.1).1 = (togS (exS l) (t.2.2.2.1.take (j + 1))).1 ++ s := by
        have : ∀ (fs : List Fld) (s : List Int × (Int × Int)), ∃ r, (fs.foldl (togStep (exS l)) s).1 = s.1 ++ r := by
          intro fs
          induction fs with
          | nil => intro s; exact ⟨[], by simp⟩
          | cons f r ih =>
            intro s
            obtain ⟨q, hq⟩ := ih (togStep (exS l) s f)
            exact ⟨_ :: q, by rw [List.foldl_cons, hq]; show (s.1 ++ [_]) ++ q = _; rw [List.append_assoc]; rfl⟩
        obtain ⟨r, hr⟩ := this (t.2.2.2.1.drop (j + 1)) (togS (exS l) (t.2.2.2.1.take (j + 1)))
        refine ⟨r, ?_⟩
        rw [← hr]
        unfold togS
        rw [← List.foldl_append, List.take_append_drop]
      obtain ⟨s, hs⟩ := hp
      have hlen := togS_len (exS l) (t.2.2.2.1.take j)
      rw [List.length_take, Nat.min_eq_left (by omega)] at hlen
      rw [hs, togS_take _ hj']
      unfold togStep
      dsimp only
      rw [List.append_assoc, List.getD_eq_getElem?_getD, List.getElem?_append_right (by omega), hlen, Nat.sub_self]
      rfl
    rw [hat]
    exact ⟨hu.1, rfl, hu.2.2⟩

theorem comp_last : fin (exS l) t (cnt t) ≤ sz (exS l) i := by
  have hbt := built_at hv.2.1 ht
  have e := ext_at hv.2.1 ht
  have key : sz (exS l) i = if t.1 = 6 then t.2.2.1 * sz (exS l) t.2.1 else upS (togS (exS l) t.2.2.2.1).2.1 (togS (exS l) t.2.2.2.1).2.2 := by
    show (ext (exS l) i).1 = _
    rw [e]
    unfold extOne
    by_cases h6 : t.1 = 6
    · rw [if_neg (by omega), if_neg (by omega), if_neg (by omega), if_pos h6, if_pos h6]
    · have h5 : t.1 = 5 := hk.resolve_left h6
      rw [if_neg (by omega), if_neg (by omega), if_neg (by omega), if_neg h6, if_pos h5, if_neg h6]
  rw [key]
  unfold fin cnt
  by_cases h6 : t.1 = 6
  · have := built_arr hbt h6
    rw [if_pos h6, if_pos h6, if_pos h6, Int.toNat_of_nonneg (by omega)]
    exact Int.le_refl _
  · have h5 : t.1 = 5 := hk.resolve_left h6
    obtain ⟨g1, g2⟩ := strS_fits hv ht h5
    have hb := togS_bound g1 _ (Nat.le_refl _)
    rw [List.take_length] at hb
    rw [if_neg h6, if_neg h6, if_neg h6, List.take_length]
    exact (upS_ge hb.2.2.1).1

theorem comp_al : (∀ j, j < cnt t → al (exS l) (sub t j) ≤ al (exS l) i) ∧ ∃ j, j < cnt t ∧ al (exS l) (sub t j) = al (exS l) i := by
  have hbt := built_at hv.2.1 ht
  have hc := cnt_pos hk hbt
  have e := ext_at hv.2.1 ht
  have hal := fun j hj => (sub_ok hv ht hk (j := j) hj).2.1
  have key : al (exS l) i = if t.1 = 6 then al (exS l) t.2.1 else (togS (exS l) t.2.2.2.1).2.2 := by
    show (ext (exS l) i).2.1 = _
    rw [e]
    unfold extOne
    by_cases h6 : t.1 = 6
    · rw [if_neg (by omega), if_neg (by omega), if_neg (by omega), if_pos h6, if_pos h6]
    · have h5 : t.1 = 5 := hk.resolve_left h6
      rw [if_neg (by omega), if_neg (by omega), if_neg (by omega), if_neg h6, if_pos h5, if_neg h6]
  by_cases h6 : t.1 = 6
  · rw [if_pos h6] at key
    have hs : ∀ j, sub t j = t.2.1 := fun j => by unfold sub; rw [if_pos h6]
    rw [key]
    exact ⟨fun j _ => by rw [hs j]; exact Int.le_refl _, 0, by omega, by rw [hs 0]⟩
  · have h5 : t.1 = 5 := hk.resolve_left h6
    rw [if_neg h6] at key
    have hcl : cnt t = t.2.2.2.1.length := by unfold cnt; rw [if_neg h6]
    have run : ∀ k, k ≤ t.2.2.2.1.length → (∀ j, j < k → al (exS l) (sub t j) ≤ (togS (exS l) (t.2.2.2.1.take k)).2.2) ∧ 1 ≤ (togS (exS l) (t.2.2.2.1.take k)).2.2 ∧ ((togS (exS l) (t.2.2.2.1.take k)).2.2 = 1 ∨ ∃ j, j < k ∧ al (exS l) (sub t j) = (togS (exS l) (t.2.2.2.1.take k)).2.2) := by
      intro k
      induction k with
      | zero => intro _; exact ⟨fun j hj => by omega, by simp [togS], .inl rfl⟩
      | succ k ih =>
        intro hk'
        obtain ⟨i1, i2, i3⟩ := ih (by omega)
        rw [togS_take _ (by omega)]
        unfold togStep
        dsimp only
        rw [← sub_fld h5 (by omega)]
        refine ⟨fun j hj => ?_, by omega, ?_⟩
        · by_cases e : j = k
          · subst e; omega
          · have := i1 j (by omega); omega
        · by_cases hm : al (exS l) (sub t k) ≤ (togS (exS l) (t.2.2.2.1.take k)).2.2
          · have e : max (togS (exS l) (t.2.2.2.1.take k)).2.2 (al (exS l) (sub t k)) = (togS (exS l) (t.2.2.2.1.take k)).2.2 := by omega
            rw [e]
            rcases i3 with i3 | ⟨j, hj, i3⟩
            · exact .inl i3
            · exact .inr ⟨j, by omega, i3⟩
          · exact .inr ⟨k, by omega, by omega⟩
    obtain ⟨r1, r2, r3⟩ := run _ (Nat.le_refl _)
    rw [List.take_length] at r1 r2 r3
    rw [key]
    refine ⟨fun j hj => r1 j (by omega), ?_⟩
    rcases r3 with r3 | ⟨j, hj, r3⟩
    · refine ⟨0, by omega, ?_⟩
      have h1 := r1 0 (by omega)
      have h2 := hal 0 (by omega)
      rcases h2 with h2 | h2 <;> omega
    · exact ⟨j, by omega, r3⟩
end

/-! ### cells -/
def celS (l : List Typ) : Nat → Int → Int → List Cel
  | 0, _, _ => []
  | n + 1, i, b => match getI l i with
    | none => []
    | some t => if isC t then (List.range (cnt t)).flatMap (fun j => celS l n (sub t j) (b + off (exS l) t j)) else [(b, (i, ()))]
def CS (l : List Typ) (i b : Int) : List Cel := celS l (i.toNat + 1) i b

theorem flatMap_same {α β : Type} {l : List α} {f g : α → List β} (h : ∀ x ∈ l, f x = g x) : l.flatMap f = l.flatMap g := by
  rw [List.flatMap_def, List.flatMap_def, List.map_congr_left h]
theorem celS_fuel {l : List Typ} (hb : Built l) : ∀ (n m : Nat) (i b : Int), i.toNat < n → i.toNat < m → celS l n i b = celS l m i b
  | 0, _, _, _, h, _ => by omega
  | _, 0, _, _, _, h => by omega
  | n + 1, m + 1, i, b, h, h' => by
    unfold celS
    cases ht : getI l i with
    | none => rfl
    | some t =>
      dsimp only
      by_cases hk : isC t
      · rw [if_pos hk, if_pos hk]
        apply flatMap_same
        intro j hj
        have := sub_lt hb ht hk (List.mem_range.1 hj)
        exact celS_fuel hb n m _ _ (by omega) (by omega)
      · rw [if_neg hk, if_neg hk]
def cellsTo (l : List Typ) (t : Typ) (b : Int) (k : Nat) : List Cel := (List.range k).flatMap fun j => CS l (sub t j) (b + off (exS l) t j)
theorem cellsTo_succ (l : List Typ) (t : Typ) (b : Int) (k : Nat) : cellsTo l t b (k + 1) = cellsTo l t b k ++ CS l (sub t k) (b + off (exS l) t k) := by
  unfold cellsTo; rw [List.range_succ, List.flatMap_append]; simp
theorem CS_comp {l : List Typ} (hb : Built l) {i : Int} {t : Typ} (ht : getI l i = some t) (hk : isC t) (b : Int) : CS l i b = cellsTo l t b (cnt t) := by
  unfold CS celS
  rw [ht]
  dsimp only
  rw [if_pos hk]
  unfold cellsTo CS
  apply flatMap_same
  intro j hj
  have := sub_lt hb ht hk (List.mem_range.1 hj)
  exact celS_fuel hb _ _ _ _ (by omega) (by omega)
theorem CS_leaf {l : List Typ} {i : Int} {t : Typ} (ht : getI l i = some t) (hk : ¬ isC t) (b : Int) : CS l i b = [(b, (i, ()))] := by
  unfold CS celS
  rw [ht]
  dsimp only
  rw [if_neg hk]

/-- cells in order, from an offset to another one -/
def Tile (S : List Ext) : List Cel → Int → Int → Prop
  | [], lo, hi => lo ≤ hi
  | c :: r, lo, hi => lo ≤ c.1 ∧ Tile S r (c.1 + sz S c.2.1) hi
theorem Tile.weak {S : List Ext} : ∀ {a : List Cel} {lo lo' hi hi' : Int}, lo' ≤ lo → hi ≤ hi' → Tile S a lo hi → Tile S a lo' hi'
  | [], lo, lo', hi, hi', h1, h2, h => by simp only [Tile] at h ⊢; omega
  | c :: r, lo, lo', hi, hi', h1, h2, h => ⟨by have := h.1; omega, Tile.weak (Int.le_refl _) h2 h.2⟩
theorem Tile.append {S : List Ext} : ∀ {a b : List Cel} {lo m hi : Int}, Tile S a lo m → Tile S b m hi → Tile S (a ++ b) lo hi
  | [], b, lo, m, hi, h1, h2 => Tile.weak h1 (Int.le_refl _) h2
  | c :: r, b, lo, m, hi, h1, h2 => ⟨h1.1, Tile.append h1.2 h2⟩

theorem CS_tile {l : List Typ} (hv : Valid l) {i : Int} (h0 : 0 ≤ i) (h1 : i < l.length) : ∀ b, Tile (exS l) (CS l i b) b (b + sz (exS l) i) := by
  refine typ_ind hv.2.1 (P := fun i => ∀ b, Tile (exS l) (CS l i b) b (b + sz (exS l) i)) ?_ (i.toNat + 1) i (by omega) h0 h1
  intro i t ht ih b
  by_cases hk : isC t
  · rw [CS_comp hv.2.1 ht hk]
    have run : ∀ k, k ≤ cnt t → Tile (exS l) (cellsTo l t b k) b (b + fin (exS l) t k) := by
      intro k
      induction k with
      | zero => intro _; rw [comp_zero]; show b ≤ b + 0; omega
      | succ k ihk =>
        intro hk'
        rw [cellsTo_succ]
        have hs := comp_step hv ht hk (j := k) (by omega)
        refine (ihk (by omega)).append ?_
        refine (ih hk k (by omega) (b + off (exS l) t k)).weak (by omega) (by omega)
    exact (run _ (Nat.le_refl _)).weak (Int.le_refl _) (by have := comp_last hv ht hk; omega)
  · rw [CS_leaf ht hk]
    exact ⟨Int.le_refl _, Int.le_refl _⟩

theorem CS_mem {l : List Typ} (hv : Valid l) {i : Int} (h0 : 0 ≤ i) (h1 : i < l.length) : ∀ b, ∀ c ∈ CS l i b, (0 ≤ c.2.1 ∧ c.2.1 < l.length) ∧ ∃ t, getI l c.2.1 = some t ∧ ¬ isC t := by
  refine typ_ind hv.2.1 (P := fun i => ∀ b, ∀ c ∈ CS l i b, (0 ≤ c.2.1 ∧ c.2.1 < l.length) ∧ ∃ t, getI l c.2.1 = some t ∧ ¬ isC t) ?_ (i.toNat + 1) i (by omega) h0 h1
  intro i t ht ih b c hc
  by_cases hk : isC t
  · rw [CS_comp hv.2.1 ht hk] at hc
    obtain ⟨j, hj, hc⟩ := List.mem_flatMap.1 hc
    exact ih hk j (List.mem_range.1 hj) _ c hc
  · rw [CS_leaf ht hk] at hc
    rw [List.mem_singleton.1 hc]
    obtain ⟨g0, g1, _, _⟩ := getI_some ht
    exact ⟨⟨g0, g1⟩, t, ht, hk⟩

def shift (d : Int) (c : Cel) : Cel := (c.1 + d, (c.2.1, ()))
theorem CS_shift {l : List Typ} (hv : Valid l) {i : Int} (h0 : 0 ≤ i) (h1 : i < l.length) : ∀ b d, CS l i (b + d) = (CS l i b).map (shift d) := by
  refine typ_ind hv.2.1 (P := fun i => ∀ b d, CS l i (b + d) = (CS l i b).map (shift d)) ?_ (i.toNat + 1) i (by omega) h0 h1
  intro i t ht ih b d
  by_cases hk : isC t
  · rw [CS_comp hv.2.1 ht hk, CS_comp hv.2.1 ht hk]
    unfold cellsTo
    rw [List.map_flatMap]
    apply flatMap_same
    intro j hj
    rw [← ih hk j (List.mem_range.1 hj), Int.add_right_comm]
  · rw [CS_leaf ht hk, CS_leaf ht hk]; rfl

theorem al_dvd {a b : Int} (ha : Al a) (hb : Al b) (h : a ≤ b) : a ∣ b := by
  rcases ha with rfl | rfl
  · exact Int.one_dvd b
  · rcases hb with rfl | rfl
    · omega
    · exact ⟨1, rfl⟩
theorem CS_al {l : List Typ} (hv : Valid l) {i : Int} (h0 : 0 ≤ i) (h1 : i < l.length) : ∀ b, (∀ c ∈ CS l i b, al (exS l) c.2.1 ≤ al (exS l) i ∧ (al (exS l) i ∣ b → al (exS l) c.2.1 ∣ c.1)) ∧ ∃ c ∈ CS l i b, al (exS l) c.2.1 = al (exS l) i := by
  refine typ_ind hv.2.1 (P := fun i => ∀ b, (∀ c ∈ CS l i b, al (exS l) c.2.1 ≤ al (exS l) i ∧ (al (exS l) i ∣ b → al (exS l) c.2.1 ∣ c.1)) ∧ ∃ c ∈ CS l i b, al (exS l) c.2.1 = al (exS l) i) ?_ (i.toNat + 1) i (by omega) h0 h1
  intro i t ht ih b
  obtain ⟨g0, g1, _, _⟩ := getI_some ht
  by_cases hk : isC t
  · rw [CS_comp hv.2.1 ht hk]
    obtain ⟨c1, j, hj, c2⟩ := comp_al hv ht hk
    constructor
    · intro c hc
      obtain ⟨j, hj, hc⟩ := List.mem_flatMap.1 hc
      have hj := List.mem_range.1 hj
      obtain ⟨e1, e2⟩ := (ih hk j hj _).1 c hc
      have hle := c1 j hj
      refine ⟨by omega, fun hd => e2 ?_⟩
      have d1 := al_dvd (sub_ok hv ht hk hj).2.1 (ext_ok hv g0 g1).2.2.1 hle
      exact Int.dvd_add (Int.dvd_trans d1 hd) (comp_step hv ht hk hj).2.2
    · obtain ⟨c, hc, e⟩ := (ih hk j hj (b + off (exS l) t j)).2
      exact ⟨c, List.mem_flatMap.2 ⟨j, List.mem_range.2 hj, hc⟩, e.trans c2⟩
  · rw [CS_leaf ht hk]
    refine ⟨fun c hc => ?_, (b, (i, ())), by simp, rfl⟩
    rw [List.mem_singleton.1 hc]
    exact ⟨Int.le_refl _, fun h => h⟩

theorem tile_len {S : List Ext} : ∀ {a : List Cel} {lo hi : Int}, Tile S a lo hi → (∀ c ∈ a, 1 ≤ sz S c.2.1) → lo + a.length ≤ hi
  | [], lo, hi, h, _ => by simp only [Tile] at h; simp; exact h
  | c :: r, lo, hi, h, hs => by
    have := tile_len h.2 fun x hx => hs x (by simp [hx])
    have h1 := hs c (by simp)
    have h2 := h.1
    simp only [List.length_cons]
    omega
theorem CS_len {l : List Typ} (hv : Valid l) {i : Int} (h0 : 0 ≤ i) (h1 : i < l.length) (b : Int) : ((CS l i b).length : Int) ≤ sz (exS l) i := by
  have := tile_len (CS_tile hv h0 h1 b) fun c hc => by
    have := (CS_mem hv h0 h1 b c hc).1
    exact (ext_ok hv this.1 this.2).1
  omega

/-! ### padding -/
def rng (a b : Int) : List Int := (List.range (b - a).toNat).map fun (k : Nat) => a + (k : Int)
theorem mem_rng {a b x : Int} : x ∈ rng a b ↔ a ≤ x ∧ x < b := by
  unfold rng
  rw [List.mem_map]
  constructor
  · rintro ⟨k, hk, rfl⟩
    have := List.mem_range.1 hk
    omega
  · rintro ⟨h1, h2⟩
    exact ⟨(x - a).toNat, List.mem_range.2 (by omega), by omega⟩
theorem rng_nil {a b : Int} (h : b ≤ a) : rng a b = [] := by
  unfold rng; rw [show (b - a).toNat = 0 by omega]; rfl
theorem rng_succ {a b : Int} (h : a ≤ b) : rng a (b + 1) = rng a b ++ [b] := by
  unfold rng
  rw [show (b + 1 - a).toNat = (b - a).toNat + 1 by omega, List.range_succ, List.map_append, List.map_singleton]
  congr 2
  omega
theorem rng_append {a b : Int} (h : a ≤ b) : ∀ (n : Nat), rng a (b + n) = rng a b ++ rng b (b + n)
  | 0 => by rw [rng_nil (a := b) (by omega)]; simp
  | n + 1 => by
    rw [Int.natCast_succ, ← Int.add_assoc, rng_succ (by omega), rng_succ (by omega), rng_append h n, List.append_assoc]
theorem rng_split {a b c : Int} (h : a ≤ b) (h' : b ≤ c) : rng a c = rng a b ++ rng b c := by
  have := rng_append h (c - b).toNat
  rwa [show b + ((c - b).toNat : Int) = c by omega] at this
theorem rng_len (a b : Int) : (rng a b).length = (b - a).toNat := by unfold rng; simp

def padS (S : List Ext) : List Cel → Int → Int → List Int
  | [], e, hi => rng e hi
  | c :: r, e, hi => rng e c.1 ++ padS S r (c.1 + sz S c.2.1) hi
def cov (S : List Ext) (cs : List Cel) (n : Int) : Bool := cs.any fun c => decide (c.1 ≤ n) && decide (n < c.1 + sz S c.2.1)
theorem tile_low {S : List Ext} : ∀ {a : List Cel} {lo hi : Int}, Tile S a lo hi → (∀ c ∈ a, 1 ≤ sz S c.2.1) → ∀ c ∈ a, lo ≤ c.1 ∧ c.1 + sz S c.2.1 ≤ hi
  | c :: r, lo, hi, h, hs, x, hx => by
    have ih := tile_low h.2 fun x hx => hs x (by simp [hx])
    have h1 := hs c (by simp)
    rcases List.mem_cons.1 hx with rfl | hx
    · refine ⟨h.1, ?_⟩
      have := tile_len h.2 fun x hx => hs x (by simp [hx])
      omega
    · have := ih x hx
      have h2 := h.1
      exact ⟨by omega, this.2⟩
theorem padS_filter {S : List Ext} : ∀ {a : List Cel} {lo hi : Int}, Tile S a lo hi → (∀ c ∈ a, 1 ≤ sz S c.2.1) → padS S a lo hi = (rng lo hi).filter fun n => !cov S a n
  | [], lo, hi, h, _ => by
    unfold padS
    symm
    apply List.filter_eq_self.2
    intro x _
    rfl
  | c :: r, lo, hi, h, hs => by
    have hs' : ∀ c ∈ r, 1 ≤ sz S c.2.1 := fun x hx => hs x (by simp [hx])
    have h1 := hs c (by simp)
    have hl := tile_low h.2 hs'
    have hlen := tile_len h.2 hs'
    have h2 := h.1
    have ih := padS_filter h.2 hs'
    unfold padS
    rw [rng_split (a := lo) (b := c.1) (c := hi) h2 (by omega), rng_split (a := c.1) (b := c.1 + sz S c.2.1) (c := hi) (by omega) (by omega), List.filter_append, List.filter_append]
    have e1 : (rng lo c.1).filter (fun n => !cov S (c :: r) n) = rng lo c.1 := by
      apply List.filter_eq_self.2
      intro x hx
      have hx := mem_rng.1 hx
      rw [Bool.not_eq_true']
      unfold cov
      rw [List.any_eq_false]
      intro y hy
      rcases List.mem_cons.1 hy with rfl | hy
      · simp; omega
      · have := hl y hy
        simp; omega
    have e2 : (rng c.1 (c.1 + sz S c.2.1)).filter (fun n => !cov S (c :: r) n) = [] := by
      apply List.filter_eq_nil_iff.2
      intro x hx
      have hx := mem_rng.1 hx
      unfold cov
      rw [List.any_cons, decide_eq_true hx.1, decide_eq_true hx.2]
      simp
    have e3 : (rng (c.1 + sz S c.2.1) hi).filter (fun n => !cov S (c :: r) n) = (rng (c.1 + sz S c.2.1) hi).filter (fun n => !cov S r n) := by
      apply List.filter_congr
      intro x hx
      have hx := mem_rng.1 hx
      unfold cov
      rw [List.any_cons, decide_eq_false (show ¬ x < c.1 + sz S c.2.1 by omega)]
      simp
    rw [e1, e2, e3, ih]
    rfl

/-! ### alike types -/
def All2 {α β : Type} (R : α → β → Prop) : List α → List β → Prop
  | [], [] => True
  | a :: l, b :: m => R a b ∧ All2 R l m
  | _, _ => False
theorem All2.append {α β : Type} {R : α → β → Prop} : ∀ {a : List α} {b : List β} {c : List α} {d : List β}, All2 R a b → All2 R c d → All2 R (a ++ c) (b ++ d)
  | [], [], _, _, _, h => h
  | x :: a, y :: b, c, d, h, h' => ⟨h.1, All2.append h.2 h'⟩
  | [], _ :: _, _, _, h, _ => h.elim
  | _ :: _, [], _, _, h, _ => h.elim
theorem All2.len {α β : Type} {R : α → β → Prop} : ∀ {a : List α} {b : List β}, All2 R a b → a.length = b.length
  | [], [], _ => rfl
  | x :: a, y :: b, h => by rw [List.length_cons, List.length_cons, All2.len h.2]
  | [], _ :: _, h => h.elim
  | _ :: _, [], h => h.elim
theorem All2.at {α β : Type} {R : α → β → Prop} : ∀ {a : List α} {b : List β}, All2 R a b → ∀ (j : Nat) (h1 : j < a.length) (h2 : j < b.length), R a[j] b[j]
  | x :: a, y :: b, h, 0, _, _ => h.1
  | x :: a, y :: b, h, j + 1, h1, h2 => All2.at h.2 j (by simpa using h1) (by simpa using h2)
  | [], _, _, _, h, _ => by simp at h
  | _ :: _, [], h, _, _, _ => h.elim
theorem All2.flat {α β : Type} {R : α → β → Prop} {f : Nat → List α} {g : Nat → List β} : ∀ (n : Nat), (∀ j, j < n → All2 R (f j) (g j)) → All2 R ((List.range n).flatMap f) ((List.range n).flatMap g)
  | 0, _ => trivial
  | n + 1, h => by
    rw [List.range_succ, List.flatMap_append, List.flatMap_append]
    refine (All2.flat n fun j hj => h j (by omega)).append ?_
    simpa using h n (by omega)

theorem togS_same (S : List Ext) : ∀ (fs gs : List Fld), fs.length = gs.length → (∀ (j : Nat) (h1 : j < fs.length) (h2 : j < gs.length), ext S (fs[j]).2.1 = ext S (gs[j]).2.1) → togS S fs = togS S gs := by
  intro fs gs
  unfold togS
  generalize (([], (0, 1)) : List Int × (Int × Int)) = s
  induction fs generalizing gs s with
  | nil =>
    intro hl _
    have : gs = [] := List.eq_nil_of_length_eq_zero (by simpa using hl.symm)
    rw [this]
  | cons f r ih =>
    intro hl h
    cases gs with
    | nil => simp at hl
    | cons g q =>
      rw [List.foldl_cons, List.foldl_cons]
      have e := h 0 (by simp) (by simp)
      have : togStep S s f = togStep S s g := by
        unfold togStep al sz
        rw [show ext S f.2.1 = ext S g.2.1 from e]
      rw [this]
      exact ih q _ (by simpa using hl) fun j h1 h2 => h (j + 1) (by simpa using h1) (by simpa using h2)

/-- alike types have as many parts, and they are alike -/
theorem alike_comp {l : List Typ} {i k : Int} {t u : Typ} (ht : getI l i = some t) (hu : getI l k = some u) (h : Alike l i k) : t.1 = u.1 ∧ (isC t → cnt t = cnt u ∧ ∀ j, j < cnt t → Alike l (sub t j) (sub u j)) := by
  have hf := h i k .self t u ht hu
  obtain ⟨f1, f2, f3⟩ := formB_iff.1 hf
  refine ⟨f1, fun hk => ?_⟩
  have hfl : t.2.2.2.1.length = u.2.2.2.1.length := by
    have := congrArg List.length f3
    simpa using this
  have hc : cnt t = cnt u := by unfold cnt; rw [f1, f2, hfl]
  refine ⟨hc, fun j hj => ?_⟩
  by_cases h6 : t.1 = 6
  · have h6' : u.1 = 6 := by omega
    have e1 : (nextS t)[0]? = some t.2.1 := by unfold nextS partsS; rw [if_neg (by omega), if_pos h6]; rfl
    have e2 : (nextS u)[0]? = some u.2.1 := by unfold nextS partsS; rw [if_neg (by omega), if_pos h6']; rfl
    have := alike_next h ht hu e1 e2
    unfold sub
    rwa [if_pos h6, if_pos h6']
  · have h5 : t.1 = 5 := hk.resolve_left h6
    have h5' : u.1 = 5 := by omega
    have hj1 : j < t.2.2.2.1.length := by unfold cnt at hj; rwa [if_neg h6] at hj
    have e1 : (nextS t)[j]? = some (sub t j) := by
      unfold nextS partsS
      rw [if_neg (by omega), if_neg h6, if_pos h5, sub_fld h5 hj1]
      simp [hj1]
    have e2 : (nextS u)[j]? = some (sub u j) := by
      unfold nextS partsS
      rw [if_neg (by omega), if_neg (by omega), if_pos h5', sub_fld h5' (by omega)]
      simp [show j < u.2.2.2.1.length by omega]
    exact alike_next h ht hu e1 e2

section
variable {l : List Typ} (hv : Valid l)
include hv

theorem ext_alike {i : Int} (h0 : 0 ≤ i) (h1 : i < l.length) : ∀ k : Int, 0 ≤ k → k < l.length → Alike l i k → ext (exS l) i = ext (exS l) k := by
  refine typ_ind hv.2.1 (P := fun i => ∀ k : Int, 0 ≤ k → k < l.length → Alike l i k → ext (exS l) i = ext (exS l) k) ?_ (i.toNat + 1) i (by omega) h0 h1
  intro i t ht ih k hk0 hk1 hal
  obtain ⟨u, hu⟩ := getI_in hk0 hk1
  obtain ⟨f1, f2⟩ := alike_comp ht hu hal
  have hform := hal i k .self t u ht hu
  obtain ⟨_, f3, f4⟩ := formB_iff.1 hform
  have hsub : ∀ hc : isC t, ∀ j, j < cnt t → ext (exS l) (sub t j) = ext (exS l) (sub u j) := fun hc j hj => by
    have hcu : isC u := by unfold isC at hc ⊢; rwa [← f1]
    have := sub_lt hv.2.1 hu hcu (j := j) (by have := (f2 hc).1; omega)
    exact ih hc j hj _ this.1 (by omega) ((f2 hc).2 j hj)
  rw [ext_at hv.2.1 ht, ext_at hv.2.1 hu]
  unfold extOne
  rw [← f1, ← f3]
  split
  · rfl
  split
  · rfl
  split
  · rfl
  split
  · rename_i h6
    have hc := cnt_pos (.inl h6) (built_at hv.2.1 ht)
    have e := hsub (.inl h6) 0 (by omega)
    unfold sub at e
    rw [if_pos h6, if_pos (by omega)] at e
    unfold sz al
    rw [e]
  split
  · rename_i h6 h5
    have hfl : t.2.2.2.1.length = u.2.2.2.1.length := by
      have := congrArg List.length f4
      simpa using this
    have e : togS (exS l) t.2.2.2.1 = togS (exS l) u.2.2.2.1 := togS_same _ _ _ hfl fun j h1 h2 => by
      have := hsub (.inr h5) j (by unfold cnt; rw [if_neg h6]; exact h1)
      rwa [sub_fld h5 h1, sub_fld (by omega) h2] at this
    rw [e]
  · rfl

theorem CS_alike {i : Int} (h0 : 0 ≤ i) (h1 : i < l.length) : ∀ k : Int, 0 ≤ k → k < l.length → Alike l i k → ∀ b, All2 (fun c d => c.1 = d.1 ∧ Alike l c.2.1 d.2.1) (CS l i b) (CS l k b) := by
  refine typ_ind hv.2.1 (P := fun i => ∀ k : Int, 0 ≤ k → k < l.length → Alike l i k → ∀ b, All2 (fun c d => c.1 = d.1 ∧ Alike l c.2.1 d.2.1) (CS l i b) (CS l k b)) ?_ (i.toNat + 1) i (by omega) h0 h1
  intro i t ht ih k hk0 hk1 hal b
  obtain ⟨u, hu⟩ := getI_in hk0 hk1
  obtain ⟨f1, f2⟩ := alike_comp ht hu hal
  by_cases hc : isC t
  · have hcu : isC u := by unfold isC at hc ⊢; rwa [← f1]
    obtain ⟨hcnt, hs⟩ := f2 hc
    rw [CS_comp hv.2.1 ht hc, CS_comp hv.2.1 hu hcu, ← hcnt]
    refine All2.flat _ fun j hj => ?_
    have hju : j < cnt u := by omega
    have hsu := sub_lt hv.2.1 hu hcu hju
    have hst := sub_lt hv.2.1 ht hc hj
    obtain ⟨_, hi1, _, _⟩ := getI_some ht
    have hoff : off (exS l) t j = off (exS l) u j := by
      have hx : ∀ j, j < cnt t → ext (exS l) (sub t j) = ext (exS l) (sub u j) := fun j hj => by
        have h1 := sub_lt hv.2.1 hu hcu (j := j) (by omega)
        have h2 := sub_lt hv.2.1 ht hc hj
        exact ext_alike hv h2.1 (by omega) _ h1.1 (by omega) (hs j hj)
      unfold off
      by_cases h6 : t.1 = 6
      · have h6' : u.1 = 6 := by omega
        rw [if_pos h6, if_pos h6']
        have e := hx j hj
        unfold sub at e
        rw [if_pos h6, if_pos h6'] at e
        unfold sz
        rw [e]
      · have h5 : t.1 = 5 := hc.resolve_left h6
        have h5' : u.1 = 5 := by omega
        have hfl : t.2.2.2.1.length = u.2.2.2.1.length := by
          unfold cnt at hcnt
          rwa [if_neg h6, if_neg (by omega)] at hcnt
        rw [if_neg h6, if_neg (by omega), togS_same (exS l) t.2.2.2.1 u.2.2.2.1 hfl fun j h1 h2 => by
          have := hx j (by unfold cnt; rw [if_neg h6]; exact h1)
          rwa [sub_fld h5 h1, sub_fld h5' h2] at this]
    rw [hoff]
    exact ih hc j hj _ hsu.1 (by omega) (hs j hj) _
  · have hcu : ¬ isC u := by unfold isC at hc ⊢; rwa [← f1]
    rw [CS_leaf ht hc, CS_leaf hu hcu]
    exact ⟨⟨rfl, hal⟩, trivial⟩

theorem padS_alike : ∀ {a b : List Cel}, (∀ c ∈ a, 0 ≤ c.2.1 ∧ c.2.1 < l.length) → (∀ c ∈ b, 0 ≤ c.2.1 ∧ c.2.1 < l.length) → All2 (fun c d => c.1 = d.1 ∧ Alike l c.2.1 d.2.1) a b → ∀ e hi, padS (exS l) a e hi = padS (exS l) b e hi
  | [], [], _, _, _, e, hi => rfl
  | c :: a, d :: b, h1, h2, h, e, hi => by
    have hc := h1 c (by simp)
    have hd := h2 d (by simp)
    have hx := ext_alike hv hc.1 hc.2 _ hd.1 hd.2 h.1.2
    unfold padS sz
    rw [h.1.1, hx]
    congr 1
    exact padS_alike (fun c hc => h1 c (by simp [hc])) (fun c hc => h2 c (by simp [hc])) h.2 _ _
  | [], _ :: _, _, _, h, _, _ => h.elim
  | _ :: _, [], _, _, h, _, _ => h.elim
end
end Go.Proofs.Ytnhiaoabhjjegaa

set_option linter.unusedVariables false
set_option linter.unusedSimpArgs false
set_option maxRecDepth 100000
namespace Go.Proofs.Ytnhiaoabhjjegaa
open Go.Lift

section
variable {l : List Typ} (hv : Valid l) {i : Int} {t : Typ} (ht : getI l i = some t) (hk : isC t)
include hv ht hk
theorem fin_mono {j : Nat} : ∀ k, j ≤ k → k ≤ cnt t → fin (exS l) t j ≤ fin (exS l) t k
  | 0, h, _ => by rw [show j = 0 by omega]; exact Int.le_refl _
  | k + 1, h, h' => by
    by_cases e : j = k + 1
    · rw [e]; exact Int.le_refl _
    · have h1 := fin_mono (j := j) k (by omega) (by omega)
      have h2 := comp_step hv ht hk (j := k) (by omega)
      have h3 := sub_ok hv ht hk (j := k) (by omega)
      omega
theorem off_ok {j : Nat} (hj : j < cnt t) : 0 ≤ off (exS l) t j ∧ off (exS l) t j + sz (exS l) (sub t j) ≤ sz (exS l) i := by
  have h1 := fin_mono hv ht hk (j := 0) j (by omega) (by omega)
  have h2 := fin_mono hv ht hk (j := j + 1) (cnt t) (by omega) (Nat.le_refl _)
  have h3 := comp_step hv ht hk hj
  have h4 := comp_last hv ht hk
  rw [comp_zero] at h1
  omega
theorem cellsTo_len (b : Int) : ∀ k, k ≤ cnt t → ((cellsTo l t b k).length : Int) ≤ sz (exS l) i := by
  have h4 := comp_last hv ht hk
  have run : ∀ k, k ≤ cnt t → ((cellsTo l t b k).length : Int) ≤ fin (exS l) t k := by
    intro k
    induction k with
    | zero => intro _; rw [comp_zero]; exact Int.le_refl _
    | succ k ih =>
      intro hk'
      have h1 := ih (by omega)
      have h2 := comp_step hv ht hk (j := k) (by omega)
      have hs := sub_lt hv.2.1 ht hk (j := k) (by omega)
      obtain ⟨_, hi1, _, _⟩ := getI_some ht
      have h3 := CS_len hv hs.1 (by omega) (b + off (exS l) t k)
      rw [cellsTo_succ, List.length_append, Int.natCast_add]
      omega
  intro k hk'
  have h1 := run k hk'
  have h2 := fin_mono hv ht hk (j := k) (cnt t) hk' (Nat.le_refl _)
  omega
end

theorem cS_succ (k x) : rlayout_cells (k + 1) x = nlayout_cells (rlayout_cells k) (iterV (glayout_cells_0 (rlayout_cells k) big) big) (iterV (glayout_cells_1 (rlayout_cells k) big) big) x := rfl

theorem cells_rec {l : List Typ} (hv : Valid l) : ∀ (k : Nat) (i b : Int), i.toNat < k → 0 ≤ i → i < l.length → 0 ≤ b → b + sz (exS l) i ≤ 100000 → sz (exS l) i ≤ 256 → rlayout_cells k (l, exS l, i, b) = some (CS l i b)
  | 0, _, _, h, _, _, _, _, _ => by omega
  | k + 1, i, b, hk, h0, h1, hb0, hb1, hs => by
    have hlen := hv.1
    have hel := exS_len l
    obtain ⟨t, ht⟩ := getI_in h0 h1
    have hbt := built_at hv.2.1 ht
    rw [cS_succ]
    unfold nlayout_cells
    dsimp only
    rw [ht, Option.bind_some]
    by_cases h6 : t.1 = 6
    · have hc : isC t := .inl h6
      have hx := built_arr hbt h6
      rw [show (t.1 == 6) = true from decide_eq_true h6, cond_true]
      have hcnt : (cnt t : Int) = t.2.2.1 := by unfold cnt; rw [if_pos h6]; omega
      refine range_post (g := glayout_cells_0 (rlayout_cells k) big) (n := cnt t) (fun (r : List Cel) (j : Nat) => (l, exS l, b, t.2.2.1, (j : Int), r, t)) (fun j r => r = cellsTo l t b j) (fun q => q = some (CS l i b)) ?_ ?_
        (cnt t) 0 big (by simp) (by unfold big; omega) _ (by simp [cellsTo])
      · rintro self r rfl
        show hlayout_cells_0 _ self _ = _
        unfold hlayout_cells_0
        dsimp only
        rw [decide_eq_false (by omega), cond_false, CS_comp hv.2.1 ht hc]
      · rintro self r j hj rfl
        left
        refine ⟨_, rfl, ?_⟩
        have ho := off_ok hv ht hc hj
        have hsj := sub_ok hv ht hc hj
        have hcl := cellsTo_len hv ht hc b j (by omega)
        have hsl := CS_len hv (i := sub t j) (by have := sub_lt hv.2.1 ht hc hj; omega) (by have := sub_lt hv.2.1 ht hc hj; omega) (b + off (exS l) t j)
        have e1 : sub t j = t.2.1 := by unfold sub; rw [if_pos h6]
        have e2 : (j : Int) * (ext (exS l) t.2.1).1 = off (exS l) t j := by unfold off; rw [if_pos h6]
        rw [cellsTo_succ]
        have ih := cells_rec hv k (sub t j) (b + off (exS l) t j) (by omega) (by omega) (by omega) (by omega) (by omega) (by omega)
        rw [e1] at ho hsj hsl ih ⊢
        show hlayout_cells_0 _ self _ = _
        unfold hlayout_cells_0
        dsimp only
        rw [decide_eq_true (by omega), cond_true, getI_ext hx.1 (by omega), Option.bind_some, e2, wrap_i64 (n := off (exS l) t j) (by omega) (by omega), wrap_i64 (n := b + off (exS l) t j) (by omega) (by omega), ih, Option.bind_some, ble_k rfl (by omega), cond_true, wrap_succ hj (by have := maxLen_ge; omega)]
        rfl
    rw [show (t.1 == 6) = false from decide_eq_false h6, cond_false]
    by_cases h5 : t.1 = 5
    · have hc : isC t := .inr h5
      have hx := built_str hbt h5
      obtain ⟨g1, g2⟩ := strS_fits hv ht h5
      have hcnt : cnt t = t.2.2.2.1.length := by unfold cnt; rw [if_neg h6]
      have hat := togS_len (exS l) t.2.2.2.1
      rw [show (t.1 == 5) = true from decide_eq_true h5, cond_true, together_eq g1 g2 (fun f hf => by have := hx.2 f hf; omega) (by omega), Option.bind_some]
      refine range_post (g := glayout_cells_1 (rlayout_cells k) big) (n := t.2.2.2.1.length) (fun (r : List Cel) (j : Nat) => (l, exS l, b, t.2.2.2.1, (t.2.2.2.1.length : Int), (j : Int), r, (togS (exS l) t.2.2.2.1).1)) (fun j r => r = cellsTo l t b j) (fun q => q = some (CS l i b)) ?_ ?_
        t.2.2.2.1.length 0 big (by simp) (by unfold big; omega) _ (by simp [cellsTo])
      · rintro self r rfl
        show hlayout_cells_1 _ self _ = _
        unfold hlayout_cells_1
        dsimp only
        rw [decide_eq_false (by omega), cond_false, CS_comp hv.2.1 ht hc, hcnt]
      · rintro self r j hj rfl
        left
        refine ⟨_, rfl, ?_⟩
        have hj' : j < cnt t := by omega
        have ho := off_ok hv ht hc hj'
        have hsj := sub_ok hv ht hc hj'
        have hcl := cellsTo_len hv ht hc b j (by omega)
        have hlt := sub_lt hv.2.1 ht hc hj'
        have hsl := CS_len hv (i := sub t j) (by omega) (by omega) (b + off (exS l) t j)
        have e1 := sub_fld h5 hj
        have e2 : (togS (exS l) t.2.2.2.1).1.getD (Int.toNat (j : Int)) 0 = off (exS l) t j := by unfold off; rw [if_neg h6, Int.toNat_natCast]
        rw [cellsTo_succ]
        have ih := cells_rec hv k (sub t j) (b + off (exS l) t j) (by omega) (by omega) (by omega) (by omega) (by omega) (by omega)
        show hlayout_cells_1 _ self _ = _
        unfold hlayout_cells_1
        dsimp only
        rw [decide_eq_true (by omega), cond_true, getI_at hj, Option.bind_some, decide_eq_true (by omega), decide_eq_true (by omega), Bool.true_and, cond_true, nth_getD (by omega) (by omega), Option.bind_some, e2, wrap_i64 (n := b + off (exS l) t j) (by omega) (by omega), ← e1, ih, Option.bind_some, ble_k rfl (by omega), cond_true, wrap_succ hj (by have := maxLen_ge; omega)]
        rfl
    · rw [show (t.1 == 5) = false from decide_eq_false h5, cond_false, ble_k rfl (by show 0 + 1 ≤ 10000; decide), cond_true, CS_leaf ht (fun h => by rcases h with h | h <;> omega)]
      rfl

theorem cells_eq {l : List Typ} (hv : Valid l) {i : Int} (h0 : 0 ≤ i) (h1 : i < l.length) (hs : sz (exS l) i ≤ 256) : clayout_cells (l, exS l, i, 0) = some (CS l i 0) :=
  cells_rec hv big i 0 (by have := hv.1; unfold big; omega) h0 h1 (by decide) (by omega) hs

theorem Cells_eq (l : List Typ) (i : Int) : clayout_Cells (l, i) = some (if errS l i = 0 then CS l i 0 else [], errS l i) := by
  show nlayout_Cells _ = _
  unfold nlayout_Cells
  dsimp only
  rw [measured_eq, Option.bind_some]
  by_cases h : errS l i = 0
  · obtain ⟨hv, h0, h1, hs⟩ := errS_ok h
    simp only [h, if_true]
    rw [show ((0 : Int) != 0) = false from rfl, cond_false, cells_eq hv h0 h1 hs]
    rfl
  · simp only [if_neg h]
    rw [show (errS l i != 0) = true by simpa using h, cond_true]

/-! ### padding -/
theorem pad_fin (self0) (e hi : Int) (he : 0 ≤ e) (he' : e ≤ hi) (hh : hi ≤ 1000) (r : List Int) (hr : r.length ≤ 1000) : iterV (glayout_Padding_2 big self0) big (hi, e, r) = some (r ++ rng e hi, 0) := by
  have := range_post (g := glayout_Padding_2 big self0) (n := (hi - e).toNat) (fun (s : List Int) (k : Nat) => (hi, e + (k : Int), s)) (fun k s => s = r ++ rng e (e + k)) (fun q => q = some (r ++ rng e hi, 0)) ?_ ?_
    (hi - e).toNat 0 big (by simp) (by unfold big; omega) r (by rw [rng_nil (by simp)]; simp)
  · simpa using this
  · rintro self s rfl
    show hlayout_Padding_2 _ self _ = _
    unfold hlayout_Padding_2
    dsimp only
    rw [decide_eq_false (by omega), cond_false, show e + ((hi - e).toNat : Int) = hi by omega]
  · rintro self s k hk rfl
    left
    refine ⟨_, rfl, ?_⟩
    have hl := rng_len e (e + (k : Int))
    show hlayout_Padding_2 _ self _ = _
    unfold hlayout_Padding_2
    dsimp only
    rw [decide_eq_true (by omega), cond_true, ble_k rfl (by rw [List.length_append, List.length_singleton]; omega), cond_true, wrap_i64 (n := e + (k : Int) + 1) (by omega) (by omega)]
    rw [Int.natCast_succ, ← Int.add_assoc, rng_succ (by omega)]
    show self (_, _, (r ++ rng e (e + k)) ++ _) = _
    rw [List.append_assoc]

theorem pad_one (self0) (S : List Ext) (c : Cel) (cs : List Cel) (i len : Int) (j : Nat) (hj : (j : Int) + 1 ≤ 1000) (hc0 : 0 ≤ c.2.1) (hc1 : c.2.1 < S.length) (e : Int) (he : 0 ≤ e) (he' : e ≤ c.1) (hh : c.1 + sz S c.2.1 ≤ 1000) (hs : 1 ≤ sz S c.2.1) (r : List Int) (hr : r.length ≤ 1000) :
    iterV (glayout_Padding_1 big self0) big (c.1, e, r, S, c, cs, i, len, (j : Int)) = self0 (i, c.1 + sz S c.2.1, len, ((j + 1 : Nat) : Int), S, r ++ rng e c.1, cs) := by
  have := range_post (g := glayout_Padding_1 big self0) (n := (c.1 - e).toNat) (fun (s : List Int) (k : Nat) => (c.1, e + (k : Int), s, S, c, cs, i, len, (j : Int))) (fun k s => s = r ++ rng e (e + k)) (fun q => q = self0 (i, c.1 + sz S c.2.1, len, ((j + 1 : Nat) : Int), S, r ++ rng e c.1, cs)) ?_ ?_
    (c.1 - e).toNat 0 big (by simp) (by unfold big; omega) r (by rw [rng_nil (by simp)]; simp)
  · simpa using this
  · rintro self s rfl
    show hlayout_Padding_1 _ self _ = _
    unfold hlayout_Padding_1
    dsimp only
    rw [decide_eq_false (by omega), cond_false, decide_eq_true hc0, decide_eq_true hc1, Bool.true_and, cond_true, nth_ext hc0 hc1, Option.bind_some, wrap_i64 (n := c.1 + (ext S c.2.1).1) (by have : sz S c.2.1 = (ext S c.2.1).1 := rfl; omega) (by have : sz S c.2.1 = (ext S c.2.1).1 := rfl; omega), wrap_i64 (n := (j : Int) + 1) (by omega) (by omega), show e + ((c.1 - e).toNat : Int) = c.1 by omega]
    rfl
  · rintro self s k hk rfl
    left
    refine ⟨_, rfl, ?_⟩
    have hl := rng_len e (e + (k : Int))
    show hlayout_Padding_1 _ self _ = _
    unfold hlayout_Padding_1
    dsimp only
    rw [decide_eq_true (by omega), cond_true, ble_k rfl (by rw [List.length_append, List.length_singleton]; omega), cond_true, wrap_i64 (n := e + (k : Int) + 1) (by omega) (by omega)]
    rw [Int.natCast_succ, ← Int.add_assoc, rng_succ (by omega)]
    show self (_, _, (r ++ rng e (e + k)) ++ _, _) = _
    rw [List.append_assoc]

theorem Padding_eq (l : List Typ) (i : Int) : clayout_Padding (l, i) = some (if errS l i = 0 then padS (exS l) (CS l i 0) 0 (sz (exS l) i) else [], errS l i) := by
  show nlayout_Padding (iterV (glayout_Padding_0 big) big) _ = _
  unfold nlayout_Padding
  dsimp only
  rw [measured_eq, Option.bind_some]
  by_cases h : errS l i = 0
  · obtain ⟨hv, h0, h1, hs⟩ := errS_ok h
    have hel := exS_len l
    have hcl := CS_len hv h0 h1 0
    simp only [h, if_true]
    rw [show ((0 : Int) != 0) = false from rfl, cond_false, cells_eq hv h0 h1 hs, Option.bind_some]
    have htile := CS_tile hv h0 h1 0
    rw [Int.zero_add] at htile
    have hmem := CS_mem hv h0 h1 0
    generalize CS l i 0 = cs at *
    have hpos : ∀ c ∈ cs, 1 ≤ sz (exS l) c.2.1 := fun c hc => (ext_ok hv (hmem c hc).1.1 (hmem c hc).1.2).1
    refine range_post (g := glayout_Padding_0 big) (n := cs.length) (fun (s : Int × List Int) (j : Nat) => (i, s.1, (cs.length : Int), (j : Int), exS l, s.2, cs)) (fun j s => 0 ≤ s.1 ∧ (s.2.length : Int) ≤ s.1 ∧ Tile (exS l) (cs.drop j) s.1 (sz (exS l) i) ∧ s.2 ++ padS (exS l) (cs.drop j) s.1 (sz (exS l) i) = padS (exS l) cs 0 (sz (exS l) i)) (fun q => q = some (padS (exS l) cs 0 (sz (exS l) i), 0)) ?_ ?_
      cs.length 0 big (by simp) (by unfold big; omega) (0, []) ⟨Int.le_refl _, Int.le_refl _, htile, rfl⟩
    · rintro self ⟨e, r⟩ ⟨i1, i2, i3, i4⟩
      dsimp only at i1 i2 i3 i4
      rw [List.drop_length] at i3 i4
      have i3 : e ≤ sz (exS l) i := i3
      show hlayout_Padding_0 _ _ self _ = _
      unfold hlayout_Padding_0
      dsimp only
      rw [decide_eq_false (by omega), cond_false, decide_eq_true h0, decide_eq_true (by omega), Bool.true_and, cond_true, nth_ext h0 (by omega), Option.bind_some, pad_fin self e _ i1 i3 (by omega) r (by omega), ← i4]
      rfl
    · rintro self ⟨e, r⟩ j hj ⟨i1, i2, i3, i4⟩
      dsimp only at i1 i2 i3 i4
      have hd : cs.drop j = cs[j] :: cs.drop (j + 1) := List.drop_eq_getElem_cons hj
      rw [hd] at i3 i4
      have hm := hmem _ (List.getElem_mem hj)
      have hp := hpos _ (List.getElem_mem hj)
      have hle := tile_len i3.2 fun c hc => hpos c (List.mem_of_mem_drop hc)
      have h3 := i3.1
      left
      refine ⟨(cs[j].1 + sz (exS l) cs[j].2.1, r ++ rng e cs[j].1), ⟨by dsimp only; omega, ?_, i3.2, ?_⟩, ?_⟩
      · dsimp only
        rw [List.length_append, rng_len]
        omega
      · dsimp only
        rw [List.append_assoc]
        exact i4
      · show hlayout_Padding_0 _ _ self _ = _
        unfold hlayout_Padding_0
        dsimp only
        rw [decide_eq_true (by omega), cond_true, decide_eq_true (by omega), Bool.true_and, cond_true, show nth cs (Int.toNat (j : Int)) = some cs[j] from List.getElem?_eq_getElem hj, Option.bind_some]
        exact pad_one self (exS l) cs[j] cs i cs.length j (by omega) hm.1.1 (by omega) e i1 h3 (by omega) hp r (by omega)
  · simp only [if_neg h]
    rw [show (errS l i != 0) = true by simpa using h, cond_true]

/-! ### offsets -/
def errO (l : List Typ) (fs : List Fld) : Int := if Valid l then (if fs.length ≤ 16 then (if ∀ f ∈ fs, 0 ≤ f.2.1 ∧ f.2.1 < l.length then (if ∀ f ∈ fs, sz (exS l) f.2.1 ≤ 256 then 0 else 16) else 2) else 4) else 8
theorem errO_ok {l : List Typ} {fs : List Fld} (h : errO l fs = 0) : Valid l ∧ fs.length ≤ 16 ∧ (∀ f ∈ fs, 0 ≤ f.2.1 ∧ f.2.1 < l.length) ∧ ∀ f ∈ fs, sz (exS l) f.2.1 ≤ 256 := by
  unfold errO at h
  split at h
  · rename_i h1
    split at h
    · rename_i h2
      split at h
      · rename_i h3
        split at h
        · rename_i h4
          exact ⟨h1, h2, h3, h4⟩
        · cases h
      · cases h
    · cases h
  · cases h
theorem sumG_const (fs : List Fld) : sumG (fun _ => 263) fs = 263 * fs.length := by
  induction fs with
  | nil => rfl
  | cons f r ih =>
    simp only [sumG, List.map_cons, List.sum_cons, List.length_cons] at ih ⊢
    omega
theorem flds_fit {l : List Typ} {fs : List Fld} (hv : Valid l) (hl : fs.length ≤ 16) (hi : ∀ f ∈ fs, 0 ≤ f.2.1 ∧ f.2.1 < l.length) (hs : ∀ f ∈ fs, sz (exS l) f.2.1 ≤ 256) : Fits (exS l) (fun _ => 263) fs ∧ sumG (fun _ => 263) fs ≤ 900000 := by
  refine ⟨fun f hf => ?_, by rw [sumG_const]; omega⟩
  have h1 := hi f hf
  have h2 := hs f hf
  have h3 := ext_ok hv h1.1 h1.2
  exact ⟨h3.1, by dsimp only; omega, h3.2.2.1⟩

theorem Offsets_eq (l : List Typ) (fs : List Fld) : clayout_Offsets (l, fs) = some (if errO l fs = 0 then ((togS (exS l) fs).1, (upS (togS (exS l) fs).2.1 (togS (exS l) fs).2.2, ((togS (exS l) fs).2.2, 0))) else ([], (0, (0, errO l fs)))) := by
  show nlayout_Offsets (iterV (glayout_Offsets_0 big) big) _ = _
  unfold nlayout_Offsets
  dsimp only
  rw [Check_eq, Option.bind_some]
  by_cases hv : Valid l
  · have hel := exS_len l
    rw [if_pos hv, show ((0 : Int) != 0) = false from rfl, cond_false]
    by_cases hl : fs.length ≤ 16
    · rw [decide_eq_false (by omega), cond_false]
      generalize hR : (some (if errO l fs = 0 then ((togS (exS l) fs).1, (upS (togS (exS l) fs).2.1 (togS (exS l) fs).2.2, ((togS (exS l) fs).2.2, (0 : Int)))) else ([], (0, (0, errO l fs))))) = R
      refine range_post (g := glayout_Offsets_0 big) (n := fs.length) (fun (_ : Unit) (j : Nat) => (l, fs, fs, (fs.length : Int), (j : Int))) (fun j _ => ∀ f ∈ fs.take j, 0 ≤ f.2.1 ∧ f.2.1 < l.length) (fun q => q = R) ?_ ?_
        fs.length 0 big (by simp) (by unfold big; omega) () (by simp)
      · rintro self _ hall
        rw [List.take_length] at hall
        show hlayout_Offsets_0 _ self _ = _
        unfold hlayout_Offsets_0
        dsimp only
        rw [decide_eq_false (by omega), cond_false, extents_eq hv, Option.bind_some]
        refine range_post (g := glayout_Offsets_1 big self) (n := fs.length) (fun (_ : Unit) (j : Nat) => (fs, fs, (fs.length : Int), (j : Int), exS l)) (fun j _ => ∀ f ∈ fs.take j, sz (exS l) f.2.1 ≤ 256) (fun q => q = R) ?_ ?_
          fs.length 0 big (by simp) (by unfold big; omega) () (by simp)
        · rintro self1 _ hsz
          rw [List.take_length] at hsz
          obtain ⟨g1, g2⟩ := flds_fit hv hl hall hsz
          have he : errO l fs = 0 := by unfold errO; rw [if_pos hv, if_pos hl, if_pos hall, if_pos hsz]
          show hlayout_Offsets_1 self self1 _ = _
          unfold hlayout_Offsets_1
          dsimp only
          rw [decide_eq_false (by omega), cond_false, together_eq g1 g2 (fun f hf => by rw [hel]; exact hall f hf) (by omega), Option.bind_some, ← hR, if_pos he]
        · rintro self1 _ j hj hsz
          have hix := hall _ (List.getElem_mem hj)
          have hst : glayout_Offsets_1 big self self1 (fs, fs, (fs.length : Int), (j : Int), exS l) = bif decide (sz (exS l) (fs[j]).2.1 > 256) then some ([], 0, 0, 16) else self1 (fs, fs, (fs.length : Int), ((j + 1 : Nat) : Int), exS l) := by
            show hlayout_Offsets_1 self self1 _ = _
            unfold hlayout_Offsets_1
            dsimp only
            rw [decide_eq_true (by omega), cond_true, getI_at hj, Option.bind_some, decide_eq_true hix.1, decide_eq_true (by omega), Bool.true_and, cond_true, nth_ext hix.1 (by omega), Option.bind_some, wrap_succ hj (by have := maxLen_ge; omega)]
          by_cases hb : sz (exS l) (fs[j]).2.1 ≤ 256
          · left
            refine ⟨(), ?_, by rw [hst, decide_eq_false (by omega), cond_false]⟩
            rw [List.take_succ_eq_append_getElem hj]
            intro f hf
            rcases List.mem_append.1 hf with hf | hf
            · exact hsz f hf
            · rw [List.mem_singleton.1 hf]; exact hb
          · right
            have he : errO l fs = 16 := by
              unfold errO
              rw [if_pos hv, if_pos hl, if_pos hall, if_neg fun h => hb (h _ (List.getElem_mem hj))]
            rw [hst, decide_eq_true (by omega), cond_true, ← hR, he, if_neg (by decide)]
      · rintro self _ j hj hall
        have hst : glayout_Offsets_0 big self (l, fs, fs, (fs.length : Int), (j : Int)) = bif !(idxB (fs[j]).2.1 l.length) then some ([], 0, 0, 2) else self (l, fs, fs, (fs.length : Int), ((j + 1 : Nat) : Int)) := by
          show hlayout_Offsets_0 _ self _ = _
          unfold hlayout_Offsets_0
          dsimp only
          rw [decide_eq_true (by omega), cond_true, getI_at hj, Option.bind_some, isIndexL_eq, Option.bind_some, wrap_succ hj (by have := maxLen_ge; omega)]
        cases hx : idxB (fs[j]).2.1 l.length with
        | true =>
          left
          refine ⟨(), ?_, by rw [hst, hx]; rfl⟩
          rw [List.take_succ_eq_append_getElem hj]
          intro f hf
          rcases List.mem_append.1 hf with hf | hf
          · exact hall f hf
          · rw [List.mem_singleton.1 hf]; exact idxB_iff.1 hx
        | false =>
          right
          have he : errO l fs = 2 := by
            unfold errO
            rw [if_pos hv, if_pos hl, if_neg]
            intro h
            have := idxB_iff.2 (h _ (List.getElem_mem hj))
            rw [hx] at this
            cases this
          rw [hst, hx, ← hR, he, if_neg (by decide)]
          rfl
    · have he : errO l fs = 4 := by unfold errO; rw [if_pos hv, if_neg hl]
      rw [decide_eq_true (by omega), cond_true, he, if_neg (by decide)]
  · have he : errO l fs = 8 := by unfold errO; rw [if_neg hv]
    rw [if_neg hv, he, if_neg (by decide)]
    rfl

theorem Round_eq (n : Int) : clayout_Round n = some (if n < 0 ∨ n > 1073741824 then (0, 2) else (upS n 8, 0)) := by
  show nlayout_Round n = _
  unfold nlayout_Round
  by_cases h1 : n < 0
  · rw [decide_eq_true h1, cond_true, if_pos (.inl h1)]
  rw [decide_eq_false h1, cond_false]
  by_cases h2 : n > 1073741824
  · rw [decide_eq_true h2, cond_true, if_pos (.inr h2)]
  rw [decide_eq_false h2, cond_false, if_neg (by omega), multiple_eq (.inr rfl) (by omega) (by omega), Option.bind_some]
end Go.Proofs.Ytnhiaoabhjjegaa

set_option linter.unusedVariables false
set_option linter.unusedSimpArgs false
set_option maxRecDepth 100000
namespace Go.Proofs.Ytnhiaoabhjjegaa
open Go.Lift

/-! ### sizes -/
abbrev szs (S : List Ext) : List Int := S.map (·.1)
abbrev als (S : List Ext) : List Int := S.map (·.2.1)
theorem getI_szs {S : List Ext} {e : Int} (h0 : 0 ≤ e) (h : e < (S.length : Int)) : getI (szs S) e = some (sz S e) := by
  obtain ⟨k, rfl⟩ := Int.eq_ofNat_of_zero_le h0
  have hk : k < S.length := by omega
  rw [getI_at (by simpa using hk)]
  simp [hk, ext, sz, al]
theorem getI_als {S : List Ext} {e : Int} (h0 : 0 ≤ e) (h : e < (S.length : Int)) : getI (als S) e = some (al S e) := by
  obtain ⟨k, rfl⟩ := Int.eq_ofNat_of_zero_le h0
  have hk : k < S.length := by omega
  rw [getI_at (by simpa using hk)]
  simp [hk, ext, sz, al]
theorem nth_szs {S : List Ext} {e : Int} (h0 : 0 ≤ e) (h : e < (S.length : Int)) : nth (szs S) (Int.toNat e) = some (sz S e) := by
  obtain ⟨k, rfl⟩ := Int.eq_ofNat_of_zero_le h0
  have hk : k < S.length := by omega
  show (szs S)[k]? = _
  simp [hk, ext, sz, al]
theorem nth_als {S : List Ext} {e : Int} (h0 : 0 ≤ e) (h : e < (S.length : Int)) : nth (als S) (Int.toNat e) = some (al S e) := by
  obtain ⟨k, rfl⟩ := Int.eq_ofNat_of_zero_le h0
  have hk : k < S.length := by omega
  show (als S)[k]? = _
  simp [hk, ext, sz, al]

theorem rtogether_eq {S : List Ext} {g : Int → Int} {fs : List Fld} (hf : Fits S g fs) (hs : sumG g fs ≤ 900000) (hi : ∀ f ∈ fs, 0 ≤ f.2.1 ∧ f.2.1 < S.length) (hl : fs.length ≤ 1000) :
    cref05_together (szs S, als S, fs) = some ((togS S fs).1, (upS (togS S fs).2.1 (togS S fs).2.2, (togS S fs).2.2)) := by
  show nref05_together (iterV (gref05_together_0 big) big) _ = _
  unfold nref05_together
  dsimp only
  refine range_post (g := gref05_together_0 big) (n := fs.length) (fun (s : List Int × (Int × Int)) (i : Nat) => (szs S, als S, fs, s.2.1, s.2.2, (i : Int), s.1)) (fun i s => s = togS S (fs.take i)) (fun r => r = some ((togS S fs).1, (upS (togS S fs).2.1 (togS S fs).2.2, (togS S fs).2.2))) ?_ ?_
    fs.length 0 big (by simp) (by unfold big; omega) ([], (0, 1)) rfl
  · rintro self s rfl
    have hb := togS_le hf hs (Nat.le_refl _)
    rw [List.take_length] at hb ⊢
    have hu := upS_ge (n := (togS S fs).2.1) hb.2.2
    show href05_together_0 self _ = _
    unfold href05_together_0
    dsimp only
    rw [decide_eq_false (by omega), cond_false, rup_eq hb.2.2 hb.1 (by omega), Option.bind_some, if_pos (by omega)]
  · rintro self s i hlt rfl
    left
    refine ⟨_, rfl, ?_⟩
    have hb := togS_le hf hs (Nat.le_of_lt hlt)
    have hfi := hf _ (List.getElem_mem hlt)
    have hix := hi _ (List.getElem_mem hlt)
    have hu := upS_ge (n := (togS S (fs.take i)).2.1) hfi.2.2
    have hb1 := togS_le hf hs (show i + 1 ≤ fs.length by omega)
    have hlen := togS_len S (fs.take i)
    rw [List.length_take, Nat.min_eq_left (by omega)] at hlen
    rw [togS_take S hlt] at hb1 ⊢
    unfold togStep at hb1 ⊢
    dsimp only at hb1 ⊢
    generalize togS S (fs.take i) = T at *
    show href05_together_0 self _ = _
    unfold href05_together_0
    dsimp only
    rw [decide_eq_true (by omega), cond_true, getI_at hlt, Option.bind_some, getI_als hix.1 hix.2, Option.bind_some, rup_eq hfi.2.2 hb.1 (by omega), Option.bind_some, ble_k rfl (by rw [List.length_singleton]; omega), cond_true, getI_szs hix.1 hix.2, Option.bind_some, Option.bind_some]
    rw [wrap_succ hlt (by have := maxLen_ge; omega), wrap_i64 (n := upS T.2.1 (al S fs[i].2.1) + sz S fs[i].2.1) (by omega) (by omega), if_pos (by omega), max_if]
    rfl

theorem extOne_kind {acc : List Ext} {t : Typ} {i n : Int} (h : builtB t i n = true) :
    (t.1 = 1 → extOne acc t = (1, (1, ()))) ∧ (t.1 = 3 → extOne acc t = (16, (8, ()))) ∧ (t.1 = 7 → extOne acc t = (24, (8, ()))) ∧ (t.1 = 6 → extOne acc t = (t.2.2.1 * sz acc t.2.1, (al acc t.2.1, ()))) ∧
    (t.1 = 5 → extOne acc t = (upS (togS acc t.2.2.2.1).2.1 (togS acc t.2.2.2.1).2.2, ((togS acc t.2.2.2.1).2.2, ()))) ∧ (t.1 ≠ 1 → t.1 ≠ 3 → t.1 ≠ 7 → t.1 ≠ 6 → t.1 ≠ 5 → extOne acc t = (8, (8, ()))) := by
  have hk := built_kind h
  unfold extOne
  refine ⟨fun e => ?_, fun e => ?_, fun e => ?_, fun e => ?_, fun e => ?_, fun e1 e2 e3 e4 e5 => ?_⟩
  · rw [if_neg (by omega), if_neg (by omega), if_neg (by omega), if_neg (by omega), if_neg (by omega)]
  · rw [if_neg (by omega), if_pos e]
  · rw [if_neg (by omega), if_neg (by omega), if_pos e]
  · rw [if_neg (by omega), if_neg (by omega), if_neg (by omega), if_pos e]
  · rw [if_neg (by omega), if_neg (by omega), if_neg (by omega), if_neg (by omega), if_pos e]
  · rw [if_pos (by omega)]

theorem rSizes_eq {l : List Typ} (hv : Valid l) : cref05_Sizes l = some (szs (exS l), als (exS l)) := by
  have hlen := hv.1
  show nref05_Sizes (iterV (gref05_Sizes_0 big) big) l = _
  unfold nref05_Sizes
  refine range_post (g := gref05_Sizes_0 big) (n := l.length) (fun (r : List Int × List Int) (i : Nat) => (l, (i : Int), r.1, r.2)) (fun i r => r = (szs (exGo (l.take i) []), als (exGo (l.take i) []))) (fun q => q = some (szs (exS l), als (exS l))) ?_ ?_
    l.length 0 big (by simp) (by unfold big; omega) ([], []) (by simp [exGo])
  · rintro self s rfl
    rw [List.take_length]
    show href05_Sizes_0 self _ = _
    unfold href05_Sizes_0
    dsimp only
    rw [decide_eq_false (by omega), cond_false]
    rfl
  · rintro self s i hi rfl
    left
    refine ⟨_, rfl, ?_⟩
    have hl := exT_len (l := l) (i := i) (by omega)
    have hs1 : (szs (exGo (l.take i) [])).length = i := by rw [List.length_map, hl]
    have hs2 : (als (exGo (l.take i) [])).length = i := by rw [List.length_map, hl]
    obtain ⟨k1, k3, k7, k6, k5, k0⟩ := extOne_kind (acc := exGo (l.take i) []) (hv.2.1 i hi)
    have ha6 := fun h6 => arr_bound hv hi h6
    have ha5 := fun h5 => str_fits hv hi h5
    have hx5 := fun h5 => (built_str (hv.2.1 i hi) h5)
    have e0 : exGo (l.take (i + 1)) [] = exGo (l.take i) [] ++ [extOne (exGo (l.take i) []) l[i]] := by rw [List.take_succ_eq_append_getElem hi, exGo_snoc]
    have e1 : szs (exGo (l.take (i + 1)) []) = szs (exGo (l.take i) []) ++ [(extOne (exGo (l.take i) []) l[i]).1] := by rw [e0]; simp
    have e2 : als (exGo (l.take (i + 1)) []) = als (exGo (l.take i) []) ++ [(extOne (exGo (l.take i) []) l[i]).2.1] := by rw [e0]; simp
    rw [e1, e2]
    clear e0 e1 e2
    have hget := getI_at hi
    have hsucc := wrap_succ hi (by have := maxLen_ge; omega : l.length ≤ maxLen)
    have hb1 : ∀ x : Int, (Nat.ble 1 1 && Nat.ble ((szs (exGo (l.take i) [])).length + [x].length) lim) = true := fun x => ble_k rfl (by rw [List.length_singleton]; omega)
    have hb2 : ∀ x : Int, (Nat.ble 1 1 && Nat.ble ((als (exGo (l.take i) [])).length + [x].length) lim) = true := fun x => ble_k rfl (by rw [List.length_singleton]; omega)
    generalize exGo (l.take i) [] = acc at *
    generalize l[i] = t at *
    show href05_Sizes_0 self _ = _
    unfold href05_Sizes_0
    dsimp only
    rw [decide_eq_true (by omega), cond_true, hget, Option.bind_some]
    simp only [hb1, hb2, cond_true, hsucc]
    by_cases h1 : t.1 = 1
    · rw [k1 h1, show (t.1 == 1) = true from decide_eq_true h1, cond_true]; rfl
    rw [show (t.1 == 1) = false from decide_eq_false h1, cond_false]
    by_cases h3 : t.1 = 3
    · rw [k3 h3, show (t.1 == 3) = true from decide_eq_true h3, cond_true]; rfl
    rw [show (t.1 == 3) = false from decide_eq_false h3, cond_false]
    by_cases h7 : t.1 = 7
    · rw [k7 h7, show (t.1 == 7) = true from decide_eq_true h7, cond_true]; rfl
    rw [show (t.1 == 7) = false from decide_eq_false h7, cond_false]
    by_cases h6 : t.1 = 6
    · have hx := ha6 h6
      rw [k6 h6, show (t.1 == 6) = true from decide_eq_true h6, cond_true, Option.bind_some, Option.bind_some, decide_eq_true hx.1.1, decide_eq_true (by omega), Bool.true_and, cond_true, nth_szs hx.1.1 (by omega), Option.bind_some, Option.bind_some, decide_eq_true hx.1.1, decide_eq_true (show t.2.1 < ((als acc).length : Int) by omega), Bool.true_and, cond_true, nth_als hx.1.1 (by omega), Option.bind_some, wrap_i64 (n := t.2.2.1 * sz acc t.2.1) (by omega) (by omega), if_pos (by omega)]
      rfl
    rw [show (t.1 == 6) = false from decide_eq_false h6, cond_false]
    by_cases h5 : t.1 = 5
    · obtain ⟨g1, g2⟩ := ha5 h5
      have hx := hx5 h5
      rw [k5 h5, show (t.1 == 5) = true from decide_eq_true h5, cond_true, Option.bind_some, rtogether_eq g1 g2 (fun f hf => by have := hx.2 f hf; omega) (by omega), Option.bind_some]
      rfl
    rw [show (t.1 == 5) = false from decide_eq_false h5, cond_false, k0 h1 h3 h7 h6 h5]
    rfl

theorem rAsked5_eq (l : List Typ) (hf : ∀ t ∈ l, t.2.2.2.1.length ≤ 1000) (i : Int) : cref05_Asked (l, i) = some (errS l i) := by
  show nref05_Asked _ = _
  unfold nref05_Asked
  dsimp only
  rw [rAsked_eq l hf, Option.bind_some]
  by_cases hv : Valid l
  · have hel := exS_len l
    rw [if_pos hv]
    by_cases hi : 0 ≤ i ∧ i < l.length
    · rw [if_pos ⟨hi, hi⟩, show ((0 : Int) != 0) = false from rfl, cond_false, rSizes_eq hv, Option.bind_some, decide_eq_true hi.1, decide_eq_true (by rw [List.length_map]; omega), Bool.true_and, cond_true, nth_szs hi.1 (by omega), Option.bind_some]
      by_cases hs : sz (exS l) i ≤ 256
      · rw [errS_zero hv hi.1 hi.2 hs, decide_eq_false (by omega), cond_false]
      · have : errS l i = 16 := by unfold errS; rw [if_pos hv, if_pos hi, if_neg hs]
        rw [this, decide_eq_true (by omega), cond_true]
    · have : errS l i = 2 := by unfold errS; rw [if_pos hv, if_neg hi]
      rw [if_neg fun h => hi h.1, this]
      rfl
  · have : errS l i = 8 := by unfold errS; rw [if_neg hv]
    rw [if_neg hv, this]; rfl

theorem rSize_eq (l : List Typ) (hf : ∀ t ∈ l, t.2.2.2.1.length ≤ 1000) (i : Int) : cref05_Size (l, i) = some (if errS l i = 0 then (sz (exS l) i, (al (exS l) i, 0)) else (0, (0, errS l i))) := by
  show nref05_Size _ = _
  unfold nref05_Size
  dsimp only
  rw [rAsked5_eq l hf, Option.bind_some]
  by_cases h : errS l i = 0
  · obtain ⟨hv, h0, h1, hs⟩ := errS_ok h
    have hel := exS_len l
    simp only [h, if_true]
    rw [show ((0 : Int) != 0) = false from rfl, cond_false, rSizes_eq hv, Option.bind_some, decide_eq_true h0, decide_eq_true (by rw [List.length_map]; omega), Bool.true_and, cond_true, nth_szs h0 (by omega), Option.bind_some, getI_als h0 (by omega), Option.bind_some]
  · simp only [if_neg h]
    rw [show (errS l i != 0) = true by simpa using h, cond_true]

theorem rSized_eq {l : List Typ} (hv : Valid l) {i : Int} (h0 : 0 ≤ i) (h1 : i < l.length) : cref05_Sized (l, i) = some (sz (exS l) i) := by
  have hel := exS_len l
  show nref05_Sized _ = _
  unfold nref05_Sized
  dsimp only
  rw [rSizes_eq hv, Option.bind_some, decide_eq_true h0, decide_eq_true (by rw [List.length_map]; omega), Bool.true_and, cond_true, nth_szs h0 (by omega), Option.bind_some]

theorem rTogether_eq {l : List Typ} (hv : Valid l) {g : Int → Int} {fs : List Fld} (hf : Fits (exS l) g fs) (hs : sumG g fs ≤ 900000) (hi : ∀ f ∈ fs, 0 ≤ f.2.1 ∧ f.2.1 < l.length) (hl : fs.length ≤ 1000) :
    cref05_Together (l, fs) = some ((togS (exS l) fs).1, (upS (togS (exS l) fs).2.1 (togS (exS l) fs).2.2, (togS (exS l) fs).2.2)) := by
  show nref05_Together _ = _
  unfold nref05_Together
  dsimp only
  rw [rSizes_eq hv, Option.bind_some, rtogether_eq hf hs (by rw [exS_len]; exact hi) hl, Option.bind_some]

theorem rLaid_eq {l : List Typ} (hv : Valid l) (fs : List Fld) : cref05_Laid (l, fs) = some (errO l fs) := by
  have hel := exS_len l
  show nref05_Laid (iterV (gref05_Laid_0 big) big) _ = _
  unfold nref05_Laid
  dsimp only
  by_cases hl : fs.length ≤ 16
  · rw [decide_eq_false (by omega), cond_false]
    refine range_post (g := gref05_Laid_0 big) (n := fs.length) (fun (_ : Unit) (j : Nat) => (l, fs, (j : Int))) (fun j _ => ∀ f ∈ fs.take j, 0 ≤ f.2.1 ∧ f.2.1 < l.length) (fun q => q = some (errO l fs)) ?_ ?_
      fs.length 0 big (by simp) (by unfold big; omega) () (by simp)
    · rintro self _ hall
      rw [List.take_length] at hall
      show href05_Laid_0 _ self _ = _
      unfold href05_Laid_0
      dsimp only
      rw [decide_eq_false (by omega), cond_false, rSizes_eq hv, Option.bind_some]
      refine range_post (g := gref05_Laid_1 big self) (n := fs.length) (fun (_ : Unit) (j : Nat) => (fs, (j : Int), szs (exS l))) (fun j _ => ∀ f ∈ fs.take j, sz (exS l) f.2.1 ≤ 256) (fun q => q = some (errO l fs)) ?_ ?_
        fs.length 0 big (by simp) (by unfold big; omega) () (by simp)
      · rintro self1 _ hsz
        rw [List.take_length] at hsz
        have he : errO l fs = 0 := by unfold errO; rw [if_pos hv, if_pos hl, if_pos hall, if_pos hsz]
        show href05_Laid_1 self self1 _ = _
        unfold href05_Laid_1
        dsimp only
        rw [decide_eq_false (by omega), cond_false, he]
      · rintro self1 _ j hj hsz
        have hix := hall _ (List.getElem_mem hj)
        have hst : gref05_Laid_1 big self self1 (fs, (j : Int), szs (exS l)) = bif decide (sz (exS l) (fs[j]).2.1 > 256) then some 16 else self1 (fs, ((j + 1 : Nat) : Int), szs (exS l)) := by
          show href05_Laid_1 self self1 _ = _
          unfold href05_Laid_1
          dsimp only
          rw [decide_eq_true (by omega), cond_true, getI_at hj, Option.bind_some, decide_eq_true hix.1, decide_eq_true (by rw [List.length_map]; omega), Bool.true_and, cond_true, nth_szs hix.1 (by omega), Option.bind_some, wrap_succ hj (by have := maxLen_ge; omega)]
        by_cases hb : sz (exS l) (fs[j]).2.1 ≤ 256
        · left
          refine ⟨(), ?_, by rw [hst, decide_eq_false (by omega), cond_false]⟩
          rw [List.take_succ_eq_append_getElem hj]
          intro f hf
          rcases List.mem_append.1 hf with hf | hf
          · exact hsz f hf
          · rw [List.mem_singleton.1 hf]; exact hb
        · right
          have he : errO l fs = 16 := by
            unfold errO
            rw [if_pos hv, if_pos hl, if_pos hall, if_neg fun h => hb (h _ (List.getElem_mem hj))]
          rw [hst, decide_eq_true (by omega), cond_true, he]
    · rintro self _ j hj hall
      have hst : gref05_Laid_0 big self (l, fs, (j : Int)) = bif !(idxB (fs[j]).2.1 l.length) then some 2 else self (l, fs, ((j + 1 : Nat) : Int)) := by
        show href05_Laid_0 _ self _ = _
        unfold href05_Laid_0
        dsimp only
        rw [decide_eq_true (by omega), cond_true, getI_at hj, Option.bind_some, Option.bind_some, wrap_succ hj (by have := maxLen_ge; omega)]
        unfold idxB
        by_cases h1 : (fs[j]).2.1 < 0
        · rw [decide_eq_true h1, decide_eq_false (by omega : ¬ 0 ≤ (fs[j]).2.1)]; rfl
        · rw [decide_eq_false h1, decide_eq_true (by omega : 0 ≤ (fs[j]).2.1)]
          by_cases h2 : (fs[j]).2.1 < l.length
          · rw [decide_eq_false (by omega : ¬ (fs[j]).2.1 ≥ l.length), decide_eq_true h2]; rfl
          · rw [decide_eq_true (by omega : (fs[j]).2.1 ≥ l.length), decide_eq_false h2]; rfl
      cases hx : idxB (fs[j]).2.1 l.length with
      | true =>
        left
        refine ⟨(), ?_, by rw [hst, hx]; rfl⟩
        rw [List.take_succ_eq_append_getElem hj]
        intro f hf
        rcases List.mem_append.1 hf with hf | hf
        · exact hall f hf
        · rw [List.mem_singleton.1 hf]; exact idxB_iff.1 hx
      | false =>
        right
        have he : errO l fs = 2 := by
          unfold errO
          rw [if_pos hv, if_pos hl, if_neg]
          intro h
          have := idxB_iff.2 (h _ (List.getElem_mem hj))
          rw [hx] at this
          cases this
        rw [hst, hx, he]
        rfl
  · have he : errO l fs = 4 := by unfold errO; rw [if_pos hv, if_neg hl]
    rw [decide_eq_true (by omega), cond_true, he]

theorem rOffsets_eq (l : List Typ) (hf : ∀ t ∈ l, t.2.2.2.1.length ≤ 1000) (fs : List Fld) : cref05_Offsets (l, fs) = some (if errO l fs = 0 then ((togS (exS l) fs).1, (upS (togS (exS l) fs).2.1 (togS (exS l) fs).2.2, ((togS (exS l) fs).2.2, 0))) else ([], (0, (0, errO l fs)))) := by
  show nref05_Offsets _ = _
  unfold nref05_Offsets
  dsimp only
  rw [rCheck_eq l hf, Option.bind_some]
  by_cases hv : Valid l
  · rw [if_pos hv, show ((0 : Int) != 0) = false from rfl, cond_false, rLaid_eq hv, Option.bind_some]
    by_cases h : errO l fs = 0
    · obtain ⟨_, h1, h2, h3⟩ := errO_ok h
      obtain ⟨g1, g2⟩ := flds_fit hv h1 h2 h3
      rw [if_pos h, h, show ((0 : Int) != 0) = false from rfl, cond_false, rTogether_eq hv g1 g2 h2 (by omega), Option.bind_some]
    · rw [if_neg h, show (errO l fs != 0) = true by simpa using h, cond_true]
  · have he : errO l fs = 8 := by unfold errO; rw [if_neg hv]
    rw [if_neg hv, he, if_neg (by decide)]
    rfl

theorem rRound_eq (n : Int) : cref05_Round n = some (if n < 0 ∨ n > 1073741824 then (0, 2) else (upS n 8, 0)) := by
  show nref05_Round n = _
  unfold nref05_Round
  by_cases h1 : n < 0
  · rw [decide_eq_true h1, cond_true, if_pos (.inl h1)]
  rw [decide_eq_false h1, cond_false]
  by_cases h2 : n > 1073741824
  · rw [decide_eq_true h2, cond_true, if_pos (.inr h2)]
  have e : cref05_Rounded n = some (upS n 8) := by
    show nref05_Rounded n = _
    unfold nref05_Rounded
    rw [rup_eq (.inr rfl) (by omega) (by omega), Option.bind_some]
  rw [decide_eq_false h2, cond_false, if_neg (by omega), e, Option.bind_some]

/-! ### cells -/
theorem rP_succ (k x) : rref05_Parted (k + 1) x = nref05_Parted (rref05_Parted k) (iterV (gref05_Parted_0 (rref05_Parted k) big) big) (iterV (gref05_Parted_1 (rref05_Parted k) big) big) x := rfl

theorem rParted_rec {l : List Typ} (hv : Valid l) : ∀ (k : Nat) (i b : Int), i.toNat < k → 0 ≤ i → i < l.length → 0 ≤ b → b + sz (exS l) i ≤ 100000 → sz (exS l) i ≤ 256 → rref05_Parted k (l, i, b) = some (CS l i b)
  | 0, _, _, h, _, _, _, _, _ => by omega
  | k + 1, i, b, hk, h0, h1, hb0, hb1, hs => by
    have hlen := hv.1
    have hel := exS_len l
    obtain ⟨t, ht⟩ := getI_in h0 h1
    have hbt := built_at hv.2.1 ht
    rw [rP_succ]
    unfold nref05_Parted
    dsimp only
    rw [ht, Option.bind_some]
    by_cases h6 : t.1 = 6
    · have hc : isC t := .inl h6
      have hx := built_arr hbt h6
      rw [show (t.1 == 6) = true from decide_eq_true h6, cond_true]
      have hcnt : (cnt t : Int) = t.2.2.1 := by unfold cnt; rw [if_pos h6]; omega
      refine range_post (g := gref05_Parted_0 (rref05_Parted k) big) (n := cnt t) (fun (r : List Cel) (j : Nat) => (l, i, b, (j : Int), r)) (fun j r => r = cellsTo l t b j) (fun q => q = some (CS l i b)) ?_ ?_
        (cnt t) 0 big (by simp) (by unfold big; omega) _ (by simp [cellsTo])
      · rintro self r rfl
        show href05_Parted_0 _ self _ = _
        unfold href05_Parted_0
        dsimp only
        rw [ht, Option.bind_some, decide_eq_false (by omega), cond_false, CS_comp hv.2.1 ht hc]
      · rintro self r j hj rfl
        left
        refine ⟨_, rfl, ?_⟩
        have ho := off_ok hv ht hc hj
        have hsj := sub_ok hv ht hc hj
        have hcl := cellsTo_len hv ht hc b j (by omega)
        have hsl := CS_len hv (i := sub t j) (by have := sub_lt hv.2.1 ht hc hj; omega) (by have := sub_lt hv.2.1 ht hc hj; omega) (b + off (exS l) t j)
        have e1 : sub t j = t.2.1 := by unfold sub; rw [if_pos h6]
        have e2 : (j : Int) * sz (exS l) t.2.1 = off (exS l) t j := by unfold off; rw [if_pos h6]
        rw [cellsTo_succ]
        have ih := rParted_rec hv k (sub t j) (b + off (exS l) t j) (by omega) (by omega) (by omega) (by omega) (by omega) (by omega)
        rw [e1] at ho hsj hsl ih ⊢
        show href05_Parted_0 _ self _ = _
        unfold href05_Parted_0
        dsimp only
        rw [ht, Option.bind_some, decide_eq_true (by omega), cond_true, Option.bind_some, Option.bind_some, rSized_eq hv hx.1 (by omega), Option.bind_some, e2, wrap_i64 (n := off (exS l) t j) (by omega) (by omega), wrap_i64 (n := b + off (exS l) t j) (by omega) (by omega), ih, Option.bind_some, ble_k rfl (by omega), cond_true, wrap_succ hj (by have := maxLen_ge; omega)]
        rfl
    rw [show (t.1 == 6) = false from decide_eq_false h6, cond_false]
    by_cases h5 : t.1 = 5
    · have hc : isC t := .inr h5
      have hx := built_str hbt h5
      obtain ⟨g1, g2⟩ := strS_fits hv ht h5
      have hcnt : cnt t = t.2.2.2.1.length := by unfold cnt; rw [if_neg h6]
      have hat := togS_len (exS l) t.2.2.2.1
      rw [show (t.1 == 5) = true from decide_eq_true h5, cond_true, Option.bind_some, rTogether_eq hv g1 g2 (fun f hf => by have := hx.2 f hf; omega) (by omega), Option.bind_some]
      refine range_post (g := gref05_Parted_1 (rref05_Parted k) big) (n := t.2.2.2.1.length) (fun (r : List Cel) (j : Nat) => (l, i, b, (j : Int), r, (togS (exS l) t.2.2.2.1).1)) (fun j r => r = cellsTo l t b j) (fun q => q = some (CS l i b)) ?_ ?_
        t.2.2.2.1.length 0 big (by simp) (by unfold big; omega) _ (by simp [cellsTo])
      · rintro self r rfl
        show href05_Parted_1 _ self _ = _
        unfold href05_Parted_1
        dsimp only
        rw [decide_eq_false (by omega), cond_false, CS_comp hv.2.1 ht hc, hcnt]
      · rintro self r j hj rfl
        left
        refine ⟨_, rfl, ?_⟩
        have hj' : j < cnt t := by omega
        have ho := off_ok hv ht hc hj'
        have hsj := sub_ok hv ht hc hj'
        have hcl := cellsTo_len hv ht hc b j (by omega)
        have hlt := sub_lt hv.2.1 ht hc hj'
        have hsl := CS_len hv (i := sub t j) (by omega) (by omega) (b + off (exS l) t j)
        have e1 := sub_fld h5 hj
        have e2 : (togS (exS l) t.2.2.2.1).1.getD (Int.toNat (j : Int)) 0 = off (exS l) t j := by unfold off; rw [if_neg h6, Int.toNat_natCast]
        rw [cellsTo_succ]
        have ih := rParted_rec hv k (sub t j) (b + off (exS l) t j) (by omega) (by omega) (by omega) (by omega) (by omega) (by omega)
        show href05_Parted_1 _ self _ = _
        unfold href05_Parted_1
        dsimp only
        rw [decide_eq_true (by omega), cond_true, ht, Option.bind_some, getI_at hj, Option.bind_some, decide_eq_true (by omega), Bool.true_and, cond_true, nth_getD (by omega) (by omega), Option.bind_some, e2, wrap_i64 (n := b + off (exS l) t j) (by omega) (by omega), ← e1, ih, Option.bind_some, ble_k rfl (by omega), cond_true, wrap_succ hj (by have := maxLen_ge; omega)]
        rfl
    · rw [show (t.1 == 5) = false from decide_eq_false h5, cond_false, CS_leaf ht (fun h => by rcases h with h | h <;> omega)]

theorem rCells_eq (l : List Typ) (hf : ∀ t ∈ l, t.2.2.2.1.length ≤ 1000) (i : Int) : cref05_Cells (l, i) = some (if errS l i = 0 then CS l i 0 else [], errS l i) := by
  show nref05_Cells _ = _
  unfold nref05_Cells
  dsimp only
  rw [rAsked5_eq l hf, Option.bind_some]
  by_cases h : errS l i = 0
  · obtain ⟨hv, h0, h1, hs⟩ := errS_ok h
    rw [if_pos h, h, show ((0 : Int) != 0) = false from rfl, cond_false, show cref05_Parted (l, i, 0) = some (CS l i 0) from rParted_rec hv big i 0 (by have := hv.1; unfold big; omega) h0 h1 (by decide) (by omega) hs, Option.bind_some]
  · rw [if_neg h, show (errS l i != 0) = true by simpa using h, cond_true]

/-! ### padding -/
theorem set_map {α : Type} (N x : Nat) (f : Nat → α) (v : α) : ((List.range N).map f).set x v = (List.range N).map fun m => if m = x then v else f m := by
  apply List.ext_getElem (by simp)
  intro n h1 h2
  rw [List.getElem_set]
  simp only [List.getElem_map, List.getElem_range]
  by_cases e : n = x
  · rw [if_pos e, if_pos e.symm]
  · rw [if_neg e, if_neg fun h => e h.symm]
theorem nth_map {α : Type} {N x : Nat} (f : Nat → α) (h : x < N) : nth ((List.range N).map f) x = some (f x) := by
  show ((List.range N).map f)[x]? = _
  simp [h]
theorem rep_map {α : Type} (N : Nat) (v : α) : List.replicate N v = (List.range N).map fun _ => v := by
  apply List.ext_getElem (by simp)
  intro n h1 h2
  simp
theorem map_same {α : Type} {N : Nat} {f g : Nat → α} (h : ∀ m, m < N → f m = g m) : (List.range N).map f = (List.range N).map g :=
  List.map_congr_left fun m hm => h m (List.mem_range.1 hm)

theorem rpad_one (self0) (S : List Ext) (cs : List Cel) (N k : Nat) (hk : k < cs.length) (hkl : cs.length ≤ 1000) (hN : N ≤ 1000) (hc0 : 0 ≤ (cs[k]).2.1) (hc1 : (cs[k]).2.1 < S.length) (h1 : 0 ≤ (cs[k]).1) (h2 : (cs[k]).1 + sz S (cs[k]).2.1 ≤ N) (h3 : 1 ≤ sz S (cs[k]).2.1) (f : Nat → Bool) :
    iterV (gref05_Padding_1 (fun _ => List.replicate) big self0) big ((k : Int), 0, cs, szs S, (List.range N).map f) = self0 (((k + 1 : Nat) : Int), cs, szs S, (List.range N).map fun m => f m || (decide ((cs[k]).1 ≤ (m : Int)) && decide ((m : Int) < (cs[k]).1 + sz S (cs[k]).2.1))) := by
  refine range_post (g := gref05_Padding_1 (fun _ => List.replicate) big self0) (n := (sz S (cs[k]).2.1).toNat) (fun (s : List Bool) (n : Nat) => ((k : Int), (n : Int), cs, szs S, s)) (fun n s => s = (List.range N).map fun m => f m || (decide ((cs[k]).1 ≤ (m : Int)) && decide ((m : Int) < (cs[k]).1 + n))) (fun q => q = self0 (((k + 1 : Nat) : Int), cs, szs S, (List.range N).map fun m => f m || (decide ((cs[k]).1 ≤ (m : Int)) && decide ((m : Int) < (cs[k]).1 + sz S (cs[k]).2.1)))) ?_ ?_
    (sz S (cs[k]).2.1).toNat 0 big (by simp) (by unfold big; omega) _ (map_same fun m hm => by
      by_cases h : (cs[k]).1 ≤ (m : Int)
      · rw [decide_eq_false (by omega : ¬ (m : Int) < (cs[k]).1 + ((0 : Nat) : Int)), Bool.and_false, Bool.or_false]
      · rw [decide_eq_false h, Bool.false_and, Bool.or_false])
  all_goals
    have ek : nth cs (Int.toNat (k : Int)) = some cs[k] := List.getElem?_eq_getElem hk
    have d1 : decide (0 ≤ (k : Int)) = true := decide_eq_true (by omega)
    have d2 : decide ((k : Int) < (cs.length : Int)) = true := decide_eq_true (by omega)
    have d3 : decide (0 ≤ (cs[k]).2.1) = true := decide_eq_true hc0
    have d4 : decide ((cs[k]).2.1 < ((szs S).length : Int)) = true := decide_eq_true (by rw [List.length_map]; exact hc1)
  · rintro self s rfl
    show href05_Padding_1 _ self0 self _ = _
    unfold href05_Padding_1
    dsimp only
    simp only [d1, d2, Bool.and_self, cond_true, ek, Option.bind_some, d3, d4, nth_szs hc0 hc1]
    rw [decide_eq_false (by omega), cond_false, wrap_succ hk (by have := maxLen_ge; omega), Int.toNat_of_nonneg (by omega)]
  · rintro self s n hn rfl
    left
    refine ⟨_, rfl, ?_⟩
    show href05_Padding_1 _ self0 self _ = _
    unfold href05_Padding_1
    dsimp only
    simp only [d1, d2, Bool.and_self, cond_true, ek, Option.bind_some, d3, d4, nth_szs hc0 hc1]
    rw [decide_eq_true (by omega), cond_true, wrap_i64 (n := (cs[k]).1 + (n : Int)) (by omega) (by omega), decide_eq_true (by omega), decide_eq_true (by simp; omega), Bool.true_and, cond_true, wrap_succ hn (by have := maxLen_ge; omega), set_map]
    rw [show ((List.range N).map fun m => if m = ((cs[k]).1 + (n : Int)).toNat then true else f m || (decide ((cs[k]).1 ≤ (m : Int)) && decide ((m : Int) < (cs[k]).1 + n))) = (List.range N).map fun m => f m || (decide ((cs[k]).1 ≤ (m : Int)) && decide ((m : Int) < (cs[k]).1 + ((n + 1 : Nat) : Int))) from map_same fun m hm => by
      by_cases e : m = ((cs[k]).1 + (n : Int)).toNat
      · rw [if_pos e, decide_eq_true (by omega), decide_eq_true (by omega)]
        simp
      · rw [if_neg e]
        congr 2
        rw [Bool.eq_iff_iff, decide_eq_true_eq, decide_eq_true_eq]
        omega]

theorem cov_snoc (S : List Ext) (cs : List Cel) (c : Cel) (n : Int) : cov S (cs ++ [c]) n = (cov S cs n || (decide (c.1 ≤ n) && decide (n < c.1 + sz S c.2.1))) := by
  unfold cov; simp

theorem rPadding_eq (l : List Typ) (hf : ∀ t ∈ l, t.2.2.2.1.length ≤ 1000) (i : Int) : cref05_Padding (l, i) = some (if errS l i = 0 then padS (exS l) (CS l i 0) 0 (sz (exS l) i) else [], errS l i) := by
  show nref05_Padding _ (iterV (gref05_Padding_0 _ big) big) _ = _
  unfold nref05_Padding
  dsimp only
  rw [rCells_eq l hf, Option.bind_some]
  by_cases h : errS l i = 0
  · obtain ⟨hv, h0, h1, hs⟩ := errS_ok h
    have hel := exS_len l
    have hcl := CS_len hv h0 h1 0
    have hext := ext_ok hv h0 h1
    simp only [h, if_true]
    have htile := CS_tile hv h0 h1 0
    rw [Int.zero_add] at htile
    have hmem := CS_mem hv h0 h1 0
    generalize CS l i 0 = cs at *
    have hpos : ∀ c ∈ cs, 1 ≤ sz (exS l) c.2.1 := fun c hc => (ext_ok hv (hmem c hc).1.1 (hmem c hc).1.2).1
    have hlow := tile_low htile hpos
    rw [show ((0 : Int) != 0) = false from rfl, cond_false, rSizes_eq hv, Option.bind_some, decide_eq_true h0, decide_eq_true (by rw [List.length_map]; omega), Bool.true_and, cond_true, nth_szs h0 (by omega), Option.bind_some, decide_eq_true (by omega), decide_eq_true (by omega), decide_eq_true (by omega)]
    simp only [Bool.and_true, cond_true]
    rw [padS_filter htile hpos]
    have hN : ∃ N : Nat, sz (exS l) i = N ∧ N ≤ 256 := ⟨(sz (exS l) i).toNat, by omega, by omega⟩
    obtain ⟨N, hN, hN2⟩ := hN
    rw [hN, Int.toNat_natCast]
    rw [rep_map]
    refine range_post (g := gref05_Padding_0 (fun _ => List.replicate) big) (n := cs.length) (fun (s : List Bool) (j : Nat) => ((j : Int), cs, szs (exS l), s)) (fun j s => s = (List.range N).map fun (m : Nat) => cov (exS l) (cs.take j) (m : Int)) (fun q => q = some ((rng 0 N).filter (fun n => !cov (exS l) cs n), 0)) ?_ ?_
      cs.length 0 big (by simp) (by unfold big; omega) _ (map_same fun m hm => rfl)
    · rintro self s rfl
      rw [List.take_length]
      show href05_Padding_0 _ _ _ self _ = _
      unfold href05_Padding_0
      dsimp only
      rw [decide_eq_false (by omega), cond_false]
      refine range_post (g := gref05_Padding_2 (fun _ => List.replicate) big self) (n := N) (fun (r : List Int) (j : Nat) => ((j : Int), (List.range N).map (fun (m : Nat) => cov (exS l) cs m), r)) (fun j r => r = (rng 0 j).filter (fun n => !cov (exS l) cs n)) (fun q => q = some ((rng 0 N).filter (fun n => !cov (exS l) cs n), 0)) ?_ ?_
        N 0 big (by simp) (by unfold big; omega) _ (by rw [rng_nil (by simp)]; rfl)
      · rintro self1 r rfl
        show href05_Padding_2 _ self self1 _ = _
        unfold href05_Padding_2
        dsimp only
        rw [decide_eq_false (by simp), cond_false]
      · rintro self1 r j hj rfl
        left
        refine ⟨_, rfl, ?_⟩
        have hle : ((rng 0 (j : Int)).filter (fun n => !cov (exS l) cs n)).length ≤ j := by
          have := List.length_filter_le (fun n => !cov (exS l) cs n) (rng 0 (j : Int))
          rw [rng_len] at this
          omega
        rw [Int.natCast_succ, rng_succ (by omega), List.filter_append]
        show href05_Padding_2 _ self self1 _ = _
        unfold href05_Padding_2
        dsimp only
        have d1 : decide ((j : Int) < (((List.range N).map (fun (m : Nat) => cov (exS l) cs m)).length : Int)) = true := decide_eq_true (by simp; omega)
        have d2 : decide (0 ≤ (j : Int)) = true := decide_eq_true (by omega)
        simp only [d1, d2, Bool.and_self, cond_true, Int.toNat_natCast, nth_map _ hj, Option.bind_some]
        have hsucc := wrap_succ hj (by have := maxLen_ge; omega)
        rw [hsucc]
        cases hc : cov (exS l) cs (j : Int) with
        | true =>
          rw [Bool.not_true, cond_false]
          simp [hc]
        | false =>
          rw [Bool.not_false, cond_true, ble_k rfl (by rw [List.length_singleton]; omega), cond_true]
          simp [hc]
    · rintro self s j hj rfl
      left
      refine ⟨_, rfl, ?_⟩
      have hm := hmem _ (List.getElem_mem hj)
      have hp := hpos _ (List.getElem_mem hj)
      have hl := hlow _ (List.getElem_mem hj)
      show href05_Padding_0 _ _ _ self _ = _
      unfold href05_Padding_0
      dsimp only
      rw [decide_eq_true (by omega), cond_true]
      refine (rpad_one self (exS l) cs N j hj (by omega) (by omega) hm.1.1 (by omega) hl.1 (by have h9 := hl.2; have h8 := hN; omega) hp _).trans ?_
      congr 4
      refine map_same fun m _ => ?_
      rw [List.take_succ_eq_append_getElem hj, cov_snoc]
  · simp only [if_neg h]
    rw [show (errS l i != 0) = true by simpa using h, cond_true]

/-! ### comparisons -/
theorem rSame_refl (a : List Cel) (h : a.length ≤ 1000) : cref05_Same (a, a) = some true := by
  show nref05_Same (iterV (gref05_Same_0 big) big) _ = _
  unfold nref05_Same
  dsimp only
  rw [show ((a.length : Int) != (a.length : Int)) = false by simp, cond_false]
  refine range_post (g := gref05_Same_0 big) (n := a.length) (fun (_ : Unit) (i : Nat) => (a, a, (i : Int))) (fun _ _ => True) (fun r => r = some true) ?_ ?_
    a.length 0 big (by simp) (by unfold big; omega) () trivial
  · intro self _ _
    show href05_Same_0 self _ = _
    unfold href05_Same_0
    dsimp only
    rw [decide_eq_false (by omega), cond_false]
  · intro self _ i hi _
    left
    refine ⟨(), trivial, ?_⟩
    show href05_Same_0 self _ = _
    unfold href05_Same_0
    dsimp only
    rw [decide_eq_true (by omega), cond_true, getI_at hi, Option.bind_some, Option.bind_some, eqD_self, Bool.not_true, cond_false, wrap_succ hi (by have := maxLen_ge; omega)]
theorem rSameFields_refl (a : List Fld) (h : a.length ≤ 1000) : cref04_SameFields (a, a) = some true := by
  show nref04_SameFields (iterV (gref04_SameFields_0 big) big) _ = _
  unfold nref04_SameFields
  dsimp only
  rw [show ((a.length : Int) != (a.length : Int)) = false by simp, cond_false]
  refine range_post (g := gref04_SameFields_0 big) (n := a.length) (fun (_ : Unit) (i : Nat) => (a, a, (i : Int))) (fun _ _ => True) (fun r => r = some true) ?_ ?_
    a.length 0 big (by simp) (by unfold big; omega) () trivial
  · intro self _ _
    show href04_SameFields_0 self _ = _
    unfold href04_SameFields_0
    dsimp only
    rw [decide_eq_false (by omega), cond_false]
  · intro self _ i hi _
    left
    refine ⟨(), trivial, ?_⟩
    show href04_SameFields_0 self _ = _
    unfold href04_SameFields_0
    dsimp only
    rw [decide_eq_true (by omega), cond_true, getI_at hi, Option.bind_some, Option.bind_some, eqD_self, Bool.not_true, cond_false, wrap_succ hi (by have := maxLen_ge; omega)]
theorem rSameTable_refl (a : List Typ) (h : a.length ≤ 1000) (hf : ∀ t ∈ a, t.2.2.2.1.length ≤ 1000) : cref04_SameTable (a, a) = some true := by
  show nref04_SameTable (iterV (gref04_SameTable_0 big) big) _ = _
  unfold nref04_SameTable
  dsimp only
  rw [show ((a.length : Int) != (a.length : Int)) = false by simp, cond_false]
  refine range_post (g := gref04_SameTable_0 big) (n := a.length) (fun (_ : Unit) (i : Nat) => (a, a, (i : Int))) (fun _ _ => True) (fun r => r = some true) ?_ ?_
    a.length 0 big (by simp) (by unfold big; omega) () trivial
  · intro self _ _
    show href04_SameTable_0 self _ = _
    unfold href04_SameTable_0
    dsimp only
    rw [decide_eq_false (by omega), cond_false]
  · intro self _ i hi _
    left
    refine ⟨(), trivial, ?_⟩
    show href04_SameTable_0 self _ = _
    unfold href04_SameTable_0
    dsimp only
    have hn : ∀ x : Int, (x != x) = false := fun x => by simp
    simp only [getI_at hi, Option.bind_some, hn, cond_false, rSameFields_refl _ (hf _ (List.getElem_mem hi)), Bool.not_true]
    rw [decide_eq_true (by omega), cond_true, wrap_succ hi (by have := maxLen_ge; omega)]
end Go.Proofs.Ytnhiaoabhjjegaa
