/- Parts of what is known, and what a value stands for as plain data. -/
import Derived.Test.YtlmhokakghbciaaRiA
namespace Go.Lift
open Go.RowKit

/-- a computation that hands its result on -/
def PC {X : Type} (F : (β : Type) → (X → Option β) → Option β) : Prop :=
  ∀ (β : Type) (k : X → Option β) (r : β), F β k = some r → ∃ x, (∀ (γ : Type) (k' : X → Option γ), F γ k' = k' x) ∧ k x = some r

theorem PC.ret {X : Type} (x : X) : PC (fun _ (k : X → Option _) => k x) := fun _ _ _ h => ⟨x, fun _ _ => rfl, h⟩
theorem PC.none {X : Type} : PC (X := X) (fun _ _ => Option.none) := fun _ _ _ h => by cases h
theorem PC.bind {X γ : Type} {x : Option γ} {g : (β : Type) → γ → (X → Option β) → Option β} (h : ∀ y, PC (fun β k => g β y k)) : PC (fun β k => x.bind fun y => g β y k) := fun β k r hk => by
  obtain ⟨y, rfl, hk⟩ := Option.bind_eq_some_iff.1 hk
  exact h y β k r hk
theorem PC.bif {X : Type} {c : Bool} {f g : (β : Type) → (X → Option β) → Option β} (hf : PC f) (hg : PC g) : PC (fun β k => bif c then f β k else g β k) := fun β k r hk => by
  cases c with
  | true => exact hf β k r hk
  | false => exact hg β k r hk
theorem PC.ite {X : Type} {c : Prop} [Decidable c] {f g : (β : Type) → (X → Option β) → Option β} (hf : PC f) (hg : PC g) : PC (fun β k => if c then f β k else g β k) := fun β k r hk => by
  by_cases hc : c
  · simp only [hc, if_true] at hk ⊢; exact hf β k r hk
  · simp only [hc, if_false] at hk ⊢; exact hg β k r hk
theorem PC.comp {X Y : Type} {F : (β : Type) → (X → Option β) → Option β} {G : (β : Type) → X → (Y → Option β) → Option β} (hF : PC F) (hG : ∀ x, PC (fun β k => G β x k)) : PC (fun β k => F β fun x => G β x k) := fun β k r hk => by
  obtain ⟨x, h1, h2⟩ := hF β _ r hk
  obtain ⟨y, h3, h4⟩ := hG x β k r h2
  exact ⟨y, fun γ k' => (h1 γ _).trans (h3 γ k'), h4⟩

theorem getK_pc {X : Type} {t : Ty} {x : t.den} {p : List Step} {g : (β : Type) → TV → (X → Option β) → Option β} (h : ∀ v, PC (fun β k => g β v k)) : PC (fun β k => getK (fun v => g β v k) t x p) := by
  have : (fun β (k : X → Option β) => getK (fun v => g β v k) t x p) = (fun β k => (getP t x p).bind fun v => g β v k) := by
    funext β k; exact getK_eq _ _ _ _
  rw [this]
  exact PC.bind h

/-- a part of a content -/
def partK {α : Type} (k : Ty → RV → Option α) : Ty → RV → List Step → Option α
  | t, rv, [] => k t rv
  | .pair a _, .pair x _, .fld 0 :: p => partK k a x p
  | .pair _ b, .pair _ y, .fld (n + 1) :: p => partK k b y (.fld n :: p)
  | _, .val v, s :: p => getK (fun u => k u.1 (.val u)) v.1 v.2 (s :: p)
  | _, _, _ => none

theorem partK_pc {X : Type} {g : (β : Type) → Ty → RV → (X → Option β) → Option β} (h : ∀ t rv, PC (fun β k => g β t rv k)) : ∀ (t : Ty) (rv : RV) (p : List Step), PC (fun β k => partK (fun t rv => g β t rv k) t rv p) := by
  intro t rv p
  fun_induction partK (α := Unit) (fun _ _ => none) t rv p with
  | case1 t rv => simpa only [partK] using h t rv
  | case2 a b x y p ih => simpa only [partK] using ih
  | case3 a b x y p n ih => simpa only [partK] using ih
  | case4 t v s p => simp only [partK]; exact getK_pc fun v => h v.1 (.val v)
  | case5 t rv p h1 h2 h3 h4 =>
    have : (fun β (k : X → Option β) => partK (fun t rv => g β t rv k) t rv p) = fun _ _ => Option.none := by
      funext β k
      unfold partK
      split
      · exact (h1 rfl).elim
      · exact (h3 _ _ _ _ _ rfl rfl rfl).elim
      · exact (h4 _ _ _ _ _ _ rfl rfl rfl).elim
      · exact (h2 _ _ _ rfl rfl).elim
      · rfl
    rw [this]; exact PC.none

theorem part_ok {M : Own} {w : World} {β : Nat → Nat} {τ : Nat → Value} {L : List (Nat × Ob)} : ∀ {ty : Ty} {con : RV} {p : List Step} {off : Nat} {t2 t' : Ty} {rv' : RV} {cs : List Value}, partK (fun t rv => some (t, rv)) ty con p = some (t', rv') → offP ty p = some (off, t2) →
    RR M w β τ L con (.ce ty) cs → t' = t2 ∧ ∃ c0 c1 c2, cs = c0 ++ (c1 ++ c2) ∧ c0.length = off ∧ RR M w β τ L rv' (.ce t') c1 := by
  intro ty con p
  fun_induction partK (α := Ty × RV) (fun t rv => some (t, rv)) ty con p with
  | case1 t rv =>
    intro off t2 t' rv' cs h ho r
    cases h
    have ho' : offP t [] = some (0, t) := by cases t <;> rfl
    rw [ho'] at ho
    cases ho
    exact ⟨rfl, [], cs, [], by simp, rfl, r⟩
  | case2 a b x y p ih =>
    intro off t2 t' rv' cs h ho r
    simp only [RR] at r
    obtain ⟨ta, tb, c1, c2, e, rfl, r1, r2⟩ := r
    cases e
    simp only [offP] at ho
    obtain ⟨g1, d0, d1, d2, g2, g3, g4⟩ := ih h ho r1
    exact ⟨g1, d0, d1, d2 ++ c2, by rw [g2]; simp, g3, g4⟩
  | case3 a b x y p n ih =>
    intro off t2 t' rv' cs h ho r
    simp only [RR] at r
    obtain ⟨ta, tb, c1, c2, e, rfl, r1, r2⟩ := r
    cases e
    simp only [offP, Option.bind_eq_some_iff, Option.some.injEq, Prod.mk.injEq] at ho
    obtain ⟨⟨o1, u1⟩, ho1, rfl, rfl⟩ := ho
    obtain ⟨g1, d0, d1, d2, g2, g3, g4⟩ := ih h ho1 r2
    refine ⟨g1, c1 ++ d0, d1, d2, by rw [g2]; simp, ?_, g4⟩
    simp [r1.length, g3]
  | case4 t v s p =>
    intro off t2 t' rv' cs h ho r
    have := r.val_agg (.inl (offP_agg ho))
    subst this
    have r := r.2
    rw [getK_eq] at h
    obtain ⟨u, hu, h⟩ := Option.bind_eq_some_iff.1 h
    cases h
    obtain ⟨h1, c0, c1, c2, e1, h2, h3⟩ := getP_rep hu ho r
    exact ⟨h1, c0, c1, c2, e1, h2, .inl rfl, h3⟩
  | case5 t rv p h1 h2 h3 h4 => intro off t2 t' rv' cs h; cases h

/-! ### Plain data -/
def peekC {α : Type} (pk : RV → (TV → Option α) → Option α) : RV → (t : Ty) → (t.den → Option α) → Option α
  | .val v, t, k => (TV.as t v).bind k
  | .pair x y, t, k => match t with
    | .pair a b => peekC pk x a fun x => peekC pk y b fun y => k (x, y)
    | _ => none
  | .unit, t, k => match t with
    | .unit => k ()
    | _ => none
  | .any, _, _ => none
  | rv, t, k => pk rv fun v => (TV.as t v).bind k

def peekK {α : Type} (l : List (Nat × Ob)) : Nat → RV → (TV → Option α) → Option α
  | 0, _, _ => none
  | n + 1, rv, k => match rv with
    | .val v => k v
    | .nil t => k ⟨.slice t, ([] : List t.den)⟩
    | .row id => match lk id l with
      | some (.row t xs) => k ⟨.slice t, xs⟩
      | _ => none
    | .sub id lo hi => match lk id l with
      | some (.row t xs) => k ⟨.slice t, (List.take hi xs).drop lo⟩
      | _ => none
    | .loc id p => match lk id l with
      | some (.var ty con) => partK (fun t rv => peekC (peekK l n) rv t fun x => k ⟨.ptr t, x⟩) ty con p
      | some (.row t xs) => match p with
        | .idx i :: q => (nth xs i.toNat).bind fun x => getK (fun v => k ⟨.ptr v.1, v.2⟩) t x q
        | _ => none
      | some (.mp _ _ _) => none
      | some (.lp _ _) => none
      | none => none
    | .agg t r => peekC (peekK l n) r t fun x => k ⟨t, x⟩
    | _ => none

theorem peekC_pc {X : Type} {pk : (β : Type) → RV → (TV → Option β) → Option β} (hpk : ∀ rv, PC (fun β k => pk β rv k)) : ∀ {rv : RV} {t : Ty} {g : (β : Type) → t.den → (X → Option β) → Option β}, (∀ x, PC (fun β k => g β x k)) →
    PC (fun β k => peekC (pk β) rv t fun x => g β x k) := by
  intro rv
  induction rv with
  | val v => intro t g h; exact PC.bind h
  | pair x y ihx ihy =>
    intro t g h
    cases t with
    | pair a b =>
      simp only [peekC]
      exact ihx (g := fun β x k => peekC (pk β) y b fun y => g β (x, y) k) fun x => ihy (g := fun β y k => g β (x, y) k) fun y => h (x, y)
    | _ => simp only [peekC]; exact PC.none
  | unit =>
    intro t g h
    cases t with
    | unit => exact h ()
    | _ => simp only [peekC]; exact PC.none
  | any => intro t g h; exact PC.none
  | _ => intro t g h; simp only [peekC]; exact PC.comp (G := fun β v k => (TV.as t v).bind fun x => g β x k) (hpk _) fun v => PC.bind h

theorem peekK_pc {l : List (Nat × Ob)} : ∀ (n : Nat) (rv : RV), PC (fun β k => peekK (α := β) l n rv k)
  | 0, rv => PC.none
  | n + 1, rv => by
    cases rv with
    | val v => exact PC.ret v
    | nil t => exact PC.ret _
    | row id =>
      simp only [peekK]
      cases lk id l with
      | none => exact PC.none
      | some ob => cases ob with
        | var ty con => exact PC.none
        | row t xs => exact PC.ret _
        | mp => exact PC.none
        | lp => exact PC.none
    | sub id lo hi =>
      simp only [peekK]
      cases lk id l with
      | none => exact PC.none
      | some ob => cases ob with
        | var ty con => exact PC.none
        | row t xs => exact PC.ret _
        | mp => exact PC.none
        | lp => exact PC.none
    | loc id p =>
      simp only [peekK]
      cases lk id l with
      | none => exact PC.none
      | some ob => cases ob with
        | var ty con => exact partK_pc (X := TV) (g := fun β t rv k => peekC (peekK l n) rv t fun x => k ⟨.ptr t, x⟩) (fun t rv => peekC_pc (X := TV) (pk := fun β rv k => peekK (α := β) l n rv k) (fun rv => peekK_pc n rv) (t := t) (g := fun β x k => k ⟨.ptr t, x⟩) fun x => PC.ret _) ty con p
        | row t xs =>
          cases p with
          | nil => exact PC.none
          | cons s q => cases s with
            | fld i => exact PC.none
            | idx i => exact PC.bind (X := TV) (g := fun β x k => getK (fun v => k ⟨.ptr v.1, v.2⟩) t x q) fun x => getK_pc (X := TV) (g := fun β v k => k ⟨.ptr v.1, v.2⟩) fun v => PC.ret _
        | mp => exact PC.none
        | lp => exact PC.none
    | agg t r => exact peekC_pc (X := TV) (pk := fun β rv k => peekK (α := β) l n rv k) (fun rv => peekK_pc n rv) (g := fun β x k => k ⟨t, x⟩) fun x => PC.ret _
    | _ => exact PC.none

section
variable {b0 : Nat → Prop} {M : Own} {w : World} {β : Nat → Nat} {τ : Nat → Value} {L : List (Nat × Ob)}

/-- all that is known of memory, the blocks of one's own among it -/
def MAll (M : Own) (β : Nat → Nat) (τ : Nat → Value) (L : List (Nat × Ob)) : Own := fun b o => M b o ∨ ∃ id ob, lk id L = some ob ∧ blk β τ id ob = some b

theorem ext_all : Ext M w (MAll M β τ L) w := fun _ _ m => ⟨.inl m, fun _ h => h⟩

theorem slice_part {t : Ty} {xs : List t.den} {row : List Value} {l h b o' c : Nat} (hs : Seq (Rep M w t) row xs) (hlh : l ≤ h) (hh : h ≤ xs.length) (hcap : h - l ≤ c) (hm : c ≤ maxLen) (hrow : Row M w b o' row) (ad : Option Addr)
    (had : ad = some ⟨b, o' + l * t.n, none⟩ ∨ (l = h)) (hz : ad = none → c = 0) : VOk M w (.slice t) ((xs.take h).drop l) (.slice ad (h - l) c) := by
  obtain ⟨c0, c1, c2, e2, hl2, hr⟩ := cut_of (fun _ _ r => Rep.length r) hs hlh hh
  have hlen : (List.drop l (List.take h xs)).length = h - l := by simp; omega
  refine ⟨[.slice ad (h - l) c], rfl, ad, c, c1, by rw [hlen], by rw [hlen]; omega, by omega, hz, hr, ?_⟩
  rcases had with had | had
  · refine .inr ⟨b, _, had, ?_⟩
    rw [e2] at hrow
    have := hrow.right.left
    rwa [hl2] at this
  · exact .inl (by rw [hlen]; omega)

theorem rowX_vok {t : Ty} {xs : List t.den} {v u : Value} {M' : Own} (h : RowX b0 M w t xs v) (hM : ∀ b o, M b o → M' b o) (hb : ∀ b, wob v = some b → ∀ o, M' b o) {lo hi : Nat} (hlh : lo ≤ hi) (hhi : hi ≤ xs.length) (hu : SubH t.n lo hi v u) :
    VOk M' w (.slice t) ((xs.take hi).drop lo) u := by
  obtain ⟨a, cap, row, rfl, h1, h2, h3, h4, h5⟩ := h
  obtain ⟨a1, len1, cap1, a', c, e1, rfl, ⟨hc1, hc2⟩, h6⟩ := hu
  cases e1
  have hext : Ext M w M' w := fun b o m => ⟨hM b o m, fun _ h => h⟩
  have h4' := h4.mono (fun _ _ r => Rep.ext hext r)
  by_cases hcl : c = 0
  · have : hi = lo := by omega
    subst this
    subst hcl
    have hnil : (List.take hi xs).drop hi = [] := by simp
    rw [hnil]
    exact ⟨[_], rfl, a', 0, [], by simp, by simp, by simp [maxLen], (fun _ => rfl), by simp [Seq], .inl (by simp)⟩
  · have h7 := h6 hcl
    subst h7
    cases a with
    | none => have := h3 rfl; omega
    | some a0 =>
      obtain ⟨b, cur, T, rfl, g1, ⟨fz, gz, g2⟩, g3, g4, g5⟩ := h5 a0 rfl (by omega)
      have hrow : Row M' w b 0 row := fun i hi => ⟨by rw [cell_of_row _ _ _ _ _ _ g2, Nat.zero_add]; exact g4 i hi, hb b (by simp [wob]; omega) _⟩
      exact slice_part h4' hlh hhi hc1 (by omega) hrow _ (.inl (by simp [addr_add])) (by simp)

theorem subH_full {t : Ty} {xs : List t.den} {v : Value} (h : RowX b0 M w t xs v) : SubH t.n 0 xs.length v v := by
  obtain ⟨a, cap, row, rfl, _⟩ := h
  exact ⟨a, _, cap, a, cap, rfl, by simp, ⟨by omega, by omega⟩, fun _ => by cases a <;> simp [Addr.add]⟩

theorem peekC_ok {pk : (β : Type) → RV → (TV → Option β) → Option β} {M' : Own} (hM : Ext M w M' w) (hpc : ∀ rv, PC (fun β k => pk β rv k)) (hpk : ∀ rv u tv, pk TV rv some = some tv → RR M w β τ L rv .sl [u] → VOk M' w tv.1 tv.2 u) :
    ∀ {rv : RV} {t : Ty} {x : t.den} {cs : List Value}, peekC (pk t.den) rv t some = some x → RR M w β τ L rv (.ce t) cs → Rep M' w t cs x := by
  have one : ∀ {rv : RV} {t : Ty} {x : t.den} {u : Value}, (Mo.ce t).one = true → (pk t.den rv fun v => (TV.as t v).bind some) = some x → RR M w β τ L rv .sl [u] → Rep M' w t [u] x := by
    intro rv t x u h1 h r
    obtain ⟨v, h2, h3⟩ := hpc rv _ _ _ h
    have h4 := hpk rv u v (h2 _ some) r
    obtain ⟨y, hy, h5⟩ := Option.bind_eq_some_iff.1 h3
    cases h5
    obtain rfl := TV.as_eq hy
    obtain ⟨cs, hu, hr⟩ := h4
    have hl := hr.length
    have : u = cs.headD undef := by
      rw [hu, toV]
      simp [Mo.one] at h1
      simp [h1]
    have hl1 : cs.length = 1 := by cases t <;> simp [Mo.one, Ty.isAgg] at h1 <;> simpa [Ty.n] using hl
    obtain ⟨c, rfl⟩ := List.length_eq_one_iff.1 hl1
    simp at this
    subst this
    exact hr
  intro rv
  induction rv with
  | any => intro t x cs h; simp [peekC] at h
  | val v =>
    intro t x cs h r
    obtain ⟨y, hy, h⟩ := Option.bind_eq_some_iff.1 h
    cases h
    obtain rfl := TV.as_eq hy
    exact r.2.ext hM
  | pair a b iha ihb =>
    intro t x cs h r
    simp only [RR] at r
    obtain ⟨ta, tb, c1, c2, rfl, rfl, r1, r2⟩ := r
    simp only [peekC] at h
    obtain ⟨x', h1, h2⟩ := peekC_pc hpc (rv := a) (t := ta) (X := ta.den) (g := fun β x k => k x) (fun x => PC.ret x) _ _ _ h
    obtain ⟨y', h3, h4⟩ := peekC_pc hpc (rv := b) (t := tb) (X := tb.den) (g := fun β x k => k x) (fun x => PC.ret x) _ _ _ h2
    cases h4
    exact ⟨c1, c2, rfl, iha (h1 _ some) r1, ihb (h3 _ some) r2⟩
  | unit =>
    intro t x cs h r
    obtain ⟨rfl, rfl⟩ := r
    rfl
  | nil t' =>
    intro t x cs h r
    obtain ⟨rfl, rfl⟩ := r
    exact one rfl h rfl
  | row id =>
    intro t x cs h r
    simp only [RR] at r
    obtain ⟨h1, u, t', xs, rfl, r⟩ := r
    exact one h1 h (by simp only [RR]; exact ⟨rfl, u, t', xs, rfl, r⟩)
  | sub id lo hi =>
    intro t x cs h r
    simp only [RR] at r
    obtain ⟨h1, u, t', xs, rfl, r⟩ := r
    exact one h1 h (by simp only [RR]; exact ⟨rfl, u, t', xs, rfl, r⟩)
  | loc id p =>
    intro t x cs h r
    simp only [RR] at r
    obtain ⟨h1, u, ob, off, t', rfl, r⟩ := r
    exact one h1 h (by simp only [RR]; exact ⟨rfl, u, ob, off, t', rfl, r⟩)
  | clo f c ih =>
    intro t x cs h r
    simp only [RR] at r
    obtain ⟨h1, us, rfl, r⟩ := r
    exact one h1 h (by simp only [RR]; exact ⟨rfl, us, rfl, r⟩)
  | agg t' r' ih => intro t x cs h r; simp [RR] at r
  | tup r' ih => intro t x cs h r; simp [RR] at r
  | mp id =>
    intro t x cs h r
    simp only [RR] at r
    obtain ⟨h1, u, kt, vt, es, rfl, r⟩ := r
    exact one h1 h (by simp only [RR]; exact ⟨rfl, u, kt, vt, es, rfl, r⟩)
  | yl id =>
    intro t x cs h r
    simp only [RR] at r
    obtain ⟨h1, u, con, q, rfl, r⟩ := r
    exact one h1 h (by simp only [RR]; exact ⟨rfl, u, con, q, rfl, r⟩)

theorem peekK_ok (hob : ∀ id ob, lk id L = some ob → ObOk b0 M w β τ L id ob) : ∀ (n : Nat) {rv : RV} {u : Value} {tv : TV}, peekK L n rv some = some tv → RR M w β τ L rv .sl [u] → VOk (MAll M β τ L) w tv.1 tv.2 u
  | 0, _, _, _, h, _ => by cases h
  | n + 1, rv, u, tv, h, r => by
    have inner : ∀ {rv : RV} {t : Ty} {x : t.den} {cs : List Value}, peekC (peekK L n) rv t some = some x → RR M w β τ L rv (.ce t) cs → Rep (MAll M β τ L) w t cs x := by
      intro rv t x cs h r
      exact peekC_ok (pk := fun β rv k => peekK (α := β) L n rv k) ext_all (fun rv => peekK_pc n rv) (fun rv u tv h r => peekK_ok hob n h r) h r
    have inner' : ∀ {rv : RV} {t : Ty} {X : Type} {g : t.den → X} {z : X} {cs : List Value}, (peekC (peekK L n) rv t fun x => some (g x)) = some z → RR M w β τ L rv (.ce t) cs → ∃ x, z = g x ∧ Rep (MAll M β τ L) w t cs x := by
      intro rv t X g z cs h r
      obtain ⟨x, h1, h2⟩ := peekC_pc (pk := fun β rv k => peekK (α := β) L n rv k) (fun rv => peekK_pc n rv) (rv := rv) (t := t) (X := t.den) (g := fun β x k => k x) (fun x => PC.ret x) _ _ _ h
      cases h2
      exact ⟨x, rfl, inner (h1 _ some) r⟩
    cases rv with
    | val v =>
      cases h
      obtain ⟨u', e, r⟩ := r
      cases e
      exact r.ext ext_all
    | nil t =>
      cases h
      have r' : [u] = [Value.slice none 0 0] := r
      cases r'
      exact ⟨[.slice none 0 0], rfl, none, 0, [], by simp, by simp, by simp [maxLen], fun _ => rfl, by simp [Seq], .inl (by simp)⟩
    | row id =>
      simp only [RR] at r
      obtain ⟨_, u', t, xs, e, _, hl, hu⟩ := r
      cases e
      simp only [peekK, hl] at h
      cases h
      have ho := (hob id _ hl).1
      have := rowX_vok (M' := MAll M β τ L) ho (fun b o m => .inl m) (fun b hb o => .inr ⟨id, _, hl, hb⟩) (Nat.zero_le _) (Nat.le_refl _) (subH_full ho)
      rw [hu]
      simpa using this
    | sub id lo hi =>
      simp only [RR] at r
      obtain ⟨_, u', t, xs, e, _, hl, h1, h2, hu⟩ := r
      cases e
      simp only [peekK, hl] at h
      cases h
      exact rowX_vok (M' := MAll M β τ L) (hob id _ hl).1 (fun b o m => .inl m) (fun b hb o => .inr ⟨id, _, hl, hb⟩) h1 h2 hu
    | loc id p =>
      simp only [RR] at r
      obtain ⟨_, u', ob, off, t', e, _, hl, ho, hu⟩ := r
      cases e
      simp only [peekK, hl] at h
      cases ob with
      | var ty con =>
        simp only at h
        obtain ⟨⟨t1, rv1⟩, h1, h2⟩ := partK_pc (X := Ty × RV) (g := fun β t rv k => k (t, rv)) (fun t rv => PC.ret _) ty con p _ (fun q : Ty × RV => peekC (peekK L n) q.2 q.1 fun x => (some ⟨.ptr q.1, x⟩ : Option TV)) _ h
        obtain ⟨_, ⟨cs, T, hb, rc⟩, _⟩ := hob id _ hl
        obtain ⟨e1, c0, c1, c2, e2, e3, r1⟩ := part_ok (h1 _ some) ho rc
        obtain ⟨x, rfl, hr⟩ := inner' h2 r1
        refine ⟨[u], rfl, β id, off, c1, by rw [hu], fun i hi => ⟨?_, .inr ⟨id, _, hl, rfl⟩⟩, hr⟩
        rw [cell_of_row _ _ _ _ _ _ hb, e2, ← e3, List.getElem?_toArray, List.getElem?_append_right (by omega), Nat.add_sub_cancel_left, List.getElem?_append_left hi]
      | row t xs =>
        simp only at h
        split at h
        · rename_i i q
          simp only [Ob.shape, offS] at ho
          obtain ⟨hi, ho⟩ := ite_some ho
          obtain ⟨⟨o1, t1⟩, ho1, ho⟩ := Option.bind_eq_some_iff.1 ho
          cases ho
          obtain ⟨y, hy, h⟩ := Option.bind_eq_some_iff.1 h
          rw [getK_eq] at h
          obtain ⟨v, hv, h⟩ := Option.bind_eq_some_iff.1 h
          cases h
          obtain ⟨⟨a, cap, row, g0, g1, g2, g3, g4, g5⟩, g6⟩ := hob id _ hl
          have hpos : 0 < cap := by omega
          obtain ⟨a0, rfl⟩ : ∃ a0, a = some a0 := by
            cases a with
            | none => have := g3 rfl; omega
            | some a0 => exact ⟨a0, rfl⟩
          obtain ⟨b, cur, T, rfl, k1, ⟨fz, kz, k2⟩, k3, k4, k5⟩ := g5 a0 rfl hpos
          have hbβ := g6 b (by rw [g0]; simp [wob]; omega)
          obtain ⟨d0, d1, d2, e1, e2, e3⟩ := g4.at (fun _ _ r => r.length) i.toNat hy
          obtain ⟨_, c0, c1, c2, e4, e5, e6⟩ := getP_rep hv ho1 e3
          refine ⟨[u], rfl, β id, i.toNat * t.n + o1, c1, by rw [hu], fun j hj => ⟨?_, .inr ⟨id, _, hl, by simp only [blk]; rw [g0]; simp [wob, hbβ]; omega⟩⟩, e6.ext ext_all⟩
          rw [← hbβ, cell_of_row _ _ _ _ _ _ k2, k4 _ (by rw [e1, e4]; simp; omega), e1, e4, List.getElem?_append_right (by omega), List.append_assoc, List.getElem?_append_right (by omega), List.append_assoc, List.getElem?_append_left (by omega)]
          congr 1
          omega
        · cases h
      | mp => cases h
      | lp => cases h
    | agg t r' =>
      simp only [RR] at r
      obtain ⟨_, hag, c, e, r⟩ := r
      cases e
      simp only [peekK] at h
      obtain ⟨x, rfl, hr⟩ := inner' h r
      exact ⟨c, by simp [toV, hag], hr⟩
    | any => simp [peekK] at h
    | clo f c => simp [peekK] at h
    | unit => simp [peekK] at h
    | pair a b => simp [peekK] at h
    | tup r => simp [peekK] at h
    | mp id => simp [peekK] at h
    | yl id => simp [peekK] at h
end
end Go.Lift
