/- What names stand for, and what is missing, as plain lists: no program is named here. -/
import Derived.Test.YtjbdlihlcoldlaaGreatDoorG00
namespace CK
open RP

/-- Names and their sets, in the order in which they came. -/
abbrev Tab := List (List UInt8 × List RS.Rg)

def look : Tab → List UInt8 → Option (List RS.Rg)
  | [], _ => none
  | (y, X) :: r, x => if y = x then some X else look r x

theorem look_append (x y : List UInt8) (X : List RS.Rg) : ∀ T : Tab, look (T ++ [(y, X)]) x = (look T x).or (if y = x then some X else none)
  | [] => by simp [look]
  | (z, Z) :: r => by
    rw [List.cons_append, look, look]
    by_cases h : z = x
    · rw [if_pos h, if_pos h]; rfl
    · rw [if_neg h, if_neg h]; exact look_append x y X r

open Classical in
noncomputable def orL (s t : List RS.Rg) : List RS.Rg := if h : ∃ r, RS.IsOf (s ++ t) r then h.choose else []

theorem orL_eq {s t r : List RS.Rg} (h : RS.IsOf (s ++ t) r) : orL s t = r := by
  have hx : ∃ r, RS.IsOf (s ++ t) r := ⟨r, h⟩
  unfold orL
  rw [dif_pos hx]
  exact hx.choose_spec.unique h

/-- The first name that stands for nothing. -/
def missK (T : Tab) : K → Option Nat
  | .lit _ _ => none
  | .ref a x => if (look T x).isSome then none else some a
  | .bin _ _ l r => (missK T l).or (missK T r)
  | .neg _ k => missK T k

noncomputable def binL (c : Nat) (s t : List RS.Rg) : List RS.Rg := if c = 3 then orL s t else if c = 4 then RS.andL s t else RS.lessL s t

noncomputable def setK (T : Tab) : K → List RS.Rg
  | .lit _ X => X
  | .ref _ x => (look T x).getD []
  | .bin c _ l r => binL c (setK T l) (setK T r)
  | .neg _ k => RS.notL (setK T k)

/-- Its codes are such as there are. -/
def Fit : K → Prop
  | .lit _ _ => True
  | .ref _ x => x.length ≤ 10
  | .bin c _ l r => (c = 3 ∨ c = 4 ∨ c = 5) ∧ Fit l ∧ Fit r
  | .neg _ k => Fit k

def FitP : Pt → Bool → Prop
  | .one k, b => b = false ∧ Fit k
  | .any, b => b = false
  | .edge, b => b = false
  | .cat ps, b => b = false ∧ FitP ps true
  | .alt ps, b => b = false ∧ FitP ps true
  | .many p lo hi, b => b = false ∧ FitP p false ∧ 0 ≤ lo ∧ lo ≤ 12 ∧ -1 ≤ hi ∧ hi ≤ 12
  | .nil, b => b = true
  | .cons p ps, b => b = true ∧ FitP p false ∧ FitP ps true

def FitF (f : Fi) : Prop := (∀ c ∈ f.classes, Fit c.kind ∧ c.name.length ≤ 10) ∧ (∀ r ∈ f.rules, FitP r.before false ∧ FitP r.after false) ∧ f.classes.length ≤ 20 ∧ f.rules.length ≤ 20

theorem codeOf_fit {x : List UInt8} (h : codeOf x ≠ 0) : codeOf x = 3 ∨ codeOf x = 4 ∨ codeOf x = 5 := by
  unfold codeOf at h ⊢
  split
  · exact .inl rfl
  · split
    · exact .inr (.inl rfl)
    · split
      · exact .inr (.inr rfl)
      · rename_i h1 h2 h3
        rw [if_neg h1, if_neg h2, if_neg h3] at h
        exact absurd rfl h

theorem nameP_len {c : Nat} {ts : List Tok} {x : List UInt8} {r : List Tok} (h : nameP c ts = .ok (x, r)) : x.length ≤ 10 := by
  cases ts with
  | nil => cases h
  | cons t q =>
    rw [nameP] at h
    split at h
    · split at h
      · cases h
      · cases h; omega
    · cases h

theorem setOrNameP_fit {S : List UInt8 → Option (List RS.Rg)} {c : Nat} {ts : List Tok} {k : K} {r : List Tok} (h : setOrNameP S c ts = .ok (k, r)) : Fit k := by
  cases ts with
  | nil => cases h
  | cons t q =>
    rw [setOrNameP] at h
    split at h
    · split at h
      · cases h
      · cases h; trivial
    · split at h
      · cases h
      · rename_i x q h1
        cases h
        exact nameP_len h1

theorem kLoop_fit {one : List Tok → Res K} (ho : ∀ ts k r, one ts = .ok (k, r) → Fit k) (a : Nat) : ∀ (f : Nat) (k : K) (ts : List Tok) (x : K) (r : List Tok), Fit k → kLoop one a f k ts = .ok (x, r) → Fit x := by
  intro f
  induction f with
  | zero => intro k ts x r hk h; cases h; exact hk
  | succ f ih =>
    intro k ts x r hk h
    rw [kLoop] at h
    split at h
    · cases h; exact hk
    · rename_i h0
      split at h
      · cases h
      · rename_i k2 r2 h1
        exact ih _ _ _ _ (show Fit (.bin _ _ k k2) from ⟨codeOf_fit h0, hk, ho _ _ _ h1⟩) h

theorem kindP_fit {one : List Tok → Res K} (ho : ∀ ts k r, one ts = .ok (k, r) → Fit k) {ts : List Tok} {x : K} {r : List Tok} (h : kindP one ts = .ok (x, r)) : Fit x := by
  rw [kindP] at h
  split at h
  · cases h
  · rename_i k r1 h1
    exact kLoop_fit ho _ _ _ _ _ _ (ho _ _ _ h1) h

theorem oneKindP_fit {S : List UInt8 → Option (List RS.Rg)} {c : Nat} : ∀ (m : Nat) (ts : List Tok) (k : K) (r : List Tok), oneKindP S c m ts = .ok (k, r) → Fit k := by
  intro m
  induction m with
  | zero => intro ts k r h; cases h
  | succ m ih =>
    intro ts k r h
    rw [oneKindP] at h
    split at h
    · split at h
      · cases h
      · rename_i k1 r1 h1
        cases h
        have := ih _ _ _ h1
        exact this
    · split at h
      · split at h
        · cases h
        · rename_i k1 r1 h1
          split at h
          · cases h
          · cases h
            exact kindP_fit ih h1
      · exact setOrNameP_fit h

theorem classP_fit {S : List UInt8 → Option (List RS.Rg)} {c : Nat} {ts : List Tok} {x : Cl} {r : List Tok} (h : classP S c ts = .ok (x, r)) : (Fit x.kind ∧ x.name.length ≤ 10) ∧ c < 20 ∨ 20 < c := by
  unfold classP at h
  by_cases h20 : c = 20
  · rw [if_pos h20] at h; cases h
  rw [if_neg h20] at h
  split at h
  · cases h
  split at h
  · cases h
  rename_i x1 r2 hn
  split at h
  · cases h
  split at h
  · cases h
  rename_i k r4 h4
  split at h
  · cases h
  cases h
  rcases Nat.lt_or_ge c 20 with hc | hc
  · exact .inl ⟨⟨kindP_fit (oneKindP_fit 9) h4, nameP_len hn⟩, hc⟩
  · exact .inr (by omega)

theorem clsL_fit {S : List UInt8 → Option (List RS.Rg)} : ∀ (f : Nat) (cs : List Cl) (ts : List Tok) (x : List Cl) (r : List Tok), cs.length ≤ 20 → (∀ c ∈ cs, Fit c.kind ∧ c.name.length ≤ 10) → clsL S f cs ts = .ok (x, r) → x.length ≤ 20 ∧ ∀ c ∈ x, Fit c.kind ∧ c.name.length ≤ 10 := by
  intro f
  induction f with
  | zero => intro cs ts x r hl hc h; cases h; exact ⟨hl, hc⟩
  | succ f ih =>
    intro cs ts x r hl hc h
    rw [clsL] at h
    split at h
    · split at h
      · cases h
      · rename_i y r1 h1
        rcases classP_fit h1 with ⟨h2, h3⟩ | h2
        · refine ih _ _ _ _ (by simp; omega) ?_ h
          intro c hm
          rw [List.mem_append] at hm
          rcases hm with hm | hm
          · exact hc c hm
          · simp only [List.mem_cons, List.not_mem_nil, or_false] at hm
            subst hm
            exact h2
        · omega
    · cases h; exact ⟨hl, hc⟩

/-- The first name of patterns that stands for nothing. -/
def missP (T : Tab) : Pt → Option Nat
  | .one k => missK T k
  | .any => none
  | .edge => none
  | .cat ps => missP T ps
  | .alt ps => missP T ps
  | .many p _ _ => missP T p
  | .nil => none
  | .cons p ps => (missP T p).or (missP T ps)

/-- Names, or what is wrong, and where: e2: twice; e1: missing. -/
noncomputable def namesL (e2 e1 : Nat) : List Cl → Tab → Except (Nat × Nat) Tab
  | [], T => .ok T
  | c :: cs, T =>
    if (look T c.name).isSome then .error (e2, c.at_)
    else match missK T c.kind with
      | some a => .error (e1, a)
      | none => namesL e2 e1 cs (T ++ [(c.name, setK T c.kind)])

def missR (T : Tab) : List Ru → Option Nat
  | [] => none
  | r :: rs => ((missP T r.before).or (missP T r.after)).or (missR T rs)

noncomputable def checkF (e2 e1 : Nat) (f : Fi) : Option (Nat × Nat) :=
  match namesL e2 e1 f.classes [] with
  | .error b => some b
  | .ok T => (missR T f.rules).map fun a => (e1, a)

/-- Its sets are such as may be. -/
def TabOk (T : Tab) : Prop := ∀ x X, look T x = some X → RS.right X = true

theorem right_len : ∀ (s : List RS.Rg) (a : Int), -2 ≤ a → RS.rightFrom a s = true → (s.length : Int) ≤ 1114111 - a ∨ s = []
  | [], _, _, _ => .inr rfl
  | r :: s, a, ha, h => by
    rw [RS.rightFrom_cons] at h
    obtain ⟨h1, h2, h3, h4⟩ := h
    rcases right_len s r.2 (by omega) h4 with h5 | h5
    · left; rw [List.length_cons]; omega
    · subst h5; left; simp; omega

theorem right_le {s : List RS.Rg} (h : RS.right s = true) : s.length ≤ 1114113 := by
  rcases right_len s (-2) (by omega) h with h1 | h1
  · omega
  · subst h1; simp

end CK

namespace Go.Proofs.YtjbdlihlcoldlaaGreatDoor.U8

/-- A code point that has UTF-8. -/
def isPt (p : Int) : Bool := decide (0 ≤ p) && decide (p ≤ 1114111) && (decide (p < 55296) || decide (57343 < p))

theorem isPt_iff (p : Int) : isPt p = true ↔ 0 ≤ p ∧ p ≤ 1114111 ∧ (p < 55296 ∨ 57343 < p) := by
  simp [isPt, and_assoc]

/-- How many bytes a code point has. -/
def lenOf (p : Nat) : Nat := if p < 128 then 1 else if p < 2048 then 2 else if p < 65536 then 3 else 4

/-- What a code point is written as. -/
def enc (p : Nat) : List UInt8 :=
  if p < 128 then [UInt8.ofNat p]
  else if p < 2048 then [UInt8.ofNat (192 + p / 64), UInt8.ofNat (128 + p % 64)]
  else if p < 65536 then [UInt8.ofNat (224 + p / 4096), UInt8.ofNat (128 + p / 64 % 64), UInt8.ofNat (128 + p % 64)]
  else [UInt8.ofNat (240 + p / 262144), UInt8.ofNat (128 + p / 4096 % 64), UInt8.ofNat (128 + p / 64 % 64), UInt8.ofNat (128 + p % 64)]

theorem enc_length (p : Nat) : (enc p).length = lenOf p := by
  unfold enc lenOf; split <;> (try rfl); split <;> (try rfl); split <;> rfl

/-- How many bytes a code point has whose first one is given. -/
def lenBy (a : Nat) : Nat := if a < 128 then 1 else if a / 32 = 6 then 2 else if a / 16 = 14 then 3 else if a / 8 = 30 then 4 else 0

def chk (n p : Nat) : Option (Nat × Nat) := if lenOf p = n ∧ isPt p = true then some (p, n) else none

def low (a : UInt8) : Nat := a.toNat % 64
def cont (a : UInt8) : Bool := decide (a.toNat / 64 = 2)

/-- The code point with whose UTF-8 bytes begin, and how many it has. -/
def first (l : List UInt8) : Option (Nat × Nat) :=
  match l with
  | [] => none
  | a :: r =>
    if lenBy a.toNat = 1 then some (a.toNat, 1)
    else if lenBy a.toNat = 2 then
      match r with
      | b :: _ => if cont b then chk 2 (a.toNat % 32 * 64 + low b) else none
      | _ => none
    else if lenBy a.toNat = 3 then
      match r with
      | b :: c :: _ => if cont b && cont c then chk 3 ((a.toNat % 16 * 64 + low b) * 64 + low c) else none
      | _ => none
    else if lenBy a.toNat = 4 then
      match r with
      | b :: c :: d :: _ => if cont b && cont c && cont d then chk 4 (((a.toNat % 8 * 64 + low b) * 64 + low c) * 64 + low d) else none
      | _ => none
    else none

theorem u8_eq {a : UInt8} {n : Nat} (h : a.toNat = n) : UInt8.ofNat n = a := by
  apply UInt8.toNat_inj.1
  rw [UInt8.toNat_ofNat', ← h]
  have := a.toNat_lt
  omega

theorem toNat_of {n : Nat} (h : n < 256) : (UInt8.ofNat n).toNat = n := by
  rw [UInt8.toNat_ofNat']; omega

theorem isPt_nat (p : Nat) : isPt (p : Int) = true ↔ p ≤ 1114111 ∧ (p < 55296 ∨ 57343 < p) := by
  rw [isPt_iff]; omega

theorem first_some {l : List UInt8} {p n : Nat} (h : first l = some (p, n)) : isPt p = true ∧ enc p <+: l ∧ n = lenOf p := by
  unfold first at h
  split at h
  · cases h
  · rename_i a r
    have ha := a.toNat_lt
    split at h
    · rename_i h1
      have h2 : a.toNat < 128 := by unfold lenBy at h1; split at h1 <;> (try assumption); split at h1 <;> (try omega); split at h1 <;> (try omega); split at h1 <;> omega
      cases h
      refine ⟨(isPt_nat _).2 (by omega), ?_, by simp [lenOf, h2]⟩
      simp [enc, h2]
    split at h
    · rename_i h1
      have h2 : a.toNat / 32 = 6 := by unfold lenBy at h1; split at h1 <;> (try omega); split at h1 <;> (try omega); split at h1 <;> (try omega); split at h1 <;> omega
      split at h
      · rename_i b t
        split at h
        · rename_i hc
          unfold chk at h
          split at h
          · rename_i hk
            simp only [Option.some.injEq, Prod.mk.injEq] at h
            obtain ⟨hp, hn⟩ := h
            have hb := b.toNat_lt
            simp only [cont, decide_eq_true_eq] at hc
            obtain ⟨k1, k2⟩ := hk
            rw [hp] at k1 k2
            refine ⟨k2, ?_, by omega⟩
            simp only [low] at hp
            have g1 : ¬ p < 128 := by intro g; simp [lenOf, g] at k1
            have g2 : p < 2048 := by omega
            simp only [enc, g1, g2, if_false, if_true]
            rw [u8_eq (a := a) (by omega), u8_eq (a := b) (by omega)]
            simp
          · cases h
        · cases h
      · cases h
    split at h
    · rename_i h1
      have h2 : a.toNat / 16 = 14 := by unfold lenBy at h1; split at h1 <;> (try omega); split at h1 <;> (try omega); split at h1 <;> (try omega); split at h1 <;> omega
      split at h
      · rename_i b c t
        split at h
        · rename_i hc
          unfold chk at h
          split at h
          · rename_i hk
            simp only [Option.some.injEq, Prod.mk.injEq] at h
            obtain ⟨hp, hn⟩ := h
            have hb := b.toNat_lt
            have hcc := c.toNat_lt
            simp only [cont, Bool.and_eq_true, decide_eq_true_eq] at hc
            obtain ⟨k1, k2⟩ := hk
            rw [hp] at k1 k2
            refine ⟨k2, ?_, by omega⟩
            simp only [low] at hp
            have g1 : ¬ p < 128 := by intro g; simp [lenOf, g] at k1
            have g2 : ¬ p < 2048 := by intro g; simp [lenOf, g, g1] at k1
            have g3 : p < 65536 := by omega
            simp only [enc, g1, g2, g3, if_false, if_true]
            rw [u8_eq (a := a) (by omega), u8_eq (a := b) (by omega), u8_eq (a := c) (by omega)]
            simp
          · cases h
        · cases h
      · cases h
    split at h
    · rename_i h1
      have h2 : a.toNat / 8 = 30 := by unfold lenBy at h1; split at h1 <;> (try omega); split at h1 <;> (try omega); split at h1 <;> (try omega); split at h1 <;> omega
      split at h
      · rename_i b c d t
        split at h
        · rename_i hc
          unfold chk at h
          split at h
          · rename_i hk
            simp only [Option.some.injEq, Prod.mk.injEq] at h
            obtain ⟨hp, hn⟩ := h
            have hb := b.toNat_lt
            have hcc := c.toNat_lt
            have hd := d.toNat_lt
            simp only [cont, Bool.and_eq_true, decide_eq_true_eq] at hc
            obtain ⟨k1, k2⟩ := hk
            rw [hp] at k1 k2
            refine ⟨k2, ?_, by omega⟩
            simp only [low] at hp
            have g1 : ¬ p < 128 := by intro g; simp [lenOf, g] at k1
            have g2 : ¬ p < 2048 := by intro g; simp [lenOf, g, g1] at k1
            have g3 : ¬ p < 65536 := by intro g; simp [lenOf, g, g1, g2] at k1
            simp only [enc, g1, g2, g3, if_false]
            rw [u8_eq (a := a) (by omega), u8_eq (a := b) (by omega), u8_eq (a := c) (by omega), u8_eq (a := d) (by omega)]
            simp
          · cases h
        · cases h
      · cases h
    cases h

theorem first_enc {p : Nat} (h : isPt p = true) (t : List UInt8) : first (enc p ++ t) = some (p, lenOf p) := by
  have hk := h
  rw [isPt_nat] at h
  by_cases g1 : p < 128
  · have e1 : lenBy p = 1 := by simp [lenBy, g1]
    simp only [enc, g1, if_true, List.cons_append, List.nil_append, first, toNat_of (show p < 256 by omega), e1, lenOf]
  by_cases g2 : p < 2048
  · have e1 : lenBy (192 + p / 64) = 2 := by unfold lenBy; rw [if_neg (by omega), if_pos (by omega)]
    have hl : lenOf p = 2 := by simp [lenOf, g1, g2]
    simp only [enc, g1, g2, if_true, if_false, List.cons_append, List.nil_append, first, toNat_of (show 192 + p / 64 < 256 by omega), e1, cont, low, toNat_of (show 128 + p % 64 < 256 by omega)]
    rw [if_neg (by omega), if_pos (by simp; omega)]
    have e2 : (192 + p / 64) % 32 * 64 + (128 + p % 64) % 64 = p := by omega
    rw [e2, hl, chk, if_pos ⟨hl, hk⟩]
  by_cases g3 : p < 65536
  · have e1 : lenBy (224 + p / 4096) = 3 := by unfold lenBy; rw [if_neg (by omega), if_neg (by omega), if_pos (by omega)]
    have hl : lenOf p = 3 := by simp [lenOf, g1, g2, g3]
    simp only [enc, g1, g2, g3, if_true, if_false, List.cons_append, List.nil_append, first, toNat_of (show 224 + p / 4096 < 256 by omega), e1, cont, low, toNat_of (show 128 + p % 64 < 256 by omega), toNat_of (show 128 + p / 64 % 64 < 256 by omega)]
    rw [if_neg (by omega), if_neg (by omega), if_pos (by simp; omega)]
    have e2 : ((224 + p / 4096) % 16 * 64 + (128 + p / 64 % 64) % 64) * 64 + (128 + p % 64) % 64 = p := by omega
    rw [e2, hl, chk, if_pos ⟨hl, hk⟩]
  · have e1 : lenBy (240 + p / 262144) = 4 := by unfold lenBy; rw [if_neg (by omega), if_neg (by omega), if_neg (by omega), if_pos (by omega)]
    have hl : lenOf p = 4 := by simp [lenOf, g1, g2, g3]
    simp only [enc, g1, g2, g3, if_true, if_false, List.cons_append, List.nil_append, first, toNat_of (show 240 + p / 262144 < 256 by omega), e1, cont, low, toNat_of (show 128 + p % 64 < 256 by omega), toNat_of (show 128 + p / 64 % 64 < 256 by omega), toNat_of (show 128 + p / 4096 % 64 < 256 by omega)]
    rw [if_neg (by omega), if_neg (by omega), if_neg (by omega), if_pos (by simp; omega)]
    have e2 : (((240 + p / 262144) % 8 * 64 + (128 + p / 4096 % 64) % 64) * 64 + (128 + p / 64 % 64) % 64) * 64 + (128 + p % 64) % 64 = p := by omega
    rw [e2, hl, chk, if_pos ⟨hl, hk⟩]

theorem lenOf_pos (p : Nat) : 1 ≤ lenOf p ∧ lenOf p ≤ 4 := by unfold lenOf; split <;> (try omega); split <;> (try omega); split <;> omega

/-- The unit at the head: the code point there, or fffd and one byte. -/
def unit (l : List UInt8) : Nat × Nat := (first l).getD (65533, 1)

theorem first_len {l : List UInt8} {p n : Nat} (h : first l = some (p, n)) : 1 ≤ n ∧ n ≤ 4 ∧ n ≤ l.length := by
  obtain ⟨_, h2, h3⟩ := first_some h
  have := lenOf_pos p
  have := h2.length_le
  rw [enc_length] at this
  omega

theorem unit_len (l : List UInt8) (h : l ≠ []) : 1 ≤ (unit l).2 ∧ (unit l).2 ≤ 4 ∧ (unit l).2 ≤ l.length := by
  unfold unit
  cases hf : first l with
  | none => have : 0 < l.length := List.length_pos_iff.2 h; simp; omega
  | some x => obtain ⟨p, n⟩ := x; simpa using first_len hf

theorem unit_pt (l : List UInt8) : isPt (unit l).1 = true := by
  unfold unit
  cases hf : first l with
  | none => decide
  | some x => obtain ⟨p, n⟩ := x; simpa using (first_some hf).1

/-- The units of bytes, by fuel. -/
def decF : Nat → List UInt8 → Nat → List (Nat × Nat × Nat)
  | 0, _, _ => []
  | f + 1, l, k => if l = [] then [] else ((unit l).1, k, (unit l).2) :: decF f (l.drop (unit l).2) (k + (unit l).2)

theorem decF_more : ∀ (f g : Nat) (l : List UInt8) (k : Nat), l.length ≤ f → l.length ≤ g → decF f l k = decF g l k
  | 0, g, l, k, hf, _ => by
    obtain rfl : l = [] := List.length_eq_zero_iff.1 (by omega)
    cases g <;> simp [decF]
  | f + 1, 0, l, k, _, hg => by
    obtain rfl : l = [] := List.length_eq_zero_iff.1 (by omega)
    simp [decF]
  | f + 1, g + 1, l, k, hf, hg => by
    simp only [decF]
    split
    · rfl
    · rename_i h
      have := unit_len l h
      rw [decF_more f g _ _ (by rw [List.length_drop]; omega) (by rw [List.length_drop]; omega)]

/-- The units of bytes: the code point, where, and how many bytes. -/
def dec (l : List UInt8) (k : Nat) : List (Nat × Nat × Nat) := decF l.length l k

theorem dec_nil (k : Nat) : dec [] k = [] := rfl

theorem dec_step {l : List UInt8} (h : l ≠ []) (k : Nat) : dec l k = ((unit l).1, k, (unit l).2) :: dec (l.drop (unit l).2) (k + (unit l).2) := by
  have h1 := unit_len l h
  have h0 : 0 < l.length := List.length_pos_iff.2 h
  obtain ⟨m, hm⟩ : ∃ m, l.length = m + 1 := ⟨l.length - 1, by omega⟩
  unfold dec
  rw [hm, decF, if_neg h, decF_more m (l.drop (unit l).2).length _ _ (by rw [List.length_drop]; omega) (Nat.le_refl _)]

/-- Induction along the units. -/
theorem dec_induct {C : List UInt8 → Prop} (h0 : C []) (h1 : ∀ l, l ≠ [] → C (l.drop (unit l).2) → C l) (l : List UInt8) : C l := by
  suffices H : ∀ n l, l.length ≤ n → C l from H l.length l (Nat.le_refl _)
  intro n
  induction n with
  | zero => intro l hl; obtain rfl : l = [] := List.length_eq_zero_iff.1 (by omega); exact h0
  | succ n ih =>
    intro l hl
    by_cases h : l = []
    · rw [h]; exact h0
    · have := unit_len l h
      exact h1 l h (ih _ (by rw [List.length_drop]; omega))

theorem dec_length_le (l : List UInt8) : ∀ k, (dec l k).length ≤ l.length := by
  refine dec_induct (C := fun l => ∀ k, (dec l k).length ≤ l.length) (fun k => by simp [dec_nil]) (fun l h ih k => ?_) l
  rw [dec_step h]
  have h1 := unit_len l h
  have h2 := ih (k + (unit l).2)
  rw [List.length_drop] at h2
  simp only [List.length_cons]
  omega

/-- The code points of bytes. -/
def pts (l : List UInt8) : List Nat := (dec l 0).map (·.1)

theorem dec_shift (l : List UInt8) : ∀ k j, dec l (k + j) = (dec l k).map fun u => (u.1, u.2.1 + j, u.2.2) := by
  refine dec_induct (C := fun l => ∀ k j, dec l (k + j) = (dec l k).map fun u => (u.1, u.2.1 + j, u.2.2)) (fun k j => by simp [dec_nil]) (fun l h ih k j => ?_) l
  rw [dec_step h, dec_step h, List.map_cons, ← ih]
  congr 2
  omega

theorem dec_pts (l : List UInt8) (k : Nat) : (dec l k).map (·.1) = pts l := by
  have := dec_shift l 0 k
  rw [Nat.zero_add] at this
  rw [this, pts, List.map_map]
  rfl

theorem pts_nil : pts [] = [] := rfl
theorem pts_step {l : List UInt8} (h : l ≠ []) : pts l = (unit l).1 :: pts (l.drop (unit l).2) := by
  rw [pts, dec_step h, List.map_cons, dec_pts]

theorem pts_isPt (l : List UInt8) : ∀ p ∈ pts l, isPt p = true := by
  refine dec_induct (C := fun l => ∀ p ∈ pts l, isPt p = true) (by simp [pts_nil]) (fun l h ih => ?_) l
  rw [pts_step h]
  intro p hp
  rcases List.mem_cons.1 hp with rfl | hp
  · exact unit_pt l
  · exact ih p hp

/-- Code points, written down. -/
def encs (ps : List Nat) : List UInt8 := ps.flatMap enc

theorem unit_enc {p : Nat} (h : isPt p = true) (t : List UInt8) : unit (enc p ++ t) = (p, lenOf p) := by
  rw [unit, first_enc h]; rfl

theorem enc_ne (p : Nat) : enc p ≠ [] := by
  intro h
  have h1 := enc_length p
  have h2 := lenOf_pos p
  rw [h] at h1
  simp at h1
  omega

theorem pts_encs (ps : List Nat) (h : ∀ p ∈ ps, isPt p = true) : pts (encs ps) = ps := by
  induction ps with
  | nil => rfl
  | cons p ps ih =>
    have hp := h p (by simp)
    have e : encs (p :: ps) = enc p ++ encs ps := rfl
    rw [e, pts_step (by simp [enc_ne]), unit_enc hp, List.drop_left' (enc_length p), ih (fun q hq => h q (by simp [hq]))]

theorem encs_len_le (l : List UInt8) : (encs (pts l)).length ≤ 3 * l.length := by
  refine dec_induct (C := fun l => (encs (pts l)).length ≤ 3 * l.length) (by simp [pts_nil, encs]) (fun l h ih => ?_) l
  rw [pts_step h]
  have e : encs ((unit l).1 :: pts (l.drop (unit l).2)) = enc (unit l).1 ++ encs (pts (l.drop (unit l).2)) := rfl
  rw [e, List.length_append, enc_length]
  have h1 := unit_len l h
  rw [List.length_drop] at ih
  have h2 : lenOf (unit l).1 ≤ 3 * (unit l).2 := by
    unfold unit
    cases hf : first l with
    | none => simp [lenOf]
    | some x => obtain ⟨p, n⟩ := x; have := (first_some hf).2.2; simp; omega
  omega

theorem encs_pts_same (l : List UInt8) (hn : 65533 ∉ pts l) : encs (pts l) = l := by
  revert hn
  refine dec_induct (C := fun l => 65533 ∉ pts l → encs (pts l) = l) (fun _ => rfl) (fun l h ih => ?_) l
  rw [pts_step h]
  intro hn
  have e : encs ((unit l).1 :: pts (l.drop (unit l).2)) = enc (unit l).1 ++ encs (pts (l.drop (unit l).2)) := rfl
  rw [e, ih (fun g => hn (by simp [g]))]
  have h1 : (unit l).1 ≠ 65533 := fun g => hn (by simp [g])
  unfold unit at h1 ⊢
  cases hf : first l with
  | none => rw [hf] at h1; simp at h1
  | some x =>
    obtain ⟨p, n⟩ := x
    obtain ⟨_, ⟨t, ht⟩, h3⟩ := first_some hf
    simp only [Option.getD_some]
    conv => rhs; rw [← ht]
    congr 1
    rw [← ht, h3]
    exact List.drop_left' (enc_length p)

end Go.Proofs.YtjbdlihlcoldlaaGreatDoor.U8

namespace RS

/-- A letter of a number. -/
def isHx (b : Nat) : Bool := (decide (48 ≤ b) && decide (b ≤ 57)) || (decide (97 ≤ b) && decide (b ≤ 102))
def unDig (b : Nat) : Nat := if b < 58 then b - 48 else b - 87
def val (l : List Nat) : Nat := l.foldl (fun a b => a * 16 + unDig b) 0

theorem unDig_dig (d : Nat) (h : d < 16) : unDig (dig d) = d := by
  unfold unDig dig
  split <;> split <;> omega

theorem isHx_dig (d : Nat) (h : d < 16) : isHx (dig d) = true := by
  unfold isHx dig
  split <;> simp <;> omega

theorem hexF_hx : ∀ f u, ∀ b ∈ hexF f u, isHx b = true := by
  intro f
  induction f with
  | zero => intro u b hb; simp [hexF] at hb; subst hb; exact isHx_dig _ (Nat.mod_lt _ (by omega))
  | succ f ih =>
    intro u b hb
    rw [hexF] at hb
    split at hb
    · simp at hb; subst hb; exact isHx_dig _ (by assumption)
    · rcases List.mem_append.1 hb with hb | hb
      · exact ih _ b hb
      · simp at hb; subst hb; exact isHx_dig _ (Nat.mod_lt _ (by omega))

theorem val_hexF : ∀ f u, u < 16 ^ (f + 1) → val (hexF f u) = u := by
  intro f
  induction f with
  | zero =>
    intro u hu
    simp [hexF, val]
    rw [unDig_dig _ (Nat.mod_lt _ (by omega))]
    omega
  | succ f ih =>
    intro u hu
    rw [hexF]
    split
    · simp [val]; exact unDig_dig _ (by assumption)
    · have h1 : u / 16 < 16 ^ (f + 1) := by
        rw [Nat.div_lt_iff_lt_mul (by omega)]
        rw [Nat.pow_succ] at hu
        omega
      have := ih _ h1
      unfold val at this ⊢
      rw [List.foldl_append, this]
      simp only [List.foldl_cons, List.foldl_nil]
      rw [unDig_dig _ (Nat.mod_lt _ (by omega))]
      omega

theorem hex_inj {a b : Nat} (ha : a < 1114112) (hb : b < 1114112) (h : hex a = hex b) : a = b := by
  have h1 := val_hexF 16 a (by omega)
  have h2 := val_hexF 16 b (by omega)
  unfold hex at h
  rw [h, h2] at h1
  exact h1.symm

/-- Nothing, or a letter that is of no number. -/
def Ends (l : List Nat) : Prop := ∀ x t, l = x :: t → isHx x = false

theorem cut_take : ∀ (l r : List Nat), (∀ b ∈ l, isHx b = true) → Ends r → (l ++ r).takeWhile isHx = l ∧ (l ++ r).dropWhile isHx = r
  | [], [], _, _ => ⟨rfl, rfl⟩
  | [], x :: t, _, h => by
    have := h x t rfl
    simp [this]
  | b :: l, r, hl, hr => by
    have h1 := hl b (by simp)
    have h2 := cut_take l r (fun x hx => hl x (by simp [hx])) hr
    simp [h1, h2]

theorem hex_cut {a b : Nat} {r s : List Nat} (ha : a < 1114112) (hb : b < 1114112) (hr : Ends r) (hs : Ends s) (h : hex a ++ r = hex b ++ s) : a = b ∧ r = s := by
  have h1 := cut_take (hex a) r (hexF_hx _ _) hr
  have h2 := cut_take (hex b) s (hexF_hx _ _) hs
  rw [h] at h1
  exact ⟨hex_inj ha hb (h1.1.symm.trans h2.1), h1.2.symm.trans h2.2⟩

/-- Nothing, or a blank. -/
def Blank (l : List Nat) : Prop := ∀ x t, l = x :: t → x = 32

theorem Blank.ends {l : List Nat} (h : Blank l) : Ends l := fun x t e => by rw [h x t e]; rfl

theorem midText_blank : ∀ (s : List Rg) (k : Nat), 0 < k → Blank (midText k s)
  | [], _, _ => fun x t e => by simp [midText] at e
  | r :: s, k, hk => fun x t e => by
    rw [midText, if_pos hk] at e
    simp at e
    exact e.1.symm

theorem rgText_cut {r q : Rg} {R S : List Nat} (h1 : 0 ≤ r.1 ∧ r.1 < 1114112 ∧ 0 ≤ r.2 ∧ r.2 < 1114112) (h2 : 0 ≤ q.1 ∧ q.1 < 1114112 ∧ 0 ≤ q.2 ∧ q.2 < 1114112) (hR : Blank R) (hS : Blank S) (h : rgText r ++ R = rgText q ++ S) : r = q ∧ R = S := by
  have hE : ∀ (x : Rg) (T : List Nat), Blank T → Ends ((if x.2 = x.1 then [] else 45 :: hex x.2.toNat) ++ T) := by
    intro x T hT
    split
    · simpa using hT.ends
    · intro y t e
      simp at e
      rw [← e.1]
      rfl
  unfold rgText at h
  rw [List.append_assoc, List.append_assoc] at h
  obtain ⟨e1, e2⟩ := hex_cut (by omega) (by omega) (hE r R hR) (hE q S hS) h
  have e3 : r.1 = q.1 := by omega
  by_cases hr : r.2 = r.1
  · by_cases hq : q.2 = q.1
    · rw [if_pos hr, if_pos hq] at e2
      exact ⟨Prod.ext e3 (by omega), by simpa using e2⟩
    · rw [if_pos hr, if_neg hq] at e2
      simp at e2
      have := hR _ _ e2
      omega
  · by_cases hq : q.2 = q.1
    · rw [if_neg hr, if_pos hq] at e2
      simp at e2
      have := hS _ _ e2.symm
      omega
    · rw [if_neg hr, if_neg hq] at e2
      simp at e2
      obtain ⟨e4, e5⟩ := hex_cut (by omega) (by omega) hR.ends hS.ends e2
      exact ⟨Prod.ext e3 (by omega), e5⟩

theorem midText_inj : ∀ (X Y : List Rg) (k : Nat), (∀ r ∈ X, 0 ≤ r.1 ∧ r.1 < 1114112 ∧ 0 ≤ r.2 ∧ r.2 < 1114112) → (∀ r ∈ Y, 0 ≤ r.1 ∧ r.1 < 1114112 ∧ 0 ≤ r.2 ∧ r.2 < 1114112) → midText k X = midText k Y → X = Y
  | [], [], _, _, _, _ => rfl
  | [], q :: Y, k, _, _, h => by
    have h2 : (midText k (q :: Y)).length = 0 := by rw [← h]; rfl
    have h1 := (hexF_length 16 q.1.toNat).1
    rw [midText, rgText, hex, List.length_append, List.length_append, List.length_append] at h2
    omega
  | r :: X, [], k, _, _, h => by
    have h2 : (midText k (r :: X)).length = 0 := by rw [h]; rfl
    have h1 := (hexF_length 16 r.1.toNat).1
    rw [midText, rgText, hex, List.length_append, List.length_append, List.length_append] at h2
    omega
  | r :: X, q :: Y, k, hx, hy, h => by
    rw [midText, midText, List.append_assoc, List.append_assoc] at h
    have h' := List.append_cancel_left h
    obtain ⟨e1, e2⟩ := rgText_cut (hx r (by simp)) (hy q (by simp)) (midText_blank X (k + 1) (by omega)) (midText_blank Y (k + 1) (by omega)) h'
    rw [e1, midText_inj X Y (k + 1) (fun z hz => hx z (by simp [hz])) (fun z hz => hy z (by simp [hz])) e2]

theorem setText_inj {X Y : List Rg} (hx : ∀ r ∈ X, 0 ≤ r.1 ∧ r.1 < 1114112 ∧ 0 ≤ r.2 ∧ r.2 < 1114112) (hy : ∀ r ∈ Y, 0 ≤ r.1 ∧ r.1 < 1114112 ∧ 0 ≤ r.2 ∧ r.2 < 1114112) (h : setText X = setText Y) : X = Y := by
  unfold setText at h
  simp at h
  exact midText_inj X Y 0 hx hy h

end RS
