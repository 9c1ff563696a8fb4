/- What is read is fit: no program is named here. -/
import Derived.Test.YtjbdlihlcoldlaaGreatDoorG28
import Derived.Test.YtjbdlihlcoldlaaGreatDoorG36
import Derived.Test.YtjbdlihlcoldlaaGreatDoorG00
namespace CK
open RP

theorem fit_of_ok : ∀ {k : K}, k.Ok → Fit k := by
  intro k
  induction k with
  | lit a X => intro _; trivial
  | ref a x => intro h; exact h
  | bin c a l r ihl ihr => intro h; exact ⟨h.1, ihl h.2.1, ihr h.2.2⟩
  | neg a k ih => intro h; exact ih h

theorem fitP_of_ok : ∀ {p : Pt} {b : Bool}, p.Ok b → FitP p b := by
  intro p
  induction p with
  | one k => intro b h; exact ⟨h.1, fit_of_ok h.2⟩
  | any => intro b h; exact h
  | edge => intro b h; exact h
  | cat ps ih => intro b h; exact ⟨h.1, ih h.2⟩
  | alt ps ih => intro b h; exact ⟨h.1, ih h.2⟩
  | many p lo hi ih => intro b h; exact ⟨h.1, ih h.2.1, h.2.2⟩
  | nil => intro b h; exact h
  | cons p ps ih1 ih2 => intro b h; exact ⟨h.1, ih1 h.2.1, ih2 h.2.2⟩

theorem rulesL_20 (S : List UInt8 → Option (List RS.Rg)) (c : Nat) : ∀ (f : Nat) (rs : List Ru) (ts : List Tok) (x : List Ru) (r : List Tok), rs.length ≤ 20 → rulesL S c f rs ts = .ok (x, r) → x.length ≤ 20 := by
  intro f
  induction f with
  | zero => intro rs ts x r hl h; cases h; exact hl
  | succ f ih =>
    intro rs ts x r hl h
    rw [rulesL] at h
    by_cases h0 : (hd ts).kind = 6 ∨ (hd ts).kind = 7
    · rw [if_pos h0] at h
      by_cases h20 : rs.length = 20
      · rw [if_pos h20] at h; cases h
      rw [if_neg h20] at h
      cases h1 : ruleP S c ts with
      | error b => rw [h1] at h; cases h
      | ok v =>
        obtain ⟨y, s⟩ := v
        rw [h1] at h
        exact ih _ _ _ _ (by simp; omega) h
    · rw [if_neg h0] at h; cases h; exact hl

theorem parse_fit {S : List UInt8 → Option (List RS.Rg)} (hS : SetS S) {s : List UInt8} (hs : s.length ≤ 5000) {f : Fi} (h : (∃ ts q, toks s = .ok ts ∧ fileP S ts = .ok (f, q))) : FitF f := by
  obtain ⟨ts, q, h1, h2⟩ := h
  obtain ⟨hf, hl⟩ := toks_fine hs h1
  unfold fileP at h2
  cases hc : clsL S ts.length [] ts with
  | error b => rw [hc] at h2; cases h2
  | ok v =>
    obtain ⟨cs, r⟩ := v
    rw [hc] at h2
    dsimp only at h2
    obtain ⟨c1, c2⟩ := clsL_fit _ _ _ _ _ (by simp) (by simp) hc
    have hr := clsL_fine _ _ _ _ _ hf hc
    cases hu : rulesL S cs.length r.length [] r with
    | error b => rw [hu] at h2; cases h2
    | ok v =>
      obtain ⟨rs, r2⟩ := v
      rw [hu] at h2
      dsimp only at h2
      obtain ⟨_, _, hx⟩ := rulesL_facts hS cs.length _ _ _ _ _ hu
      obtain ⟨_, hx2⟩ := hx (fun u hu => (hr.1.2 u hu).1) (fun y hy => by cases hy)
      have h20 := rulesL_20 S cs.length _ _ _ _ _ (by simp) hu
      cases he : elseP cs.length r2 with
      | error b => rw [he] at h2; cases h2
      | ok v =>
        obtain ⟨k, r3⟩ := v
        rw [he] at h2
        dsimp only at h2
        cases ht : takeP cs.length 0 r3 with
        | error b => rw [ht] at h2; cases h2
        | ok v =>
          obtain ⟨t, r4⟩ := v
          rw [ht] at h2
          cases h2
          exact ⟨c2, fun r hr => ⟨fitP_of_ok (hx2 r hr).1, fitP_of_ok (hx2 r hr).2⟩, c1, h20⟩

end CK
