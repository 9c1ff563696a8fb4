/- What is read has no long row of parts. -/
import Derived.Test.YtjbdlihlcoldlaaGreatDoorG33
import Derived.Test.YtjbdlihlcoldlaaGreatDoorG35
import Derived.Test.YtjbdlihlcoldlaaGreatDoorG37
import Derived.Test.YtjbdlihlcoldlaaGreatDoorG36
import Derived.Test.YtjbdlihlcoldlaaGreatDoorG27
import Derived.Test.YtjbdlihlcoldlaaGreatDoorG28
import Derived.Test.YtjbdlihlcoldlaaGreatDoorG24
namespace RP

theorem toks_wt (L : Nat) : ∀ (f n : Nat) (r : List UInt8) (l : List Tok), toksF L f n r = .ok l → wt l ≤ r.length + 100 * l.length := by
  intro f
  induction f with
  | zero => intro n r l h; cases h; simp [wt]
  | succ f ih =>
    intro n r l h
    rw [toksF] at h
    have hsl := skipL_le r
    cases hs : skipL r with
    | nil => rw [hs] at h; cases h; simp [wt]
    | cons c t =>
      rw [hs] at h hsl
      dsimp only at h
      cases ht : tokenL (c :: t) with
      | none => rw [ht] at h; cases h
      | some kx =>
        obtain ⟨k, x⟩ := kx
        rw [ht] at h
        dsimp only at h
        by_cases h5 : n = 500
        · rw [if_pos h5] at h; cases h
        rw [if_neg h5] at h
        have hxl := tokenL_len ht
        cases hq : toksF L f (n + 1) ((c :: t).drop x.length) with
        | error b => rw [hq] at h; cases h
        | ok q =>
          rw [hq] at h
          cases h
          have := ih _ _ _ hq
          rw [List.length_drop] at this
          rw [wt]
          simp only [List.length_cons] at this hsl hxl ⊢
          omega

theorem parse_parts {S : List UInt8 → Option (List RS.Rg)} {s : List UInt8} {f : Fi} (h : parseP S s = .ok f) : ∃ ts q, toks s = .ok ts ∧ fileP S ts = .ok (f, q) := by
  unfold parseP at h
  cases h1 : toks s with
  | error b => rw [h1] at h; cases h
  | ok ts =>
    rw [h1] at h
    dsimp only at h
    cases h2 : fileP S ts with
    | error b => rw [h2] at h; cases h
    | ok v =>
      obtain ⟨g, q⟩ := v
      rw [h2] at h
      cases h
      exact ⟨ts, q, rfl, h2⟩


theorem tail_wt {ts z s : List Tok} (h : ts = z ++ s) : wt s ≤ wt ts := by subst h; rw [wt_append]; omega

theorem takeP_wt {c k : Nat} {ts s : List Tok} {t : Tok} (h : takeP c k ts = .ok (t, s)) : wt s ≤ wt ts := by
  cases ts with
  | nil => cases h
  | cons u r =>
    rw [takeP] at h
    split at h
    · cases h; rw [wt]; omega
    · cases h

theorem nameP_wt {c : Nat} {ts s : List Tok} {x : List UInt8} (h : nameP c ts = .ok (x, s)) : wt s ≤ wt ts := by
  cases ts with
  | nil => cases h
  | cons u r =>
    rw [nameP] at h
    split at h
    · split at h
      · cases h
      · cases h; rw [wt]; omega
    · cases h

theorem markP_wt {c : Nat} {ts s : List Tok} {x : List UInt8} (h : markP c x ts = .ok s) : wt s ≤ wt ts := by
  cases ts with
  | nil => cases h
  | cons u r =>
    rw [markP] at h
    split at h
    · cases h; rw [wt]; omega
    · cases h

theorem classP_wt {S : List UInt8 → Option (List RS.Rg)} (hS : SetS S) {c : Nat} {ts s : List Tok} {x : Cl} (h : classP S c ts = .ok (x, s)) : wt s ≤ wt ts := by
  unfold classP at h
  split at h
  · cases h
  cases h1 : takeP c 5 ts with
  | error b => rw [h1] at h; cases h
  | ok v1 =>
    obtain ⟨t1, r1⟩ := v1
    rw [h1] at h
    dsimp only at h
    have k1 := takeP_wt h1
    cases h2 : nameP (c + 1) r1 with
    | error b => rw [h2] at h; cases h
    | ok v2 =>
      obtain ⟨t2, r2⟩ := v2
      rw [h2] at h
      dsimp only at h
      have k2 := nameP_wt h2
      cases h3 : markP (c + 1) [61] r2 with
      | error b => rw [h3] at h; cases h
      | ok r3 =>
        rw [h3] at h
        dsimp only at h
        have k3 := markP_wt h3
        cases h4 : kindP (oneKindP S (c + 1) 9) r3 with
        | error b => rw [h4] at h; cases h
        | ok v4 =>
          obtain ⟨t4, r4⟩ := v4
          rw [h4] at h
          dsimp only at h
          obtain ⟨⟨z, hz, -⟩, -⟩ := kind_good (oneKind_good hS (c + 1) 9) () _ _ _ h4
          have k4 := tail_wt hz
          cases h5 : markP (c + 1) [59] r4 with
          | error b => rw [h5] at h; cases h
          | ok r5 =>
            rw [h5] at h
            cases h
            have k5 := markP_wt h5
            omega

theorem clsL_wt {S : List UInt8 → Option (List RS.Rg)} (hS : SetS S) : ∀ (f : Nat) (cs : List Cl) (ts : List Tok) (x : List Cl) (r : List Tok), clsL S f cs ts = .ok (x, r) → wt r ≤ wt ts := by
  intro f
  induction f with
  | zero => intro cs ts x r h; rw [clsL] at h; cases h; omega
  | succ f ih =>
    intro cs ts x r h
    rw [clsL] at h
    by_cases h0 : (hd ts).kind = 5
    · rw [if_pos h0] at h
      cases h1 : classP S cs.length ts with
      | error b => rw [h1] at h; cases h
      | ok y =>
        obtain ⟨y, q⟩ := y
        rw [h1] at h
        have f1 := classP_wt hS h1
        have f2 := ih _ _ _ _ h
        omega
    · rw [if_neg h0] at h; cases h; omega

theorem rule_text_le {rs : List Ru} {r : Ru} (h : r ∈ rs) : r.text.length ≤ (rulesT rs).length := by
  induction rs with
  | nil => cases h
  | cons q rs ih =>
    have e : (rulesT (q :: rs)).length = q.text.length + (rulesT rs).length := by simp [rulesT]
    rcases List.mem_cons.1 h with rfl | h
    · omega
    · have := ih h; omega

theorem side_le (r : Ru) : r.before.text.length ≤ r.text.length ∧ r.after.text.length ≤ r.text.length := by
  have h : ∀ p : Pt, p.text.length ≤ (sideT p).length := by
    intro p
    unfold sideT
    split
    · rename_i h; rw [h]; simp
    · simp
  have h1 := h r.before
  have h2 := h r.after
  unfold Ru.text
  simp only [List.length_append]
  omega

theorem wrap_ge (c : Nat) (p : Pt) (t : List UInt8) : t.length ≤ (wrapT c p t).length := by
  unfold wrapT
  split
  · simp only [List.length_cons, List.length_append, List.length_nil]; omega
  · exact Nat.le_refl _

end RP
namespace Go.Proofs.YtjbdlihlcoldlaaGreatDoor.M
open Go.RowKit Go.Shelf Go.Proofs.YtjbdlihlcoldlaaGreatDoor.Q

theorem items_le (c : Nat) (hc : 1 ≤ (RP.btw c).length) : ∀ (ps : RP.Pt) (f : Bool), (items ps).length ≤ (ps.txt c f).length + 1 := by
  have hcons : ∀ (ps : RP.Pt), (items ps).length ≤ (ps.txt c false).length := by
    intro ps
    induction ps with
    | cons p ps _ ih2 =>
      rw [items, RP.Pt.txt]
      simp only [List.length_append, List.length_cons, Bool.false_eq_true, if_false]
      omega
    | _ => simp [items]
  intro ps f
  cases f with
  | false => have := hcons ps; omega
  | true =>
    cases ps with
    | cons p ps =>
      rw [items, RP.Pt.txt]
      have := hcons ps
      simp only [List.length_append, List.length_cons]
      omega
    | _ => simp [items]

theorem short_of : ∀ (p : RP.Pt) (c : Nat) (f : Bool), (p.txt c f).length ≤ 900000 → ShortP p := by
  intro p
  induction p with
  | one k => intro c f h; trivial
  | any => intro c f h; trivial
  | edge => intro c f h; trivial
  | nil => intro c f h; trivial
  | cat ps ih =>
    intro c f h
    rw [RP.Pt.txt] at h
    have := items_le 4 (by decide) ps true
    exact ⟨by omega, ih _ _ h⟩
  | alt ps ih =>
    intro c f h
    rw [RP.Pt.txt] at h
    have := items_le 5 (by decide) ps true
    exact ⟨by omega, ih _ _ h⟩
  | many p lo hi ih =>
    intro c f h
    rw [RP.Pt.txt, List.length_append] at h
    have := RP.wrap_ge 6 p (p.txt 0 true)
    exact ih 0 true (by omega)
  | cons p ps ih1 ih2 =>
    intro c f h
    rw [RP.Pt.txt, List.length_append, List.length_append] at h
    have := RP.wrap_ge c p (p.txt 0 true)
    exact ⟨ih1 0 true (by omega), ih2 c false (by omega)⟩

theorem parse_short {S : List UInt8 → Option (List RS.Rg)} (hS : RP.SetS S) {s : List UInt8} (hs : s.length ≤ 5000) {f : RP.Fi} (h : RP.parseP S s = .ok f) : ShortF f := by
  obtain ⟨ts, q, h1, h2⟩ := RP.parse_parts h
  obtain ⟨hf, hl⟩ := RP.toks_fine hs h1
  have hw := RP.toks_wt _ _ _ _ _ h1
  unfold RP.fileP at h2
  cases hc : RP.clsL S ts.length [] ts with
  | error b => rw [hc] at h2; cases h2
  | ok v =>
    obtain ⟨cs, r⟩ := v
    rw [hc] at h2
    dsimp only at h2
    have hr := RP.clsL_fine _ _ _ _ _ hf hc
    have hrw := RP.clsL_wt hS _ _ _ _ _ hc
    cases hu : RP.rulesL S cs.length r.length [] r with
    | error b => rw [hu] at h2; cases h2
    | ok v =>
      obtain ⟨rs, r2⟩ := v
      rw [hu] at h2
      dsimp only at h2
      obtain ⟨_, _, hx⟩ := RP.rulesL_facts hS cs.length _ _ _ _ _ hu
      obtain ⟨hx1, _⟩ := hx (fun u hu => (hr.1.2 u hu).1) (fun y hy => by cases hy)
      have e0 : (RP.rulesT ([] : List RP.Ru)).length = 0 := rfl
      cases he : RP.elseP cs.length r2 with
      | error b => rw [he] at h2; cases h2
      | ok v =>
        obtain ⟨k, r3⟩ := v
        rw [he] at h2
        dsimp only at h2
        cases ht : RP.takeP cs.length 0 r3 with
        | error b => rw [ht] at h2; cases h2
        | ok v =>
          obtain ⟨t, r4⟩ := v
          rw [ht] at h2
          cases h2
          intro y hy
          have hy : y ∈ rs := hy
          have k1 := RP.rule_text_le hy
          have k2 := RP.side_le y
          refine ⟨short_of _ 0 true ?_, short_of _ 0 true ?_⟩
          · have := k2.1
            unfold RP.Pt.text at this
            omega
          · have := k2.2
            unfold RP.Pt.text at this
            omega

theorem setOf_S : RP.SetS setOf := by
  intro t X h
  unfold setOf at h
  split at h
  · rename_i hx
    cases h
    have h2 := hx.choose_spec.2
    have h3 : RP.setT hx.choose = t := by
      have := congrArg (fun b : ByteArray => b.data.toList) h2
      exact this
    refine ⟨h3, ?_⟩
    have h4 := midText_ge hx.choose 0
    have h5 : (RP.setT hx.choose).length = (RS.midText 0 hx.choose).length + 2 := by
      unfold RP.setT RS.setText
      simp
    have h6 := congrArg List.length h3
    omega
  · cases h


end Go.Proofs.YtjbdlihlcoldlaaGreatDoor.M

namespace Go.Proofs.YtjbdlihlcoldlaaGreatDoor.Q
open Go.RowKit Go.Shelf

theorem right_bounds : ∀ (X : List RS.Rg) (a : Int), -2 ≤ a → RS.rightFrom a X = true → ∀ r ∈ X, -1 ≤ a + 1 ∧ a + 1 < r.1 ∧ r.1 ≤ r.2 ∧ r.2 < 1114112
  | [], _, _, _, r, hr => by cases hr
  | q :: X, a, ha, h, r, hr => by
    rw [RS.rightFrom_cons] at h
    obtain ⟨h1, h2, h3, h4⟩ := h
    rcases List.mem_cons.1 hr with rfl | hr
    · omega
    · have := right_bounds X q.2 (by omega) h4 r hr
      omega

theorem right_in {X : List RS.Rg} (h : RS.right X = true) : ∀ r ∈ X, 0 ≤ r.1 ∧ r.1 < 1114112 ∧ 0 ≤ r.2 ∧ r.2 < 1114112 := fun r hr => by
  have := right_bounds X (-2) (by omega) h r hr
  omega

theorem ofNat_inj : ∀ {l m : List Nat}, (∀ b ∈ l, b < 256) → (∀ b ∈ m, b < 256) → l.map UInt8.ofNat = m.map UInt8.ofNat → l = m
  | [], [], _, _, _ => rfl
  | [], _ :: _, _, _, h => by cases h
  | _ :: _, [], _, _, h => by cases h
  | a :: l, b :: m, hl, hm, h => by
    rw [List.map_cons, List.map_cons] at h
    obtain ⟨h1, h2⟩ := List.cons.inj h
    have h3 := congrArg UInt8.toNat h1
    have ha := hl a (by simp)
    have hb := hm b (by simp)
    rw [UInt8.toNat_ofNat', UInt8.toNat_ofNat'] at h3
    rw [ofNat_inj (fun x hx => hl x (by simp [hx])) (fun x hx => hm x (by simp [hx])) h2]
    congr 1
    omega

/-- A text that a right set has is that set. -/
theorem setOf_is {t : List UInt8} {X : List RS.Rg} (hr : RS.right X = true) (ht : RP.setT X = t) : setOf t = some X := by
  have h : ∃ X, RS.right X = true ∧ bytesOf (RS.setText X) = ⟨t.toArray⟩ := ⟨X, hr, by rw [← ht]; rfl⟩
  unfold setOf
  rw [dif_pos h]
  congr 1
  obtain ⟨h1, h2⟩ := h.choose_spec
  generalize h.choose = Y at h1 h2
  have h3 : (RS.setText Y).map UInt8.ofNat = t := by
    have := congrArg (fun b : ByteArray => b.data.toList) h2
    exact this
  exact RS.setText_inj (right_in h1) (right_in hr) (ofNat_inj (setText_lt Y) (setText_lt X) (h3.trans ht.symm))

end Go.Proofs.YtjbdlihlcoldlaaGreatDoor.Q
