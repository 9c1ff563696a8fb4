/- What the joined text is, and the contract of ruled. -/
import Derived.Test.YtjbmdnkpfkelmaaGreatDoorPriEH
import Derived.Test.YtjbmdnkpfkelmaaGreatDoorPlain
import Derived.Lib.IndexMore
import Derived.Deep.RegionHeld3
namespace RP

theorem toks_wt (L : Nat) : ∀ (f n : Nat) (r : List UInt8) (l : List Tok), toksF L f n r = .ok l → wt l ≤ r.length + 100 * l.length := by
  intro f
  induction f with
  | zero => intro n r l h; cases h; simp [wt]
  | succ f ih =>
    intro n r l h
    rw [toksF] at h
    have hsl := skipL_le r
    cases hs : skipL r with
    | nil => rw [hs] at h; cases h; simp [wt]
    | cons c t =>
      rw [hs] at h hsl
      dsimp only at h
      cases ht : tokenL (c :: t) with
      | none => rw [ht] at h; cases h
      | some kx =>
        obtain ⟨k, x⟩ := kx
        rw [ht] at h
        dsimp only at h
        by_cases h5 : n = 500
        · rw [if_pos h5] at h; cases h
        rw [if_neg h5] at h
        have hxl := tokenL_len ht
        cases hq : toksF L f (n + 1) ((c :: t).drop x.length) with
        | error b => rw [hq] at h; cases h
        | ok q =>
          rw [hq] at h
          cases h
          have := ih _ _ _ hq
          rw [List.length_drop] at this
          rw [wt]
          simp only [List.length_cons] at this hsl hxl ⊢
          omega

theorem rulesL_20 (S : List UInt8 → Option (List RS.Rg)) (c : Nat) : ∀ (f : Nat) (rs : List Ru) (ts : List Tok) (x : List Ru) (r : List Tok), rs.length ≤ 20 → rulesL S c f rs ts = .ok (x, r) → x.length ≤ 20 := by
  intro f
  induction f with
  | zero => intro rs ts x r hl h; cases h; exact hl
  | succ f ih =>
    intro rs ts x r hl h
    rw [rulesL] at h
    by_cases h0 : (hd ts).kind = 6 ∨ (hd ts).kind = 7
    · rw [if_pos h0] at h
      by_cases h20 : rs.length = 20
      · rw [if_pos h20] at h; cases h
      rw [if_neg h20] at h
      cases h1 : ruleP S c ts with
      | error b => rw [h1] at h; cases h
      | ok v =>
        obtain ⟨y, s⟩ := v
        rw [h1] at h
        exact ih _ _ _ _ (by simp; omega) h
    · rw [if_neg h0] at h; cases h; exact hl

theorem parse_parts {S : List UInt8 → Option (List RS.Rg)} {s : List UInt8} {f : Fi} (h : parseP S s = .ok f) : ∃ ts q, toks s = .ok ts ∧ fileP S ts = .ok (f, q) := by
  unfold parseP at h
  cases h1 : toks s with
  | error b => rw [h1] at h; cases h
  | ok ts =>
    rw [h1] at h
    dsimp only at h
    cases h2 : fileP S ts with
    | error b => rw [h2] at h; cases h
    | ok v =>
      obtain ⟨g, q⟩ := v
      rw [h2] at h
      cases h
      exact ⟨ts, q, rfl, h2⟩

/-- A file without classes is such as can be written. -/
theorem parse_ok {S : List UInt8 → Option (List RS.Rg)} (hS : SetS S) {s : List UInt8} (hs : s.length ≤ 5000) {f : Fi} (h : parseP S s = .ok f) (hc : f.classes = []) : f.Ok ∧ f.rules.length ≤ 20 := by
  obtain ⟨ts, q, h1, h2⟩ := parse_parts h
  obtain ⟨hf, hl⟩ := toks_fine hs h1
  obtain ⟨_, r2, r3, t, h3, _, _, _⟩ := file_parts hf.1.ne h2 hc
  have hw := toks_wt _ _ _ _ _ h1
  obtain ⟨_, _, hx⟩ := rulesL_facts hS 0 _ _ _ _ _ h3
  obtain ⟨hx1, hx2⟩ := hx (fun u hu => (hf.2 u hu).1) (fun y hy => by cases hy)
  refine ⟨⟨fun c hc' => absurd hc' (by rw [hc]; simp), hx2, ?_⟩, rulesL_20 S 0 _ _ _ _ _ (by simp) h3⟩
  unfold Fi.text
  rw [hc]
  have e1 : (rulesT ([] : List Ru)).length = 0 := rfl
  have e2 : (classesT ([] : List Cl)).length = 0 := rfl
  have e3 : (if f.els then [] else wElseKeep).length ≤ 11 := by split <;> decide
  rw [List.length_append, List.length_append]
  omega

/-- Two texts, one behind the other. -/
theorem parse_join {S : List UInt8 → Option (List RS.Rg)} (hS : SetS S) {s u : List UInt8} (hs : s.length ≤ 200) (hu : u.length ≤ 200) {fa fb : Fi} (ha : parseP S s = .ok fa) (hb : parseP S u = .ok fb) (hca : fa.classes = []) (hcb : fb.classes = [])
    (hne : ¬ ∃ a b, s = a ++ wElse ++ b) (hl : fa.rules.length + fb.rules.length ≤ 20) : ∃ fc, parseP S (s ++ 10 :: u) = .ok fc ∧ fc.classes = [] ∧ fc.text = fa.text ++ fb.text := by
  obtain ⟨ta, qa, h1, h2⟩ := parse_parts ha
  obtain ⟨tb, qb, h3, h4⟩ := parse_parts hb
  obtain ⟨hfa, hla⟩ := toks_fine (by omega) h1
  obtain ⟨hfb, hlb⟩ := toks_fine (by omega) h3
  have hna := toks_len _ _ _ _ _ h1
  have hnb := toks_len _ _ _ _ _ h3
  obtain ⟨a, e, a2, g, e1, e2, e3, e4, e5⟩ := toks_join s.length (s ++ 10 :: u).length u (s.length + 1) ((s ++ 10 :: u).length + 1) 0 0 s ta (by omega) (by omega) h1 (by omega)
  have hal : a.length ≤ 200 := by have := congrArg List.length e1; rw [List.length_append, List.length_cons, List.length_nil] at this; omega
  obtain ⟨tb2, k1, k2⟩ := toks_shift u.length (s ++ 10 :: u).length (u.length + 1) 0 (0 + a.length) u tb h3 (by omega)
  rw [toksF_more _ (u.length + 1) g _ _ (by omega) e4] at k1
  rw [k1] at e5
  dsimp only at e5
  subst e1
  have hA : ∀ t ∈ a, t.kind ≠ 0 ∧ t.kind ≠ 8 := by
    intro t ht
    obtain ⟨⟨pre, n, hp, hq⟩, _⟩ := hfa
    have hpa : pre = a := by
      have := congrArg List.dropLast hp
      simpa using this.symm
    subst hpa
    exact ⟨(hq t ht).1, fun hk => hne (toks_text _ _ _ _ _ h1 t (by simp [ht]) hk)⟩
  obtain ⟨fc, q, m1, m2, m3⟩ := files_join hS e2 hA e3 k2 hfb.1.ne h2 h4 hca hcb hl
  refine ⟨fc, ?_, m2, m3⟩
  unfold parseP toks
  rw [e5]
  dsimp only
  rw [m1]

end RP
namespace Go.Proofs.YtjbmdnkpfkelmaaGreatDoor.Q
open Go.RowKit Go.Shelf

theorem setOf_S : RP.SetS setOf := by
  intro t X h
  unfold setOf at h
  split at h
  · rename_i hx
    cases h
    have h2 := hx.choose_spec.2
    have h3 : RP.setT hx.choose = t := by
      have := congrArg (fun b : ByteArray => b.data.toList) h2
      exact this
    refine ⟨h3, ?_⟩
    have h4 := midText_ge hx.choose 0
    have h5 : (RP.setT hx.choose).length = (RS.midText 0 hx.choose).length + 2 := by
      unfold RP.setT RS.setText
      simp
    have h6 := congrArg List.length h3
    omega
  · cases h

theorem setOf_some {t : List UInt8} (X : List RS.Rg) (hr : RS.right X = true) (ht : RP.setT X = t) : ∃ Y, setOf t = some Y := by
  have h : ∃ X, RS.right X = true ∧ bytesOf (RS.setText X) = ⟨t.toArray⟩ := ⟨X, hr, by rw [← ht]; rfl⟩
  exact ⟨h.choose, by unfold setOf; rw [dif_pos h]⟩

theorem no_else {s : List UInt8} (h : Lib.contains s RP.wElse = false) : ¬ ∃ a b, s = a ++ RP.wElse ++ b := by
  rintro ⟨a, b, rfl⟩
  unfold Lib.contains at h
  rcases Lib.index_spec (a ++ RP.wElse ++ b) RP.wElse with ⟨h1, h2⟩ | ⟨i, h1, _⟩
  · have := h2 a.length (by simp)
    unfold Lib.occAt at this
    rw [List.append_assoc, List.drop_left'] at this
    · have h3 : RP.wElse.isPrefixOf (RP.wElse ++ b) = true := by rw [List.isPrefixOf_iff_prefix]; exact List.prefix_append _ _
      rw [h3] at this
      cases this
    · rfl
  · rw [h1] at h
    simp at h

/-- The text that ruled reads. -/
def ruledS : List UInt8 := [99, 108, 97, 115, 115, 32, 97, 61, 91, 54, 49, 45, 55, 97, 93, 45, 91, 54, 53, 93, 59, 35, 120, 10, 107, 101, 101, 112, 32, 97, 40, 97, 124, 46, 41, 42, 32, 58, 32, 40, 32, 97, 32, 41, 123, 50, 44, 125, 32, 59, 101, 108, 115, 101, 32, 107, 101, 101, 112, 59]
def t1 : List UInt8 := [91, 54, 49, 45, 55, 97, 93]
def t2 : List UInt8 := [91, 54, 53, 93]

/-- The file that it is. -/
def ruledF (X Y : List RS.Rg) : RP.Fi :=
  ⟨[⟨0, [97], .bin 5 8 (.lit 8 X) (.lit 16 Y)⟩], [⟨24, false, .cat (RP.listOf [.one (.ref 29 [97]), .many (.alt (RP.listOf [.one (.ref 31 [97]), .any])) 0 (-1)]), .many (.one (.ref 41 [97])) 2 (-1)⟩], false⟩

theorem ruled_parse (S : List UInt8 → Option (List RS.Rg)) (X Y : List RS.Rg) : RP.parseP (fun t => if t = t1 then some X else if t = t2 then some Y else S t) ruledS = .ok (ruledF X Y) := by
  kernel_rfl

theorem ruled_of : ∃ X Y, RP.parseP setOf ruledS = .ok (ruledF X Y) ∧ RP.setT X = t1 ∧ RP.setT Y = t2 ∧ X.length ≤ 7 ∧ Y.length ≤ 4 := by
  obtain ⟨X, hX⟩ := setOf_some (t := t1) [(97, 122)] (by decide) (by decide)
  obtain ⟨Y, hY⟩ := setOf_some (t := t2) [(101, 101)] (by decide) (by decide)
  have e : setOf = fun t => if t = t1 then some X else if t = t2 then some Y else setOf t := by
    funext t
    by_cases h1 : t = t1
    · rw [if_pos h1, h1, hX]
    · rw [if_neg h1]
      by_cases h2 : t = t2
      · rw [if_pos h2, h2, hY]
      · rw [if_neg h2]
  have h1 := setOf_S _ _ hX
  have h2 := setOf_S _ _ hY
  refine ⟨X, Y, ?_, h1.1, h2.1, h1.2, h2.2⟩
  have := ruled_parse setOf X Y
  rw [← e] at this
  exact this

/-- What it is written as. -/
def ruledT : List UInt8 := [99, 108, 97, 115, 115, 32, 97, 32, 61, 32, 91, 54, 49, 45, 55, 97, 93, 32, 45, 32, 91, 54, 53, 93, 59, 10, 107, 101, 101, 112, 32, 97, 32, 40, 97, 32, 124, 32, 46, 41, 42, 32, 58, 32, 97, 123, 50, 44, 125, 59, 10, 101, 108, 115, 101, 32, 107, 101, 101, 112, 59, 10]

theorem itoa2 : Go.Lib.itoa 2 = [50] := by
  rw [Go.Lib.itoa, if_neg (by decide)]
  show Go.Lib.decDigits 2 = _
  rw [Go.Lib.decDigits, dif_pos (by omega)]
  rfl

def ruledC (X Y : List RS.Rg) : RP.Cl := ⟨0, [97], .bin 5 8 (.lit 8 X) (.lit 16 Y)⟩
def ruledR : RP.Ru := ⟨24, false, .cat (RP.listOf [.one (.ref 29 [97]), .many (.alt (RP.listOf [.one (.ref 31 [97]), .any])) 0 (-1)]), .many (.one (.ref 41 [97])) 2 (-1)⟩

theorem ruled_text {X Y : List RS.Rg} (h1 : RP.setT X = t1) (h2 : RP.setT Y = t2) : (ruledF X Y).text = ruledT := by
  have c1 : (ruledC X Y).text = [99, 108, 97, 115, 115, 32, 97, 32, 61, 32] ++ (RP.setT X ++ [32, 45, 32] ++ RP.setT Y) ++ [59, 10] := by kernel_rfl
  have r1 : ruledR.text = RP.wKeep ++ [32, 97, 32, 40, 97, 32, 124, 32, 46, 41, 42] ++ [32, 58] ++ (32 :: ([97] ++ RP.timesT 2 (-1))) ++ [59, 10] := by kernel_rfl
  have ht : RP.timesT 2 (-1) = [123, 50, 44, 125] := by
    unfold RP.timesT
    rw [itoa2]
    decide
  have e : (ruledF X Y).text = ((ruledC X Y).text ++ []) ++ (ruledR.text ++ []) ++ RP.wElseKeep := rfl
  rw [e, c1, r1, h1, h2, ht]
  rfl

theorem ruled_ok {X Y : List RS.Rg} (h1 : RP.setT X = t1) (h2 : RP.setT Y = t2) (l1 : X.length ≤ 7) (l2 : Y.length ≤ 4) : (ruledF X Y).Ok := by
  refine ⟨?_, ?_, ?_⟩
  · intro c hc
    simp only [ruledF, List.mem_cons, List.not_mem_nil, or_false] at hc
    subst hc
    exact ⟨.inr (.inr rfl), (by show X.length ≤ 10000; omega), (by show Y.length ≤ 10000; omega)⟩
  · intro r hr
    simp only [ruledF, List.mem_cons, List.not_mem_nil, or_false] at hr
    subst hr
    refine ⟨?_, ?_⟩
    · exact ⟨rfl, rfl, ⟨rfl, trivial⟩, rfl, ⟨rfl, ⟨rfl, rfl, ⟨rfl, trivial⟩, rfl, rfl, rfl⟩, by decide, by decide, by decide, by decide⟩, rfl⟩
    · exact ⟨rfl, ⟨rfl, trivial⟩, by decide, by decide, by decide, by decide⟩
  · rw [ruled_text h1 h2]
    decide

theorem PT.on {w w' : World} (h : PT w) (hb : Below w.heap.size w w') : PT w' := ⟨h.1.below hb, Lib.tabBelow_of_tabIs h.2 w' hb⟩

theorem FAt.all {ok : Nat → Prop} {w w' : World} {v : Value} {f : RP.Fi} (h : FAt ok w v f) (hb : Below w.heap.size w w') : FAt (fun _ => True) w' v f := by
  have hk : Keeps (fun _ => True) w w' := fun b _ hl => hb.block b hl
  obtain ⟨cv, rv, vs, us, rfl, h1, h2, h3, h4⟩ := h
  have hm : ∀ b, b < w.heap.size → ok b → True := fun _ _ _ => trivial
  exact ⟨cv, rv, vs, us, rfl, (h1.mono hm).keep hk, (h2.mono hm).keep hk, (CsAt.mono hm h3).keep hk, (RsAt.mono hm h4).keep hk⟩

theorem FAt.agg {ok : Nat → Prop} {w : World} {v : Value} {f : RP.Fi} (h : FAt ok w v f) : ∃ co cn cc ro rn rc, v = .agg #[.slice co cn cc, .slice ro rn rc, .bool f.els] ∧ Hid (cn = f.classes.length ∧ rn = f.rules.length) := by
  obtain ⟨cv, rv, vs, us, rfl, h1, h2, h3, h4⟩ := h
  obtain ⟨co, cc, rfl⟩ := own_slice h1.1
  obtain ⟨ro, rc, rfl⟩ := own_slice h2.1
  exact ⟨co, _, cc, ro, _, rc, rfl, rfl, rfl⟩

set_option maxHeartbeats 2000000 in
set_option maxRecDepth 100000 in
theorem ruled_any (w : World) (hP : PT w) : Calls Tryz.prog 4 #[] w fun e w' => e = .returned (.bool true) ∧ Below w.heap.size w w' := by
  obtain ⟨X, Y, hp, h1, h2, l1, l2⟩ := ruled_of
  have hPa := parse_any ⟨ruledS.toArray⟩ (by decide) w hP.1
  have e0 : (⟨ruledS.toArray⟩ : ByteArray).data.toList = ruledS := rfl
  rw [e0, hp] at hPa
  have HT : Hid ((ruledF X Y).text = ruledT) := ruled_text h1 h2
  have HO : Hid ((ruledF X Y).Ok) := ruled_ok h1 h2 l1 l2
  have HP : Hid (PT w) := hP
  have HF : Hid ((ruledF X Y).els = false) := rfl
  have HL : Hid ((ruledF X Y).classes.length ≤ 1000000 ∧ (ruledF X Y).rules.length ≤ 1000000) := by show _ ∧ _; exact ⟨by show 1 ≤ _; omega, by show 1 ≤ _; omega⟩
  clear hP h1 h2 l1 l2 hp e0
  generalize ruledF X Y = f at hPa HT HO HF HL
  unfold ruledS at hPa
  go_enter Tryz.func4, Tryz.ntmps4
  go_wp2_with fail
  refine hPa.mono ?_
  rintro e w1 ⟨⟨v, rfl, hF⟩, hb1⟩
  obtain ⟨co, cn, cc, ro, rn, rc, rfl, -⟩ := hF.agg
  have hb2 : Below w.heap.size w (w1.alloc (.cells #[.slice co cn cc, .slice ro rn rc, .bool f.els] 26)) := hb1.alloc hb1.size _
  have hpr := aprint_any f HO.out (w1.alloc (.cells #[.slice co cn cc, .slice ro rn rc, .bool f.els] 26)) (HP.out.on hb2) _ (hF.all ((Below.refl _ w1).alloc (Nat.le_refl _) _)) HL.out.1 HL.out.2
  rw [HT.out] at hpr
  have hq : ((⟨ruledT.toArray⟩ : ByteArray).toList == [99, 108, 97, 115, 115, 32, 97, 32, 61, 32, 91, 54, 49, 45, 55, 97, 93, 32, 45, 32, 91, 54, 53, 93, 59, 10, 107, 101, 101, 112, 32, 97, 32, 40, 97, 32, 124, 32, 46, 41, 42, 32, 58, 32, 97, 123, 50, 44, 125, 59, 10, 101, 108, 115, 101, 32, 107, 101, 101, 112, 59, 10]) = true := by rw [Lib.toList_data]; decide
  generalize (⟨ruledT.toArray⟩ : ByteArray) = y at hpr hq
  have HB2 : Hid (Below w.heap.size w (w1.alloc (.cells #[.slice co cn cc, .slice ro rn rc, .bool f.els] 26))) := hb2
  have hs1 := hb1.size
  clear hPa hF hb1 hb2
  generalize f.els = b at hpr HB2 ⊢
  go_wp2_with fail
  refine hpr.mono ?_
  rintro e w3 ⟨rfl, hb3⟩
  have HB3 : Hid (Below w.heap.size w w3) := HB2.out.trans (hb3.mono HB2.out.size)
  clear hpr hb3
  go_wp2_with fail
  go_ret
  exact ⟨rfl, HB3.out⟩

end Go.Proofs.YtjbmdnkpfkelmaaGreatDoor.Q

namespace Go.Proofs.YtjbmdnkpfkelmaaGreatDoor.Q
open Go.RowKit Go.Shelf

theorem nine_keep {a b c : Nat} {A0 A1 A2 B0 B1 B2 C0 C1 C2 : Value} {w6 W W' : World} (hb : Below W.heap.size W W')
    (h : W.cell? ⟨c, 0, none⟩ = some C0 ∧ W.cell? ⟨c, 1, none⟩ = some C1 ∧ W.cell? ⟨c, 2, none⟩ = some C2 ∧ W.cell? ⟨a, 0, none⟩ = some A0 ∧ W.cell? ⟨a, 1, none⟩ = some A1 ∧ W.cell? ⟨a, 2, none⟩ = some A2 ∧ W.cell? ⟨b, 0, none⟩ = some B0 ∧ W.cell? ⟨b, 1, none⟩ = some B1 ∧ W.cell? ⟨b, 2, none⟩ = some B2 ∧ Below w6.heap.size w6 W) :
    W'.cell? ⟨c, 0, none⟩ = some C0 ∧ W'.cell? ⟨c, 1, none⟩ = some C1 ∧ W'.cell? ⟨c, 2, none⟩ = some C2 ∧ W'.cell? ⟨a, 0, none⟩ = some A0 ∧ W'.cell? ⟨a, 1, none⟩ = some A1 ∧ W'.cell? ⟨a, 2, none⟩ = some A2 ∧ W'.cell? ⟨b, 0, none⟩ = some B0 ∧ W'.cell? ⟨b, 1, none⟩ = some B1 ∧ W'.cell? ⟨b, 2, none⟩ = some B2 ∧ Below w6.heap.size w6 W' := by
  obtain ⟨h1, h2, h3, h4, h5, h6, h7, h8, h9, h10⟩ := h
  exact ⟨cell_W0 hb (cell_lt h1) h1, cell_W0 hb (cell_lt h2) h2, cell_W0 hb (cell_lt h3) h3, cell_W0 hb (cell_lt h4) h4, cell_W0 hb (cell_lt h5) h5, cell_W0 hb (cell_lt h6) h6, cell_W0 hb (cell_lt h7) h7, cell_W0 hb (cell_lt h8) h8, cell_W0 hb (cell_lt h9) h9, h10.trans (hb.mono h10.size)⟩

theorem chain0 (w6 : World) : Below w6.heap.size w6 w6.drew := (Below.refl _ w6).drew
theorem chain1 {w6 w7 : World} (h : Below w6.drew.heap.size w6.drew w7) : Below w6.heap.size w6 w7 := ⟨h.os, h.tape, h.output, h.size, h.block⟩
theorem chain2 {w6 w7 w8 : World} (h : Below w6.drew.heap.size w6.drew w7) (k : Below w7.heap.size w7 w8) : Below w6.heap.size w6 w8 := (chain1 h).trans (k.mono (chain1 h).size)
theorem chain3 {w6 w7 w8 w9 : World} (h : Below w6.drew.heap.size w6.drew w7) (k : Below w7.heap.size w7 w8) (l : Below w8.heap.size w8 w9) : Below w6.heap.size w6 w9 := (chain2 h k).trans (l.mono (chain2 h k).size)

theorem nine_below {a b c : Nat} {A0 A1 A2 B0 B1 B2 C0 C1 C2 : Value} {w6 W : World}
    (h : W.cell? ⟨c, 0, none⟩ = some C0 ∧ W.cell? ⟨c, 1, none⟩ = some C1 ∧ W.cell? ⟨c, 2, none⟩ = some C2 ∧ W.cell? ⟨a, 0, none⟩ = some A0 ∧ W.cell? ⟨a, 1, none⟩ = some A1 ∧ W.cell? ⟨a, 2, none⟩ = some A2 ∧ W.cell? ⟨b, 0, none⟩ = some B0 ∧ W.cell? ⟨b, 1, none⟩ = some B1 ∧ W.cell? ⟨b, 2, none⟩ = some B2 ∧ Below w6.heap.size w6 W) : Below w6.heap.size w6 W := h.2.2.2.2.2.2.2.2.2

theorem bytes_len (b : ByteArray) : b.data.toList.length = b.size := by simp

theorem contains_any (s : ByteArray) (hs : s.size ≤ 200) (w : World) (hK : KT w) : Calls Tryz.prog 6 #[.string s, .string ⟨#[101, 108, 115, 101]⟩] w fun e w' => e = .returned (.bool (Lib.contains s.data.toList RP.wElse)) ∧ w' = w := by
  obtain ⟨m, hm⟩ := hK.2.2.1
  exact Any.strings_Contains Tryz.ctL s ⟨#[101, 108, 115, 101]⟩ m w (by omega) hm

set_option maxHeartbeats 1000000 in
set_option maxRecDepth 100000 in
theorem joins_early (s u : ByteArray) (h : 200 < s.size ∨ 200 < u.size) (w : World) : Calls Tryz.prog 3 #[.string s, .string u] w fun e w' => e = .returned (.bool true) ∧ Below w.heap.size w w' := by
  have HH : Hid (200 < s.size ∨ 200 < u.size) := h
  clear h
  by_cases h1 : 200 < s.size
  · have h1' : (200 : Int) < (s.size : Int) := by omega
    clear h1
    go_enter Tryz.func3, Tryz.ntmps3
    go_wp2_with fail
    go_ret
    exact ⟨rfl, Below.refl _ _⟩
  · have h1' : (s.size : Int) ≤ 200 := by omega
    have h2' : (200 : Int) < (u.size : Int) := by have := HH.out; omega
    clear h1
    go_enter Tryz.func3, Tryz.ntmps3
    go_wp2_with fail
    go_ret
    exact ⟨rfl, Below.refl _ _⟩

set_option maxHeartbeats 8000000 in
set_option maxRecDepth 100000 in
theorem joins_main (s u : ByteArray) (hs : s.size ≤ 200) (hu : u.size ≤ 200) (w : World) (hP : PT w) : Calls Tryz.prog 3 #[.string s, .string u] w fun e w' => e = .returned (.bool true) ∧ Below w.heap.size w w' := by
  have hsi : (s.size : Int) ≤ 200 := by omega
  have hui : (u.size : Int) ≤ 200 := by omega
  have hR := ruled_any w hP
  have HP : Hid (PT w) := hP
  clear hP
  go_enter Tryz.func3, Tryz.ntmps3
  go_wp2_with fail
  refine hR.mono ?_
  rintro e w1 ⟨rfl, hb1⟩
  clear hR
  have hPa := parse_any s (by omega) w1 (HP.out.on hb1).1
  go_wp2_with fail
  cases hra : RP.parseP setOf s.data.toList with
  | error ba =>
    rw [hra] at hPa
    clear hra
    refine hPa.mono ?_
    rintro e w2 ⟨⟨g, rfl, k1, k2⟩, hb2⟩
    have HB3 : Hid (Below w.heap.size w (w2.alloc (.cells #[.slice none 0 0, .slice none 0 0, .bool false] 26))) := (hb1.trans (hb2.mono hb1.size)).alloc (Nat.le_trans hb1.size hb2.size) _
    have hPb := parse_any u (by omega) (w2.alloc (.cells #[.slice none 0 0, .slice none 0 0, .bool false] 26)) (HP.out.on HB3.out).1
    clear hPa k1 k2 hb1 hb2
    go_wp2_with fail
    cases hrb : RP.parseP setOf u.data.toList with
    | error bb =>
      rw [hrb] at hPb
      clear hrb
      refine hPb.mono ?_
      rintro e w4 ⟨⟨g2, rfl, m1, m2⟩, hb4⟩
      have HB5 : Hid (Below w.heap.size w (w4.alloc (.cells #[.slice none 0 0, .slice none 0 0, .bool false] 26))) := (HB3.out.trans (hb4.mono HB3.out.size)).alloc (Nat.le_trans HB3.out.size hb4.size) _
      clear hPb m1 m2 hb4
      go_wp2_with fail
      go_ret
      exact ⟨rfl, HB5.out⟩
    | ok fb =>
      rw [hrb] at hPb
      clear hrb
      refine hPb.mono ?_
      rintro e w4 ⟨⟨v, rfl, hF⟩, hb4⟩
      obtain ⟨co, cn, cc, ro, rn, rc, rfl, -⟩ := hF.agg
      have HB5 : Hid (Below w.heap.size w (w4.alloc (.cells #[.slice co cn cc, .slice ro rn rc, .bool fb.els] 26))) := (HB3.out.trans (hb4.mono HB3.out.size)).alloc (Nat.le_trans HB3.out.size hb4.size) _
      clear hPb hF hb4
      generalize fb.els = bl at HB5 ⊢
      go_wp2_with fail
      go_ret
      exact ⟨rfl, HB5.out⟩
  | ok fa =>
    rw [hra] at hPa
    have HRa : Hid (RP.parseP setOf s.data.toList = .ok fa) := hra
    clear hra
    refine hPa.mono ?_
    rintro e w2 ⟨⟨va, rfl, hFa⟩, hb2⟩
    obtain ⟨ao, an, ac, po, pn, pc, rfl, HNa⟩ := hFa.agg
    have HB3 : Hid (Below w.heap.size w (w2.alloc (.cells #[.slice ao an ac, .slice po pn pc, .bool fa.els] 26))) := (hb1.trans (hb2.mono hb1.size)).alloc (Nat.le_trans hb1.size hb2.size) _
    have hPb := parse_any u (by omega) (w2.alloc (.cells #[.slice ao an ac, .slice po pn pc, .bool fa.els] 26)) (HP.out.on HB3.out).1
    have HFa : Hid (FAt (fun _ => True) (w2.alloc (.cells #[.slice ao an ac, .slice po pn pc, .bool fa.els] 26)) (.agg #[.slice ao an ac, .slice po pn pc, .bool fa.els]) fa) := hFa.all ((Below.refl _ w2).alloc (Nat.le_refl _) _)
    have HA0 : Hid ((w2.alloc (.cells #[.slice ao an ac, .slice po pn pc, .bool fa.els] 26)).heap[w2.heap.size]? = some (.cells #[.slice ao an ac, .slice po pn pc, .bool fa.els] 26)) := heap_alloc_new _ _
    clear hPa hFa hb1 hb2
    obtain ⟨ela, hela⟩ : ∃ b, b = fa.els := ⟨_, rfl⟩
    have HEa : Hid (ela = fa.els) := hela
    rw [← hela] at HB3 hPb HFa HA0 ⊢
    clear hela
    go_wp2_with fail
    obtain ⟨a, ha⟩ : ∃ a, a = w2.heap.size := ⟨_, rfl⟩
    rw [← ha] at HA0 ⊢
    clear ha
    generalize w2.alloc (.cells #[.slice ao an ac, .slice po pn pc, .bool ela] 26) = w3 at HB3 hPb HFa HA0 ⊢
    cases hrb : RP.parseP setOf u.data.toList with
    | error bb =>
      rw [hrb] at hPb
      clear hrb
      refine hPb.mono ?_
      rintro e w4 ⟨⟨g2, rfl, m1, m2⟩, hb4⟩
      have HB5 : Hid (Below w.heap.size w (w4.alloc (.cells #[.slice none 0 0, .slice none 0 0, .bool false] 26))) := (HB3.out.trans (hb4.mono HB3.out.size)).alloc (Nat.le_trans HB3.out.size hb4.size) _
      clear hPb m1 m2 hb4
      go_wp2_with fail
      go_ret
      exact ⟨rfl, HB5.out⟩
    | ok fb =>
      rw [hrb] at hPb
      have HRb : Hid (RP.parseP setOf u.data.toList = .ok fb) := hrb
      clear hrb
      refine hPb.mono ?_
      rintro e w4 ⟨⟨vb, rfl, hFb⟩, hb4⟩
      obtain ⟨bo, bn, bc, qo, qn, qc, rfl, HNb⟩ := hFb.agg
      obtain ⟨elb, helb⟩ : ∃ b, b = fb.els := ⟨_, rfl⟩
      rw [← helb] at hFb ⊢
      clear helb
      have HB5 : Hid (Below w.heap.size w (w4.alloc (.cells #[.slice bo bn bc, .slice qo qn qc, .bool elb] 26))) := (HB3.out.trans (hb4.mono HB3.out.size)).alloc (Nat.le_trans HB3.out.size hb4.size) _
      have hb45 : Below w4.heap.size w4 (w4.alloc (.cells #[.slice bo bn bc, .slice qo qn qc, .bool elb] 26)) := (Below.refl _ w4).alloc (Nat.le_refl _) _
      have hb35 : Below w3.heap.size w3 (w4.alloc (.cells #[.slice bo bn bc, .slice qo qn qc, .bool elb] 26)) := hb4.alloc hb4.size _
      have HFb : Hid (FAt (fun _ => True) (w4.alloc (.cells #[.slice bo bn bc, .slice qo qn qc, .bool elb] 26)) (.agg #[.slice bo bn bc, .slice qo qn qc, .bool elb]) fb) := hFb.all hb45
      have HFa5 : Hid (FAt (fun _ => True) (w4.alloc (.cells #[.slice bo bn bc, .slice qo qn qc, .bool elb] 26)) (.agg #[.slice ao an ac, .slice po pn pc, .bool ela]) fa) := HFa.out.all hb35
      have HA5 : Hid ((w4.alloc (.cells #[.slice bo bn bc, .slice qo qn qc, .bool elb] 26)).heap[a]? = some (.cells #[.slice ao an ac, .slice po pn pc, .bool ela] 26)) := heap_W0 hb35 HA0.out
      have HB0 : Hid ((w4.alloc (.cells #[.slice bo bn bc, .slice qo qn qc, .bool elb] 26)).heap[w4.heap.size]? = some (.cells #[.slice bo bn bc, .slice qo qn qc, .bool elb] 26)) := heap_alloc_new _ _
      clear hPb hFb hb4 hb45 hb35 HFa HA0
      go_upto_region 7 with (fail)
      obtain ⟨b, hb⟩ : ∃ b, b = w4.heap.size := ⟨_, rfl⟩
      rw [← hb] at HB0 ⊢
      clear hb
      generalize w4.alloc (.cells #[.slice bo bn bc, .slice qo qn qc, .bool elb] 26) = W at HB5 HFb HFa5 HA5 HB0 ⊢
      clear HB3
      have a0 := loc_cell (k := 0) HA5.out rfl
      have a1 := loc_cell (k := 1) HA5.out rfl
      have a2 := loc_cell (k := 2) HA5.out rfl
      have b0 := loc_cell (k := 0) HB0.out rfl
      have b1 := loc_cell (k := 1) HB0.out rfl
      have hCt := contains_any s hs W (HP.out.on HB5.out).1
      by_cases q1 : 0 < an
      · have q1' : (0 : Int) < (an : Int) := by omega
        clear q1 hCt
        go_wp2_with fail
        go_ret
        exact ⟨rfl, HB5.out⟩
      obtain rfl : an = 0 := by omega
      by_cases q2 : 0 < bn
      · have q2' : (0 : Int) < (bn : Int) := by omega
        clear q1 q2 hCt
        go_wp2_with fail
        go_ret
        exact ⟨rfl, HB5.out⟩
      obtain rfl : bn = 0 := by omega
      cases ela with
      | false =>
        clear q1 q2 hCt
        go_wp2_with fail
        go_ret
        exact ⟨rfl, HB5.out⟩
      | true =>
        clear q1 q2
        cases hct : Lib.contains s.data.toList RP.wElse with
        | true =>
          rw [hct] at hCt
          clear hct
          go_wp2_with fail
          refine hCt.mono ?_
          rintro e w' ⟨rfl, hw⟩
          obtain rfl := hw.symm
          clear hCt
          go_wp2_with fail
          go_ret
          exact ⟨rfl, HB5.out⟩
        | false =>
          rw [hct] at hCt
          have HCt : Hid (Lib.contains s.data.toList RP.wElse = false) := hct
          clear hct
          have hl1 : pn ≤ 20 := by
            have h1 := (HNa.out).2
            have h2 : fa.classes = [] := List.length_eq_zero_iff.1 (by have := HNa.out.1; omega)
            have := (RP.parse_ok setOf_S (by have : s.data.toList.length = s.size := by simp
                                             omega) HRa.out h2).2
            omega
          have hl2 : qn ≤ 20 := by
            have h1 := (HNb.out).2
            have h2 : fb.classes = [] := List.length_eq_zero_iff.1 (by have := HNb.out.1; omega)
            have := (RP.parse_ok setOf_S (by have : u.data.toList.length = u.size := by simp
                                             omega) HRb.out h2).2
            omega
          by_cases q3 : 20 < pn + qn
          · have q3' : (20 : Int) < (pn : Int) + (qn : Int) := by omega
            clear q3
            go_wp2_with fail
            refine hCt.mono ?_
            rintro e w' ⟨rfl, hw⟩
            obtain rfl := hw.symm
            clear hCt
            go_wp2_with fail
            go_ret
            exact ⟨rfl, HB5.out⟩
          have q3' : ¬ (20 : Int) < (pn : Int) + (qn : Int) := by omega
          have HQ3 : Hid (¬ 20 < pn + qn) := q3
          clear q3
          have hsl : s.data.toList.length = s.size := by simp
          have hul : u.data.toList.length = u.size := by simp
          have h2a : fa.classes = [] := List.length_eq_zero_iff.1 (by have := HNa.out.1; omega)
          have h2b : fb.classes = [] := List.length_eq_zero_iff.1 (by have := HNb.out.1; omega)
          obtain ⟨fc, c1, c2, c3⟩ := RP.parse_join setOf_S (by omega) (by omega) HRa.out HRb.out h2a h2b (no_else HCt.out) (by have := HQ3.out; have := HNa.out.2; have := HNb.out.2; omega)
          have hJl : (s ++ ⟨#[10]⟩ ++ u).data.toList = s.data.toList ++ 10 :: u.data.toList := by simp
          have hJs : (s ++ ⟨#[10]⟩ ++ u).size ≤ 5000 := by
            rw [← bytes_len, hJl, List.length_append, List.length_cons]
            omega
          have hPc := parse_any (s ++ ⟨#[10]⟩ ++ u) hJs W (HP.out.on HB5.out).1
          rw [hJl, c1] at hPc
          have oka := RP.parse_ok setOf_S (by omega) HRa.out h2a
          have okb := RP.parse_ok setOf_S (by omega) HRb.out h2b
          have okc := RP.parse_ok setOf_S (by rw [List.length_append, List.length_cons]; omega) c1 c2
          have HA : Hid (fa.Ok ∧ fa.classes.length ≤ 1000000 ∧ fa.rules.length ≤ 1000000) := ⟨oka.1, by rw [h2a]; simp, by have := oka.2; omega⟩
          have HBo : Hid (fb.Ok ∧ fb.classes.length ≤ 1000000 ∧ fb.rules.length ≤ 1000000) := ⟨okb.1, by rw [h2b]; simp, by have := okb.2; omega⟩
          have HCo : Hid (fc.Ok ∧ fc.classes.length ≤ 1000000 ∧ fc.rules.length ≤ 1000000) := ⟨okc.1, by rw [c2]; simp, by have := okc.2; omega⟩
          have HT : Hid (fc.text = fa.text ++ fb.text) := c3
          clear hsl hul h2a h2b c1 c2 c3 hJl hJs oka okb okc HQ3 HCt HRa HRb HNa HNb
          go_wp2_with fail
          refine hCt.mono ?_
          rintro e w' ⟨rfl, hw⟩
          obtain rfl := hw.symm
          clear hCt
          go_wp2_with fail
          refine hPc.mono ?_
          rintro e w5 ⟨⟨vc, rfl, hFc⟩, hb5⟩
          obtain ⟨co, cn, cc, ro, rn, rc, rfl, -⟩ := hFc.agg
          obtain ⟨elc, helc⟩ : ∃ b, b = fc.els := ⟨_, rfl⟩
          rw [← helc] at hFc ⊢
          clear helc hPc
          have hb56 : Below w5.heap.size w5 (w5.alloc (.cells #[.slice co cn cc, .slice ro rn rc, .bool elc] 26)) := (Below.refl _ w5).alloc (Nat.le_refl _) _
          have hbW6 : Below W.heap.size W (w5.alloc (.cells #[.slice co cn cc, .slice ro rn rc, .bool elc] 26)) := hb5.alloc hb5.size _
          have HB6 : Hid (Below w.heap.size w (w5.alloc (.cells #[.slice co cn cc, .slice ro rn rc, .bool elc] 26))) := HB5.out.trans (hbW6.mono HB5.out.size)
          have HFc6 : Hid (FAt (fun _ => True) (w5.alloc (.cells #[.slice co cn cc, .slice ro rn rc, .bool elc] 26)) (.agg #[.slice co cn cc, .slice ro rn rc, .bool elc]) fc) := hFc.all hb56
          have HFa6 : Hid (FAt (fun _ => True) (w5.alloc (.cells #[.slice co cn cc, .slice ro rn rc, .bool elc] 26)) (.agg #[.slice ao 0 ac, .slice po pn pc, .bool true]) fa) := HFa5.out.all hbW6
          have HFb6 : Hid (FAt (fun _ => True) (w5.alloc (.cells #[.slice co cn cc, .slice ro rn rc, .bool elc] 26)) (.agg #[.slice bo 0 bc, .slice qo qn qc, .bool elb]) fb) := HFb.out.all hbW6
          have HA6 : Hid ((w5.alloc (.cells #[.slice co cn cc, .slice ro rn rc, .bool elc] 26)).heap[a]? = some (.cells #[.slice ao 0 ac, .slice po pn pc, .bool true] 26)) := heap_W0 hbW6 HA5.out
          have HB6' : Hid ((w5.alloc (.cells #[.slice co cn cc, .slice ro rn rc, .bool elc] 26)).heap[b]? = some (.cells #[.slice bo 0 bc, .slice qo qn qc, .bool elb] 26)) := heap_W0 hbW6 HB0.out
          have HC6 : Hid ((w5.alloc (.cells #[.slice co cn cc, .slice ro rn rc, .bool elc] 26)).heap[w5.heap.size]? = some (.cells #[.slice co cn cc, .slice ro rn rc, .bool elc] 26)) := heap_alloc_new _ _
          clear hFc hb5 hb56 hbW6 HFa5 HFb HA5 HB0 HB5 a0 a1 a2 b0 b1
          go_upto_region 10 with (fail)
          obtain ⟨c, hc⟩ : ∃ c, c = w5.heap.size := ⟨_, rfl⟩
          rw [← hc] at HC6 ⊢
          clear hc
          generalize w5.alloc (.cells #[.slice co cn cc, .slice ro rn rc, .bool elc] 26) = w6 at HB6 HFc6 HFa6 HFb6 HA6 HB6' HC6 ⊢
          have a0 := loc_cell (k := 0) HA6.out rfl
          have a1 := loc_cell (k := 1) HA6.out rfl
          have a2 := loc_cell (k := 2) HA6.out rfl
          have b0 := loc_cell (k := 0) HB6'.out rfl
          have b1 := loc_cell (k := 1) HB6'.out rfl
          have b2 := loc_cell (k := 2) HB6'.out rfl
          have c0 := loc_cell (k := 0) HC6.out rfl
          have c1 := loc_cell (k := 1) HC6.out rfl
          have c2 := loc_cell (k := 2) HC6.out rfl
          have HP6 : Hid (PT w6) := HP.out.on HB6.out
          obtain ⟨ya, hya⟩ : ∃ y : ByteArray, y = ⟨fa.text.toArray⟩ := ⟨_, rfl⟩
          obtain ⟨yb, hyb⟩ : ∃ y : ByteArray, y = ⟨fb.text.toArray⟩ := ⟨_, rfl⟩
          obtain ⟨yc, hyc⟩ : ∃ y : ByteArray, y = ⟨fc.text.toArray⟩ := ⟨_, rfl⟩
          have hCa : Hid (∀ W', Below w6.heap.size w6 W' → Calls Tryz.prog 7 #[.agg #[.slice ao 0 ac, .slice po pn pc, .bool true]] W' fun e w' => e = .returned (.string ya) ∧ Below W'.heap.size W' w') := fun W' hb => by rw [hya]; exact aprint_any fa HA.out.1 W' (HP6.out.on hb) _ (HFa6.out.all hb) HA.out.2.1 HA.out.2.2
          have hCb : Hid (∀ W', Below w6.heap.size w6 W' → Calls Tryz.prog 7 #[.agg #[.slice bo 0 bc, .slice qo qn qc, .bool elb]] W' fun e w' => e = .returned (.string yb) ∧ Below W'.heap.size W' w') := fun W' hb => by rw [hyb]; exact aprint_any fb HBo.out.1 W' (HP6.out.on hb) _ (HFb6.out.all hb) HBo.out.2.1 HBo.out.2.2
          have hCc : Hid (∀ W', Below w6.heap.size w6 W' → Calls Tryz.prog 7 #[.agg #[.slice co cn cc, .slice ro rn rc, .bool elc]] W' fun e w' => e = .returned (.string yc) ∧ Below W'.heap.size W' w') := fun W' hb => by rw [hyc]; exact aprint_any fc HCo.out.1 W' (HP6.out.on hb) _ (HFc6.out.all hb) HCo.out.2.1 HCo.out.2.2
          have hla : ya.size ≤ 900000 := by rw [hya]; show fa.text.toArray.size ≤ _; simpa using HA.out.1.2.2
          have hlb : yb.size ≤ 900000 := by rw [hyb]; show fb.text.toArray.size ≤ _; simpa using HBo.out.1.2.2
          have hq : (yc.toList == (ya ++ yb).toList) = true := by
            rw [Lib.toList_data, Lib.toList_data, hya, hyb, hyc, HT.out]
            simp
          clear hya hyb hyc HA HBo HCo HFa6 HFb6 HFc6 HP6 HA6 HB6' HC6 HT
          have hsum : ¬ 9223372036854775807 < ya.size + yb.size := by omega
          have HBase : Hid (w6.cell? ⟨c, 0, none⟩ = some (.slice co cn cc) ∧ w6.cell? ⟨c, 1, none⟩ = some (.slice ro rn rc) ∧ w6.cell? ⟨c, 2, none⟩ = some (.bool elc) ∧ w6.cell? ⟨a, 0, none⟩ = some (.slice ao 0 ac) ∧ w6.cell? ⟨a, 1, none⟩ = some (.slice po pn pc) ∧ w6.cell? ⟨a, 2, none⟩ = some (.bool true) ∧ w6.cell? ⟨b, 0, none⟩ = some (.slice bo 0 bc) ∧ w6.cell? ⟨b, 1, none⟩ = some (.slice qo qn qc) ∧ w6.cell? ⟨b, 2, none⟩ = some (.bool elb) ∧ Below w6.heap.size w6 w6) := ⟨c0, c1, c2, a0, a1, a2, b0, b1, b2, Below.refl _ _⟩
          go_region_held3 (fun W => W.cell? ⟨c, 0, none⟩ = some (.slice co cn cc) ∧ W.cell? ⟨c, 1, none⟩ = some (.slice ro rn rc) ∧ W.cell? ⟨c, 2, none⟩ = some (.bool elc) ∧ W.cell? ⟨a, 0, none⟩ = some (.slice ao 0 ac) ∧ W.cell? ⟨a, 1, none⟩ = some (.slice po pn pc) ∧ W.cell? ⟨a, 2, none⟩ = some (.bool true) ∧ W.cell? ⟨b, 0, none⟩ = some (.slice bo 0 bc) ∧ W.cell? ⟨b, 1, none⟩ = some (.slice qo qn qc) ∧ W.cell? ⟨b, 2, none⟩ = some (.bool elb) ∧ Below w6.heap.size w6 W)
            (first | exact nine_keep (chain3 hb7 hb8 hb9) HBase.out | exact nine_keep (chain2 hb7 hb8) HBase.out | exact nine_keep (chain1 hb7) HBase.out | exact nine_keep (chain0 w6) HBase.out)
            (first
              | (go_at_call 7; refine (hCb.out _ (chain2 hb7 hb8)).mono ?_; rintro e w9 ⟨rfl, hb9⟩)
              | (go_at_call 7; refine (hCa.out _ (chain1 hb7)).mono ?_; rintro e w8 ⟨rfl, hb8⟩)
              | (go_at_call 7; refine (hCc.out _ (chain0 w6)).mono ?_; rintro e w7 ⟨rfl, hb7⟩))
          have HB9 : Hid (Below w.heap.size w w9) := HB6.out.trans ((chain3 hb7 hb8 hb9).mono HB6.out.size)
          clear hb7 hb8 hb9 HBase hCa hCb hCc a0 a1 a2 b0 b1 b2 c0 c1 c2
          go_wp2_with fail
          go_ret
          exact ⟨rfl, HB9.out⟩

end Go.Proofs.YtjbmdnkpfkelmaaGreatDoor.Q
