/- The contracts of slices.Concat at two sets, of set.Or and set.Less. -/
import Derived.Test.YtjbdlihlcoldlaaGreatDoorG10
import Derived.Test.YtjbdlihlcoldlaaGreatDoorG11
import Derived.Laws.AppendOwnNone
import Derived.Test.YtjbdlihlcoldlaaGreatDoorRows
import Derived.Test.YtjbdlihlcoldlaaGreatDoorG00
import Derived.WalkKit
import Derived.WalkSpells
import Derived.WalkLawsBesides
import Derived.BigQuiet
import Derived.Laws.Rows
import Derived.Shelf.Abstract
namespace Go.Proofs.YtjbdlihlcoldlaaGreatDoor
open Go.RowKit

theorem grow_none (w : World) : Calls Tryz.prog 184 #[.slice none 0 0, .int .i64 0] w fun e w' => e = .returned (.slice none 0 0) ∧ w' = w :=
  Any8.slices_Grow_room Tryz.growL none 0 0 0 w (by omega) (by omega) (by omega) (by omega)

theorem zeroCells_size (z : Array Value) (n : Nat) : (Builtin.zeroCells z n).size = n * z.size := by
  unfold Builtin.zeroCells
  simp

/-- slices.Grow of nothing: a row of the call's own that holds nothing. -/
theorem grow_any (n : Nat) (hn : n ≤ 4000000) (w : World) : Calls Tryz.prog 184 #[.slice none 0 0, .int .i64 n] w fun e w' => ∃ v, e = .returned v ∧ w'.ownsRow w.heap.size 46 2 v 0 [] ∧ Below w.heap.size w w' := by
  by_cases h0 : n = 0
  · subst h0
    refine (grow_none w).mono ?_
    rintro e w' ⟨rfl, rfl⟩
    exact ⟨_, rfl, World.ownsRow_nil _ _ _ _, Below.refl _ _⟩
  · obtain ⟨i0, hi, hz0, hz1, hz2⟩ := info_parts info53
    have hc := Any8.slices_Grow_grow Tryz.growL i0 (.agg #[.int .i64 0, .int .i64 0]) hi hz0 (by omega) none 0 0 n [] w (by omega) (by omega) (by rw [hz2]; omega) (by omega) (by simp) (fun _ => rfl) (fun a h => by cases h)
    change Calls Tryz.prog 184 #[.slice none 0 0, .int .i64 n] w _ at hc
    refine hc.mono ?_
    rintro e w' ⟨rfl, rfl⟩
    refine ⟨_, rfl, ⟨by simp, .inr ⟨w.heap.size, _, _, rfl, Nat.le_refl _, heap_alloc_new _ _, Nat.zero_le _, ?_, ?_, by simp⟩⟩, ?_⟩
    · exact grownCap_le_maxLen w _ _ _ (by unfold maxLen; omega)
    · have hge : 0 + n ≤ grownCap w (0 + n) 0 46 := grownCap_ge w (0 + n) 0 46
      change (#[] ++ Builtin.zeroCells (Value.cells (.agg #[.int .i64 0, .int .i64 0])) (0 + n - 0) ++ Builtin.zeroCells (Value.cells (.agg #[.int .i64 0, .int .i64 0])) (grownCap w (0 + n) 0 46 - (0 + n))).size = _
      have e : (Value.cells (.agg #[.int .i64 0, .int .i64 0])).size = 2 := rfl
      rw [Array.size_append, Array.size_append, zeroCells_size, zeroCells_size, e]
      change 0 + _ + _ = grownCap w (0 + n) 0 46 * 2
      omega
    · exact ((Below.refl _ w).drew).alloc (Nat.le_refl _) _

theorem flat2_append (s t : List RS.Rg) : flat2 (s ++ t) = flat2 s ++ flat2 t := by simp [flat2]

theorem flat2_one (s : List RS.Rg) : ∀ u ∈ flat2 s, u.oneCell' = true := by
  intro u hu
  obtain ⟨r, _, hr⟩ := List.mem_flatMap.1 hu
  exact cells2_one r u hr

theorem flat2_at {w : World} {b off : Nat} {s : List RS.Rg} (hc : ∀ k (h : k < s.length), w.cell? ⟨b, off + k * 2, none⟩ = some (.int .i64 s[k].1) ∧ w.cell? ⟨b, off + k * 2 + 1, none⟩ = some (.int .i64 s[k].2)) :
    ∀ j u, (flat2 s)[j]? = some u → w.cell? ((⟨b, off, none⟩ : Addr).add j) = some u := by
  intro j u hj
  have hl : j < (flat2 s).length := by
    rcases Nat.lt_or_ge j (flat2 s).length with h | h
    · exact h
    · rw [List.getElem?_eq_none h] at hj; cases hj
  rw [flat2_length] at hl
  have hk : j / 2 < s.length := by omega
  obtain ⟨h1, h2⟩ := flat2_get s (j / 2) hk
  obtain ⟨c1, c2⟩ := hc (j / 2) hk
  rw [Addr.add_lit]
  rcases Nat.mod_two_eq_zero_or_one j with hm | hm
  · rw [show j / 2 * 2 = j by omega] at h1 c1
    rw [h1] at hj
    cases hj
    exact c1
  · rw [show j / 2 * 2 + 1 = j by omega] at h2
    rw [show off + j / 2 * 2 + 1 = off + j by omega] at c2
    rw [h2] at hj
    cases hj
    exact c2

/-- Ranges that lie somewhere, appended to a row of the call's own. -/
theorem wpList_append_rg {w : World} {ops : Array Oper} {rest : List Oper} {o : Oper} {a : Act} {Q : Exit → Act → World → Prop} (hgd : o.guard = none) (s x : Operand)
    (ho : o.op = .call { callee := .builtin .append, args := #[s, x], argTypes := #[41, 41] }) (B : Nat) (v u : Value) (acc t : List RS.Rg) (hs : a.eval s = v) (hx : a.eval x = u)
    (hown : w.ownsRow B 46 2 v acc.length (flat2 acc)) (hu : RgAt w.heap.size w u t) (hB : B ≤ w.heap.size) (hl : acc.length + t.length ≤ 4000000)
    (h : ∀ v' w', w'.ownsRow B 46 2 v' (acc ++ t).length (flat2 (acc ++ t)) → Below B w w' → wpList Tryz.prog ops Q rest (a.put o.dst v') w') : wpList Tryz.prog ops Q (o :: rest) a w := by
  obtain ⟨i0, hi, hz0, hz1, hz2⟩ := info_parts info53
  obtain ⟨ao, cap, rfl, hcap, hcell⟩ := hu
  cases ao with
  | none =>
    have ht : t = [] := by
      by_cases ht : t = []
      · exact ht
      · obtain ⟨b, off, e, _⟩ := hcell ht
        cases e
    subst ht
    have hc0 : cap = 0 := hcap.2 rfl
    subst hc0
    refine wpList_append_own_none hgd s x 41 ho B 46 i0 2 Tryz.underlying41 hi v _ _ hs hown hx ?_
    have := h v w (by rw [List.append_nil]; exact hown) (Below.refl _ _)
    exact this
  | some ad =>
    obtain ⟨b, off, spot⟩ := ad
    refine wpList_append_own _ hgd s x 41 ho B 46 i0 (.agg #[.int .i64 0, .int .i64 0]) 2 16 Tryz.underlying41 hi hz0 hz1 hz2 rfl (by decide) v _ _ hs hown ⟨b, off, spot⟩ t.length cap (flat2 t) hx (flat2_length t) ?_ (flat2_one t) (by unfold maxLen; omega) (by omega) hB ?_
    · by_cases ht : t = []
      · subst ht; intro j u hj; simp [flat2] at hj
      · obtain ⟨b', off', e, _, hc⟩ := hcell ht
        simp only [Option.some.injEq, Addr.mk.injEq] at e
        obtain ⟨rfl, rfl, rfl⟩ := e
        exact flat2_at hc
    · intro v' w' hown' hg _
      refine h v' w' ?_ ((Below.refl _ w).grown hg hB (fun k hk => (hown.lt k hk).1))
      rw [flat2_append]
      simpa using hown'

set_option maxHeartbeats 1000000 in
set_option maxRecDepth 100000 in
theorem concat_any (va vb : Value) (s t : List RS.Rg) (hs : s.length ≤ 1500000) (ht : t.length ≤ 1500000) (w : World) (g : Nat) (hg : w.cell? ⟨g, 0, none⟩ = some va) (hg2 : w.cell? ⟨g, 1, none⟩ = some vb) (hgl : g < w.heap.size) (ha : RgAt w.heap.size w va s) (hb : RgAt w.heap.size w vb t) :
    Calls Tryz.prog 128 #[.slice (some ⟨g, 0, none⟩) 2 2] w fun e w' => ∃ v, e = .returned v ∧ w'.ownsRow w.heap.size 46 2 v (s ++ t).length (flat2 (s ++ t)) ∧ Below w.heap.size w w' := by
  have HA : Hid (RgAt w.heap.size w va s) := ha
  have HB : Hid (RgAt w.heap.size w vb t) := hb
  obtain ⟨aoa, ca, rfl, _, _⟩ := ha
  obtain ⟨aob, cb, rfl, _, _⟩ := hb
  have hgrow : ∀ W : World, Calls Tryz.prog 184 #[.slice none 0 0, .int .i64 ((s.length : Int) + (t.length : Int))] W fun e w' => ∃ v, e = .returned v ∧ w'.ownsRow W.heap.size 46 2 v 0 [] ∧ Below W.heap.size W w' := fun W => by
    have := grow_any (s.length + t.length) (by omega) W
    rwa [show ((s.length + t.length : Nat) : Int) = (s.length : Int) + (t.length : Int) by omega] at this
  obtain ⟨m, hm⟩ : ∃ m, m = s.length := ⟨_, rfl⟩
  obtain ⟨n, hn⟩ : ∃ n, n = t.length := ⟨_, rfl⟩
  rw [← hm, ← hn] at hgrow
  rw [← hm] at hs hg
  rw [← hn] at ht hg2
  have HM : Hid (m = s.length) := hm
  have HN : Hid (n = t.length) := hn
  clear hm hn
  go_enter Tryz.func128, Tryz.ntmps128
  go_wp2_with fail
  refine wp_loop_rounds 3 ?_
  rw [rounds_succ]
  go_wp2_with fail
  rw [rounds_succ]
  go_wp2_with fail
  rw [rounds_succ]
  go_wp2_with fail
  refine (hgrow _).mono ?_
  rintro e w1 ⟨v1, rfl, hown, hb1⟩
  clear hgrow
  have p0 := (hb1.cell (p := ⟨g, 0, none⟩) (by exact hgl)).trans hg
  have p1 := (hb1.cell (p := ⟨g, 1, none⟩) (by exact hgl)).trans hg2
  have HA1 : Hid (RgAt w1.heap.size w1 (.slice aoa m ca) s) := by rw [HM.out]; exact HA.out.below hb1 _ hb1.size
  go_wp2_with fail
  refine wp_loop_rounds 3 ?_
  rw [rounds_succ]
  go_wp2_with (at_builtin; refine wpList_append_rg rfl _ _ rfl w.heap.size _ _ [] s rfl rfl hown HA1.out hb1.size ?_ ?_)
  · have := HM.out; simp; omega
  intro v2 w2 hown2 hb2
  have p2 := (hb2.cell (p := ⟨g, 1, none⟩) (by exact hgl)).trans p1
  have hb3 := hb1.trans hb2
  have HB1 : Hid (RgAt w2.heap.size w2 (.slice aob n cb) t) := by rw [HN.out]; exact HB.out.below hb3 _ hb3.size
  clear hown hb2 p0 p1 hb1
  go_wp2_with fail
  rw [rounds_succ]
  go_wp2_with (at_builtin; refine wpList_append_rg rfl _ _ rfl w.heap.size _ _ s t rfl rfl hown2 HB1.out hb3.size ?_ ?_)
  · have := HM.out; have := HN.out; omega
  intro v3 w3 hown3 hb4
  have hb5 := hb3.trans hb4
  have R : Hid (w3.ownsRow w.heap.size 46 2 v3 (s ++ t).length (flat2 (s ++ t))) := by show World.ownsRow _ _ _ _ _ _ _; rw [List.length_append]; exact hown3
  clear hown2 hb4 hown3 hb3
  go_wp2_with fail
  rw [rounds_succ]
  go_wp2_with fail
  go_ret
  exact ⟨_, rfl, R.out, hb5⟩

set_option maxHeartbeats 1000000 in
set_option maxRecDepth 100000 in
theorem or_any (va vb : Value) (s t : List RS.Rg) (hs : s.length ≤ 1500000) (ht : t.length ≤ 1500000) (w : World) (ha : RgAt w.heap.size w va s) (hb : RgAt w.heap.size w vb t) :
    Calls Tryz.prog 69 #[va, vb] w fun e w' => ∃ v r, e = .returned v ∧ RS.IsOf (s ++ t) r ∧ r.length ≤ s.length + t.length ∧ w'.ownsRow w.heap.size 46 2 v r.length (flat2 r) ∧ Below w.heap.size w w' := by
  have HA : Hid (RgAt w.heap.size w va s) := ha
  have HB : Hid (RgAt w.heap.size w vb t) := hb
  clear ha hb
  have h0 := fun o => (Below.refl _ w).alloc (Nat.le_refl w.heap.size) o
  obtain ⟨aoa, ca, hva, _, _⟩ := HA.out
  obtain ⟨aob, cb, hvb, _, _⟩ := HB.out
  subst hva
  subst hvb
  have hcon := concat_any _ _ s t (by omega) (by omega) (w.alloc (.cells #[.slice aoa s.length ca, .slice aob t.length cb] 41)) w.heap.size (by simp) (by simp) (by simp) (HA.out.below (h0 _) _ (by simp)) (HB.out.below (h0 _) _ (by simp))
  go_enter Tryz.func69, Tryz.ntmps69
  go_wp2_with fail
  refine hcon.mono ?_
  rintro e w1 ⟨v1, rfl, hown, hb1⟩
  have hb2 := (h0 _).trans (hb1.mono (by simp))
  have HR : Hid (RgAt w1.heap.size w1 v1 (s ++ t)) := rg_of_own hown
  clear hown hb1
  go_wp2_with fail
  refine (of_any v1 (s ++ t) (by simp; omega) _ HR.out).mono ?_
  rintro e w3 ⟨v3, r, rfl, hof, hrl, hown3, hb3⟩
  have hb4 := hb2.trans (hb3.mono hb2.size)
  have hrl' : r.length ≤ s.length + t.length := by simpa using hrl
  have R : Hid (RS.IsOf (s ++ t) r ∧ r.length ≤ s.length + t.length ∧ w3.ownsRow w.heap.size 46 2 v3 r.length (flat2 r)) := ⟨hof, hrl', owns_mono hown3 hb2.size⟩
  clear hof hrl hrl' hown3 hb3 hb2 HR
  go_wp2_with fail
  go_ret
  exact ⟨_, r, rfl, R.out.1, R.out.2.1, R.out.2.2, hb4⟩

theorem notFrom_length (s : List RS.Rg) : ∀ n, (RS.notFrom n s).length ≤ s.length + 1 := by
  induction s with
  | nil => intro n; rw [RS.notFrom]; split <;> simp
  | cons r s ih =>
    intro n
    have := ih (r.2 + 1)
    rw [RS.notFrom]
    split <;> simp <;> omega

theorem andL_length (n : Nat) : ∀ (a b : List RS.Rg), a.length + b.length ≤ n → (RS.andL a b).length ≤ a.length + b.length := by
  induction n with
  | zero =>
    intro a b h
    obtain rfl : a = [] := List.length_eq_zero_iff.1 (by omega)
    rw [RS.andL_nil_left]; simp
  | succ n ih =>
    intro a b h
    cases a with
    | nil => rw [RS.andL_nil_left]; simp
    | cons x a =>
      cases b with
      | nil => rw [RS.andL_nil_right]; simp
      | cons y b =>
        rw [RS.andL_cons]
        have h1 := ih a (y :: b) (by simp at h ⊢; omega)
        have h2 := ih (x :: a) b (by simp at h ⊢; omega)
        simp only [List.length_append, List.length_cons] at h1 h2 ⊢
        split <;> split <;> simp <;> omega

set_option maxHeartbeats 1000000 in
set_option maxRecDepth 100000 in
theorem less_any (va vb : Value) (s t : List RS.Rg) (hs : s.length ≤ 1500000) (ht : t.length ≤ 1500000) (htr : RS.right t = true) (w : World) (ha : RgAt w.heap.size w va s) (hb : RgAt w.heap.size w vb t) :
    Calls Tryz.prog 71 #[va, vb] w fun e w' => ∃ v, e = .returned v ∧ w'.ownsRow w.heap.size 46 2 v (RS.lessL s t).length (flat2 (RS.lessL s t)) ∧ Below w.heap.size w w' := by
  have HA : Hid (RgAt w.heap.size w va s) := ha
  have HB : Hid (RgAt w.heap.size w vb t) := hb
  have hnl : (RS.notL t).length ≤ t.length + 1 := notFrom_length t 0
  clear ha hb
  go_enter Tryz.func71, Tryz.ntmps71
  go_wp2_with fail
  refine (not_any vb t (by omega) _ HB.out htr).mono ?_
  rintro e w1 ⟨v1, rfl, hown, hb1⟩
  have HN : Hid (RgAt w1.heap.size w1 v1 (RS.notL t)) := rg_of_own hown
  have HA1 : Hid (RgAt w1.heap.size w1 va s) := HA.out.below hb1 _ hb1.size
  clear hown
  go_wp2_with fail
  refine (and_any va v1 s (RS.notL t) (by omega) (by omega) _ HA1.out HN.out).mono ?_
  rintro e w2 ⟨v2, rfl, hown2, hb2⟩
  have hb3 := hb1.trans (hb2.mono hb1.size)
  have R : Hid (w2.ownsRow w.heap.size 46 2 v2 (RS.lessL s t).length (flat2 (RS.lessL s t))) := owns_mono hown2 hb1.size
  clear hown2 hb2 HN HA1 hb1
  go_wp2_with fail
  go_ret
  exact ⟨_, rfl, R.out, hb3⟩

end Go.Proofs.YtjbdlihlcoldlaaGreatDoor

namespace Go.Proofs.YtjbdlihlcoldlaaGreatDoor.Q
open Go.RowKit Go.Shelf

theorem ret_int {k : IntKind} {a b : Int} (h : a = b) : Ending.returned (.int k a) = .returned (.int k b) := by rw [h]
theorem ret_bool {a b : Bool} (h : a = b) : Ending.returned (.bool a) = .returned (.bool b) := by rw [h]

theorem drop_byte (s : ByteArray) (k : Nat) (h : k < s.size) : s.data.toList.drop k = s[k] :: s.data.toList.drop (k + 1) := by
  rw [List.drop_eq_getElem_cons (by simpa using h)]
  rfl

/-- A function value tells p of each byte, here and now, and turns nothing. -/
def Such (g : Nat) (lb : Array Value) (p : UInt8 → Bool) (w : World) : Prop :=
  ∀ c : UInt8, Calls Tryz.prog g (#[.int .u8 c.toNat] ++ lb) w fun e w' => e = .returned (.bool (p c)) ∧ w' = w

set_option maxHeartbeats 1000000 in
set_option maxRecDepth 100000 in
theorem past_any (g : Nat) (lb : Array Value) (eg : ∀ args w, (callFunc g args).run Tryz.prog w = .ok (.enter g args) w) (p : UInt8 → Bool) (s : ByteArray) (n : Nat) (hs : s.size ≤ 1000000) (hn : n ≤ s.size) (w : World) (hS : Such g lb p w) :
    Calls Tryz.prog 162 #[.string s, .int .i64 n, .func (.func g) #[] lb] w fun e w' => (∃ k : Nat, e = .returned (.int .i64 k) ∧ n ≤ k ∧ k ≤ s.size ∧ s.data.toList.drop k = (s.data.toList.drop n).dropWhile p ∧ k = n + ((s.data.toList.drop n).takeWhile p).length) ∧ w' = w := by
  have HS : Hid (Such g lb p w) := hS
  clear hS
  go_enter Tryz.func162, Tryz.ntmps162
  go_wp2
  go_loop [1] (fun i => ∃ k : Nat, n ≤ k ∧ k ≤ s.size ∧ i = .int .i64 k ∧ (s.data.toList.drop n).dropWhile p = (s.data.toList.drop k).dropWhile p ∧ n + ((s.data.toList.drop n).takeWhile p).length = k + ((s.data.toList.drop k).takeWhile p).length) (fun i => s.size - (intOf i).toNat)
  case atStart => exact ⟨n, Nat.le_refl _, hn, rfl, rfl, rfl⟩
  case round =>
    obtain ⟨k, hk1, hk2, rfl, hdw, htw⟩ := hrel
    have HD : Hid ((s.data.toList.drop n).dropWhile p = (s.data.toList.drop k).dropWhile p) := hdw
    have HW : Hid (n + ((s.data.toList.drop n).takeWhile p).length = k + ((s.data.toList.drop k).takeWhile p).length) := htw
    clear hdw htw
    by_cases hlt : k < s.size
    · have hdc := drop_byte s k hlt
      have HC : Hid (s.data.toList.drop k = s[k] :: s.data.toList.drop (k + 1)) := hdc
      clear hdc
      have hcl := HS.out s[k]
      cases hpc : p s[k] with
      | true =>
        rw [hpc] at hcl
        have HPC : Hid (p s[k] = true) := hpc
        clear hpc
        go_wp2_with (refine hcl.mono ?_; rintro e w' ⟨rfl, rfl⟩)
        go_round
        case rel => exact ⟨k + 1, by omega, by omega, by go_num, by rw [HD.out, HC.out, List.dropWhile_cons, if_pos HPC.out], by rw [HW.out, HC.out, List.takeWhile_cons, if_pos HPC.out, List.length_cons]; omega⟩
        case measure => simp [intOf]; omega
      | false =>
        rw [hpc] at hcl
        have HPC : Hid (p s[k] = false) := hpc
        clear hpc
        go_wp2_with (refine hcl.mono ?_; rintro e w' ⟨rfl, rfl⟩)
        go_ret
        refine ⟨⟨k, rfl, hk1, hk2, ?_, ?_⟩, rfl⟩
        · rw [HD.out, HC.out, List.dropWhile_cons, if_neg (by rw [HPC.out]; simp)]
        · rw [HW.out, HC.out, List.takeWhile_cons, if_neg (by rw [HPC.out]; simp)]; rfl
    · go_wp2_with fail
      go_ret
      have hnil : s.data.toList.drop k = [] := List.drop_of_length_le (by show s.data.toList.length ≤ k; rw [Array.length_toList]; show s.size ≤ k; omega)
      refine ⟨⟨k, rfl, hk1, hk2, ?_, ?_⟩, rfl⟩
      · rw [HD.out, hnil]; rfl
      · rw [HW.out, hnil]; rfl

theorem eg29 : ∀ args w, (callFunc 160 args).run Tryz.prog w = .ok (.enter 160 args) w := enters_of Tryz.func160 (by kernel_rfl) rfl
theorem eg30 : ∀ args w, (callFunc 161 args).run Tryz.prog w = .ok (.enter 161 args) w := enters_of Tryz.func161 (by kernel_rfl) rfl
theorem eg32 : ∀ args w, (callFunc 163 args).run Tryz.prog w = .ok (.enter 163 args) w := enters_of Tryz.func163 (by kernel_rfl) rfl
theorem eg33 : ∀ args w, (callFunc 164 args).run Tryz.prog w = .ok (.enter 164 args) w := enters_of Tryz.func164 (by kernel_rfl) rfl
theorem eg34 : ∀ args w, (callFunc 165 args).run Tryz.prog w = .ok (.enter 165 args) w := enters_of Tryz.func165 (by kernel_rfl) rfl
theorem eg35 : ∀ args w, (callFunc 166 args).run Tryz.prog w = .ok (.enter 166 args) w := enters_of Tryz.func166 (by kernel_rfl) rfl

theorem u8_eq (c : UInt8) (n : Nat) (hn : n < 256) : (c == UInt8.ofNat n) = ((c.toNat : Int) == (n : Int)) := by
  rw [Bool.eq_iff_iff]
  simp only [beq_iff_eq]
  constructor
  · rintro rfl; rw [UInt8.toNat_ofNat']; omega
  · intro h; apply UInt8.toNat_inj.1; rw [UInt8.toNat_ofNat']; omega

set_option maxHeartbeats 1000000 in
set_option maxRecDepth 100000 in
theorem blank_any (w : World) : Such 160 #[] RP.blank w := by
  intro c
  have e : RP.blank c = (((c.toNat : Int) == 32) || ((c.toNat : Int) == 10)) := by
    unfold RP.blank
    rw [show (32 : UInt8) = UInt8.ofNat 32 from rfl, show (10 : UInt8) = UInt8.ofNat 10 from rfl, u8_eq c 32 (by omega), u8_eq c 10 (by omega)]
    rfl
  rw [e]
  generalize (c.toNat : Int) = z
  by_cases h : z = 32
  · subst h
    go_enter Tryz.func160, Tryz.ntmps160
    go_wp2_with fail
    go_ret
    exact ⟨rfl, rfl⟩
  · have h' : (z == 32) = false := by simpa using h
    go_enter Tryz.func160, Tryz.ntmps160
    go_wp2_with fail
    go_ret
    exact ⟨ret_bool (by simp [h]), rfl⟩

set_option maxHeartbeats 1000000 in
set_option maxRecDepth 100000 in
theorem ofLine_any (w : World) : Such 161 #[] RP.ofLine w := by
  intro c
  have e : RP.ofLine c = !((c.toNat : Int) == 10) := by
    unfold RP.ofLine
    show (!(c == 10)) = _
    rw [show (10 : UInt8) = UInt8.ofNat 10 from rfl, u8_eq c 10 (by omega)]
    rfl
  rw [e]
  generalize (c.toNat : Int) = z
  go_enter Tryz.func161, Tryz.ntmps161
  go_wp2_with fail
  go_ret
  exact ⟨ret_bool (by simp [bne]), rfl⟩

theorem head_byte (s : ByteArray) (k : Nat) (h : k < s.size) : (s.data.toList.drop k).head? = some s[k] := by rw [drop_byte s k h]; rfl
theorem head_none (s : ByteArray) (k : Nat) (h : ¬ k < s.size) : s.data.toList.drop k = [] := List.drop_of_length_le (by rw [Array.length_toList]; show s.size ≤ k; omega)

set_option maxHeartbeats 1000000 in
set_option maxRecDepth 100000 in
theorem skip_any (s : ByteArray) (n : Nat) (hs : s.size ≤ 1000000) (hn : n ≤ s.size) (w : World) :
    Calls Tryz.prog 106 #[.string s, .int .i64 n] w fun e w' => (∃ k : Nat, e = .returned (.int .i64 k) ∧ n ≤ k ∧ k ≤ s.size ∧ s.data.toList.drop k = RP.skipL (s.data.toList.drop n)) ∧ w' = w := by
  have hB := fun (m : Nat) (hm : m ≤ s.size) => past_any 160 #[] eg29 RP.blank s m hs hm w (blank_any w)
  have hL := fun (m : Nat) (hm : m ≤ s.size) => past_any 161 #[] eg30 RP.ofLine s m hs hm w (ofLine_any w)
  go_enter Tryz.func106, Tryz.ntmps106
  go_wp2_with fail
  refine (hB n hn).mono ?_
  rintro e w' ⟨⟨k0, rfl, hk01, hk02, hd0, -⟩, rfl⟩
  have HD0 : Hid (s.data.toList.drop k0 = (s.data.toList.drop n).dropWhile RP.blank) := hd0
  clear hd0
  go_wp2_with fail
  go_loop [1] (fun i => ∃ k : Nat, n ≤ k ∧ k ≤ s.size ∧ i = .int .i64 k ∧ RP.skipL (s.data.toList.drop n) = RP.tailL (s.data.toList.drop k)) (fun i => s.size - (intOf i).toNat)
  case atStart => exact ⟨k0, hk01, hk02, rfl, by rw [RP.skipL_eq, HD0.out]⟩
  case round =>
    obtain ⟨k, hk1, hk2, rfl, ht⟩ := hrel
    have HT : Hid (RP.skipL (s.data.toList.drop n) = RP.tailL (s.data.toList.drop k)) := ht
    clear ht
    by_cases hlt : k < s.size
    · have hh := head_byte s k hlt
      by_cases h35 : s[k] = 35
      · have HH : Hid ((s.data.toList.drop k).head? = some 35) := by show _ = _; rw [hh, h35]
        have hz : ((s[k].toNat : Int) == 35) = true := by rw [h35]; rfl
        clear hh h35
        go_wp2_with fail
        refine (hL k hk2).mono ?_
        rintro e w' ⟨⟨k1, rfl, hk11, hk12, hd1, -⟩, rfl⟩
        have HD1 : Hid (s.data.toList.drop k1 = (s.data.toList.drop k).dropWhile RP.ofLine) := hd1
        clear hd1
        go_wp2_with fail
        refine (hB k1 hk12).mono ?_
        rintro e w' ⟨⟨k2, rfl, hk21, hk22, hd2, -⟩, rfl⟩
        have HD2 : Hid (s.data.toList.drop k2 = (s.data.toList.drop k1).dropWhile RP.blank) := hd2
        clear hd2
        have hlt2 : k < k2 := by
          have h1 := RP.remark_lt _ HH.out
          rw [← HD1.out, ← HD2.out, List.length_drop, List.length_drop] at h1
          omega
        go_wp2_with fail
        go_round
        case rel => exact ⟨k2, by omega, hk22, rfl, by rw [HT.out, RP.tailL_remark HH.out, HD2.out, HD1.out]⟩
        case measure => simp [intOf]; omega
      · have HH : Hid ((s.data.toList.drop k).head? ≠ some 35) := by show _ ≠ _; rw [hh]; intro e; exact h35 (Option.some.inj e)
        have hz : ((s[k].toNat : Int) == 35) = false := by
          have := u8_eq s[k] 35 (by omega)
          rw [show ((35 : Nat) : Int) = 35 from rfl] at this
          rw [← this]
          simpa using h35
        clear hh h35
        go_wp2_with fail
        go_ret
        exact ⟨⟨k, rfl, hk1, hk2, by rw [HT.out, RP.tailL_stop HH.out]⟩, rfl⟩
    · have hn0 := head_none s k hlt
      have HN : Hid (s.data.toList.drop k = []) := hn0
      clear hn0
      go_wp2_with fail
      go_ret
      exact ⟨⟨k, rfl, hk1, hk2, by rw [HT.out, RP.tailL_stop (by rw [HN.out]; simp)]⟩, rfl⟩

end Go.Proofs.YtjbdlihlcoldlaaGreatDoor.Q
