/- mean: a tree of paths in memory, as it is made ready; its ghost. -/
import Derived.Test.YtjbdlihlcoldlaaGreatDoorG31
import Derived.Test.YtjbdlihlcoldlaaGreatDoorG32
import Derived.Test.YtjbdlihlcoldlaaGreatDoorG06
import Derived.Test.YtjbdlihlcoldlaaGreatDoorG03
namespace Go.Proofs.YtjbdlihlcoldlaaGreatDoor.M
open Go.RowKit Go.Shelf Go.Proofs.YtjbdlihlcoldlaaGreatDoor.Q

def NodeK : MN.Q → Prop
  | .cons _ _ => False
  | .nil => False
  | .never => False
  | _ => True

def RowK : MN.Q → Prop
  | .cons p ps => NodeK p ∧ RowK ps
  | .nil => True
  | _ => False

/-- These pointers lead to this path, or to these paths, made ready just now, in such blocks. -/
def QAt (ok : Nat → Prop) (w : World) : List Value → MN.Q → Prop
  | vs, .over u => ∃ (b ub code : Nat), vs = [ptrV b] ∧ ok b ∧ 8 ≤ b ∧ w.heap[b]? = some (.cells #[.int .i64 code, .slice (some ⟨ub, 0, none⟩) 1 1, .slice none 0 0, .int .i64 0, .int .i64 0, .int .i64 0, .slice none 0 0] 229) ∧ (code = 1 ∨ code = 2) ∧ ok ub ∧ w.cell? ⟨ub, 0, none⟩ = some (.int .u64 u) ∧ u < 18446744073709551616
  | vs, .edge => ∃ (b : Nat), vs = [ptrV b] ∧ ok b ∧ 8 ≤ b ∧ w.heap[b]? = some (.cells #[.int .i64 3, .slice none 0 0, .slice none 0 0, .int .i64 0, .int .i64 0, .int .i64 0, .slice none 0 0] 229)
  | vs, .cat ps => ∃ (b : Nat) (sv : Value) (ws : List Value), vs = [ptrV b] ∧ ok b ∧ 8 ≤ b ∧ w.heap[b]? = some (.cells #[.int .i64 4, .slice none 0 0, sv, .int .i64 0, .int .i64 0, .int .i64 0, .slice none 0 0] 229) ∧ Row ok w 157 1 sv ws.length ws ∧ QAt ok w ws ps ∧ RowK ps
  | vs, .alt ps => ∃ (b : Nat) (sv : Value) (ws : List Value), vs = [ptrV b] ∧ ok b ∧ 8 ≤ b ∧ w.heap[b]? = some (.cells #[.int .i64 5, .slice none 0 0, sv, .int .i64 0, .int .i64 0, .int .i64 0, .slice none 0 0] 229) ∧ Row ok w 157 1 sv ws.length ws ∧ QAt ok w ws ps ∧ RowK ps
  | vs, .many ps l h => ∃ (b : Nat) (sv : Value) (ws : List Value), vs = [ptrV b] ∧ ok b ∧ 8 ≤ b ∧ w.heap[b]? = some (.cells #[.int .i64 6, .slice none 0 0, sv, .int .i64 (l : Nat), .int .i64 h, .int .i64 0, .slice none 0 0] 229) ∧ Row ok w 157 1 sv ws.length ws ∧ QAt ok w ws ps ∧ RowK ps ∧ l ≤ 12 ∧ -1 ≤ h ∧ h ≤ 12
  | vs, .nil => vs = []
  | vs, .cons p ps => ∃ (b : Nat) (us : List Value), vs = ptrV b :: us ∧ QAt ok w [ptrV b] p ∧ QAt ok w us ps ∧ NodeK p
  | _, .never => False

theorem QAt.keep {ok : Nat → Prop} {w w' : World} (hk : Keeps ok w w') : ∀ {q : MN.Q} {vs : List Value}, QAt ok w vs q → QAt ok w' vs q := by
  intro q
  induction q with
  | over u =>
    rintro vs ⟨b, ub, code, rfl, h1, h8, h2, h3, h4, h5, h6⟩
    exact ⟨b, ub, code, rfl, h1, h8, (hk b h1 (lt_of_block h2)).trans h2, h3, h4, (World.cell?_of_block (w := w) (a := ⟨ub, 0, none⟩) (hk ub h4 (cell_lt h5))).trans h5, h6⟩
  | edge =>
    rintro vs ⟨b, rfl, h1, h8, h2⟩
    exact ⟨b, rfl, h1, h8, (hk b h1 (lt_of_block h2)).trans h2⟩
  | cat ps ih =>
    rintro vs ⟨b, sv, ws, rfl, h1, h8, h2, h3, h4, h5⟩
    exact ⟨b, sv, ws, rfl, h1, h8, (hk b h1 (lt_of_block h2)).trans h2, h3.keep hk, ih h4, h5⟩
  | alt ps ih =>
    rintro vs ⟨b, sv, ws, rfl, h1, h8, h2, h3, h4, h5⟩
    exact ⟨b, sv, ws, rfl, h1, h8, (hk b h1 (lt_of_block h2)).trans h2, h3.keep hk, ih h4, h5⟩
  | many ps l h ih =>
    rintro vs ⟨b, sv, ws, rfl, h1, h8, h2, h3, h4, h5⟩
    exact ⟨b, sv, ws, rfl, h1, h8, (hk b h1 (lt_of_block h2)).trans h2, h3.keep hk, ih h4, h5⟩
  | nil => exact fun h => h
  | cons p ps ih1 ih2 =>
    rintro vs ⟨b, us, rfl, h1, h2, h3⟩
    exact ⟨b, us, rfl, ih1 h1, ih2 h2, h3⟩
  | never => exact fun h => h

theorem QAt.mono {ok ok' : Nat → Prop} {w : World} (hk : ∀ b, b < w.heap.size → ok b → ok' b) : ∀ {q : MN.Q} {vs : List Value}, QAt ok w vs q → QAt ok' w vs q := by
  intro q
  induction q with
  | over u =>
    rintro vs ⟨b, ub, code, rfl, h1, h8, h2, h3, h4, h5, h6⟩
    exact ⟨b, ub, code, rfl, hk b (lt_of_block h2) h1, h8, h2, h3, hk ub (cell_lt h5) h4, h5, h6⟩
  | edge =>
    rintro vs ⟨b, rfl, h1, h8, h2⟩
    exact ⟨b, rfl, hk b (lt_of_block h2) h1, h8, h2⟩
  | cat ps ih =>
    rintro vs ⟨b, sv, ws, rfl, h1, h8, h2, h3, h4, h5⟩
    exact ⟨b, sv, ws, rfl, hk b (lt_of_block h2) h1, h8, h2, h3.mono hk, ih h4, h5⟩
  | alt ps ih =>
    rintro vs ⟨b, sv, ws, rfl, h1, h8, h2, h3, h4, h5⟩
    exact ⟨b, sv, ws, rfl, hk b (lt_of_block h2) h1, h8, h2, h3.mono hk, ih h4, h5⟩
  | many ps l h ih =>
    rintro vs ⟨b, sv, ws, rfl, h1, h8, h2, h3, h4, h5⟩
    exact ⟨b, sv, ws, rfl, hk b (lt_of_block h2) h1, h8, h2, h3.mono hk, ih h4, h5⟩
  | nil => exact fun h => h
  | cons p ps ih1 ih2 =>
    rintro vs ⟨b, us, rfl, h1, h2, h3⟩
    exact ⟨b, us, rfl, ih1 h1, ih2 h2, h3⟩
  | never => exact fun h => h

theorem row_unique {ok ok' : Nat → Prop} {w : World} {sv : Value} {xs ys : List Value} (h : Row ok w 157 1 sv xs.length xs) (k : Row ok' w 157 1 sv ys.length ys) : xs = ys := by
  obtain ⟨⟨h1, h2 | ⟨g, cap, cur, rfl, _, hh, _, _, _, ht⟩⟩, _⟩ := h
  · obtain ⟨rfl, h0⟩ := h2
    obtain ⟨⟨k1, k2 | ⟨g, cap, cur, e, _⟩⟩, _⟩ := k
    · rw [List.length_eq_zero_iff.1 h0, List.length_eq_zero_iff.1 k2.2]
    · cases e
  · obtain ⟨⟨k1, k2 | ⟨g', cap', cur', e, _, kh, _, _, _, kt⟩⟩, _⟩ := k
    · cases k2.1
    · injection e with e1 e2 e3
      cases e1
      rw [hh] at kh
      cases kh
      have hl : xs.length = ys.length := by exact e2
      rw [hl] at ht
      exact ht.symm.trans kt

theorem ptrV_inj {a b : Nat} (h : ptrV a = ptrV b) : a = b := by
  unfold ptrV at h
  injection h with h
  injection h with h
  injection h

/-- What lies there is one path alone. -/
theorem QAt.unique {ok ok' : Nat → Prop} {w : World} : ∀ {q q' : MN.Q} {vs : List Value}, ((NodeK q ∧ NodeK q') ∨ (RowK q ∧ RowK q')) → QAt ok w vs q → QAt ok' w vs q' → q = q' := by
  have one : ∀ {a b : Nat}, [ptrV a] = [ptrV b] → a = b := fun h => ptrV_inj (by injection h)
  intro q
  induction q with
  | over u =>
    intro q' vs hk
    rintro ⟨b, ub, code, rfl, h1, h8, h2, h3, h4, h5, h6⟩ h'
    cases q' with
    | over u' =>
      obtain ⟨b', ub', code', e, k1, k8, k2, k3, k4, k5, k6⟩ := h'
      obtain rfl := one e
      rw [h2] at k2
      simp at k2
      obtain ⟨_, rfl⟩ := k2
      rw [h5] at k5
      simp at k5
      rw [show u = u' by omega]
    | edge => obtain ⟨b', e, k1, k8, k2⟩ := h'; obtain rfl := one e; rw [h2] at k2; simp at k2
    | cat ps => obtain ⟨b', sv, ws, e, k1, k8, k2, _⟩ := h'; obtain rfl := one e; rw [h2] at k2; simp at k2
    | alt ps => obtain ⟨b', sv, ws, e, k1, k8, k2, _⟩ := h'; obtain rfl := one e; rw [h2] at k2; simp at k2
    | many ps l h => obtain ⟨b', sv, ws, e, k1, k8, k2, _⟩ := h'; obtain rfl := one e; rw [h2] at k2; simp at k2
    | never => exact h'.elim
    | nil => exact hk.elim (fun hk => hk.2.elim) (fun hk => hk.1.elim)
    | cons p ps => exact hk.elim (fun hk => hk.2.elim) (fun hk => hk.1.elim)
  | edge =>
    intro q' vs hk
    rintro ⟨b, rfl, h1, h8, h2⟩ h'
    cases q' with
    | over u' => obtain ⟨b', ub', code', e, k1, k8, k2, k3, _⟩ := h'; obtain rfl := one e; rw [h2] at k2; simp at k2
    | edge => rfl
    | cat ps => obtain ⟨b', sv, ws, e, k1, k8, k2, _⟩ := h'; obtain rfl := one e; rw [h2] at k2; simp at k2
    | alt ps => obtain ⟨b', sv, ws, e, k1, k8, k2, _⟩ := h'; obtain rfl := one e; rw [h2] at k2; simp at k2
    | many ps l h => obtain ⟨b', sv, ws, e, k1, k8, k2, _⟩ := h'; obtain rfl := one e; rw [h2] at k2; simp at k2
    | never => exact h'.elim
    | nil => exact hk.elim (fun hk => hk.2.elim) (fun hk => hk.1.elim)
    | cons p ps => exact hk.elim (fun hk => hk.2.elim) (fun hk => hk.1.elim)
  | cat ps ih =>
    intro q' vs hk
    rintro ⟨b, sv, ws, rfl, h1, h8, h2, h3, h4, h5⟩ h'
    cases q' with
    | over u' => obtain ⟨b', ub', code', e, k1, k8, k2, k3, _⟩ := h'; obtain rfl := one e; rw [h2] at k2; simp at k2
    | edge => obtain ⟨b', e, k1, k8, k2⟩ := h'; obtain rfl := one e; rw [h2] at k2; simp at k2
    | cat ps' =>
      obtain ⟨b', sv', ws', e, k1, k8, k2, k3, k4, k5⟩ := h'
      obtain rfl := one e
      rw [h2] at k2
      simp at k2
      subst k2
      obtain rfl := row_unique h3 k3
      rw [ih (.inr ⟨h5, k5⟩) h4 k4]
    | alt ps => obtain ⟨b', sv, ws, e, k1, k8, k2, _⟩ := h'; obtain rfl := one e; rw [h2] at k2; simp at k2
    | many ps l h => obtain ⟨b', sv, ws, e, k1, k8, k2, _⟩ := h'; obtain rfl := one e; rw [h2] at k2; simp at k2
    | never => exact h'.elim
    | nil => exact hk.elim (fun hk => hk.2.elim) (fun hk => hk.1.elim)
    | cons p ps => exact hk.elim (fun hk => hk.2.elim) (fun hk => hk.1.elim)
  | alt ps ih =>
    intro q' vs hk
    rintro ⟨b, sv, ws, rfl, h1, h8, h2, h3, h4, h5⟩ h'
    cases q' with
    | over u' => obtain ⟨b', ub', code', e, k1, k8, k2, k3, _⟩ := h'; obtain rfl := one e; rw [h2] at k2; simp at k2
    | edge => obtain ⟨b', e, k1, k8, k2⟩ := h'; obtain rfl := one e; rw [h2] at k2; simp at k2
    | alt ps' =>
      obtain ⟨b', sv', ws', e, k1, k8, k2, k3, k4, k5⟩ := h'
      obtain rfl := one e
      rw [h2] at k2
      simp at k2
      subst k2
      obtain rfl := row_unique h3 k3
      rw [ih (.inr ⟨h5, k5⟩) h4 k4]
    | cat ps => obtain ⟨b', sv, ws, e, k1, k8, k2, _⟩ := h'; obtain rfl := one e; rw [h2] at k2; simp at k2
    | many ps l h => obtain ⟨b', sv, ws, e, k1, k8, k2, _⟩ := h'; obtain rfl := one e; rw [h2] at k2; simp at k2
    | never => exact h'.elim
    | nil => exact hk.elim (fun hk => hk.2.elim) (fun hk => hk.1.elim)
    | cons p ps => exact hk.elim (fun hk => hk.2.elim) (fun hk => hk.1.elim)
  | many ps l h ih =>
    intro q' vs hk
    rintro ⟨b, sv, ws, rfl, h1, h8, h2, h3, h4, h5, _⟩ h'
    cases q' with
    | over u' => obtain ⟨b', ub', code', e, k1, k8, k2, k3, _⟩ := h'; obtain rfl := one e; rw [h2] at k2; simp at k2
    | edge => obtain ⟨b', e, k1, k8, k2⟩ := h'; obtain rfl := one e; rw [h2] at k2; simp at k2
    | many ps' l' g' =>
      obtain ⟨b', sv', ws', e, k1, k8, k2, k3, k4, k5, _⟩ := h'
      obtain rfl := one e
      rw [h2] at k2
      simp at k2
      obtain ⟨rfl, k6, rfl⟩ := k2
      obtain rfl := row_unique h3 k3
      rw [ih (.inr ⟨h5, k5⟩) h4 k4, show l = l' by omega]
    | cat ps => obtain ⟨b', sv, ws, e, k1, k8, k2, _⟩ := h'; obtain rfl := one e; rw [h2] at k2; simp at k2
    | alt ps => obtain ⟨b', sv, ws, e, k1, k8, k2, _⟩ := h'; obtain rfl := one e; rw [h2] at k2; simp at k2
    | never => exact h'.elim
    | nil => exact hk.elim (fun hk => hk.2.elim) (fun hk => hk.1.elim)
    | cons p ps => exact hk.elim (fun hk => hk.2.elim) (fun hk => hk.1.elim)
  | nil =>
    intro q' vs hk h h'
    cases q' with
    | nil => rfl
    | cons p ps => obtain ⟨b, us, e, _⟩ := h'; rw [show vs = [] from h] at e; cases e
    | _ => exact hk.elim (fun hk => hk.1.elim) (fun hk => hk.2.elim)
  | cons p ps ih1 ih2 =>
    intro q' vs hk
    rintro ⟨b, us, rfl, h1, h2, h3⟩ h'
    cases q' with
    | nil => cases h'
    | cons p' ps' =>
      obtain ⟨b', us', e, k1, k2, k3⟩ := h'
      injection e with e1 e2
      obtain rfl := ptrV_inj e1
      subst e2
      have hr : RowK ps ∧ RowK ps' := by
        rcases hk with hk | hk
        · exact hk.1.elim
        · exact ⟨hk.1.2, hk.2.2⟩
      rw [ih1 (.inl ⟨h3, k3⟩) h1 k1, ih2 (.inr hr) h2 k2]
    | _ => exact hk.elim (fun hk => hk.1.elim) (fun hk => hk.2.elim)
  | never => intro q' vs hk h; exact h.elim

open Classical in
/-- Of each block, the path that lies there. -/
noncomputable def ghost (w : World) : Gh := fun b => if h : ∃ q, NodeK q ∧ QAt (fun _ => True) w [ptrV b] q then some (.path h.choose) else none

theorem ghost_of {w : World} {b : Nat} {q : MN.Q} {ok : Nat → Prop} (hk : NodeK q) (h : QAt ok w [ptrV b] q) : ghost w b = some (.path q) := by
  have h' : QAt (fun _ => True) w [ptrV b] q := h.mono (fun _ _ _ => trivial)
  have hx : ∃ q, NodeK q ∧ QAt (fun _ => True) w [ptrV b] q := ⟨q, hk, h'⟩
  unfold ghost
  rw [dif_pos hx, QAt.unique (.inl ⟨hx.choose_spec.1, hk⟩) hx.choose_spec.2 h']

theorem ghost_row {w : World} : ∀ {ps : MN.Q} {ws : List Value}, RowK ps → QAt (fun _ => True) w ws ps → RowOk (ghost w) ws ps := by
  intro ps
  induction ps with
  | nil => exact fun _ h => h
  | cons p ps _ ih =>
    rintro ws hk ⟨b, us, rfl, h1, h2, h3⟩
    exact ⟨b, us, rfl, ghost_of h3 h1, ih hk.2 h2⟩
  | _ => exact fun h => h.elim

theorem parts_of_row {ok : Nat → Prop} {w : World} {sv : Value} {ws : List Value} (h : Row ok w 157 1 sv ws.length ws) : PartsAt w sv ws := by
  obtain ⟨⟨h1, h2 | ⟨g, cap, cur, rfl, _, hh, hn, hc, hs, ht⟩⟩, _⟩ := h
  · obtain ⟨rfl, h0⟩ := h2
    exact ⟨none, 0, by rw [h0], by omega, by unfold maxLen; omega, fun hne => absurd (List.length_eq_zero_iff.1 h0) hne⟩
  · refine ⟨_, cap, rfl, hn, hc, fun _ => ⟨g, cur, rfl, hh, fun k u hu => ?_⟩⟩
    have hk : k < ws.length := (List.getElem?_eq_some_iff.1 hu).1
    rw [← ht, List.getElem?_take_of_lt (by omega), Array.getElem?_toList] at hu
    exact hu

/-- A world in which paths were just made ready keeps what paths are. -/
theorem ghost_inv (S : Wk) (w : World) : Inv S (ghost w) w := by
  intro b t hb
  unfold ghost at hb
  split at hb
  · rename_i hx
    cases hb
    obtain ⟨hk, hq⟩ := hx.choose_spec
    generalize hx.choose = q at hk hq ⊢
    cases q with
    | over u =>
      obtain ⟨b', ub, code, e, _, h8, h2, h3, _, h5, h6⟩ := hq
      obtain rfl := ptrV_inj (by injection e)
      exact ⟨h8, code, _, _, 0, 0, 0, _, h2, h3, ub, rfl, cell_lt h5, h5, h6⟩
    | edge =>
      obtain ⟨b', e, _, h8, h2⟩ := hq
      obtain rfl := ptrV_inj (by injection e)
      exact ⟨h8, 3, _, _, 0, 0, 0, _, h2, rfl⟩
    | cat ps =>
      obtain ⟨b', sv, ws, e, _, h8, h2, h3, h4, h5⟩ := hq
      obtain rfl := ptrV_inj (by injection e)
      exact ⟨h8, 4, _, _, 0, 0, 0, _, h2, rfl, ws, parts_of_row h3, ghost_row h5 h4⟩
    | alt ps =>
      obtain ⟨b', sv, ws, e, _, h8, h2, h3, h4, h5⟩ := hq
      obtain rfl := ptrV_inj (by injection e)
      exact ⟨h8, 5, _, _, 0, 0, 0, _, h2, rfl, ws, parts_of_row h3, ghost_row h5 h4⟩
    | many ps l h =>
      obtain ⟨b', sv, ws, e, _, h8, h2, h3, h4, h5, h6, h7, h9⟩ := hq
      obtain rfl := ptrV_inj (by injection e)
      exact ⟨h8, 6, _, _, (l : Nat), h, 0, _, h2, rfl, rfl, rfl, h6, h7, h9, ⟨by omega, by omega⟩, ⟨ws, parts_of_row h3, ghost_row h5 h4⟩, .inl rfl⟩
    | nil => exact hk.elim
    | cons p ps => exact hk.elim
    | never => exact hk.elim
  · cases hb

end Go.Proofs.YtjbdlihlcoldlaaGreatDoor.M

namespace Go.Proofs.YtjbdlihlcoldlaaGreatDoor.M
open Go.RowKit Go.Shelf Go.Proofs.YtjbdlihlcoldlaaGreatDoor.Q

def rowOf : List MN.Q → MN.Q
  | [] => .nil
  | q :: qs => .cons q (rowOf qs)

def items : RP.Pt → List RP.Pt
  | .cons p ps => p :: items ps
  | _ => []

/-- A pattern made ready: rows the other way round where the walk goes so. -/
def rdy (ends : Bool) (U : RP.K → Nat) (all : Nat) : RP.Pt → MN.Q × List MN.Q
  | .one k => (.over (U k), [])
  | .any => (.over all, [])
  | .edge => (.edge, [])
  | .cat ps => (.cat (rowOf (if ends then (rdy ends U all ps).2 else (rdy ends U all ps).2.reverse)), [])
  | .alt ps => (.alt (rowOf (if ends then (rdy ends U all ps).2 else (rdy ends U all ps).2.reverse)), [])
  | .many p lo hi => (.many (rowOf [(rdy ends U all p).1]) lo.toNat hi, [])
  | .nil => (.never, [])
  | .cons p ps => (.never, (rdy ends U all p).1 :: (rdy ends U all ps).2)

theorem rdy_node (ends : Bool) (U : RP.K → Nat) (all : Nat) {p : RP.Pt} (h : CK.FitP p false) : NodeK (rdy ends U all p).1 := by
  cases p with
  | nil => cases h
  | cons p ps => cases h.1
  | _ => trivial

/-- Each of these pointers leads to its path. -/
def QsAt (ok : Nat → Prop) (w : World) : List Nat → List MN.Q → Prop
  | [], [] => True
  | b :: bs, q :: qs => QAt ok w [ptrV b] q ∧ NodeK q ∧ QsAt ok w bs qs
  | _, _ => False

theorem QsAt.turn {ok ok' : Nat → Prop} {w w' : World} (hK : ∀ {q : MN.Q} {vs : List Value}, QAt ok w vs q → QAt ok' w' vs q) : ∀ {bs : List Nat} {qs : List MN.Q}, QsAt ok w bs qs → QsAt ok' w' bs qs
  | [], [], _ => trivial
  | _ :: bs, _ :: qs, ⟨h1, h2, h3⟩ => ⟨hK h1, h2, QsAt.turn hK (bs := bs) (qs := qs) h3⟩
  | [], _ :: _, h => h.elim
  | _ :: _, [], h => h.elim

theorem QsAt.append {ok : Nat → Prop} {w : World} : ∀ {bs : List Nat} {qs : List MN.Q} {cs : List Nat} {rs : List MN.Q}, QsAt ok w bs qs → QsAt ok w cs rs → QsAt ok w (bs ++ cs) (qs ++ rs)
  | [], [], _, _, _, h => h
  | _ :: bs, _ :: qs, _, _, ⟨h1, h2, h3⟩, h => ⟨h1, h2, QsAt.append (bs := bs) (qs := qs) h3 h⟩
  | [], _ :: _, _, _, h, _ => h.elim
  | _ :: _, [], _, _, h, _ => h.elim

theorem QsAt.reverse {ok : Nat → Prop} {w : World} : ∀ {bs : List Nat} {qs : List MN.Q}, QsAt ok w bs qs → QsAt ok w bs.reverse qs.reverse
  | [], [], _ => trivial
  | b :: bs, q :: qs, ⟨h1, h2, h3⟩ => by
    rw [List.reverse_cons, List.reverse_cons]
    exact (QsAt.reverse (bs := bs) (qs := qs) h3).append ⟨h1, h2, trivial⟩
  | [], _ :: _, h => h.elim
  | _ :: _, [], h => h.elim

theorem QsAt.row {ok : Nat → Prop} {w : World} : ∀ {bs : List Nat} {qs : List MN.Q}, QsAt ok w bs qs → QAt ok w (ptrsV bs) (rowOf qs) ∧ RowK (rowOf qs)
  | [], [], _ => ⟨rfl, trivial⟩
  | b :: bs, q :: qs, ⟨h1, h2, h3⟩ => by
    obtain ⟨k1, k2⟩ := QsAt.row (bs := bs) (qs := qs) h3
    exact ⟨⟨b, ptrsV bs, rfl, h1, k1, h2⟩, h2, k2⟩
  | [], _ :: _, h => h.elim
  | _ :: _, [], h => h.elim

/-- New blocks, and one that is shared. -/
def okA (w : World) (A b : Nat) : Prop := New w b ∨ b = A

/-- .. but for a row's own. -/
def okv (w : World) (A : Nat) (v : Value) (b : Nat) : Prop := okA w A b ∧ v.ownBlock ≠ some b

theorem info157 : (Tryz.prog.info? 157).map (fun i => (i.zero, i.size, i.bytes)) = some (some (.pointer none), 1, 8) := by kernel_rfl

/-- One more: made in new blocks, laid into a slice of one, appended. -/
theorem heldQ_more {W1 wr w9 : World} {A : Nat} {v : Value} {bs : List Nat} {qs : List MN.Q} {b9 : Nat} {q : MN.Q} (ho : wr.ownsRow W1.heap.size 157 1 v bs.length (ptrsV bs)) (hqs : QsAt (okv W1 A v) wr bs qs) (h1 : W1.heap.size ≤ wr.heap.size) (hA : A < W1.heap.size)
    (hq : QAt (okA wr A) w9 [ptrV b9] q) (hk : NodeK q) (hb : Below wr.heap.size wr w9) (hn : bs.length ≤ 1000000) :
    ∃ v' w10, (Builtin.append_ #[226, 226] 226 #[v, .slice (some ⟨w9.heap.size, 0, none⟩) 1 1]).run Tryz.prog (w9.alloc (.cells #[ptrV b9] 157)) = .ok v' w10 ∧ w10.ownsRow W1.heap.size 157 1 v' (bs ++ [b9]).length (ptrsV (bs ++ [b9])) ∧
      QsAt (okv W1 A v') w10 (bs ++ [b9]) (qs ++ [q]) ∧ Below W1.heap.size wr w10 := by
  obtain ⟨i0, hi, hz0, hz1, hz2⟩ := info_parts info157
  have h9 := hb.size
  have ho9 : w9.ownsRow W1.heap.size 157 1 v bs.length (ptrsV bs) := by
    obtain ⟨k1, k2 | ⟨g, cap, cur, rfl, hgl, hh, rest⟩⟩ := ho
    · exact ⟨k1, .inl k2⟩
    · exact ⟨k1, .inr ⟨g, cap, cur, rfl, hgl, (hb.block g (lt_of_block hh)).trans hh, rest⟩⟩
  have hown : (w9.alloc (.cells #[ptrV b9] 157)).ownsRow W1.heap.size 157 1 v bs.length (ptrsV bs) := ho9.alloc _
  obtain ⟨v', w', hr, h2, h3, h4⟩ := append_where (P := Tryz.prog) (w9.alloc (.cells #[ptrV b9] 157)) W1.heap.size 226 226 157 i0 (.pointer none) 8 Tryz.underlying226 hi hz0 hz1 hz2 rfl v bs.length (ptrsV bs) hown ⟨w9.heap.size, 0, none⟩ 1 (ptrV b9) (by simp) rfl (by unfold maxLen; omega) (by omega) (by simp; omega)
  have hvb : ∀ j, v.ownBlock = some j → W1.heap.size ≤ j ∧ j < wr.heap.size := fun j hj => ho.lt j hj
  refine ⟨v', w', hr, by simpa [ptrsV] using h2, ?_, ?_⟩
  · have hnot : ∀ j, j < (w9.alloc (.cells #[ptrV b9] 157)).heap.size → v.ownBlock ≠ some j → v'.ownBlock ≠ some j := by
      intro j hj hne e
      rcases h4 with h4 | h4
      · exact hne (h4.symm.trans e)
      · rw [h4] at e
        cases e
        omega
    have hold : ∀ b, b < wr.heap.size → (w9.alloc (.cells #[ptrV b9] 157)).heap[b]? = wr.heap[b]? := fun b hl => (heap_alloc_old w9 _ (by omega)).trans (hb.block b hl)
    have e1 : QsAt (fun b => okv W1 A v b ∧ v'.ownBlock ≠ some b) (w9.alloc (.cells #[ptrV b9] 157)) bs qs :=
      hqs.turn fun h => QAt.mono (fun j hj hb' => by exact ⟨hb', hnot j hj hb'.2⟩) (QAt.keep (fun b _ hl => hold b hl) h)
    have e2 : QAt (fun b => okv W1 A v b ∧ v'.ownBlock ≠ some b) (w9.alloc (.cells #[ptrV b9] 157)) [ptrV b9] q :=
      QAt.mono (fun j hj hb' => by
        have hv : v.ownBlock ≠ some j := fun e => by
          have := hvb j e
          rcases hb' with hb' | hb'
          · unfold New at hb'; omega
          · omega
        exact ⟨⟨hb'.elim (fun h => .inl (Nat.le_trans h1 h)) .inr, hv⟩, hnot j hj hv⟩) (QAt.keep (Keeps.alloc _ _ _) hq)
    have e3 : QsAt (fun b => okv W1 A v b ∧ v'.ownBlock ≠ some b) (w9.alloc (.cells #[ptrV b9] 157)) (bs ++ [b9]) (qs ++ [q]) := e1.append ⟨e2, hk, trivial⟩
    exact e3.turn fun h => QAt.mono (fun j _ hb' => ⟨hb'.1.1, hb'.2⟩) (QAt.keep (Keeps.grown h3 fun b hb' e => hb'.1.2 e.symm) h)
  · have hb' : Below W1.heap.size wr (w9.alloc (.cells #[ptrV b9] 157)) := (hb.mono h1).alloc (by omega) _
    exact hb'.grown h3 (by simp; omega) (fun k hk => (hvb k hk).1)

/-- What ready hands back. -/
def RdySay (w : World) (A : Nat) (q : MN.Q) (e : Ending) (w' : World) : Prop := ∃ b, e = .returned (.pointer (some ⟨b, 0, none⟩)) ∧ QAt (okA w A) w' [ptrV b] q ∧ Below w.heap.size w w'

theorem enter82 (args : Array Value) (w : World) : (callFunc 82 args).run Tryz.prog w = .ok (.enter 82 args) w := by kernel_rfl

end Go.Proofs.YtjbdlihlcoldlaaGreatDoor.M

namespace Go.Proofs.YtjbdlihlcoldlaaGreatDoor.M
open Go.RowKit Go.Shelf Go.Proofs.YtjbdlihlcoldlaaGreatDoor.Q

/-- Each of these patterns is made ready. -/
def RowR (A : Nat) (w : World) (wb : Nat) : List Value → List MN.Q → Prop
  | [], [] => True
  | v :: us, q :: qs => ∃ b, v = .pointer (some ⟨b, 0, none⟩) ∧ (∀ W, Below w.heap.size w W → Calls Tryz.prog 82 #[.pointer (some ⟨wb, 0, none⟩), .pointer (some ⟨b, 0, none⟩)] W (RdySay W A q)) ∧ NodeK q ∧ RowR A w wb us qs
  | _, _ => False

theorem RowR.len {A : Nat} {w : World} {wb : Nat} : ∀ {us : List Value} {qs : List MN.Q}, RowR A w wb us qs → qs.length = us.length
  | [], [], _ => rfl
  | _ :: us, _ :: qs, ⟨_, _, _, _, h⟩ => by rw [List.length_cons, List.length_cons, RowR.len (us := us) (qs := qs) h]
  | [], _ :: _, h => h.elim
  | _ :: _, [], h => h.elim

theorem RowR.get {A : Nat} {w : World} {wb : Nat} : ∀ {us : List Value} {qs : List MN.Q} (_ : RowR A w wb us qs) (k : Nat) (_ : k < us.length), ∃ b q, us[k]? = some (.pointer (some ⟨b, 0, none⟩)) ∧ qs[k]? = some q ∧ (∀ W, Below w.heap.size w W → Calls Tryz.prog 82 #[.pointer (some ⟨wb, 0, none⟩), .pointer (some ⟨b, 0, none⟩)] W (RdySay W A q)) ∧ NodeK q
  | [], [], _, k, hk => by simp at hk
  | _ :: us, q :: qs, ⟨b, h1, h2, h3, _⟩, 0, _ => ⟨b, q, by rw [h1]; rfl, rfl, h2, h3⟩
  | _ :: us, _ :: qs, ⟨_, _, _, _, h⟩, k + 1, hk => by
    obtain ⟨b, q, k1, k2, k3, k4⟩ := RowR.get (us := us) (qs := qs) h k (by simpa using hk)
    exact ⟨b, q, by simpa using k1, by simpa using k2, k3, k4⟩
  | [], _ :: _, h, _, _ => h.elim
  | _ :: _, [], h, _, _ => h.elim

/-- What a pattern of parts is, made ready. -/
def PartSay (S : Wk) (w : World) (A : Nat) (code : Nat) (lo hi : Int) (qs : List MN.Q) (e : Ending) (w' : World) : Prop :=
  ∃ b sv bs, e = .returned (.pointer (some ⟨b, 0, none⟩)) ∧ w.heap.size ≤ b ∧ w'.heap[b]? = some (.cells #[.int .i64 code, .slice none 0 0, sv, .int .i64 lo, .int .i64 hi, .int .i64 0, .slice none 0 0] 229 (0, 0)) ∧
    Row (okA w A) w' 157 1 sv bs.length (ptrsV bs) ∧ QsAt (okA w A) w' bs (if S.ends then qs else qs.reverse) ∧ Below w.heap.size w w'

theorem owns_keep {w w' : World} {B : Nat} {e : TypeId} {v : Value} {n : Nat} {xs : List Value} (h : w.ownsRow B e 1 v n xs) (hk : ∀ g, v.ownBlock = some g → w'.heap[g]? = w.heap[g]?) : w'.ownsRow B e 1 v n xs := by
  obtain ⟨k1, k2 | ⟨g, cap, cur, rfl, hgl, hh, rest⟩⟩ := h
  · exact ⟨k1, .inl k2⟩
  · exact ⟨k1, .inr ⟨g, cap, cur, rfl, hgl, (hk g rfl).trans hh, rest⟩⟩

theorem row_end {w W1 wr : World} {A : Nat} {v : Value} {bs : List Nat} {qs : List MN.Q} (h1 : w.heap.size ≤ W1.heap.size) (ho : wr.ownsRow W1.heap.size 157 1 v bs.length (ptrsV bs)) (hq : QsAt (okv W1 A v) wr bs qs) : Row (okA w A) wr 157 1 v bs.length (ptrsV bs) ∧ QsAt (okA w A) wr bs qs :=
  ⟨⟨owns_mono ho (Nat.zero_le _), fun j hj => .inl (Nat.le_trans h1 (ho.lt j hj).1)⟩, hq.turn fun h => QAt.mono (fun _ _ hb => hb.1.elim (fun h => .inl (Nat.le_trans h1 h)) .inr) h⟩

set_option maxHeartbeats 4000000 in
set_option maxRecDepth 100000 in
theorem parts_ready (S : Wk) (T : CK.Tab) (pts : List Int) (A wb xb code : Nat) (lo hi : Int) (sv : Value) (ws : List Value) (qs : List MN.Q) (w : World) (hcode : code = 4 ∨ code = 5 ∨ code = 6) (hW : WkIn S T pts w wb)
    (hb : w.heap[xb]? = some (.cells #[.int .i64 code, .pointer none, sv, .int .i64 lo, .int .i64 hi] 39)) (hrow : Row (fun _ => True) w 35 1 sv ws.length ws) (hm : RowR A w wb ws qs) (hA : A < w.heap.size) (hlen : ws.length ≤ 1000000) :
    Calls Tryz.prog 82 #[.pointer (some ⟨wb, 0, none⟩), .pointer (some ⟨xb, 0, none⟩)] w (PartSay S w A code lo hi qs) := by
  obtain ⟨ao, cp, rfl, hcp, hcell⟩ := row_cells hrow
  have c0 := loc_cell (k := 0) hb rfl
  have c2 := loc_cell (k := 2) hb rfl
  have c3 := loc_cell (k := 3) hb rfl
  have c4 := loc_cell (k := 4) hb rfl
  have hxl := lt_of_block hb
  have h8 : 8 ≤ w.heap.size := by
    obtain ⟨h1, _, _, _, _, _, _, h2, _⟩ := hW
    have := lt_of_block h2
    omega
  obtain ⟨n, hn⟩ : ∃ n, n = ws.length := ⟨_, rfl⟩
  rw [← hn] at c2 hcp hlen
  have HN : Hid (n = ws.length) := hn
  have HM : Hid (RowR A w wb ws qs) := hm
  have HC : Hid (ws ≠ [] → ∃ g off, ao = some ⟨g, off, none⟩ ∧ g < w.heap.size ∧ ∀ j u, ws[j]? = some u → w.cell? ⟨g, off + j, none⟩ = some u) := hcell
  have HWK : Hid (WkIn S T pts w wb) := hW
  have HX : Hid (w.heap[xb]? = some (.cells #[.int .i64 code, .pointer none, .slice ao n cp, .int .i64 lo, .int .i64 hi] 39)) := by show _ = _; rw [hn]; exact hb
  have hS : w.drew.cell? ⟨xb, 0, none⟩ = some (.int .i64 code) ∧ w.drew.cell? ⟨xb, 3, none⟩ = some (.int .i64 lo) ∧ w.drew.cell? ⟨xb, 4, none⟩ = some (.int .i64 hi) := ⟨c0, c3, c4⟩
  clear hb hrow hm hcell hn hW c0 c3 c4 c2
  go_enter Tryz.func82, Tryz.ntmps82
  go_wp2_with fail
  go_region_held3 (fun W => W.cell? ⟨xb, 0, none⟩ = some (.int .i64 code) ∧ W.cell? ⟨xb, 3, none⟩ = some (.int .i64 lo) ∧ W.cell? ⟨xb, 4, none⟩ = some (.int .i64 hi)) (first | assumption | exact ⟨cell_alloc_old' hS.1, cell_alloc_old' hS.2.1, cell_alloc_old' hS.2.2⟩) ((fail))
  have hb1 : Below w.heap.size w (w.alloc (.cells #[.int .i64 code, .slice none 0 0, .slice none 0 0, .int .i64 lo, .int .i64 hi, .int .i64 0, .slice none 0 0] 229)).drew := ((Below.refl _ w).alloc (Nat.le_refl _) _).drew
  have hp1 : (w.alloc (.cells #[.int .i64 code, .slice none 0 0, .slice none 0 0, .int .i64 lo, .int .i64 hi, .int .i64 0, .slice none 0 0] 229)).drew.heap[w.heap.size]? = some (.cells #[.int .i64 code, .slice none 0 0, .slice none 0 0, .int .i64 lo, .int .i64 hi, .int .i64 0, .slice none 0 0] 229 (0, 0)) := heap_alloc_new w _
  have hs1 : (w.alloc (.cells #[.int .i64 code, .slice none 0 0, .slice none 0 0, .int .i64 lo, .int .i64 hi, .int .i64 0, .slice none 0 0] 229)).drew.heap.size = w.heap.size + 1 := by simp
  clear hS
  generalize (w.alloc (.cells #[.int .i64 code, .slice none 0 0, .slice none 0 0, .int .i64 lo, .int .i64 hi, .int .i64 0, .slice none 0 0] 229)).drew = W1 at hb1 hp1 hs1 ⊢
  have hx1 := (hb1.block xb hxl).trans HX.out
  have c0 := loc_cell (k := 0) hx1 rfl
  have c2 := loc_cell (k := 2) hx1 rfl
  have HP1 : Hid (W1.heap[w.heap.size]? = _) := hp1
  have HB1 : Hid (Below w.heap.size w W1) := hb1
  obtain ⟨pb, hpb⟩ : ∃ x, x = w.heap.size := ⟨_, rfl⟩
  rw [← hpb] at HP1 hs1 ⊢
  have HPB : Hid (pb = w.heap.size) := hpb
  clear hx1 hp1 hb1 hpb
  rcases hcode with rfl | rfl | rfl
  all_goals
    go_wp2_with fail
    go_loopw [59] (fun i wr => ∃ (k : Nat) (v : Value) (bs : List Nat), k ≤ n ∧ i = .int .i64 k ∧ bs.length = k ∧ Below w.heap.size w wr ∧ W1.heap.size ≤ wr.heap.size ∧ wr.heap[pb]? = some (.cells #[.int .i64 _, .slice none 0 0, v, .int .i64 lo, .int .i64 hi, .int .i64 0, .slice none 0 0] 229 (0, 0)) ∧
      wr.ownsRow W1.heap.size 157 1 v bs.length (ptrsV bs) ∧ QsAt (okv W1 A v) wr bs (qs.take k)) (fun i _ => n - (intOf i).toNat)
    case atStart => exact ⟨0, _, [], Nat.zero_le _, rfl, rfl, HB1.out, Nat.le_refl _, HP1.out, World.ownsRow_nil _ _ _ _, trivial⟩
    case round =>
      obtain ⟨k, v, bs, hk, rfl, hbl, hb, hsz, hp, ho, hq⟩ := hrel
      by_cases hlt : k < n
      · have hkv : k < ws.length := by have := HN.out; omega
        obtain ⟨xk, q, hu, hqk, hCk, hnk⟩ := HM.out.get k hkv
        obtain ⟨g, off, rfl, hgl, hcl⟩ := HC.out (fun e => by rw [e] at hkv; simp at hkv)
        have hcell := (hb.cell (p := ⟨g, off + k, none⟩) (by exact hgl)).trans (hcl k _ hu)
        have hki : (k : Int) < n := by omega
        have hqt : qs.take (k + 1) = qs.take k ++ [q] := by
          have hkl : k < qs.length := (List.getElem?_eq_some_iff.1 hqk).1
          rw [List.take_succ_eq_append_getElem hkl]
          have := (List.getElem?_eq_some_iff.1 hqk).2
          rw [this]
        have hbd : Below w.heap.size w wr.drew := hb.drew
        have hC := hCk wr.drew hbd
        have hsd : wr.drew.heap.size = wr.heap.size := rfl
        have HMore : Hid (∀ (w9 : World) (b9 : Nat), QAt (okA wr.drew A) w9 [ptrV b9] q → Below wr.drew.heap.size wr.drew w9 → ∃ v' w10, (Builtin.append_ #[226, 226] 226 #[v, .slice (some ⟨w9.heap.size, 0, none⟩) 1 1]).run Tryz.prog (w9.alloc (.cells #[.pointer (some ⟨b9, 0, none⟩)] 157)) = .ok v' w10 ∧
            w10.heap[pb]? = wr.heap[pb]? ∧ w10.cell? ⟨pb, 2, none⟩ = some v ∧ w10.frozen? ⟨pb, 2, none⟩ = false ∧ w9.cell? ⟨pb, 2, none⟩ = some v ∧ (w9.alloc (.cells #[.pointer (some ⟨b9, 0, none⟩)] 157)).cell? ⟨pb, 2, none⟩ = some v ∧
            w10.ownsRow W1.heap.size 157 1 v' (bs ++ [b9]).length (ptrsV (bs ++ [b9])) ∧ QsAt (okv W1 A v') w10 (bs ++ [b9]) (qs.take (k + 1)) ∧ Below W1.heap.size wr w10) := by
          intro w9 b9 hq9 hb9
          obtain ⟨v', w10, h1, h2, h3, h4⟩ := heldQ_more (W1 := W1) (wr := wr) (A := A) ho hq hsz (by have := HPB.out; omega) (by exact hq9) hnk (show Below wr.heap.size wr w9 from (((Below.refl _ wr).drew).trans hb9)) (by omega)
          have hp10 := (h4.block pb (by have := HPB.out; omega)).trans hp
          have hp9 := (((Below.refl _ wr).drew).trans hb9).block pb (lt_of_block hp)
          have hc9 : w9.cell? ⟨pb, 2, none⟩ = some v := cell_of_row w9 pb 2 _ _ _ (hp9.trans hp)
          exact ⟨v', w10, h1, h4.block pb (by have := HPB.out; omega), cell_of_row w10 pb 2 _ _ _ hp10, frozen_of_row w10 pb 2 _ _ hp10, hc9, cell_alloc_old' hc9, h2, by rw [hqt]; exact h3, h4⟩
        have cp2 : wr.cell? ⟨pb, 2, none⟩ = some v := cell_of_row wr pb 2 _ _ _ hp
        have HPw : Hid (wr.heap[pb]? = _) := hp
        have HBw : Hid (Below w.heap.size w wr ∧ W1.heap.size ≤ wr.heap.size) := ⟨hb, hsz⟩
        obtain ⟨so, sc, rfl⟩ := own_slice ho
        obtain ⟨sn, hsn⟩ : ∃ x, x = bs.length := ⟨_, rfl⟩
        rw [← hsn] at HMore cp2 HPw
        have HSN : Hid (sn = bs.length) := hsn
        clear hq ho hp hu hqk hCk hnk hcl hqt hbd hb hsz hsn
        go_wp2_with fail
        refine wp_region_noPanic ?_
        refine wp_region_held_drew (S := fun _ => True) (by kernel_rfl) trivial (fun hHeld => ?_)
        refine wpAnyH_take (i := 0) (oi := { dst := some 63, op := Op.move (Operand.tmp 5), type := 157, pos := "walk.go:57", after := #[], guard := none }) (v := ?_) rfl (by kernel_rfl) (by kernel_rfl) (by kernel_rfl) (fun _ _ _ h => h) (Or.inl ⟨by rfl, ?_⟩) (by assumption) ?_
        rotate_left
        · (intro w hSw; (try dsimp only at hSw); go_simp) <;> try with_reducible rfl
        try simp only [Act.put, List.setIfInBounds_toArray, List.set_cons_zero, List.set_cons_succ]
        refine wpAnyH_take (i := 1) (oi := { dst := some 64, op := Op.move (Operand.tmp 5), type := 157, pos := "walk.go:57", after := #[], guard := none }) (v := ?_) rfl (by kernel_rfl) (by kernel_rfl) (by kernel_rfl) (fun _ _ _ h => h) (Or.inl ⟨by rfl, ?_⟩) (by assumption) ?_
        rotate_left
        · (intro w hSw; (try dsimp only at hSw); go_simp) <;> try with_reducible rfl
        try simp only [Act.put, List.setIfInBounds_toArray, List.set_cons_zero, List.set_cons_succ]
        refine wpAnyH_take (i := 2) (oi := { dst := some 65, op := Op.nilCheck (Operand.tmp 64), type := 0, pos := "walk.go:57", after := #[{ on := 1, ground := Ground.data }], guard := none }) (v := ?_) rfl (by kernel_rfl) (by kernel_rfl) (by kernel_rfl) (fun _ _ _ h => h) (Or.inl ⟨by rfl, ?_⟩) (by assumption) ?_
        rotate_left
        · (intro w hSw; (try dsimp only at hSw); go_simp) <;> try with_reducible rfl
        try simp only [Act.put, List.setIfInBounds_toArray, List.set_cons_zero, List.set_cons_succ]
        refine wpAnyH_take (i := 3) (oi := { dst := some 66, op := Op.fieldAddr 229 (Operand.tmp 65) 2, type := 0, pos := "walk.go:57", after := #[{ on := 2, ground := Ground.data }], guard := none }) (v := ?_) rfl (by kernel_rfl) (by kernel_rfl) (by kernel_rfl) (fun _ _ _ h => h) (Or.inl ⟨by rfl, ?_⟩) (by assumption) ?_
        rotate_left
        · (intro w hSw; (try dsimp only at hSw); go_simp) <;> try with_reducible rfl
        try simp only [Act.put, List.setIfInBounds_toArray, List.set_cons_zero, List.set_cons_succ]
        refine wpAnyH_take (i := 5) (oi := { dst := some 68, op := Op.move (Operand.tmp 0), type := 225, pos := "walk.go:57", after := #[], guard := none }) (v := ?_) rfl (by kernel_rfl) (by kernel_rfl) (by kernel_rfl) (fun _ _ _ h => h) (Or.inl ⟨by rfl, ?_⟩) (by assumption) ?_
        rotate_left
        · (intro w hSw; (try dsimp only at hSw); go_simp) <;> try with_reducible rfl
        try simp only [Act.put, List.setIfInBounds_toArray, List.set_cons_zero, List.set_cons_succ]
        refine wpAnyH_take (i := 6) (oi := { dst := some 69, op := Op.move (Operand.tmp 7), type := 35, pos := "walk.go:57", after := #[], guard := none }) (v := ?_) rfl (by kernel_rfl) (by kernel_rfl) (by kernel_rfl) (fun _ _ _ h => h) (Or.inl ⟨by rfl, ?_⟩) (by assumption) ?_
        rotate_left
        · (intro w hSw; (try dsimp only at hSw); go_simp) <;> try with_reducible rfl
        try simp only [Act.put, List.setIfInBounds_toArray, List.set_cons_zero, List.set_cons_succ]
        refine wpAnyH_ready (rs := [4, 7]) (by kernel_rfl) (by simp) ?_
        refine AllReadyH.cons (o := { dst := some 67, op := Op.load 226 (Operand.tmp 66), type := 226, pos := "walk.go:57", after := #[{ on := 3, ground := Ground.data }], guard := none }) rfl (fun K hK => ?_) (AllReadyH.cons (o := { dst := some 70, op := Op.call { callee := Callee.value (Operand.func 82), args := #[Operand.tmp 68, Operand.tmp 69], argTypes := #[225, 35] }, type := 157, pos := "walk.go:57", after := #[{ on := 5, ground := Ground.data }, { on := 6, ground := Ground.data }], guard := none }) rfl (fun K hK => ?_) AllReadyH.nil)
        · skip
          go_simp
          refine hK.out _ _ trivial (fun hHeld => ?_)
          clear hK K
          try simp only [Act.put, List.setIfInBounds_toArray, List.set_cons_zero, List.set_cons_succ]
          refine wpAnyH_ready (rs := [7]) (by kernel_rfl) (by simp) ?_
          refine AllReadyH.cons (o := { dst := some 70, op := Op.call { callee := Callee.value (Operand.func 82), args := #[Operand.tmp 68, Operand.tmp 69], argTypes := #[225, 35] }, type := 157, pos := "walk.go:57", after := #[{ on := 5, ground := Ground.data }, { on := 6, ground := Ground.data }], guard := none }) rfl (fun K hK => ?_) AllReadyH.nil
          go_simp
          refine hC.mono ?_
          rintro e w9 ⟨b9, rfl, hq9, hb9⟩
          obtain ⟨v', w10, hr10, hk1, hk2, hk3, hk4, hk5, hk6, hk7, hk8⟩ := HMore.out w9 b9 hq9 hb9
          obtain ⟨so', sc', rfl⟩ := own_slice hk6
          go_wp2_with fail
          refine hK.out _ _ trivial (fun hHeld => ?_)
          clear hK K
          try simp only [Act.put, List.setIfInBounds_toArray, List.set_cons_zero, List.set_cons_succ]
          refine wpAnyH_ready (rs := [8]) (by kernel_rfl) (by simp) ?_
          refine AllReadyH.cons (o := { dst := some 71, op := Op.buildSlice 226 1 #[(0, Operand.tmp 70)], type := 226, pos := "walk.go:57", after := #[{ on := 7, ground := Ground.data }], guard := none }) rfl (fun K hK => ?_) AllReadyH.nil
          go_simp
          refine hK.out _ _ trivial (fun hHeld => ?_)
          clear hK K
          try simp only [Act.put, List.setIfInBounds_toArray, List.set_cons_zero, List.set_cons_succ]
          refine wpAnyH_ready (rs := [9]) (by kernel_rfl) (by simp) ?_
          refine AllReadyH.cons (o := { dst := some 72, op := Op.call { callee := Callee.builtin Builtin.append, args := #[Operand.tmp 67, Operand.tmp 71], argTypes := #[226, 226] }, type := 226, pos := "walk.go:57", after := #[{ on := 4, ground := Ground.data }, { on := 8, ground := Ground.data }, { on := 7, ground := Ground.chain }], guard := none }) rfl (fun K hK => ?_) AllReadyH.nil
          refine step_append_run rfl (.tmp 67) (.tmp 71) 226 rfl (.slice so sn sc) _ (.slice so' (bs ++ [b9]).length sc') w10 rfl rfl hr10 ?_
          refine hK.out _ _ trivial (fun hHeld => ?_)
          clear hK K
          try simp only [Act.put, List.setIfInBounds_toArray, List.set_cons_zero, List.set_cons_succ]
          refine wpAnyH_take (i := 10) (oi := { dst := some 73, op := Op.nilCheck (Operand.tmp 63), type := 0, pos := "walk.go:57", after := #[{ on := 0, ground := Ground.data }, { on := 0, ground := Ground.phase }, { on := 1, ground := Ground.phase }, { on := 2, ground := Ground.phase }, { on := 3, ground := Ground.phase }, { on := 4, ground := Ground.phase }, { on := 5, ground := Ground.phase }, { on := 6, ground := Ground.phase }, { on := 7, ground := Ground.phase }, { on := 8, ground := Ground.phase }, { on := 9, ground := Ground.phase }], guard := none }) (v := ?_) rfl (by kernel_rfl) (by kernel_rfl) (by kernel_rfl) (fun _ _ _ h => h) (Or.inl ⟨by rfl, ?_⟩) (by assumption) ?_
          rotate_left
          · (intro w hSw; (try dsimp only at hSw); go_simp) <;> try with_reducible rfl
          try simp only [Act.put, List.setIfInBounds_toArray, List.set_cons_zero, List.set_cons_succ]
          refine wpAnyH_take (i := 11) (oi := { dst := some 74, op := Op.fieldAddr 229 (Operand.tmp 73) 2, type := 0, pos := "walk.go:57", after := #[{ on := 10, ground := Ground.data }, { on := 0, ground := Ground.phase }, { on := 1, ground := Ground.phase }, { on := 2, ground := Ground.phase }, { on := 3, ground := Ground.phase }, { on := 4, ground := Ground.phase }, { on := 5, ground := Ground.phase }, { on := 6, ground := Ground.phase }, { on := 7, ground := Ground.phase }, { on := 8, ground := Ground.phase }, { on := 9, ground := Ground.phase }], guard := none }) (v := ?_) rfl (by kernel_rfl) (by kernel_rfl) (by kernel_rfl) (fun _ _ _ h => h) (Or.inl ⟨by rfl, ?_⟩) (by assumption) ?_
          rotate_left
          · (intro w hSw; (try dsimp only at hSw); go_simp) <;> try with_reducible rfl
          try simp only [Act.put, List.setIfInBounds_toArray, List.set_cons_zero, List.set_cons_succ]
          refine wpAnyH_ready (rs := [12]) (by kernel_rfl) (by simp) ?_
          refine AllReadyH.cons (o := { dst := none, op := Op.store 226 (Operand.tmp 74) (Operand.tmp 72), type := 0, pos := "walk.go:57", after := #[{ on := 11, ground := Ground.data }, { on := 9, ground := Ground.data }, { on := 9, ground := Ground.chain }, { on := 0, ground := Ground.phase }, { on := 1, ground := Ground.phase }, { on := 2, ground := Ground.phase }, { on := 3, ground := Ground.phase }, { on := 4, ground := Ground.phase }, { on := 5, ground := Ground.phase }, { on := 6, ground := Ground.phase }, { on := 7, ground := Ground.phase }, { on := 8, ground := Ground.phase }, { on := 9, ground := Ground.phase }], guard := none }) rfl (fun K hK => ?_) AllReadyH.nil
          go_simp
          refine hK.out _ _ trivial (fun hHeld => ?_)
          clear hK K
          try simp only [Act.put, List.setIfInBounds_toArray, List.set_cons_zero, List.set_cons_succ]
          refine wpAnyH_done (by kernel_rfl) ?_ _
          refine NoPanic.normal ?_
          have hpw := HPB.out
          have R1 : Hid ((w10.setCell ⟨pb, 2, none⟩ (.slice so' (bs ++ [b9]).length sc')).heap[pb]? = some (.cells #[.int .i64 _, .slice none 0 0, .slice so' (bs ++ [b9]).length sc', .int .i64 lo, .int .i64 hi, .int .i64 0, .slice none 0 0] 229 (0, 0))) := heap_setCell_same w10 pb 2 _ 229 _ (hk1.trans HPw.out)
          have R2 : Hid ((w10.setCell ⟨pb, 2, none⟩ (.slice so' (bs ++ [b9]).length sc')).ownsRow W1.heap.size 157 1 (.slice so' (bs ++ [b9]).length sc') (bs ++ [b9]).length (ptrsV (bs ++ [b9]))) := owns_keep hk6 (fun g hg => heap_setCell_other w10 ⟨pb, 2, none⟩ g _ (by have := (hk6.lt g hg).1; show g ≠ pb; omega))
          have R3 : Hid (QsAt (okv W1 A (.slice so' (bs ++ [b9]).length sc')) (w10.setCell ⟨pb, 2, none⟩ (.slice so' (bs ++ [b9]).length sc')) (bs ++ [b9]) (qs.take (k + 1))) := hk7.turn (fun h => QAt.keep (fun b hb _ => heap_setCell_other w10 ⟨pb, 2, none⟩ b _ (by
            show b ≠ pb
            rcases hb.1 with h | h
            · unfold New at h; omega
            · omega)) h)
          have R4 : Hid (Below w.heap.size w (w10.setCell ⟨pb, 2, none⟩ (.slice so' (bs ++ [b9]).length sc')) ∧ W1.heap.size ≤ (w10.setCell ⟨pb, 2, none⟩ (.slice so' (bs ++ [b9]).length sc')).heap.size) := ⟨(HBw.out.1.trans (hk8.mono (by omega))).setCell (p := ⟨pb, 2, none⟩) (by show w.heap.size ≤ pb; omega) _, by have := hk8.size; have := HBw.out.2; simp; omega⟩
          have R5 : Hid ((bs ++ [b9]).length = k + 1) := by show _ = _; simp; omega
          clear hk1 hk2 hk3 hk4 hk5 hk6 hk7 hk8 hr10 hq9 hb9 hpw
          generalize bs ++ [b9] = bs' at *
          go_wp2_with fail
          have r5 := R5.out
          refine ⟨⟨_, _, _, _, _, _, _, _, _, _, _, _, _, _, _, _, _, _, ?rel, rfl⟩, ?measure⟩
          case rel => exact ⟨k + 1, .slice so' (k + 1) sc', bs', by omega, by go_num, r5, by have h := R4.out.1; rw [r5] at h; exact h, by have h := R4.out.2; rw [r5] at h; exact h, by have h := R1.out; rw [r5] at h; exact h, by have h := R2.out; rw [r5] at h ⊢; exact h, by have h := R3.out; rw [r5] at h; exact h⟩
          case measure => simp [intOf]; omega
        · skip
          go_simp
          refine hC.mono ?_
          rintro e w9 ⟨b9, rfl, hq9, hb9⟩
          obtain ⟨v', w10, hr10, hk1, hk2, hk3, hk4, hk5, hk6, hk7, hk8⟩ := HMore.out w9 b9 hq9 hb9
          obtain ⟨so', sc', rfl⟩ := own_slice hk6
          go_wp2_with fail
          refine hK.out _ _ trivial (fun hHeld => ?_)
          clear hK K
          try simp only [Act.put, List.setIfInBounds_toArray, List.set_cons_zero, List.set_cons_succ]
          refine wpAnyH_ready (rs := [4, 8]) (by kernel_rfl) (by simp) ?_
          refine AllReadyH.cons (o := { dst := some 67, op := Op.load 226 (Operand.tmp 66), type := 226, pos := "walk.go:57", after := #[{ on := 3, ground := Ground.data }], guard := none }) rfl (fun K hK => ?_) (AllReadyH.cons (o := { dst := some 71, op := Op.buildSlice 226 1 #[(0, Operand.tmp 70)], type := 226, pos := "walk.go:57", after := #[{ on := 7, ground := Ground.data }], guard := none }) rfl (fun K hK => ?_) AllReadyH.nil)
          · skip
            go_simp
            refine hK.out _ _ trivial (fun hHeld => ?_)
            clear hK K
            try simp only [Act.put, List.setIfInBounds_toArray, List.set_cons_zero, List.set_cons_succ]
            refine wpAnyH_ready (rs := [8]) (by kernel_rfl) (by simp) ?_
            refine AllReadyH.cons (o := { dst := some 71, op := Op.buildSlice 226 1 #[(0, Operand.tmp 70)], type := 226, pos := "walk.go:57", after := #[{ on := 7, ground := Ground.data }], guard := none }) rfl (fun K hK => ?_) AllReadyH.nil
            go_simp
            refine hK.out _ _ trivial (fun hHeld => ?_)
            clear hK K
            try simp only [Act.put, List.setIfInBounds_toArray, List.set_cons_zero, List.set_cons_succ]
            refine wpAnyH_ready (rs := [9]) (by kernel_rfl) (by simp) ?_
            refine AllReadyH.cons (o := { dst := some 72, op := Op.call { callee := Callee.builtin Builtin.append, args := #[Operand.tmp 67, Operand.tmp 71], argTypes := #[226, 226] }, type := 226, pos := "walk.go:57", after := #[{ on := 4, ground := Ground.data }, { on := 8, ground := Ground.data }, { on := 7, ground := Ground.chain }], guard := none }) rfl (fun K hK => ?_) AllReadyH.nil
            refine step_append_run rfl (.tmp 67) (.tmp 71) 226 rfl (.slice so sn sc) _ (.slice so' (bs ++ [b9]).length sc') w10 rfl rfl hr10 ?_
            refine hK.out _ _ trivial (fun hHeld => ?_)
            clear hK K
            try simp only [Act.put, List.setIfInBounds_toArray, List.set_cons_zero, List.set_cons_succ]
            refine wpAnyH_take (i := 10) (oi := { dst := some 73, op := Op.nilCheck (Operand.tmp 63), type := 0, pos := "walk.go:57", after := #[{ on := 0, ground := Ground.data }, { on := 0, ground := Ground.phase }, { on := 1, ground := Ground.phase }, { on := 2, ground := Ground.phase }, { on := 3, ground := Ground.phase }, { on := 4, ground := Ground.phase }, { on := 5, ground := Ground.phase }, { on := 6, ground := Ground.phase }, { on := 7, ground := Ground.phase }, { on := 8, ground := Ground.phase }, { on := 9, ground := Ground.phase }], guard := none }) (v := ?_) rfl (by kernel_rfl) (by kernel_rfl) (by kernel_rfl) (fun _ _ _ h => h) (Or.inl ⟨by rfl, ?_⟩) (by assumption) ?_
            rotate_left
            · (intro w hSw; (try dsimp only at hSw); go_simp) <;> try with_reducible rfl
            try simp only [Act.put, List.setIfInBounds_toArray, List.set_cons_zero, List.set_cons_succ]
            refine wpAnyH_take (i := 11) (oi := { dst := some 74, op := Op.fieldAddr 229 (Operand.tmp 73) 2, type := 0, pos := "walk.go:57", after := #[{ on := 10, ground := Ground.data }, { on := 0, ground := Ground.phase }, { on := 1, ground := Ground.phase }, { on := 2, ground := Ground.phase }, { on := 3, ground := Ground.phase }, { on := 4, ground := Ground.phase }, { on := 5, ground := Ground.phase }, { on := 6, ground := Ground.phase }, { on := 7, ground := Ground.phase }, { on := 8, ground := Ground.phase }, { on := 9, ground := Ground.phase }], guard := none }) (v := ?_) rfl (by kernel_rfl) (by kernel_rfl) (by kernel_rfl) (fun _ _ _ h => h) (Or.inl ⟨by rfl, ?_⟩) (by assumption) ?_
            rotate_left
            · (intro w hSw; (try dsimp only at hSw); go_simp) <;> try with_reducible rfl
            try simp only [Act.put, List.setIfInBounds_toArray, List.set_cons_zero, List.set_cons_succ]
            refine wpAnyH_ready (rs := [12]) (by kernel_rfl) (by simp) ?_
            refine AllReadyH.cons (o := { dst := none, op := Op.store 226 (Operand.tmp 74) (Operand.tmp 72), type := 0, pos := "walk.go:57", after := #[{ on := 11, ground := Ground.data }, { on := 9, ground := Ground.data }, { on := 9, ground := Ground.chain }, { on := 0, ground := Ground.phase }, { on := 1, ground := Ground.phase }, { on := 2, ground := Ground.phase }, { on := 3, ground := Ground.phase }, { on := 4, ground := Ground.phase }, { on := 5, ground := Ground.phase }, { on := 6, ground := Ground.phase }, { on := 7, ground := Ground.phase }, { on := 8, ground := Ground.phase }, { on := 9, ground := Ground.phase }], guard := none }) rfl (fun K hK => ?_) AllReadyH.nil
            go_simp
            refine hK.out _ _ trivial (fun hHeld => ?_)
            clear hK K
            try simp only [Act.put, List.setIfInBounds_toArray, List.set_cons_zero, List.set_cons_succ]
            refine wpAnyH_done (by kernel_rfl) ?_ _
            refine NoPanic.normal ?_
            have hpw := HPB.out
            have R1 : Hid ((w10.setCell ⟨pb, 2, none⟩ (.slice so' (bs ++ [b9]).length sc')).heap[pb]? = some (.cells #[.int .i64 _, .slice none 0 0, .slice so' (bs ++ [b9]).length sc', .int .i64 lo, .int .i64 hi, .int .i64 0, .slice none 0 0] 229 (0, 0))) := heap_setCell_same w10 pb 2 _ 229 _ (hk1.trans HPw.out)
            have R2 : Hid ((w10.setCell ⟨pb, 2, none⟩ (.slice so' (bs ++ [b9]).length sc')).ownsRow W1.heap.size 157 1 (.slice so' (bs ++ [b9]).length sc') (bs ++ [b9]).length (ptrsV (bs ++ [b9]))) := owns_keep hk6 (fun g hg => heap_setCell_other w10 ⟨pb, 2, none⟩ g _ (by have := (hk6.lt g hg).1; show g ≠ pb; omega))
            have R3 : Hid (QsAt (okv W1 A (.slice so' (bs ++ [b9]).length sc')) (w10.setCell ⟨pb, 2, none⟩ (.slice so' (bs ++ [b9]).length sc')) (bs ++ [b9]) (qs.take (k + 1))) := hk7.turn (fun h => QAt.keep (fun b hb _ => heap_setCell_other w10 ⟨pb, 2, none⟩ b _ (by
              show b ≠ pb
              rcases hb.1 with h | h
              · unfold New at h; omega
              · omega)) h)
            have R4 : Hid (Below w.heap.size w (w10.setCell ⟨pb, 2, none⟩ (.slice so' (bs ++ [b9]).length sc')) ∧ W1.heap.size ≤ (w10.setCell ⟨pb, 2, none⟩ (.slice so' (bs ++ [b9]).length sc')).heap.size) := ⟨(HBw.out.1.trans (hk8.mono (by omega))).setCell (p := ⟨pb, 2, none⟩) (by show w.heap.size ≤ pb; omega) _, by have := hk8.size; have := HBw.out.2; simp; omega⟩
            have R5 : Hid ((bs ++ [b9]).length = k + 1) := by show _ = _; simp; omega
            clear hk1 hk2 hk3 hk4 hk5 hk6 hk7 hk8 hr10 hq9 hb9 hpw
            generalize bs ++ [b9] = bs' at *
            go_wp2_with fail
            have r5 := R5.out
            refine ⟨⟨_, _, _, _, _, _, _, _, _, _, _, _, _, _, _, _, _, _, ?rel, rfl⟩, ?measure⟩
            case rel => exact ⟨k + 1, .slice so' (k + 1) sc', bs', by omega, by go_num, r5, by have h := R4.out.1; rw [r5] at h; exact h, by have h := R4.out.2; rw [r5] at h; exact h, by have h := R1.out; rw [r5] at h; exact h, by have h := R2.out; rw [r5] at h ⊢; exact h, by have h := R3.out; rw [r5] at h; exact h⟩
            case measure => simp [intOf]; omega
          · skip
            go_simp
            refine hK.out _ _ trivial (fun hHeld => ?_)
            clear hK K
            try simp only [Act.put, List.setIfInBounds_toArray, List.set_cons_zero, List.set_cons_succ]
            refine wpAnyH_ready (rs := [4]) (by kernel_rfl) (by simp) ?_
            refine AllReadyH.cons (o := { dst := some 67, op := Op.load 226 (Operand.tmp 66), type := 226, pos := "walk.go:57", after := #[{ on := 3, ground := Ground.data }], guard := none }) rfl (fun K hK => ?_) AllReadyH.nil
            go_simp
            refine hK.out _ _ trivial (fun hHeld => ?_)
            clear hK K
            try simp only [Act.put, List.setIfInBounds_toArray, List.set_cons_zero, List.set_cons_succ]
            refine wpAnyH_ready (rs := [9]) (by kernel_rfl) (by simp) ?_
            refine AllReadyH.cons (o := { dst := some 72, op := Op.call { callee := Callee.builtin Builtin.append, args := #[Operand.tmp 67, Operand.tmp 71], argTypes := #[226, 226] }, type := 226, pos := "walk.go:57", after := #[{ on := 4, ground := Ground.data }, { on := 8, ground := Ground.data }, { on := 7, ground := Ground.chain }], guard := none }) rfl (fun K hK => ?_) AllReadyH.nil
            refine step_append_run rfl (.tmp 67) (.tmp 71) 226 rfl (.slice so sn sc) _ (.slice so' (bs ++ [b9]).length sc') w10 rfl rfl hr10 ?_
            refine hK.out _ _ trivial (fun hHeld => ?_)
            clear hK K
            try simp only [Act.put, List.setIfInBounds_toArray, List.set_cons_zero, List.set_cons_succ]
            refine wpAnyH_take (i := 10) (oi := { dst := some 73, op := Op.nilCheck (Operand.tmp 63), type := 0, pos := "walk.go:57", after := #[{ on := 0, ground := Ground.data }, { on := 0, ground := Ground.phase }, { on := 1, ground := Ground.phase }, { on := 2, ground := Ground.phase }, { on := 3, ground := Ground.phase }, { on := 4, ground := Ground.phase }, { on := 5, ground := Ground.phase }, { on := 6, ground := Ground.phase }, { on := 7, ground := Ground.phase }, { on := 8, ground := Ground.phase }, { on := 9, ground := Ground.phase }], guard := none }) (v := ?_) rfl (by kernel_rfl) (by kernel_rfl) (by kernel_rfl) (fun _ _ _ h => h) (Or.inl ⟨by rfl, ?_⟩) (by assumption) ?_
            rotate_left
            · (intro w hSw; (try dsimp only at hSw); go_simp) <;> try with_reducible rfl
            try simp only [Act.put, List.setIfInBounds_toArray, List.set_cons_zero, List.set_cons_succ]
            refine wpAnyH_take (i := 11) (oi := { dst := some 74, op := Op.fieldAddr 229 (Operand.tmp 73) 2, type := 0, pos := "walk.go:57", after := #[{ on := 10, ground := Ground.data }, { on := 0, ground := Ground.phase }, { on := 1, ground := Ground.phase }, { on := 2, ground := Ground.phase }, { on := 3, ground := Ground.phase }, { on := 4, ground := Ground.phase }, { on := 5, ground := Ground.phase }, { on := 6, ground := Ground.phase }, { on := 7, ground := Ground.phase }, { on := 8, ground := Ground.phase }, { on := 9, ground := Ground.phase }], guard := none }) (v := ?_) rfl (by kernel_rfl) (by kernel_rfl) (by kernel_rfl) (fun _ _ _ h => h) (Or.inl ⟨by rfl, ?_⟩) (by assumption) ?_
            rotate_left
            · (intro w hSw; (try dsimp only at hSw); go_simp) <;> try with_reducible rfl
            try simp only [Act.put, List.setIfInBounds_toArray, List.set_cons_zero, List.set_cons_succ]
            refine wpAnyH_ready (rs := [12]) (by kernel_rfl) (by simp) ?_
            refine AllReadyH.cons (o := { dst := none, op := Op.store 226 (Operand.tmp 74) (Operand.tmp 72), type := 0, pos := "walk.go:57", after := #[{ on := 11, ground := Ground.data }, { on := 9, ground := Ground.data }, { on := 9, ground := Ground.chain }, { on := 0, ground := Ground.phase }, { on := 1, ground := Ground.phase }, { on := 2, ground := Ground.phase }, { on := 3, ground := Ground.phase }, { on := 4, ground := Ground.phase }, { on := 5, ground := Ground.phase }, { on := 6, ground := Ground.phase }, { on := 7, ground := Ground.phase }, { on := 8, ground := Ground.phase }, { on := 9, ground := Ground.phase }], guard := none }) rfl (fun K hK => ?_) AllReadyH.nil
            go_simp
            refine hK.out _ _ trivial (fun hHeld => ?_)
            clear hK K
            try simp only [Act.put, List.setIfInBounds_toArray, List.set_cons_zero, List.set_cons_succ]
            refine wpAnyH_done (by kernel_rfl) ?_ _
            refine NoPanic.normal ?_
            have hpw := HPB.out
            have R1 : Hid ((w10.setCell ⟨pb, 2, none⟩ (.slice so' (bs ++ [b9]).length sc')).heap[pb]? = some (.cells #[.int .i64 _, .slice none 0 0, .slice so' (bs ++ [b9]).length sc', .int .i64 lo, .int .i64 hi, .int .i64 0, .slice none 0 0] 229 (0, 0))) := heap_setCell_same w10 pb 2 _ 229 _ (hk1.trans HPw.out)
            have R2 : Hid ((w10.setCell ⟨pb, 2, none⟩ (.slice so' (bs ++ [b9]).length sc')).ownsRow W1.heap.size 157 1 (.slice so' (bs ++ [b9]).length sc') (bs ++ [b9]).length (ptrsV (bs ++ [b9]))) := owns_keep hk6 (fun g hg => heap_setCell_other w10 ⟨pb, 2, none⟩ g _ (by have := (hk6.lt g hg).1; show g ≠ pb; omega))
            have R3 : Hid (QsAt (okv W1 A (.slice so' (bs ++ [b9]).length sc')) (w10.setCell ⟨pb, 2, none⟩ (.slice so' (bs ++ [b9]).length sc')) (bs ++ [b9]) (qs.take (k + 1))) := hk7.turn (fun h => QAt.keep (fun b hb _ => heap_setCell_other w10 ⟨pb, 2, none⟩ b _ (by
              show b ≠ pb
              rcases hb.1 with h | h
              · unfold New at h; omega
              · omega)) h)
            have R4 : Hid (Below w.heap.size w (w10.setCell ⟨pb, 2, none⟩ (.slice so' (bs ++ [b9]).length sc')) ∧ W1.heap.size ≤ (w10.setCell ⟨pb, 2, none⟩ (.slice so' (bs ++ [b9]).length sc')).heap.size) := ⟨(HBw.out.1.trans (hk8.mono (by omega))).setCell (p := ⟨pb, 2, none⟩) (by show w.heap.size ≤ pb; omega) _, by have := hk8.size; have := HBw.out.2; simp; omega⟩
            have R5 : Hid ((bs ++ [b9]).length = k + 1) := by show _ = _; simp; omega
            clear hk1 hk2 hk3 hk4 hk5 hk6 hk7 hk8 hr10 hq9 hb9 hpw
            generalize bs ++ [b9] = bs' at *
            go_wp2_with fail
            have r5 := R5.out
            refine ⟨⟨_, _, _, _, _, _, _, _, _, _, _, _, _, _, _, _, _, _, ?rel, rfl⟩, ?measure⟩
            case rel => exact ⟨k + 1, .slice so' (k + 1) sc', bs', by omega, by go_num, r5, by have h := R4.out.1; rw [r5] at h; exact h, by have h := R4.out.2; rw [r5] at h; exact h, by have h := R1.out; rw [r5] at h; exact h, by have h := R2.out; rw [r5] at h ⊢; exact h, by have h := R3.out; rw [r5] at h; exact h⟩
            case measure => simp [intOf]; omega
      · obtain rfl : n = k := by omega
        have hqn : qs.take n = qs := by rw [List.take_of_length_le]; rw [HM.out.len, ← HN.out]; exact Nat.le_refl _
        rw [hqn] at hq
        have d3 : wr.cell? ⟨wb, 3, none⟩ = some (.bool S.ends) := by
          obtain ⟨_, _, _, _, _, _, _, h, _⟩ := HWK.out.below hb
          exact cell_of_row wr wb 3 _ _ _ h
        have cp2 : wr.cell? ⟨pb, 2, none⟩ = some v := cell_of_row wr pb 2 _ _ _ hp
        have hwW : w.heap.size ≤ W1.heap.size := HB1.out.size
        have HBw : Hid (Below w.heap.size w wr ∧ W1.heap.size ≤ wr.heap.size) := ⟨hb, hsz⟩
        have HPw : Hid (wr.heap[pb]? = _) := hp
        have HO : Hid (wr.ownsRow W1.heap.size 157 1 v bs.length (ptrsV bs) ∧ QsAt (okv W1 A v) wr bs qs) := ⟨ho, hq⟩
        have C := reverse_ptrs W1.heap.size v bs wr ho (by omega) hsz
        obtain ⟨so, sc, rfl⟩ := own_slice ho
        obtain ⟨sn, hsn⟩ : ∃ x, x = bs.length := ⟨_, rfl⟩
        rw [← hsn] at C cp2
        have HSN : Hid (sn = bs.length) := hsn
        have HPS : Hid (∀ (q : Bool), q = S.ends → True) := fun _ _ => trivial
        clear hq ho hp hb hsz hqn hsn HPS
        cases hends : S.ends with
        | true =>
          rw [hends] at d3
          clear C
          go_wp2_with fail
          go_ret
          obtain ⟨k1, k2⟩ := row_end hwW HO.out.1 HO.out.2
          exact ⟨pb, _, bs, rfl, by have := HPB.out; omega, HPw.out, k1, by rw [hends]; exact k2, HBw.out.1⟩
        | false =>
          rw [hends] at d3
          go_wp2_with fail
          refine C.mono ?_
          rintro e w2 ⟨rfl, ho2, hb2, hsz2, hoth⟩
          have HP2 : Hid (w2.heap[pb]? = _) := (hb2.block pb (by omega)).trans HPw.out
          have HB2 : Hid (Below w.heap.size w w2) := HBw.out.1.trans (hb2.mono hwW)
          have HK : Hid (Row (okA w A) w2 157 1 (.slice so sn sc) bs.reverse.length (ptrsV bs.reverse) ∧ QsAt (okA w A) w2 bs.reverse qs.reverse) := by
            have hq2 : QsAt (okv W1 A (.slice so sn sc)) w2 bs qs := by
              rw [HSN.out]
              exact HO.out.2.turn fun h => QAt.keep (fun b hb _ => hoth b (by have := hb.2; rwa [← HSN.out] at this)) h
            have hl2 : bs.reverse.length = sn := by rw [List.length_reverse]; exact HSN.out.symm
            exact row_end (bs := bs.reverse) (qs := qs.reverse) (v := .slice so sn sc) hwW (by rw [hl2]; exact ho2) hq2.reverse
          clear C ho2 hb2 hoth
          go_wp2_with fail
          go_ret
          exact ⟨pb, .slice so sn sc, bs.reverse, rfl, by have := HPB.out; omega, by have h := HP2.out; rw [← HSN.out] at h; exact h, HK.out.1, by rw [hends]; exact HK.out.2, HB2.out⟩

end Go.Proofs.YtjbdlihlcoldlaaGreatDoor.M

namespace Go.Proofs.YtjbdlihlcoldlaaGreatDoor.M
open Go.RowKit Go.Shelf Go.Proofs.YtjbdlihlcoldlaaGreatDoor.Q

set_option maxHeartbeats 4000000 in
set_option maxRecDepth 100000 in
theorem one_ready (S : Wk) (T : CK.Tab) (pts : List Int) (A wb xb : Nat) (kb : Nat) (k : RP.K) (hf : CK.Fit k) (w : World) (hW : WkIn S T pts w wb)
    (hb : w.heap[xb]? = some (.cells #[.int .i64 1, .pointer (some ⟨kb, 0, none⟩), .slice none 0 0, .int .i64 0, .int .i64 0] 39))
    (hk : KAt (fun _ => True) w (.pointer (some ⟨kb, 0, none⟩)) k) :
    Calls Tryz.prog 82 #[.pointer (some ⟨wb, 0, none⟩), .pointer (some ⟨xb, 0, none⟩)] w (RdySay w A (.over (unitsQ T pts S.n k))) := by
  have c0 := loc_cell (k := 0) hb rfl
  have c3 := loc_cell (k := 3) hb rfl
  have c4 := loc_cell (k := 4) hb rfl
  have hxl := lt_of_block hb
  have h8 : 8 ≤ w.heap.size := by
    obtain ⟨h1, _, _, _, _, _, _, h2, _⟩ := hW
    have := lt_of_block h2
    omega
  have HWK : Hid (WkIn S T pts w wb) := hW
  have HKA : Hid (KAt (fun _ => True) w (.pointer (some ⟨kb, 0, none⟩)) k) := hk
  clear hk
  have HX : Hid (w.heap[xb]? = some (.cells #[.int .i64 1, .pointer (some ⟨kb, 0, none⟩), .slice none 0 0, .int .i64 0, .int .i64 0] 39)) := hb
  have hS : w.drew.cell? ⟨xb, 0, none⟩ = some (.int .i64 1) ∧ w.drew.cell? ⟨xb, 3, none⟩ = some (.int .i64 0) ∧ w.drew.cell? ⟨xb, 4, none⟩ = some (.int .i64 0) := ⟨c0, c3, c4⟩
  clear hb hW c0 c3 c4
  go_enter Tryz.func82, Tryz.ntmps82
  go_wp2_with fail
  go_region_held3 (fun W => W.cell? ⟨xb, 0, none⟩ = some (.int .i64 1) ∧ W.cell? ⟨xb, 3, none⟩ = some (.int .i64 0) ∧ W.cell? ⟨xb, 4, none⟩ = some (.int .i64 0)) (first | assumption | exact ⟨cell_alloc_old' hS.1, cell_alloc_old' hS.2.1, cell_alloc_old' hS.2.2⟩) ((fail))
  have hb1 : Below w.heap.size w (w.alloc (.cells #[.int .i64 1, .slice none 0 0, .slice none 0 0, .int .i64 0, .int .i64 0, .int .i64 0, .slice none 0 0] 229)).drew := ((Below.refl _ w).alloc (Nat.le_refl _) _).drew
  have hp1 : (w.alloc (.cells #[.int .i64 1, .slice none 0 0, .slice none 0 0, .int .i64 0, .int .i64 0, .int .i64 0, .slice none 0 0] 229)).drew.heap[w.heap.size]? = some (.cells #[.int .i64 1, .slice none 0 0, .slice none 0 0, .int .i64 0, .int .i64 0, .int .i64 0, .slice none 0 0] 229 (0, 0)) := heap_alloc_new w _
  have hs1 : (w.alloc (.cells #[.int .i64 1, .slice none 0 0, .slice none 0 0, .int .i64 0, .int .i64 0, .int .i64 0, .slice none 0 0] 229)).drew.heap.size = w.heap.size + 1 := by simp
  clear hS
  generalize (w.alloc (.cells #[.int .i64 1, .slice none 0 0, .slice none 0 0, .int .i64 0, .int .i64 0, .int .i64 0, .slice none 0 0] 229)).drew = W1 at hb1 hp1 hs1 ⊢
  have hx1 := (hb1.block xb hxl).trans HX.out
  have c0 := loc_cell (k := 0) hx1 rfl
  have c1 := loc_cell (k := 1) hx1 rfl
  have HP1 : Hid (W1.heap[w.heap.size]? = _) := hp1
  have HB1 : Hid (Below w.heap.size w W1) := hb1
  obtain ⟨pb, hpb⟩ : ∃ x, x = w.heap.size := ⟨_, rfl⟩
  rw [← hpb] at HP1 hs1 ⊢
  have HPB : Hid (pb = w.heap.size) := hpb
  have K := unitsOf_any S T pts wb k _ W1 (HWK.out.below hb1) hf (HKA.out.keep (keepsB hb1))
  clear hx1 hp1 hb1 hpb
  go_wp2_with fail
  refine K.mono ?_
  rintro e w2 ⟨⟨ub, rfl, hul, hul2, huc, huq⟩, hb2⟩
  have hp2 := (hb2.block pb (by omega)).trans HP1.out
  have cp1 := cell_of_row w2 pb 1 _ _ _ hp2
  have fp1 := frozen_of_row w2 pb 1 _ _ hp2
  have HR : Hid (RdySay w A (.over (unitsQ T pts S.n k)) (.returned (.pointer (some ⟨pb, 0, none⟩))) (w2.setCell ⟨pb, 1, none⟩ (.slice (some ⟨ub, 0, none⟩) 1 1))) := by
    have hp := HPB.out
    refine ⟨pb, rfl, ⟨pb, ub, 1, rfl, .inl (by unfold New; omega), by omega, heap_setCell_same w2 pb 1 _ 229 _ hp2, .inl rfl, .inl (by unfold New; omega), ?_, huq⟩, ?_⟩
    · exact (World.cell?_of_block (w := w2) (a := ⟨ub, 0, none⟩) (heap_setCell_other w2 ⟨pb, 1, none⟩ ub _ (by show ub ≠ pb; omega))).trans huc
    · exact (HB1.out.trans (hb2.mono HB1.out.size)).setCell (p := ⟨pb, 1, none⟩) (by show w.heap.size ≤ pb; omega) _
  clear K hb2 huc hp2
  go_wp2_with fail
  go_ret
  exact HR.out

set_option maxHeartbeats 4000000 in
set_option maxRecDepth 100000 in
theorem any_ready (S : Wk) (T : CK.Tab) (pts : List Int) (A wb xb : Nat) (w : World) (hW : WkIn S T pts w wb)
    (hb : w.heap[xb]? = some (.cells #[.int .i64 2, .pointer none, .slice none 0 0, .int .i64 0, .int .i64 0] 39))
    (hA : w.cell? ⟨wb, 4, none⟩ = some (.slice (some ⟨A, 0, none⟩) 1 1)) :
    Calls Tryz.prog 82 #[.pointer (some ⟨wb, 0, none⟩), .pointer (some ⟨xb, 0, none⟩)] w (RdySay w A (.over (mask (fun i => decide (i < pts.length)) S.n))) := by
  have c0 := loc_cell (k := 0) hb rfl
  have c3 := loc_cell (k := 3) hb rfl
  have c4 := loc_cell (k := 4) hb rfl
  have hxl := lt_of_block hb
  have h8 : 8 ≤ w.heap.size := by
    obtain ⟨h1, _, _, _, _, _, _, h2, _⟩ := hW
    have := lt_of_block h2
    omega
  have HWK : Hid (WkIn S T pts w wb) := hW
  have HPL : Hid (w.cell? ⟨A, 0, none⟩ = some (.int .u64 (mask (fun i => decide (i < pts.length)) S.n : Nat)) ∧ mask (fun i => decide (i < pts.length)) S.n < 18446744073709551616) := by
    obtain ⟨_, _, _, uv, mv, av, ev', h4, _, _, h7, _⟩ := hW
    have e := cell_of_row w wb 4 _ _ _ h4
    rw [hA] at e
    obtain ⟨b, rfl, _, h⟩ := h7
    cases e
    exact h
  have HA0 : Hid (w.cell? ⟨wb, 4, none⟩ = some (.slice (some ⟨A, 0, none⟩) 1 1)) := hA
  clear hA
  have HX : Hid (w.heap[xb]? = some (.cells #[.int .i64 2, .pointer none, .slice none 0 0, .int .i64 0, .int .i64 0] 39)) := hb
  have hS : w.drew.cell? ⟨xb, 0, none⟩ = some (.int .i64 2) ∧ w.drew.cell? ⟨xb, 3, none⟩ = some (.int .i64 0) ∧ w.drew.cell? ⟨xb, 4, none⟩ = some (.int .i64 0) := ⟨c0, c3, c4⟩
  clear hb hW c0 c3 c4
  go_enter Tryz.func82, Tryz.ntmps82
  go_wp2_with fail
  go_region_held3 (fun W => W.cell? ⟨xb, 0, none⟩ = some (.int .i64 2) ∧ W.cell? ⟨xb, 3, none⟩ = some (.int .i64 0) ∧ W.cell? ⟨xb, 4, none⟩ = some (.int .i64 0)) (first | assumption | exact ⟨cell_alloc_old' hS.1, cell_alloc_old' hS.2.1, cell_alloc_old' hS.2.2⟩) ((fail))
  have hb1 : Below w.heap.size w (w.alloc (.cells #[.int .i64 2, .slice none 0 0, .slice none 0 0, .int .i64 0, .int .i64 0, .int .i64 0, .slice none 0 0] 229)).drew := ((Below.refl _ w).alloc (Nat.le_refl _) _).drew
  have hp1 : (w.alloc (.cells #[.int .i64 2, .slice none 0 0, .slice none 0 0, .int .i64 0, .int .i64 0, .int .i64 0, .slice none 0 0] 229)).drew.heap[w.heap.size]? = some (.cells #[.int .i64 2, .slice none 0 0, .slice none 0 0, .int .i64 0, .int .i64 0, .int .i64 0, .slice none 0 0] 229 (0, 0)) := heap_alloc_new w _
  have hs1 : (w.alloc (.cells #[.int .i64 2, .slice none 0 0, .slice none 0 0, .int .i64 0, .int .i64 0, .int .i64 0, .slice none 0 0] 229)).drew.heap.size = w.heap.size + 1 := by simp
  clear hS
  generalize (w.alloc (.cells #[.int .i64 2, .slice none 0 0, .slice none 0 0, .int .i64 0, .int .i64 0, .int .i64 0, .slice none 0 0] 229)).drew = W1 at hb1 hp1 hs1 ⊢
  have hx1 := (hb1.block xb hxl).trans HX.out
  have c0 := loc_cell (k := 0) hx1 rfl
  have c1 := loc_cell (k := 1) hx1 rfl
  have HP1 : Hid (W1.heap[w.heap.size]? = _) := hp1
  have HB1 : Hid (Below w.heap.size w W1) := hb1
  obtain ⟨pb, hpb⟩ : ∃ x, x = w.heap.size := ⟨_, rfl⟩
  rw [← hpb] at HP1 hs1 ⊢
  have HPB : Hid (pb = w.heap.size) := hpb
  have d4 : W1.cell? ⟨wb, 4, none⟩ = some (.slice (some ⟨A, 0, none⟩) 1 1) := cell_below HA0.out hb1
  clear hx1 hp1 hb1 hpb
  have cp1 := cell_of_row W1 pb 1 _ _ _ HP1.out
  have fp1 := frozen_of_row W1 pb 1 _ _ HP1.out
  have HR : Hid (RdySay w A (.over (mask (fun i => decide (i < pts.length)) S.n)) (.returned (.pointer (some ⟨pb, 0, none⟩))) (W1.setCell ⟨pb, 1, none⟩ (.slice (some ⟨A, 0, none⟩) 1 1))) := by
    have hp := HPB.out
    have hl := cell_lt HPL.out.1
    refine ⟨pb, rfl, ⟨pb, A, 2, rfl, .inl (by unfold New; omega), by omega, heap_setCell_same W1 pb 1 _ 229 _ HP1.out, .inr rfl, .inr rfl, ?_, HPL.out.2⟩, ?_⟩
    · exact ((World.cell?_of_block (w := W1) (a := ⟨A, 0, none⟩) (heap_setCell_other W1 ⟨pb, 1, none⟩ A _ (by show A ≠ pb; exact Nat.ne_of_lt (by rw [hp]; exact hl)))).trans (cell_below HPL.out.1 HB1.out))
    · exact HB1.out.setCell (p := ⟨pb, 1, none⟩) (by show w.heap.size ≤ pb; omega) _
  go_wp2_with fail
  go_ret
  exact HR.out

set_option maxHeartbeats 4000000 in
set_option maxRecDepth 100000 in
theorem edge_ready (S : Wk) (T : CK.Tab) (pts : List Int) (A wb xb : Nat) (w : World) (hW : WkIn S T pts w wb)
    (hb : w.heap[xb]? = some (.cells #[.int .i64 3, .pointer none, .slice none 0 0, .int .i64 0, .int .i64 0] 39)) :
    Calls Tryz.prog 82 #[.pointer (some ⟨wb, 0, none⟩), .pointer (some ⟨xb, 0, none⟩)] w (RdySay w A .edge) := by
  have c0 := loc_cell (k := 0) hb rfl
  have c3 := loc_cell (k := 3) hb rfl
  have c4 := loc_cell (k := 4) hb rfl
  have hxl := lt_of_block hb
  have h8 : 8 ≤ w.heap.size := by
    obtain ⟨h1, _, _, _, _, _, _, h2, _⟩ := hW
    have := lt_of_block h2
    omega
  have HWK : Hid (WkIn S T pts w wb) := hW
  have HX : Hid (w.heap[xb]? = some (.cells #[.int .i64 3, .pointer none, .slice none 0 0, .int .i64 0, .int .i64 0] 39)) := hb
  have hS : w.drew.cell? ⟨xb, 0, none⟩ = some (.int .i64 3) ∧ w.drew.cell? ⟨xb, 3, none⟩ = some (.int .i64 0) ∧ w.drew.cell? ⟨xb, 4, none⟩ = some (.int .i64 0) := ⟨c0, c3, c4⟩
  clear hb hW c0 c3 c4
  go_enter Tryz.func82, Tryz.ntmps82
  go_wp2_with fail
  go_region_held3 (fun W => W.cell? ⟨xb, 0, none⟩ = some (.int .i64 3) ∧ W.cell? ⟨xb, 3, none⟩ = some (.int .i64 0) ∧ W.cell? ⟨xb, 4, none⟩ = some (.int .i64 0)) (first | assumption | exact ⟨cell_alloc_old' hS.1, cell_alloc_old' hS.2.1, cell_alloc_old' hS.2.2⟩) ((fail))
  have hb1 : Below w.heap.size w (w.alloc (.cells #[.int .i64 3, .slice none 0 0, .slice none 0 0, .int .i64 0, .int .i64 0, .int .i64 0, .slice none 0 0] 229)).drew := ((Below.refl _ w).alloc (Nat.le_refl _) _).drew
  have hp1 : (w.alloc (.cells #[.int .i64 3, .slice none 0 0, .slice none 0 0, .int .i64 0, .int .i64 0, .int .i64 0, .slice none 0 0] 229)).drew.heap[w.heap.size]? = some (.cells #[.int .i64 3, .slice none 0 0, .slice none 0 0, .int .i64 0, .int .i64 0, .int .i64 0, .slice none 0 0] 229 (0, 0)) := heap_alloc_new w _
  have hs1 : (w.alloc (.cells #[.int .i64 3, .slice none 0 0, .slice none 0 0, .int .i64 0, .int .i64 0, .int .i64 0, .slice none 0 0] 229)).drew.heap.size = w.heap.size + 1 := by simp
  clear hS
  generalize (w.alloc (.cells #[.int .i64 3, .slice none 0 0, .slice none 0 0, .int .i64 0, .int .i64 0, .int .i64 0, .slice none 0 0] 229)).drew = W1 at hb1 hp1 hs1 ⊢
  have hx1 := (hb1.block xb hxl).trans HX.out
  have c0 := loc_cell (k := 0) hx1 rfl
  have c1 := loc_cell (k := 1) hx1 rfl
  have HP1 : Hid (W1.heap[w.heap.size]? = _) := hp1
  have HB1 : Hid (Below w.heap.size w W1) := hb1
  obtain ⟨pb, hpb⟩ : ∃ x, x = w.heap.size := ⟨_, rfl⟩
  rw [← hpb] at HP1 hs1 ⊢
  have HPB : Hid (pb = w.heap.size) := hpb
  clear hx1 hp1 hb1 hpb
  have HR : Hid (RdySay w A .edge (.returned (.pointer (some ⟨pb, 0, none⟩))) W1) := by
    have hp := HPB.out
    exact ⟨pb, rfl, ⟨pb, rfl, .inl (by unfold New; omega), by omega, HP1.out⟩, HB1.out⟩
  go_wp2_with fail
  go_ret
  exact HR.out

end Go.Proofs.YtjbdlihlcoldlaaGreatDoor.M

namespace Go.Proofs.YtjbdlihlcoldlaaGreatDoor.M
open Go.RowKit Go.Shelf Go.Proofs.YtjbdlihlcoldlaaGreatDoor.Q

/-- No row of parts is long. -/
def ShortP : RP.Pt → Prop
  | .cat ps => (items ps).length ≤ 1000000 ∧ ShortP ps
  | .alt ps => (items ps).length ≤ 1000000 ∧ ShortP ps
  | .many p _ _ => ShortP p
  | .cons p ps => ShortP p ∧ ShortP ps
  | _ => True

/-- Where a walk's places of all units lie. -/
def AllAt (w : World) (wb A : Nat) : Prop := w.cell? ⟨wb, 4, none⟩ = some (.slice (some ⟨A, 0, none⟩) 1 1)

theorem AllAt.below {w W : World} {wb A : Nat} (h : AllAt w wb A) (hb : Below w.heap.size w W) : AllAt W wb A := cell_below h hb

theorem AllAt.lt {S : Wk} {T : CK.Tab} {pts : List Int} {w : World} {wb A : Nat} (h : AllAt w wb A) (hW : WkIn S T pts w wb) : A < w.heap.size := by
  obtain ⟨_, _, _, uv, mv, av, ev', h4, _, _, h7, _⟩ := hW
  have e := cell_of_row w wb 4 _ _ _ h4
  unfold AllAt at h
  rw [h] at e
  obtain ⟨b, rfl, hb, _⟩ := h7
  cases e
  exact hb

theorem ptrsV_len (bs : List Nat) : (ptrsV bs).length = bs.length := by simp [ptrsV]

theorem say_cat {S : Wk} {w : World} {A : Nat} {qs : List MN.Q} (h8 : 8 ≤ w.heap.size) {e : Ending} {w' : World} (h : PartSay S w A 4 0 0 qs e w') : RdySay w A (.cat (rowOf (if S.ends then qs else qs.reverse))) e w' := by
  obtain ⟨b, sv, bs, rfl, h1, h2, h3, h4, h5⟩ := h
  obtain ⟨k1, k2⟩ := h4.row
  exact ⟨b, rfl, ⟨b, sv, ptrsV bs, rfl, .inl h1, by omega, h2, by rw [ptrsV_len]; exact h3, k1, k2⟩, h5⟩

theorem say_alt {S : Wk} {w : World} {A : Nat} {qs : List MN.Q} (h8 : 8 ≤ w.heap.size) {e : Ending} {w' : World} (h : PartSay S w A 5 0 0 qs e w') : RdySay w A (.alt (rowOf (if S.ends then qs else qs.reverse))) e w' := by
  obtain ⟨b, sv, bs, rfl, h1, h2, h3, h4, h5⟩ := h
  obtain ⟨k1, k2⟩ := h4.row
  exact ⟨b, rfl, ⟨b, sv, ptrsV bs, rfl, .inl h1, by omega, h2, by rw [ptrsV_len]; exact h3, k1, k2⟩, h5⟩

theorem say_many {S : Wk} {w : World} {A : Nat} {lo hi : Int} {q : MN.Q} (h8 : 8 ≤ w.heap.size) (hl : 0 ≤ lo) (hl2 : lo ≤ 12) (hh : -1 ≤ hi) (hh2 : hi ≤ 12) {e : Ending} {w' : World} (h : PartSay S w A 6 lo hi [q] e w') : RdySay w A (.many (rowOf [q]) lo.toNat hi) e w' := by
  obtain ⟨b, sv, bs, rfl, h1, h2, h3, h4, h5⟩ := h
  rw [show (if S.ends then [q] else [q].reverse) = [q] by split <;> rfl] at h4
  obtain ⟨k1, k2⟩ := h4.row
  exact ⟨b, rfl, ⟨b, sv, ptrsV bs, rfl, .inl h1, by omega, by rw [show ((lo.toNat : Nat) : Int) = lo by omega]; exact h2, by rw [ptrsV_len]; exact h3, k1, k2, by omega, by omega, by omega⟩, h5⟩

noncomputable def rdyS (S : Wk) (T : CK.Tab) (pts : List Int) (p : RP.Pt) : MN.Q × List MN.Q :=
  rdy S.ends (unitsQ T pts S.n) (mask (fun i => decide (i < pts.length)) S.n) p

theorem WkIn.eight {S : Wk} {T : CK.Tab} {pts : List Int} {w : World} {wb : Nat} (hW : WkIn S T pts w wb) : 8 ≤ w.heap.size := by
  obtain ⟨h1, _, _, _, _, _, _, h2, _⟩ := hW
  have := lt_of_block h2
  omega

theorem one_ptr {ok : Nat → Prop} {w : World} {vs : List Value} {p : RP.Pt} (hf : CK.FitP p false) (h : PAt ok w vs p) : ∃ b, vs = [.pointer (some ⟨b, 0, none⟩)] := by
  cases p with
  | nil => cases hf
  | cons p ps => cases hf.1
  | one k => obtain ⟨b', _, e, _⟩ := h; exact ⟨_, e⟩
  | any => obtain ⟨b', e, _⟩ := h; exact ⟨_, e⟩
  | edge => obtain ⟨b', e, _⟩ := h; exact ⟨_, e⟩
  | cat ps => obtain ⟨b', _, _, e, _⟩ := h; exact ⟨_, e⟩
  | alt ps => obtain ⟨b', _, _, e, _⟩ := h; exact ⟨_, e⟩
  | many p l h => obtain ⟨b', _, _, e, _⟩ := h; exact ⟨_, e⟩

/-- A pattern is made ready, and a row of them. -/
theorem ready_all (S : Wk) (T : CK.Tab) (pts : List Int) (A wb : Nat) : ∀ p : RP.Pt,
    (∀ (b : Nat) (w : World), PAt (fun _ => True) w [.pointer (some ⟨b, 0, none⟩)] p → CK.FitP p false → ShortP p → WkIn S T pts w wb → AllAt w wb A →
      Calls Tryz.prog 82 #[.pointer (some ⟨wb, 0, none⟩), .pointer (some ⟨b, 0, none⟩)] w (RdySay w A (rdyS S T pts p).1)) ∧
    (∀ (vs : List Value) (w : World), PAt (fun _ => True) w vs p → CK.FitP p true → ShortP p → WkIn S T pts w wb → AllAt w wb A → RowR A w wb vs (rdyS S T pts p).2 ∧ vs.length = (items p).length) := by
  intro p
  induction p with
  | one k =>
    refine ⟨fun b w hp hf _ hW _ => ?_, fun vs w _ hf => by cases hf.1⟩
    obtain ⟨b', kv, e, _, h2, h3⟩ := hp
    cases e
    obtain ⟨kb, rfl⟩ := h3.ptr
    exact one_ready S T pts A wb b kb k hf.2 w hW h2 h3
  | any =>
    refine ⟨fun b w hp hf _ hW hA => ?_, fun vs w _ hf => by cases hf⟩
    obtain ⟨b', e, _, h2⟩ := hp
    cases e
    exact any_ready S T pts A wb b w hW h2 hA
  | edge =>
    refine ⟨fun b w hp hf _ hW hA => ?_, fun vs w _ hf => by cases hf⟩
    obtain ⟨b', e, _, h2⟩ := hp
    cases e
    exact edge_ready S T pts A wb b w hW h2
  | cat ps ih =>
    refine ⟨fun b w hp hf hs hW hA => ?_, fun vs w _ hf => by cases hf.1⟩
    obtain ⟨b', sv, ws, e, _, h2, h3, h4⟩ := hp
    cases e
    obtain ⟨k1, k2⟩ := ih.2 ws w h4 hf.2 hs.2 hW hA
    exact (parts_ready S T pts A wb b 4 0 0 sv ws _ w (.inl rfl) hW h2 h3 k1 (hA.lt hW) (by rw [k2]; exact hs.1)).mono fun _ _ h => say_cat hW.eight h
  | alt ps ih =>
    refine ⟨fun b w hp hf hs hW hA => ?_, fun vs w _ hf => by cases hf.1⟩
    obtain ⟨b', sv, ws, e, _, h2, h3, h4⟩ := hp
    cases e
    obtain ⟨k1, k2⟩ := ih.2 ws w h4 hf.2 hs.2 hW hA
    exact (parts_ready S T pts A wb b 5 0 0 sv ws _ w (.inr (.inl rfl)) hW h2 h3 k1 (hA.lt hW) (by rw [k2]; exact hs.1)).mono fun _ _ h => say_alt hW.eight h
  | many p lo hi ih =>
    refine ⟨fun b w hp hf hs hW hA => ?_, fun vs w _ hf => by cases hf.1⟩
    obtain ⟨b', sv, ws, e, _, h2, h3, h4⟩ := hp
    cases e
    obtain ⟨_, hf2, f1, f2, f3, f4⟩ := hf
    obtain ⟨b2, rfl⟩ := one_ptr hf2 h4
    have hr : RowR A w wb [.pointer (some ⟨b2, 0, none⟩)] [(rdyS S T pts p).1] :=
      ⟨b2, rfl, fun W hb => ih.1 b2 W (h4.keep (keepsB hb)) hf2 hs (hW.below hb) (hA.below hb), rdy_node _ _ _ hf2, trivial⟩
    exact (parts_ready S T pts A wb b 6 lo hi sv _ _ w (.inr (.inr rfl)) hW h2 h3 hr (hA.lt hW) (by simp)).mono fun _ _ h => say_many hW.eight f1 f2 f3 f4 h
  | nil =>
    refine ⟨fun b w _ hf => (by cases hf), fun vs w hp _ _ _ _ => ?_⟩
    cases hp
    exact ⟨trivial, rfl⟩
  | cons p ps ih1 ih2 =>
    refine ⟨fun b w _ hf => (by cases hf.1), fun vs w hp hf hs hW hA => ?_⟩
    obtain ⟨v, us, rfl, h1, h2⟩ := hp
    obtain ⟨_, hf1, hf2⟩ := hf
    obtain ⟨b2, e⟩ := one_ptr hf1 h1
    cases e
    obtain ⟨k1, k2⟩ := ih2.2 us w h2 hf2 hs.2 hW hA
    exact ⟨⟨b2, rfl, fun W hb => ih1.1 b2 W (h1.keep (keepsB hb)) hf1 hs.1 (hW.below hb) (hA.below hb), rdy_node _ _ _ hf1, k1⟩, by simp [items, k2]⟩

end Go.Proofs.YtjbdlihlcoldlaaGreatDoor.M

namespace Go.Proofs.YtjbdlihlcoldlaaGreatDoor.M
open Go.RowKit Go.Shelf Go.Proofs.YtjbdlihlcoldlaaGreatDoor.Q

open Classical in
/-- Of each block, the path that lies there, if it lies in such blocks. -/
noncomputable def ghostK (ok : Nat → Prop) (w : World) : Gh := fun b => if h : ∃ q, NodeK q ∧ QAt ok w [ptrV b] q then some (.path h.choose) else none

theorem ghostK_of {ok : Nat → Prop} {w : World} {b : Nat} {q : MN.Q} (hk : NodeK q) (h : QAt ok w [ptrV b] q) : ghostK ok w b = some (.path q) := by
  have hx : ∃ q, NodeK q ∧ QAt ok w [ptrV b] q := ⟨q, hk, h⟩
  unfold ghostK
  rw [dif_pos hx, QAt.unique (.inl ⟨hx.choose_spec.1, hk⟩) hx.choose_spec.2 h]

theorem ghostK_row {ok : Nat → Prop} {w : World} : ∀ {ps : MN.Q} {ws : List Value}, RowK ps → QAt ok w ws ps → RowOk (ghostK ok w) ws ps := by
  intro ps
  induction ps with
  | nil => exact fun _ h => h
  | cons p ps _ ih =>
    rintro ws hk ⟨b, us, rfl, h1, h2, h3⟩
    exact ⟨b, us, rfl, ghostK_of h3 h1, ih hk.2 h2⟩
  | _ => exact fun h => h.elim

theorem ghostK_inv (S : Wk) (ok : Nat → Prop) (w : World) : Inv S (ghostK ok w) w := by
  intro b t hb
  unfold ghostK at hb
  split at hb
  · rename_i hx
    cases hb
    obtain ⟨hk, hq⟩ := hx.choose_spec
    generalize hx.choose = q at hk hq ⊢
    cases q with
    | over u =>
      obtain ⟨b', ub, code, e, _, h8, h2, h3, _, h5, h6⟩ := hq
      obtain rfl := ptrV_inj (by injection e)
      exact ⟨h8, code, _, _, 0, 0, 0, _, h2, h3, ub, rfl, cell_lt h5, h5, h6⟩
    | edge =>
      obtain ⟨b', e, _, h8, h2⟩ := hq
      obtain rfl := ptrV_inj (by injection e)
      exact ⟨h8, 3, _, _, 0, 0, 0, _, h2, rfl⟩
    | cat ps =>
      obtain ⟨b', sv, ws, e, _, h8, h2, h3, h4, h5⟩ := hq
      obtain rfl := ptrV_inj (by injection e)
      exact ⟨h8, 4, _, _, 0, 0, 0, _, h2, rfl, ws, parts_of_row h3, ghostK_row h5 h4⟩
    | alt ps =>
      obtain ⟨b', sv, ws, e, _, h8, h2, h3, h4, h5⟩ := hq
      obtain rfl := ptrV_inj (by injection e)
      exact ⟨h8, 5, _, _, 0, 0, 0, _, h2, rfl, ws, parts_of_row h3, ghostK_row h5 h4⟩
    | many ps l h =>
      obtain ⟨b', sv, ws, e, _, h8, h2, h3, h4, h5, h6, h7, h9⟩ := hq
      obtain rfl := ptrV_inj (by injection e)
      exact ⟨h8, 6, _, _, (l : Nat), h, 0, _, h2, rfl, rfl, rfl, h6, h7, h9, ⟨by omega, by omega⟩, ⟨ws, parts_of_row h3, ghostK_row h5 h4⟩, .inl rfl⟩
    | nil => exact hk.elim
    | cons p ps => exact hk.elim
    | never => exact hk.elim
  · cases hb

theorem ghostK_ok {ok : Nat → Prop} {w : World} {b : Nat} {t : Ty} (h : ghostK ok w b = some t) : ok b := by
  unfold ghostK at h
  split at h
  · rename_i hx
    obtain ⟨hk, hq⟩ := hx.choose_spec
    generalize hx.choose = q at hk hq
    cases q with
    | over u =>
      obtain ⟨b', ub, code, e, h1, _⟩ := hq
      obtain rfl := ptrV_inj (by injection e)
      exact h1
    | edge =>
      obtain ⟨b', e, h1, _⟩ := hq
      obtain rfl := ptrV_inj (by injection e)
      exact h1
    | cat ps =>
      obtain ⟨b', sv, ws, e, h1, _⟩ := hq
      obtain rfl := ptrV_inj (by injection e)
      exact h1
    | alt ps =>
      obtain ⟨b', sv, ws, e, h1, _⟩ := hq
      obtain rfl := ptrV_inj (by injection e)
      exact h1
    | many ps l h =>
      obtain ⟨b', sv, ws, e, h1, _⟩ := hq
      obtain rfl := ptrV_inj (by injection e)
      exact h1
    | nil => exact hk.elim
    | cons p ps => exact hk.elim
    | never => exact hk.elim
  · cases h

/-- A walk over paths in new blocks leaves the old ones. -/
theorem below_of_ext {S : Wk} {r : Nat} {w0 w w' : World} {G' : Gh} (h : Ext S r w (ghostK (New w0) w) w' G') (hs : w0.heap.size ≤ w.heap.size) : Below w0.heap.size w w' :=
  ⟨h.low.os, h.low.tape, h.low.output, h.low.size, fun k hk => h.kept k (by omega) (by
    cases hg : ghostK (New w0) w k with
    | none => rfl
    | some t => exact absurd (ghostK_ok hg) (by unfold New; omega))⟩

theorem WkIn.walk {S : Wk} {T : CK.Tab} {pts : List Int} {w : World} {wb : Nat} (h : WkIn S T pts w wb) : WalkAt S w wb := by
  obtain ⟨h1, h2, h3, uv, mv, av, ev', h4, _, _, _, h8⟩ := h
  exact ⟨h1, by omega, h3, uv, mv, av, ev', h4, h8⟩

theorem unit_low (ends : Bool) {n u a : Nat} (hu : u < 2 ^ n) (_ha : a < 2 ^ (n + 1)) : (if ends then MN.up (a &&& u) else MN.down a &&& u) < 2 ^ (n + 1) := by
  have hp : 2 ^ (n + 1) = 2 * 2 ^ n := by rw [Nat.pow_succ]; omega
  cases ends with
  | true =>
    show (a &&& u) <<< 1 % 2 ^ 64 < _
    have h1 := Nat.and_le_right (n := a) (m := u)
    have h2 := Nat.mod_le ((a &&& u) <<< 1) (2 ^ 64)
    rw [Nat.shiftLeft_eq] at h2 ⊢
    omega
  | false =>
    have h1 := Nat.and_le_right (n := MN.down a) (m := u)
    show MN.down a &&& u < _
    omega

theorem mask_low (ask : Nat → Bool) (n m : Nat) (h : ∀ i, m ≤ i → i < n → ask i = false) : mask ask n < 2 ^ m := by
  refine Nat.lt_pow_two_of_testBit _ fun i hi => ?_
  rw [mask_bit]
  by_cases hn : i < n
  · rw [h i hi hn]; simp
  · simp [hn]

theorem unitsQ_low (T : CK.Tab) (pts : List Int) (k : RP.K) : unitsQ T pts (pts.length + 1) k < 2 ^ pts.length := by
  unfold unitsQ
  split
  · exact Nat.two_pow_pos _
  · exact mask_low _ _ _ fun i hi _ => by simp; intro h; omega

theorem fine_row (S : Wk) : ∀ l : List MN.Q, (∀ q ∈ l, Fine S q) → Fine S (rowOf l)
  | [], _ => trivial
  | q :: l, h => ⟨h q (by simp), fine_row S l fun x hx => h x (by simp [hx])⟩

/-- What is made ready stays among the places that there are. -/
theorem rdy_fine (S : Wk) (T : CK.Tab) (pts : List Int) (hn : S.n = pts.length + 1) : ∀ p : RP.Pt, Fine S (rdyS S T pts p).1 ∧ ∀ q ∈ (rdyS S T pts p).2, Fine S q := by
  have ho : ∀ u, u < 2 ^ pts.length → Fine S (.over u) := by
    intro u hu a ha
    rw [hn] at ha ⊢
    exact unit_low S.ends hu ha
  have hr : ∀ l : List MN.Q, (∀ q ∈ l, Fine S q) → Fine S (rowOf (if S.ends then l else l.reverse)) := by
    intro l hl
    refine fine_row S _ fun q hq => hl q ?_
    split at hq
    · exact hq
    · exact List.mem_reverse.1 hq
  intro p
  induction p with
  | one k => exact ⟨ho _ (by rw [hn]; exact unitsQ_low T pts k), fun q hq => by cases hq⟩
  | any => exact ⟨ho _ (mask_low _ _ _ fun i hi _ => by simp; omega), fun q hq => by cases hq⟩
  | edge => exact ⟨fun a ha => Nat.lt_of_le_of_lt Nat.and_le_left ha, fun q hq => by cases hq⟩
  | cat ps ih => exact ⟨hr _ ih.2, fun q hq => by cases hq⟩
  | alt ps ih => exact ⟨hr _ ih.2, fun q hq => by cases hq⟩
  | many p lo hi ih => exact ⟨⟨ih.1, trivial⟩, fun q hq => by cases hq⟩
  | nil => exact ⟨trivial, fun q hq => by cases hq⟩
  | cons p ps ih1 ih2 =>
    refine ⟨trivial, fun q hq => ?_⟩
    rcases List.mem_cons.1 hq with rfl | hq
    · exact ih1.1
    · exact ih2.2 q hq

/-- Where a walk that begins everywhere ends. -/
noncomputable def standQ (T : CK.Tab) (pts : List Int) (back : Bool) (p : RP.Pt) : Nat :=
  (MN.ev back (mask (fun i => decide (i = if back then 0 else pts.length)) (pts.length + 1)) (rdy back (unitsQ T pts (pts.length + 1)) (mask (fun i => decide (i < pts.length)) (pts.length + 1)) p).1).1 (mask (fun _ => true) (pts.length + 1))

/-- A path made ready, walked from everywhere. -/
theorem walked (S : Wk) (T : CK.Tab) (pts : List Int) (wb b : Nat) (p : RP.Pt) (w0 w : World) (hW : WkIn S T pts w wb) (hT : TZ64 w) (hs : w0.heap.size ≤ w.heap.size) (hf : CK.FitP p false)
    (hq : QAt (New w0) w [ptrV b] (rdyS S T pts p).1) (v : Value) (hv : Pl w.heap.size w v (mask (fun _ => true) S.n)) :
    Calls Tryz.prog 81 #[.pointer (some ⟨wb, 0, none⟩), .pointer (some ⟨b, 0, none⟩), v] w fun e w' => (∃ v', e = .returned v' ∧ Pl w'.heap.size w' v' ((S.ev (rdyS S T pts p).1).1 (mask (fun _ => true) S.n))) ∧ Below w0.heap.size w w' := by
  have hF := (from_any S (many_any S) _ (rdy_fine S T pts hW.2.1 p).1).1
  refine (hF (ghostK (New w0) w) w wb b v _ (ghostK_inv S _ w) hW.walk hT (ghostK_of (rdy_node _ _ _ hf) hq) hv (mask_low _ _ _ fun i h1 h2 => by omega)).mono ?_
  rintro e w' ⟨v', G', rfl, hx, hp⟩
  exact ⟨⟨v', rfl, hp⟩, below_of_ext hx hs⟩

end Go.Proofs.YtjbdlihlcoldlaaGreatDoor.M
