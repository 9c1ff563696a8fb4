/- Rows of classes and of rules in memory, and how they grow. -/
import Derived.Test.YtjbdlihlcoldlaaGreatDoorG25
import Derived.Test.YtjbdlihlcoldlaaGreatDoorG00
namespace Go.Proofs.YtjbdlihlcoldlaaGreatDoor.Q
open Go.RowKit Go.Shelf

/-- An append of one to an own row, and which block the row lies in then. -/
theorem append_at {P : Program} (w : World) (base : Nat) (t ty e : TypeId) (i : TypeInfo) (z : Value) (size bytes : Nat) (ht : P.underlying t = some (.slice e)) (hi : P.info? e = some i) (hz : i.zero = some z)
    (hsize : i.size = size) (hby : i.bytes = bytes) (hzs : z.cells.size = size) (hsz : 0 < size)
    (v : Value) (n : Nat) (xs : List Value) (hown : w.ownsRow base e size v n xs)
    (a : Addr) (c : Nat) (news : List Value) (hl : news.length = 1 * size) (hnews : ∀ j x, news[j]? = some x → w.cell? (a.add j) = some x) (h1 : ∀ x ∈ news, x.oneCell' = true)
    (h63 : n + 1 ≤ maxLen) (hbytes : (n + 1) * bytes ≤ 140737488355328) (hbase : base ≤ w.heap.size) :
    ∃ v' w', (Builtin.append_ #[t, t] ty #[v, .slice (some a) 1 c]).run P w = .ok v' w' ∧ w'.ownsRow base e size v' (n + 1) (xs ++ news) ∧ w.grownBy w' v.ownBlock ∧ (v'.ownBlock = v.ownBlock ∨ v'.ownBlock = some w.heap.size) := by
  obtain ⟨v', w', hr, h2, h3, _⟩ := run_append_own (P := P) w base t ty e i z size bytes ht hi hz hsize hby hzs hsz v n xs hown a 1 c news hl hnews h1 h63 hbytes hbase
  refine ⟨v', w', hr, h2, h3, ?_⟩
  subst hsize
  have h63' : n + 1 ≤ 9223372036854775807 := by simp only [maxLen] at h63; omega
  rcases hown.2 with ⟨rfl, rfl⟩ | ⟨g, cap, cur, rfl, hbg, hg, hnc, hcm, hcs, htake⟩
  · have hr2 := run_append_nil (P := P) w t ty e i z ht hi hz a 1 c news hl hnews (by omega) (by omega) (by rw [hby]; omega)
    rw [hr2] at hr
    cases hr
    exact .inr rfl
  · by_cases hroom : n + 1 ≤ cap
    · have hr2 := run_append_room (P := P) w t ty e i ht hi g n cap cur hg a 1 c news hl hnews h1 hroom (by rw [hl, hcs, ← Nat.add_mul]; exact Nat.mul_le_mul_right _ hroom)
      rw [hr2] at hr
      cases hr
      exact .inl rfl
    · have hr2 := run_append_grow (P := P) w t ty e i z ht hi hz ⟨g, 0, none⟩ n cap xs hown.1 (hown.cells (g := g) rfl) a 1 c news hl hnews (by omega) (by omega) (growslice_fits (by omega) (by rw [hby]; exact hbytes))
      rw [hr2] at hr
      cases hr
      exact .inr rfl

/-- These cells hold these classes. -/
def CsAt (ok : Nat → Prop) (w : World) : List Value → List RP.Cl → Prop
  | vs, [] => vs = []
  | vs, x :: xs => ∃ kv us, vs = .string ⟨x.name.toArray⟩ :: .int .i64 x.at_ :: kv :: us ∧ KAt ok w kv x.kind ∧ CsAt ok w us xs

/-- These cells hold these rules. -/
def RsAt (ok : Nat → Prop) (w : World) : List Value → List RP.Ru → Prop
  | vs, [] => vs = []
  | vs, x :: xs => ∃ bv av us, vs = .int .i64 x.at_ :: .bool x.brk :: bv :: av :: us ∧ IsPtr bv ∧ PAt ok w [bv] x.before ∧ IsPtr av ∧ PAt ok w [av] x.after ∧ RsAt ok w us xs

theorem CsAt.turn {ok ok' : Nat → Prop} {w w' : World} (hK : ∀ {k : RP.K} {v : Value}, KAt ok w v k → KAt ok' w' v k) : ∀ {xs : List RP.Cl} {vs : List Value}, CsAt ok w vs xs → CsAt ok' w' vs xs
  | [], _, h => h
  | _ :: xs, _, ⟨kv, us, e, h1, h2⟩ => ⟨kv, us, e, hK h1, CsAt.turn hK (xs := xs) h2⟩

theorem RsAt.turn {ok ok' : Nat → Prop} {w w' : World} (hP : ∀ {p : RP.Pt} {vs : List Value}, PAt ok w vs p → PAt ok' w' vs p) : ∀ {xs : List RP.Ru} {vs : List Value}, RsAt ok w vs xs → RsAt ok' w' vs xs
  | [], _, h => h
  | _ :: xs, _, ⟨bv, av, us, e, h1, h2, h3, h4, h5⟩ => ⟨bv, av, us, e, h1, hP h2, h3, hP h4, RsAt.turn hP (xs := xs) h5⟩

theorem CsAt.snoc {ok : Nat → Prop} {w : World} {x : RP.Cl} {kv : Value} (hx : KAt ok w kv x.kind) : ∀ {xs : List RP.Cl} {vs : List Value}, CsAt ok w vs xs → CsAt ok w (vs ++ [.string ⟨x.name.toArray⟩, .int .i64 x.at_, kv]) (xs ++ [x])
  | [], vs, h => by obtain rfl : vs = [] := h; exact ⟨kv, [], rfl, hx, rfl⟩
  | _ :: xs, _, ⟨kv', us, e, h1, h2⟩ => by subst e; exact ⟨kv', _, rfl, h1, CsAt.snoc hx (xs := xs) h2⟩

theorem RsAt.snoc {ok : Nat → Prop} {w : World} {x : RP.Ru} {bv av : Value} (hb : IsPtr bv) (hbp : PAt ok w [bv] x.before) (ha : IsPtr av) (hap : PAt ok w [av] x.after) : ∀ {xs : List RP.Ru} {vs : List Value}, RsAt ok w vs xs → RsAt ok w (vs ++ [.int .i64 x.at_, .bool x.brk, bv, av]) (xs ++ [x])
  | [], vs, h => by obtain rfl : vs = [] := h; exact ⟨bv, av, [], rfl, hb, hbp, ha, hap, rfl⟩
  | _ :: xs, _, ⟨bv', av', us, e, h1, h2, h3, h4, h5⟩ => by subst e; exact ⟨bv', av', _, rfl, h1, h2, h3, h4, RsAt.snoc hb hbp ha hap (xs := xs) h5⟩

theorem info44' : (Tryz.prog.info? 94).map (fun i => (i.zero, i.size, i.bytes)) = some (some (.agg #[.string ⟨#[]⟩, .int .i64 0, .pointer none]), 3, 32) := by kernel_rfl
theorem info48' : (Tryz.prog.info? 50).map (fun i => (i.zero, i.size, i.bytes)) = some (some (.agg #[.int .i64 0, .bool false, .pointer none, .pointer none]), 4, 32) := by kernel_rfl

end Go.Proofs.YtjbdlihlcoldlaaGreatDoor.Q

namespace Go.Proofs.YtjbdlihlcoldlaaGreatDoor.Q
open Go.RowKit Go.Shelf

/-- Blocks that the reading of a file makes, none of them a row of the file's. -/
def Ok2 (w0 : World) (cv rv : Value) (b : Nat) : Prop := w0.heap.size + 2 ≤ b ∧ cv.ownBlock ≠ some b ∧ rv.ownBlock ≠ some b

/-- The file as it is read: classes and rules in own rows. -/
def FL (w0 : World) (w : World) (cs : List RP.Cl) (rs : List RP.Ru) (k : Bool) : Prop :=
  ∃ cv rv vs us, w.heap[w0.heap.size]? = some (.cells #[.slice none 0 0, .slice none 0 0, .bool false] 26) ∧ w.heap[w0.heap.size + 1]? = some (.cells #[cv, rv, .bool k] 26) ∧
    w.ownsRow (w0.heap.size + 2) 94 3 cv cs.length vs ∧ w.ownsRow (w0.heap.size + 2) 50 4 rv rs.length us ∧ (∀ b, cv.ownBlock = some b → rv.ownBlock ≠ some b) ∧
    CsAt (Ok2 w0 cv rv) w vs cs ∧ RsAt (Ok2 w0 cv rv) w us rs

theorem owns_grown {w w' : World} {B : Nat} {e : TypeId} {size : Nat} {v : Value} {n : Nat} {xs : List Value} {g : Option Nat} (h : w.ownsRow B e size v n xs) (hg : w.grownBy w' g) (hn : ∀ b, v.ownBlock = some b → g ≠ some b) : w'.ownsRow B e size v n xs := by
  obtain ⟨h1, h2 | ⟨g', cap, cur, rfl, hgl, hh, rest⟩⟩ := h
  · exact ⟨h1, Or.inl h2⟩
  · exact ⟨h1, Or.inr ⟨g', cap, cur, rfl, hgl, (hg.block g' (lt_of_block hh) (fun e => hn g' rfl e.symm)).trans hh, rest⟩⟩

theorem CsAt.keep {ok : Nat → Prop} {w w' : World} (hk : Keeps ok w w') {xs : List RP.Cl} {vs : List Value} (h : CsAt ok w vs xs) : CsAt ok w' vs xs := CsAt.turn (fun h => KAt.keep hk h) h
theorem RsAt.keep {ok : Nat → Prop} {w w' : World} (hk : Keeps ok w w') {xs : List RP.Ru} {vs : List Value} (h : RsAt ok w vs xs) : RsAt ok w' vs xs := RsAt.turn (fun h => PAt.keep hk h) h
theorem CsAt.mono {ok ok' : Nat → Prop} {w : World} (hk : ∀ b, b < w.heap.size → ok b → ok' b) {xs : List RP.Cl} {vs : List Value} (h : CsAt ok w vs xs) : CsAt ok' w vs xs := CsAt.turn (fun h => KAt.mono hk h) h
theorem RsAt.mono {ok ok' : Nat → Prop} {w : World} (hk : ∀ b, b < w.heap.size → ok b → ok' b) {xs : List RP.Ru} {vs : List Value} (h : RsAt ok w vs xs) : RsAt ok' w vs xs := RsAt.turn (fun h => PAt.mono hk h) h

/-- It stays while elder blocks are written. -/
theorem FL.grown {w0 w w' : World} {cs : List RP.Cl} {rs : List RP.Ru} {k : Bool} {pb : Nat} (h : FL w0 w cs rs k) (hl : pb < w0.heap.size) (hg : w.grownBy w' (some pb)) : FL w0 w' cs rs k := by
  obtain ⟨cv, rv, vs, us, h0, h1, h2, h3, h4, h5, h6⟩ := h
  refine ⟨cv, rv, vs, us, (hg.block _ (lt_of_block h0) (fun e => by cases e; omega)).trans h0, (hg.block _ (lt_of_block h1) (fun e => by cases e; omega)).trans h1, owns_grown h2 hg (fun b hb e => ?_), owns_grown h3 hg (fun b hb e => ?_), h4, h5.keep (Keeps.grown hg fun b hb e => ?_), h6.keep (Keeps.grown hg fun b hb e => ?_)⟩
  · cases e; have := (h2.lt _ hb).1; omega
  · cases e; have := (h3.lt _ hb).1; omega
  · cases e; have := hb.1; omega
  · cases e; have := hb.1; omega

theorem grown_drew (w : World) (g : Option Nat) : w.grownBy w.drew g := ⟨rfl, rfl, rfl, Nat.le_refl _, fun _ _ _ => rfl⟩

theorem cells_list (w : World) (o : List Value) (ty : TypeId) : ∀ j x, o[j]? = some x → (w.alloc (.cells o.toArray ty)).cell? ((⟨w.heap.size, 0, none⟩ : Addr).add j) = some x := by
  intro j x hj
  simp only [Addr.add_lit, Nat.zero_add]
  exact loc_cell (heap_alloc_new _ _) (by simpa using hj)

/-- One class more: what the append leaves, and what lies there when it is stored. -/
theorem FL.cls {w0 w w1 : World} {cs : List RP.Cl} {rs : List RP.Ru} {k : Bool} {pb : Nat} {x : RP.Cl} {kb : Nat} (ty : TypeId) (h : FL w0 w cs rs k) (hl : pb < w0.heap.size) (hg : w.grownBy w1 (some pb)) (hc : cs.length ≤ 20)
    (hv : KAt (New w) w1 (.pointer (some ⟨kb, 0, none⟩)) x.kind) :
    ∃ cv cv' w2, w.cell? ⟨w0.heap.size + 1, 0, none⟩ = some cv ∧ (Builtin.append_ #[23, 23] ty #[cv, .slice (some ⟨w1.heap.size, 0, none⟩) 1 1]).run Tryz.prog (w1.alloc (.cells #[.string ⟨x.name.toArray⟩, .int .i64 x.at_, .pointer (some ⟨kb, 0, none⟩)] 94)) = .ok cv' w2 ∧
      w2.cell? ⟨w0.heap.size + 1, 0, none⟩ = some cv ∧ w2.frozen? ⟨w0.heap.size + 1, 0, none⟩ = false ∧
      FL w0 (w2.setCell ⟨w0.heap.size + 1, 0, none⟩ cv') (cs ++ [x]) rs k ∧ w1.grownBy w2 cv.ownBlock ∧ (∀ b, cv.ownBlock = some b → w0.heap.size + 2 ≤ b) ∧ ∃ ao cp, cv' = .slice ao (cs.length + 1) cp := by
  have hF := h.grown hl hg
  obtain ⟨cv, rv, vs, us, h0, h1, h2, h3, h4, h5, h6⟩ := h
  have hs := hg.size
  have hcv : w.cell? ⟨w0.heap.size + 1, 0, none⟩ = some cv := loc_cell (k := 0) h1 rfl
  have hw := lt_of_block h1
  have k0 := (hg.block _ (lt_of_block h0) (fun e => by cases e; omega)).trans h0
  have k1 := (hg.block _ (lt_of_block h1) (fun e => by cases e; omega)).trans h1
  have k2 : w1.ownsRow (w0.heap.size + 2) 94 3 cv cs.length vs := owns_grown h2 hg (fun b hb e => by cases e; have := (h2.lt _ hb).1; omega)
  have k3 : w1.ownsRow (w0.heap.size + 2) 50 4 rv rs.length us := owns_grown h3 hg (fun b hb e => by cases e; have := (h3.lt _ hb).1; omega)
  have k5 : CsAt (Ok2 w0 cv rv) w1 vs cs := h5.keep (Keeps.grown hg fun b hb e => by cases e; have := hb.1; omega)
  have k6 : RsAt (Ok2 w0 cv rv) w1 us rs := h6.keep (Keeps.grown hg fun b hb e => by cases e; have := hb.1; omega)
  obtain ⟨i0, hi, hz0, hz1, hz2⟩ := info_parts info44'
  obtain ⟨cv', w2, hr, ho, hgr, hwh⟩ := append_at (P := Tryz.prog) (w1.alloc (.cells #[.string ⟨x.name.toArray⟩, .int .i64 x.at_, .pointer (some ⟨kb, 0, none⟩)] 94)) (w0.heap.size + 2) 23 ty 94 i0 _ 3 32 Tryz.underlying23 hi hz0 hz1 hz2 rfl (by decide) cv cs.length vs (k2.alloc _) ⟨w1.heap.size, 0, none⟩ 1 [.string ⟨x.name.toArray⟩, .int .i64 x.at_, .pointer (some ⟨kb, 0, none⟩)] rfl (cells_list w1 _ 94) (by intro y hy; simp at hy; rcases hy with rfl | rfl | rfl <;> rfl) (by unfold maxLen; omega) (by omega) (by simp; omega)
  have hA : w1.grownBy (w1.alloc (.cells #[.string ⟨x.name.toArray⟩, .int .i64 x.at_, .pointer (some ⟨kb, 0, none⟩)] 94)) cv.ownBlock := World.grownBy_alloc _ _ _
  have hG : w1.grownBy w2 cv.ownBlock := hA.trans hgr
  have hcvB : ∀ b, cv.ownBlock = some b → w0.heap.size + 2 ≤ b := fun b hb => (h2.lt b hb).1
  have n0 : w2.heap[w0.heap.size]? = some (.cells #[.slice none 0 0, .slice none 0 0, .bool false] 26) := (hG.block _ (lt_of_block k0) (fun e => by have := hcvB _ e.symm; omega)).trans k0
  have n1 : w2.heap[w0.heap.size + 1]? = some (.cells #[cv, rv, .bool k] 26) := (hG.block _ (lt_of_block k1) (fun e => by have := hcvB _ e.symm; omega)).trans k1
  have hS : w2.grownBy (w2.setCell ⟨w0.heap.size + 1, 0, none⟩ cv') (some (w0.heap.size + 1)) := grown_set _
  have hsz1 : w0.heap.size + 2 ≤ w1.heap.size := by omega
  have hcvB' : ∀ b, cv'.ownBlock = some b → w0.heap.size + 2 ≤ b := fun b hb => (ho.lt b hb).1
  have hnot : ∀ j, j < w1.heap.size → cv.ownBlock ≠ some j → cv'.ownBlock ≠ some j := by
    intro j hj hne e
    rcases hwh with h | h
    · exact hne (h.symm.trans e)
    · rw [h] at e; cases e; simp at hj; omega
  have hcl : ∀ b, cv.ownBlock = some b → b < w.heap.size := fun b hb => (h2.lt b hb).2
  have hrl : ∀ b, rv.ownBlock = some b → b < w.heap.size := fun b hb => (h3.lt b hb).2
  have hKp : Keeps (fun b => Ok2 w0 cv rv b ∧ cv'.ownBlock ≠ some b) w1 (w2.setCell ⟨w0.heap.size + 1, 0, none⟩ cv') := by
    intro b hb hbl
    have h1 : (w2.setCell ⟨w0.heap.size + 1, 0, none⟩ cv').heap[b]? = w2.heap[b]? := hS.block b (by have := hG.size; omega) (fun e => by cases e; have := hb.1.1; omega)
    exact h1.trans (hG.block b hbl (fun e => hb.1.2.1 e.symm))
  refine ⟨cv, cv', w2, hcv, hr, loc_cell (k := 0) n1 rfl, loc_free (k := 0) n1, ⟨cv', rv, vs ++ [.string ⟨x.name.toArray⟩, .int .i64 x.at_, .pointer (some ⟨kb, 0, none⟩)], us, ?_, ?_, ?_, ?_, ?_, ?_, ?_⟩, hG, hcvB, own_slice ho⟩
  · exact (hS.block _ (lt_of_block n0) (fun e => by have := Option.some.inj e; omega)).trans n0
  · exact heap_setCell_same w2 _ 0 _ 26 _ n1
  · rw [List.length_append]
    exact owns_grown ho hS (fun b hb e => by cases e; have := hcvB' _ hb; omega)
  · refine owns_grown (owns_grown k3 hG fun b hb e => h4 b e hb) hS (fun b hb e => by cases e; have := (h3.lt _ hb).1; omega)
  · intro b hb e
    rcases hwh with h | h
    · exact h4 b (h.symm.trans hb) e
    · rw [h] at hb
      cases hb
      have := hrl _ e
      simp at this
      omega
  · refine CsAt.mono (ok := fun b => Ok2 w0 cv rv b ∧ cv'.ownBlock ≠ some b) (fun b _ hb => ⟨hb.1.1, hb.2, hb.1.2.2⟩) (CsAt.keep hKp (CsAt.snoc ?_ (k5.mono fun b hbl hb => ⟨hb, hnot b hbl hb.2.1⟩)))
    refine KAt.mono (fun b hbl hb => ?_) hv
    have hb : w.heap.size ≤ b := hb
    have h7 : cv.ownBlock ≠ some b := fun e => by have := hcl b e; omega
    exact ⟨⟨by omega, h7, fun e => by have := hrl b e; omega⟩, hnot b hbl h7⟩
  · exact RsAt.mono (ok := fun b => Ok2 w0 cv rv b ∧ cv'.ownBlock ≠ some b) (fun b _ hb => ⟨hb.1.1, hb.2, hb.1.2.2⟩) (RsAt.keep hKp (k6.mono fun b hbl hb => ⟨hb, hnot b hbl hb.2.1⟩))

/-- One rule more. -/
theorem FL.rul {w0 w w1 : World} {cs : List RP.Cl} {rs : List RP.Ru} {k : Bool} {pb : Nat} {x : RP.Ru} {bb ab : Nat} (ty : TypeId) (h : FL w0 w cs rs k) (hl : pb < w0.heap.size) (hg : w.grownBy w1 (some pb)) (hc : rs.length ≤ 20)
    (hv : PAt (New w) w1 [.pointer (some ⟨bb, 0, none⟩)] x.before) (hu : PAt (New w) w1 [.pointer (some ⟨ab, 0, none⟩)] x.after) :
    ∃ rv rv' w2, w.cell? ⟨w0.heap.size + 1, 1, none⟩ = some rv ∧ (Builtin.append_ #[24, 24] ty #[rv, .slice (some ⟨w1.heap.size, 0, none⟩) 1 1]).run Tryz.prog (w1.alloc (.cells #[.int .i64 x.at_, .bool x.brk, .pointer (some ⟨bb, 0, none⟩), .pointer (some ⟨ab, 0, none⟩)] 50)) = .ok rv' w2 ∧
      w2.cell? ⟨w0.heap.size + 1, 1, none⟩ = some rv ∧ w2.frozen? ⟨w0.heap.size + 1, 1, none⟩ = false ∧
      FL w0 (w2.setCell ⟨w0.heap.size + 1, 1, none⟩ rv') cs (rs ++ [x]) k ∧ w1.grownBy w2 rv.ownBlock ∧ (∀ b, rv.ownBlock = some b → w0.heap.size + 2 ≤ b) ∧ ∃ ao cp, rv' = .slice ao (rs.length + 1) cp := by
  have hF := h.grown hl hg
  obtain ⟨cv, rv, vs, us, h0, h1, h2, h3, h4, h5, h6⟩ := h
  have hs := hg.size
  have hcv : w.cell? ⟨w0.heap.size + 1, 1, none⟩ = some rv := loc_cell (k := 1) h1 rfl
  have hw := lt_of_block h1
  have k0 := (hg.block _ (lt_of_block h0) (fun e => by cases e; omega)).trans h0
  have k1 := (hg.block _ (lt_of_block h1) (fun e => by cases e; omega)).trans h1
  have k2 : w1.ownsRow (w0.heap.size + 2) 94 3 cv cs.length vs := owns_grown h2 hg (fun b hb e => by cases e; have := (h2.lt _ hb).1; omega)
  have k3 : w1.ownsRow (w0.heap.size + 2) 50 4 rv rs.length us := owns_grown h3 hg (fun b hb e => by cases e; have := (h3.lt _ hb).1; omega)
  have k5 : CsAt (Ok2 w0 cv rv) w1 vs cs := h5.keep (Keeps.grown hg fun b hb e => by cases e; have := hb.1; omega)
  have k6 : RsAt (Ok2 w0 cv rv) w1 us rs := h6.keep (Keeps.grown hg fun b hb e => by cases e; have := hb.1; omega)
  obtain ⟨i0, hi, hz0, hz1, hz2⟩ := info_parts info48'
  obtain ⟨rv', w2, hr, ho, hgr, hwh⟩ := append_at (P := Tryz.prog) (w1.alloc (.cells #[.int .i64 x.at_, .bool x.brk, .pointer (some ⟨bb, 0, none⟩), .pointer (some ⟨ab, 0, none⟩)] 50)) (w0.heap.size + 2) 24 ty 50 i0 _ 4 32 Tryz.underlying24 hi hz0 hz1 hz2 rfl (by decide) rv rs.length us (k3.alloc _) ⟨w1.heap.size, 0, none⟩ 1 [.int .i64 x.at_, .bool x.brk, .pointer (some ⟨bb, 0, none⟩), .pointer (some ⟨ab, 0, none⟩)] rfl (cells_list w1 _ 50) (by intro y hy; simp at hy; rcases hy with rfl | rfl | rfl | rfl <;> rfl) (by unfold maxLen; omega) (by omega) (by simp; omega)
  have hA : w1.grownBy (w1.alloc (.cells #[.int .i64 x.at_, .bool x.brk, .pointer (some ⟨bb, 0, none⟩), .pointer (some ⟨ab, 0, none⟩)] 50)) rv.ownBlock := World.grownBy_alloc _ _ _
  have hG : w1.grownBy w2 rv.ownBlock := hA.trans hgr
  have hcvB : ∀ b, rv.ownBlock = some b → w0.heap.size + 2 ≤ b := fun b hb => (h3.lt b hb).1
  have n0 : w2.heap[w0.heap.size]? = some (.cells #[.slice none 0 0, .slice none 0 0, .bool false] 26) := (hG.block _ (lt_of_block k0) (fun e => by have := hcvB _ e.symm; omega)).trans k0
  have n1 : w2.heap[w0.heap.size + 1]? = some (.cells #[cv, rv, .bool k] 26) := (hG.block _ (lt_of_block k1) (fun e => by have := hcvB _ e.symm; omega)).trans k1
  have hS : w2.grownBy (w2.setCell ⟨w0.heap.size + 1, 1, none⟩ rv') (some (w0.heap.size + 1)) := grown_set _
  have hsz1 : w0.heap.size + 2 ≤ w1.heap.size := by omega
  have hcvB' : ∀ b, rv'.ownBlock = some b → w0.heap.size + 2 ≤ b := fun b hb => (ho.lt b hb).1
  have hnot : ∀ j, j < w1.heap.size → rv.ownBlock ≠ some j → rv'.ownBlock ≠ some j := by
    intro j hj hne e
    rcases hwh with h | h
    · exact hne (h.symm.trans e)
    · rw [h] at e; cases e; simp at hj; omega
  have hcl : ∀ b, cv.ownBlock = some b → b < w.heap.size := fun b hb => (h2.lt b hb).2
  have hrl : ∀ b, rv.ownBlock = some b → b < w.heap.size := fun b hb => (h3.lt b hb).2
  have hKp : Keeps (fun b => Ok2 w0 cv rv b ∧ rv'.ownBlock ≠ some b) w1 (w2.setCell ⟨w0.heap.size + 1, 1, none⟩ rv') := by
    intro b hb hbl
    have h1 : (w2.setCell ⟨w0.heap.size + 1, 1, none⟩ rv').heap[b]? = w2.heap[b]? := hS.block b (by have := hG.size; omega) (fun e => by cases e; have := hb.1.1; omega)
    exact h1.trans (hG.block b hbl (fun e => hb.1.2.2 e.symm))
  refine ⟨rv, rv', w2, hcv, hr, loc_cell (k := 1) n1 rfl, loc_free (k := 1) n1, ⟨cv, rv', vs, us ++ [.int .i64 x.at_, .bool x.brk, .pointer (some ⟨bb, 0, none⟩), .pointer (some ⟨ab, 0, none⟩)], ?_, ?_, ?_, ?_, ?_, ?_, ?_⟩, hG, hcvB, own_slice ho⟩
  · exact (hS.block _ (lt_of_block n0) (fun e => by have := Option.some.inj e; omega)).trans n0
  · exact heap_setCell_same w2 _ 1 _ 26 _ n1
  · refine owns_grown (owns_grown k2 hG fun b hb e => h4 b hb e) hS (fun b hb e => by cases e; have := (h2.lt _ hb).1; omega)
  · rw [List.length_append]
    exact owns_grown ho hS (fun b hb e => by cases e; have := hcvB' _ hb; omega)
  · intro b hb e
    rcases hwh with h | h
    · exact h4 b hb (h.symm.trans e)
    · rw [h] at e
      cases e
      have := hcl _ hb
      simp at this
      omega
  · exact CsAt.mono (ok := fun b => Ok2 w0 cv rv b ∧ rv'.ownBlock ≠ some b) (fun b _ hb => ⟨hb.1.1, hb.1.2.1, hb.2⟩) (CsAt.keep hKp (k5.mono fun b hbl hb => ⟨hb, hnot b hbl hb.2.2⟩))
  · have hM : ∀ b, b < w1.heap.size → New w b → Ok2 w0 cv rv b ∧ rv'.ownBlock ≠ some b := by
      intro b hbl hb
      have hb : w.heap.size ≤ b := hb
      have h7 : rv.ownBlock ≠ some b := fun e => by have := hrl b e; omega
      exact ⟨⟨by omega, fun e => by have := hcl b e; omega, h7⟩, hnot b hbl h7⟩
    exact RsAt.mono (ok := fun b => Ok2 w0 cv rv b ∧ rv'.ownBlock ≠ some b) (fun b _ hb => ⟨hb.1.1, hb.1.2.1, hb.2⟩) (RsAt.keep hKp (RsAt.snoc ⟨_, rfl⟩ (PAt.mono hM hv) ⟨_, rfl⟩ (PAt.mono hM hu) (k6.mono fun b hbl hb => ⟨hb, hnot b hbl hb.2.2⟩)))

/-- An append whose run is known, as a step of a region that draws. -/
theorem step_append_run {P : Program} {ops : Array Oper} {o : Oper} {a : Act} {w : World} {K : Act → World → Prop} {Q : Exit → Act → World → Prop} {E : Prop}
    (hg : o.guard = none) (s x : Operand) (t : TypeId) (hop : o.op = Op.call { callee := Callee.builtin Builtin.append, args := #[s, x], argTypes := #[t, t] })
    (v u v' : Value) (w' : World) (hs : a.eval s = v) (hx : a.eval x = u) (hrun : (Builtin.append_ #[t, t] o.type #[v, u]).run P w = .ok v' w') (hK : K (a.put o.dst v') w') :
    if Region.wanted o (yielded ops a.tmps) = true then Oper.wp P o a w K Q else E := by
  have hw : Region.wanted o (yielded ops a.tmps) = true := by simp [Region.wanted, hg]
  rw [if_pos hw]
  unfold Oper.wp
  simp [execOp, hop, resolve, invoke, builtin, hs, hx, hrun, Result.andThen]
  exact hK

end Go.Proofs.YtjbdlihlcoldlaaGreatDoor.Q
