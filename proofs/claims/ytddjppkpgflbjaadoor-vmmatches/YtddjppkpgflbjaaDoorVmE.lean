/- The contract of the closure of a run: an instruction is looked at. -/
import Derived.Test.YtddjppkpgflbjaaDoorVmD
namespace Go.Proofs.YtddjppkpgflbjaaDoor
open Go.RowKit Go.Shelf

/-- What the closure is handed. -/
abbrev caught (s : Site) : Array Value := #[.pointer (some ⟨s.bc, 0, none⟩), .pointer (some ⟨s.bl, 0, none⟩), .pointer (some ⟨s.bx, 0, none⟩), .pointer (some ⟨s.bh, 0, none⟩), .pointer (some ⟨s.by_, 0, none⟩)]

/-- What is asked of code and points. -/
structure Fit (B : Nat) (w : World) (sv iv lv : Value) (c : VM.Co) (l : List Int) : Prop where
  right : VM.right c = true
  code : CoAt B w sv iv c
  pts : PtsAt B w lv l
  lens : c.ins.length ≤ 100000 ∧ c.sets.length ≤ 100000 ∧ l.length ≤ 100000 ∧ ∀ s ∈ c.sets, s.length ≤ 1000000

theorem Fit.below {B : Nat} {w w' : World} {sv iv lv : Value} {c : VM.Co} {l : List Int} (h : Fit B w sv iv lv c l) (hb : Below B w w') : Fit B w' sv iv lv c l :=
  ⟨h.right, h.code.below hb _ (Nat.le_refl _), h.pts.below hb _ (Nat.le_refl _), h.lens⟩

theorem Fit.up {B B' : Nat} {w : World} {sv iv lv : Value} {c : VM.Co} {l : List Int} (h : Fit B w sv iv lv c l) (hb : B ≤ B') : Fit B' w sv iv lv c l :=
  ⟨h.right, h.code.below (Below.refl _ _) _ hb, h.pts.below (Below.refl _ _) _ hb, h.lens⟩

theorem Fit.ins {B : Nat} {w : World} {sv iv lv : Value} {c : VM.Co} {l : List Int} (h : Fit B w sv iv lv c l) : ∃ b off cap, iv = .slice (some ⟨b, off, none⟩) c.ins.length cap ∧ b < B ∧ ∀ i, i < c.ins.length →
    w.cell? ⟨b, off + i * 3, none⟩ = some (.int .i64 (VM.at_ c i).op) ∧ w.cell? ⟨b, off + i * 3 + 1, none⟩ = some (.int .i64 (VM.at_ c i).a) ∧ w.cell? ⟨b, off + i * 3 + 2, none⟩ = some (.int .i64 (VM.at_ c i).b) := by
  obtain ⟨ao, cap, rfl, _, hi⟩ := h.code.2
  have h1 := (VM.right_parts h.right).1
  obtain ⟨b, off, rfl, hb, hc⟩ := hi (fun e => by rw [e] at h1; simp at h1)
  refine ⟨b, off, cap, rfl, hb, fun i hi => ?_⟩
  rw [VM.at_get c hi]
  exact hc i hi

theorem Fit.takes {B : Nat} {w : World} {sv iv lv : Value} {c : VM.Co} {l : List Int} (h : Fit B w sv iv lv c l) (hB : B ≤ w.heap.size) {i : Nat} (hi : i < c.ins.length) (ho : (VM.at_ c i).op = 1) :
    Calls Tryd.prog 47 #[.agg #[sv, iv], .agg #[.int .i64 (VM.at_ c i).op, .int .i64 (VM.at_ c i).a, .int .i64 (VM.at_ c i).b], lv] w fun e w' => e = .returned (.bool (VM.takes c (VM.at_ c i) l)) ∧ Below w.heap.size w w' :=
  takes_any sv iv lv c (VM.at_ c i) l w (h.code.1.below (Below.refl _ _) _ hB) (h.pts.below (Below.refl _ _) _ hB) (fun s hs => ⟨(VM.right_parts h.right).2.2.2.2.2.1 s hs, h.lens.2.2.2 s hs⟩) (VM.right_s h.right hi ho) h.lens.2.1 h.lens.2.2.1

section
variable {B : Nat} {s : Site} {n : Nat} {sv iv lv : Value} {w w' : World} {vh vx : Value} {h x : List Nat} {y : Bool}

theorem Looked.start (S : St B s n sv iv lv w vh vx h x y) (o : Obj) : Looked B s n sv iv lv w vh vx (h, x, y) (w.alloc o) :=
  ⟨vh, vx, S.below ((Below.refl _ w).alloc (Nat.le_refl _) o), (But.refl _ w).alloc o, Later.refl _ _, Later.refl _ _⟩

theorem Looked.below {w1 w2 : World} {r : List Nat × List Nat × Bool} (L : Looked B s n sv iv lv w vh vx r w1) (hb : Below w1.heap.size w1 w2) : Looked B s n sv iv lv w vh vx r w2 := by
  obtain ⟨vh', vx', S, hB, h1, h2⟩ := L
  exact ⟨vh', vx', S.below hb, hB.trans (But.of_below hb (fun _ => False)) (fun _ h => h.elim), h1, h2⟩

theorem Looked.here {w1 : World} (L : Looked B s n sv iv lv w vh vx (h, x, y) w1) (hn : n ≤ 100000) (hm : VM.Met n h) {i : Nat} (hi : i < n) :
    Calls Tryd.prog 44 #[.pointer (some ⟨s.mh, 0, none⟩), .int .i64 i] w1 fun e w2 => e = .returned (.tuple #[]) ∧ Looked B s n sv iv lv w vh vx (VM.meet h i, x, y) w2 ∧ ∀ (k : Nat) (cs : Array Value), w1.heap[k]? = some (Obj.cells cs 50 (0, 0)) → w2.heap[k]? = some (Obj.cells cs 50 (0, 0)) := by
  obtain ⟨vh', vx', S, hB, h1, h2⟩ := L
  refine (meet_any B s.mh s.hh vh' n i h w1 S.here hi hn hm).mono ?_
  rintro e w2 ⟨rfl, v2, hM, hb, hl⟩
  refine ⟨rfl, ⟨v2, vx', S.hereMet hM hb hl, hB.trans hb (fun j hj => ?_), h1.trans hl hB.size, h2⟩, fun k cs hk => (hb.block k (lt_of_block hk) (not_foot S.here hk (by decide))).trans hk⟩
  rcases hj with rfl | rfl | hj
  · exact .inl (.inl (.inl rfl))
  · exact .inl (.inl (.inr (.inl rfl)))
  · exact (h1 j hj).elim (fun h => .inl (.inl (.inr (.inr h)))) .inr

theorem Looked.next {w1 : World} (L : Looked B s n sv iv lv w vh vx (h, x, y) w1) (hn : n ≤ 100000) (hm : VM.Met n x) {i : Nat} (hi : i < n) :
    Calls Tryd.prog 44 #[.pointer (some ⟨s.mx, 0, none⟩), .int .i64 i] w1 fun e w2 => e = .returned (.tuple #[]) ∧ Looked B s n sv iv lv w vh vx (h, VM.meet x i, y) w2 := by
  obtain ⟨vh', vx', S, hB, h1, h2⟩ := L
  refine (meet_any B s.mx s.hx vx' n i x w1 S.next hi hn hm).mono ?_
  rintro e w2 ⟨rfl, v2, hM, hb, hl⟩
  refine ⟨rfl, vh', v2, S.nextMet hM hb hl, hB.trans hb (fun j hj => ?_), h1, h2.trans hl hB.size⟩
  rcases hj with rfl | rfl | hj
  · exact .inl (.inr (.inl (.inl rfl)))
  · exact .inl (.inr (.inl (.inr (.inl rfl))))
  · exact (h2 j hj).elim (fun h => .inl (.inr (.inl (.inr (.inr h))))) .inr

theorem Looked.yes {w1 : World} (L : Looked B s n sv iv lv w vh vx (h, x, y) w1) : Looked B s n sv iv lv w vh vx (h, x, true) (w1.setCell ⟨s.by_, 0, none⟩ (.bool true)) := by
  obtain ⟨vh', vx', S, hB, h1, h2⟩ := L
  exact ⟨vh', vx', S.yes, hB.set s.by_ 0 _ (.inl (.inr (.inr rfl))), h1, h2⟩

theorem Looked.cells {w1 : World} {r : List Nat × List Nat × Bool} (L : Looked B s n sv iv lv w vh vx r w1) : w1.cell? ⟨s.bc, 0, none⟩ = some sv ∧ w1.cell? ⟨s.bc, 1, none⟩ = some iv ∧ w1.cell? ⟨s.bl, 0, none⟩ = some lv ∧ w1.cell? ⟨s.bx, 0, none⟩ = some (.pointer (some ⟨s.mx, 0, none⟩)) ∧
    w1.cell? ⟨s.bh, 0, none⟩ = some (.pointer (some ⟨s.mh, 0, none⟩)) ∧ w1.cell? ⟨s.by_, 0, none⟩ = some (.bool r.2.2) ∧ w1.frozen? ⟨s.by_, 0, none⟩ = false := by
  obtain ⟨vh', vx', S, _⟩ := L
  exact S.cells

theorem turns_low (S : St B s n sv iv lv w vh vx h x y) {k : Nat} (hk : Turns s vh vx k) : B ≤ k ∧ k < w.heap.size := by
  rcases hk with (rfl | rfl | hg) | (rfl | rfl | hg) | rfl
  · exact ⟨S.here.low.1, lt_of_block S.here.struct_⟩
  · exact ⟨S.here.low.2, lt_of_block S.here.has⟩
  · obtain ⟨h1, _, h2⟩ := own_block S.here.order hg; exact ⟨h1, lt_of_block h2⟩
  · exact ⟨S.next.low.1, lt_of_block S.next.struct_⟩
  · exact ⟨S.next.low.2, lt_of_block S.next.has⟩
  · obtain ⟨h1, _, h2⟩ := own_block S.next.order hg; exact ⟨h1, lt_of_block h2⟩
  · exact ⟨S.low.1, lt_of_block S.cY⟩

end

set_option maxHeartbeats 1000000 in
set_option maxRecDepth 100000 in
theorem look_take (B : Nat) (s : Site) (sv iv lv : Value) (c : VM.Co) (l : List Int) (i : Nat) (h x : List Nat) (vh vx : Value) (w : World) (S : St B s c.ins.length sv iv lv w vh vx h x false) (F : Fit B w sv iv lv c l)
    (hi : i < c.ins.length) (hx : VM.Met c.ins.length x) (ho : (VM.at_ c i).op = 1) :
    Calls Tryd.prog 46 (#[.int .i64 i] ++ caught s) w fun e w' => e = .returned (.bool (!(VM.look c l i h x).2.2)) ∧ Looked B s c.ins.length sv iv lv w vh vx (VM.look c l i h x) w' := by
  have hnx := VM.right_next F.right hi (.inl ho)
  have e : VM.look c l i h x = (h, if VM.takes c (VM.at_ c i) l then VM.meet x (i + 1) else x, false) := by unfold VM.look; simp [ho]
  rw [e]
  have hlen := F.lens.1
  have hsz := S.size
  obtain ⟨ib, ioff, icap, hiv, hib, hic⟩ := F.ins
  obtain ⟨i0, i1, i2⟩ := hic i hi
  obtain ⟨k0, k1, k2, k3, k4, k5, k6⟩ := S.cells
  have L0 := Looked.start S (.cells #[.int .i64 (VM.at_ c i).op, .int .i64 (VM.at_ c i).a, .int .i64 (VM.at_ c i).b] 50)
  have hb0 : Below w.heap.size w (w.alloc (.cells #[.int .i64 (VM.at_ c i).op, .int .i64 (VM.at_ c i).a, .int .i64 (VM.at_ c i).b] 50)) := (Below.refl _ w).alloc (Nat.le_refl _) _
  have T := (F.below (hb0.mono hsz)).takes (by simp; omega) hi ho
  rw [ho] at i0 L0 T
  obtain ⟨u1, u2, u3, u4, u5, u6, u7⟩ := L0.cells
  have HL0 : Hid (Looked B s c.ins.length sv iv lv w vh vx (h, x, false) (w.alloc (.cells #[.int .i64 1, .int .i64 (VM.at_ c i).a, .int .i64 (VM.at_ c i).b] 50))) := L0
  have HX : Hid (VM.Met c.ins.length x) := hx
  clear S F e hic hb0 L0 hx
  generalize VM.takes c (VM.at_ c i) l = tk at T ⊢
  generalize (VM.at_ c i).a = a at T i1 HL0 u1 u2 u3 u4 u5 u6 u7
  generalize (VM.at_ c i).b = b at T i2 HL0 u1 u2 u3 u4 u5 u6 u7
  subst hiv
  generalize c.ins.length = N at *
  have hiz : (i : Int) < (N : Int) := by omega
  clear ho
  go_enter Tryd.func46, Tryd.ntmps46
  go_wp2_with fail
  refine T.mono ?_
  rintro e w1 ⟨rfl, hb1⟩
  have L1 := HL0.out.below hb1
  clear k0 k1 k2 k3 k4 k5 k6 u1 u2 u3 u4 u5 u6 u7 hb1 HL0 T i0 i1 i2
  obtain ⟨u1, u2, u3, u4, u5, u6, u7⟩ := L1.cells
  dsimp only at u6
  cases tk with
  | false =>
    have HL1 : Hid (Looked B s N sv (.slice (some ⟨ib, ioff, none⟩) N icap) lv w vh vx (h, x, false) w1) := L1
    clear L1
    go_wp2_with fail
    go_ret
    exact ⟨rfl, HL1.out⟩
  | true =>
    have M := L1.next (by omega) HX.out hnx
    clear L1
    go_wp2_with fail
    refine M.mono ?_
    rintro e w2 ⟨rfl, L2⟩
    clear u1 u2 u3 u4 u5 u6 u7
    obtain ⟨u1, u2, u3, u4, u5, u6, u7⟩ := L2.cells
    dsimp only at u6
    have HL2 : Hid (Looked B s N sv (.slice (some ⟨ib, ioff, none⟩) N icap) lv w vh vx (h, VM.meet x (i + 1), false) w2) := L2
    clear L2
    go_wp2_with fail
    go_ret
    exact ⟨rfl, HL2.out⟩

set_option maxHeartbeats 1000000 in
set_option maxRecDepth 100000 in
theorem look_split (B : Nat) (s : Site) (sv iv lv : Value) (c : VM.Co) (l : List Int) (i : Nat) (h x : List Nat) (vh vx : Value) (w : World) (S : St B s c.ins.length sv iv lv w vh vx h x false) (F : Fit B w sv iv lv c l)
    (hi : i < c.ins.length) (hh : VM.Met c.ins.length h) (ho : (VM.at_ c i).op = 2) :
    Calls Tryd.prog 46 (#[.int .i64 i] ++ caught s) w fun e w' => e = .returned (.bool (!(VM.look c l i h x).2.2)) ∧ Looked B s c.ins.length sv iv lv w vh vx (VM.look c l i h x) w' := by
  have ha := VM.right_a F.right hi (.inl ho)
  have hb := VM.right_b F.right hi ho
  have e : VM.look c l i h x = (VM.meet (VM.meet h (VM.at_ c i).a.toNat) (VM.at_ c i).b.toNat, x, false) := by unfold VM.look; simp [ho]
  rw [e]
  have hlen := F.lens.1
  have hsz := S.size
  obtain ⟨ib, ioff, icap, hiv, hib, hic⟩ := F.ins
  obtain ⟨i0, i1, i2⟩ := hic i hi
  obtain ⟨k0, k1, k2, k3, k4, k5, k6⟩ := S.cells
  have L0 := Looked.start S (.cells #[.int .i64 (VM.at_ c i).op, .int .i64 (VM.at_ c i).a, .int .i64 (VM.at_ c i).b] 50)
  rw [ho] at i0 L0
  obtain ⟨a, hA⟩ : ∃ a : Nat, (VM.at_ c i).a = a := ⟨(VM.at_ c i).a.toNat, by omega⟩
  obtain ⟨b, hB⟩ : ∃ b : Nat, (VM.at_ c i).b = b := ⟨(VM.at_ c i).b.toNat, by omega⟩
  rw [hA] at i1 L0 ha ⊢
  rw [hB] at i2 L0 hb ⊢
  rw [Int.toNat_natCast, Int.toNat_natCast]
  obtain ⟨u1, u2, u3, u4, u5, u6, u7⟩ := L0.cells
  have HL0 : Hid (Looked B s c.ins.length sv iv lv w vh vx (h, x, false) (w.alloc (.cells #[.int .i64 2, .int .i64 (a : Int), .int .i64 (b : Int)] 50))) := L0
  have HH : Hid (VM.Met c.ins.length h) := hh
  clear S F e hic hA hB hh
  subst hiv
  generalize c.ins.length = N at *
  have hiz : (i : Int) < (N : Int) := by omega
  clear ho
  have M := L0.here (by omega) HH.out (i := a) (by omega)
  clear L0
  go_enter Tryd.func46, Tryd.ntmps46
  go_wp2_with fail
  refine M.mono ?_
  rintro e w1 ⟨rfl, L1, hk⟩
  have hd0 : w1.cell? ⟨w.heap.size, 2, none⟩ = some (.int .i64 (b : Int)) := cell_of_row w1 w.heap.size 2 _ _ _ (hk _ _ (heap_alloc_new _ _))
  clear hk
  clear k0 k1 k2 k3 k4 k5 k6 u1 u2 u3 u4 u5 u6 u7 HL0 M i0 i1 i2
  obtain ⟨u1, u2, u3, u4, u5, u6, u7⟩ := L1.cells
  dsimp only at u6
  have M := L1.here (by omega) (HH.out.meet (by omega)) (i := b) (by omega)
  clear L1
  go_wp2_with fail
  refine M.mono ?_
  rintro e w2 ⟨rfl, L2, -⟩
  clear u1 u2 u3 u4 u5 u6 u7
  obtain ⟨u1, u2, u3, u4, u5, u6, u7⟩ := L2.cells
  dsimp only at u6
  have HL2 : Hid (Looked B s N sv (.slice (some ⟨ib, ioff, none⟩) N icap) lv w vh vx (VM.meet (VM.meet h a) b, x, false) w2) := L2
  clear L2
  go_wp2_with fail
  go_ret
  exact ⟨rfl, HL2.out⟩

set_option maxHeartbeats 1000000 in
set_option maxRecDepth 100000 in
theorem look_jump (B : Nat) (s : Site) (sv iv lv : Value) (c : VM.Co) (l : List Int) (i : Nat) (h x : List Nat) (vh vx : Value) (w : World) (S : St B s c.ins.length sv iv lv w vh vx h x false) (F : Fit B w sv iv lv c l)
    (hi : i < c.ins.length) (hh : VM.Met c.ins.length h) (ho : (VM.at_ c i).op = 3) :
    Calls Tryd.prog 46 (#[.int .i64 i] ++ caught s) w fun e w' => e = .returned (.bool (!(VM.look c l i h x).2.2)) ∧ Looked B s c.ins.length sv iv lv w vh vx (VM.look c l i h x) w' := by
  have ha := VM.right_a F.right hi (.inr ho)
  have e : VM.look c l i h x = (VM.meet h (VM.at_ c i).a.toNat, x, false) := by unfold VM.look; simp [ho]
  rw [e]
  have hlen := F.lens.1
  have hsz := S.size
  obtain ⟨ib, ioff, icap, hiv, hib, hic⟩ := F.ins
  obtain ⟨i0, i1, i2⟩ := hic i hi
  obtain ⟨k0, k1, k2, k3, k4, k5, k6⟩ := S.cells
  have L0 := Looked.start S (.cells #[.int .i64 (VM.at_ c i).op, .int .i64 (VM.at_ c i).a, .int .i64 (VM.at_ c i).b] 50)
  rw [ho] at i0 L0
  obtain ⟨a, hA⟩ : ∃ a : Nat, (VM.at_ c i).a = a := ⟨(VM.at_ c i).a.toNat, by omega⟩
  rw [hA] at i1 L0 ha ⊢
  rw [Int.toNat_natCast]
  obtain ⟨u1, u2, u3, u4, u5, u6, u7⟩ := L0.cells
  have HL0 : Hid (Looked B s c.ins.length sv iv lv w vh vx (h, x, false) (w.alloc (.cells #[.int .i64 3, .int .i64 (a : Int), .int .i64 (VM.at_ c i).b] 50))) := L0
  have HH : Hid (VM.Met c.ins.length h) := hh
  clear S F e hic hA hh
  generalize (VM.at_ c i).b = b at *
  subst hiv
  generalize c.ins.length = N at *
  have hiz : (i : Int) < (N : Int) := by omega
  clear ho HL0
  have M := L0.here (by omega) HH.out (i := a) (by omega)
  clear L0
  go_enter Tryd.func46, Tryd.ntmps46
  go_wp2_with fail
  refine M.mono ?_
  rintro e w2 ⟨rfl, L2, -⟩
  clear u1 u2 u3 u4 u5 u6 u7
  obtain ⟨u1, u2, u3, u4, u5, u6, u7⟩ := L2.cells
  dsimp only at u6
  have HL2 : Hid (Looked B s N sv (.slice (some ⟨ib, ioff, none⟩) N icap) lv w vh vx (VM.meet h a, x, false) w2) := L2
  clear L2
  go_wp2_with fail
  go_ret
  exact ⟨rfl, HL2.out⟩

set_option maxHeartbeats 1000000 in
set_option maxRecDepth 100000 in
theorem look_end (B : Nat) (s : Site) (sv iv lv : Value) (c : VM.Co) (l : List Int) (i : Nat) (h x : List Nat) (vh vx : Value) (w : World) (S : St B s c.ins.length sv iv lv w vh vx h x false) (F : Fit B w sv iv lv c l)
    (hi : i < c.ins.length) (hh : VM.Met c.ins.length h) (ho : (VM.at_ c i).op = 4) :
    Calls Tryd.prog 46 (#[.int .i64 i] ++ caught s) w fun e w' => e = .returned (.bool (!(VM.look c l i h x).2.2)) ∧ Looked B s c.ins.length sv iv lv w vh vx (VM.look c l i h x) w' := by
  have hnx := VM.right_next F.right hi (.inr ho)
  obtain ⟨pao, pcap, hlv, -⟩ := F.pts
  have e : VM.look c l i h x = (if l.length = 0 then VM.meet h (i + 1) else h, x, false) := by unfold VM.look; simp [ho]
  rw [e]
  have hlen := F.lens.1
  have hsz := S.size
  obtain ⟨ib, ioff, icap, hiv, hib, hic⟩ := F.ins
  obtain ⟨i0, i1, i2⟩ := hic i hi
  obtain ⟨k0, k1, k2, k3, k4, k5, k6⟩ := S.cells
  have L0 := Looked.start S (.cells #[.int .i64 (VM.at_ c i).op, .int .i64 (VM.at_ c i).a, .int .i64 (VM.at_ c i).b] 50)
  rw [ho] at i0 L0
  obtain ⟨u1, u2, u3, u4, u5, u6, u7⟩ := L0.cells
  have HL0 : Hid (Looked B s c.ins.length sv iv lv w vh vx (h, x, false) (w.alloc (.cells #[.int .i64 4, .int .i64 (VM.at_ c i).a, .int .i64 (VM.at_ c i).b] 50))) := L0
  have HH : Hid (VM.Met c.ins.length h) := hh
  clear S F e hic hh
  generalize (VM.at_ c i).a = a at *
  generalize (VM.at_ c i).b = b at *
  subst hiv
  subst hlv
  generalize c.ins.length = N at *
  generalize l.length = ll at *
  have hiz : (i : Int) < (N : Int) := by omega
  clear ho HL0
  by_cases hz : ll = 0
  · subst hz
    rw [if_pos rfl]
    have M := L0.here (by omega) HH.out hnx
    clear L0
    go_enter Tryd.func46, Tryd.ntmps46
    go_wp2_with fail
    refine M.mono ?_
    rintro e w2 ⟨rfl, L2, -⟩
    clear u1 u2 u3 u4 u5 u6 u7
    obtain ⟨u1, u2, u3, u4, u5, u6, u7⟩ := L2.cells
    dsimp only at u6
    have HL2 : Hid (Looked B s N sv (.slice (some ⟨ib, ioff, none⟩) N icap) (.slice pao 0 pcap) w vh vx (VM.meet h (i + 1), x, false) w2) := L2
    clear L2
    go_wp2_with fail
    go_ret
    exact ⟨rfl, HL2.out⟩
  · rw [if_neg hz]
    have hq : ((ll : Int) == 0) = false := by simp; omega
    have HL0 : Hid (Looked B s N sv (.slice (some ⟨ib, ioff, none⟩) N icap) (.slice pao ll pcap) w vh vx (h, x, false) (w.alloc (.cells #[.int .i64 4, .int .i64 a, .int .i64 b] 50))) := L0
    clear L0 hz
    dsimp only at u6
    go_enter Tryd.func46, Tryd.ntmps46
    go_wp2_with fail
    go_ret
    exact ⟨rfl, HL0.out⟩

set_option maxHeartbeats 1000000 in
set_option maxRecDepth 100000 in
theorem look_yes (B : Nat) (s : Site) (sv iv lv : Value) (c : VM.Co) (l : List Int) (i : Nat) (h x : List Nat) (vh vx : Value) (w : World) (S : St B s c.ins.length sv iv lv w vh vx h x false) (F : Fit B w sv iv lv c l)
    (hi : i < c.ins.length) (ho : (VM.at_ c i).op = 5) :
    Calls Tryd.prog 46 (#[.int .i64 i] ++ caught s) w fun e w' => e = .returned (.bool (!(VM.look c l i h x).2.2)) ∧ Looked B s c.ins.length sv iv lv w vh vx (VM.look c l i h x) w' := by
  have e : VM.look c l i h x = (h, x, true) := by unfold VM.look; simp [ho]
  rw [e]
  have hlen := F.lens.1
  have hsz := S.size
  obtain ⟨ib, ioff, icap, hiv, hib, hic⟩ := F.ins
  obtain ⟨i0, i1, i2⟩ := hic i hi
  obtain ⟨k0, k1, k2, k3, k4, k5, k6⟩ := S.cells
  have L0 := Looked.start S (.cells #[.int .i64 (VM.at_ c i).op, .int .i64 (VM.at_ c i).a, .int .i64 (VM.at_ c i).b] 50)
  rw [ho] at i0 L0
  obtain ⟨u1, u2, u3, u4, u5, u6, u7⟩ := L0.cells
  have HL0 : Hid (Looked B s c.ins.length sv iv lv w vh vx (h, x, false) (w.alloc (.cells #[.int .i64 5, .int .i64 (VM.at_ c i).a, .int .i64 (VM.at_ c i).b] 50))) := L0
  clear S F e hic
  generalize (VM.at_ c i).a = a at *
  generalize (VM.at_ c i).b = b at *
  subst hiv
  generalize c.ins.length = N at *
  have hiz : (i : Int) < (N : Int) := by omega
  clear ho HL0
  have L1 := L0.yes
  have d6 := L1.cells.2.2.2.2.2.1
  dsimp only at u6 d6
  have HL1 : Hid (Looked B s N sv (.slice (some ⟨ib, ioff, none⟩) N icap) lv w vh vx (h, x, true) ((w.alloc (.cells #[.int .i64 5, .int .i64 a, .int .i64 b] 50)).setCell ⟨s.by_, 0, none⟩ (.bool true))) := L1
  clear L0 L1
  go_enter Tryd.func46, Tryd.ntmps46
  go_wp2_with fail
  go_ret
  exact ⟨rfl, HL1.out⟩

theorem look_any (B : Nat) (s : Site) (sv iv lv : Value) (c : VM.Co) (l : List Int) (i : Nat) (h x : List Nat) (vh vx : Value) (w : World) (S : St B s c.ins.length sv iv lv w vh vx h x false) (F : Fit B w sv iv lv c l)
    (hi : i < c.ins.length) (hh : VM.Met c.ins.length h) (hx : VM.Met c.ins.length x) :
    Calls Tryd.prog 46 (#[.int .i64 i] ++ caught s) w fun e w' => e = .returned (.bool (!(VM.look c l i h x).2.2)) ∧ Looked B s c.ins.length sv iv lv w vh vx (VM.look c l i h x) w' := by
  have hr := VM.right_at F.right hi
  by_cases h1 : (VM.at_ c i).op = 1
  · exact look_take B s sv iv lv c l i h x vh vx w S F hi hx h1
  by_cases h2 : (VM.at_ c i).op = 2
  · exact look_split B s sv iv lv c l i h x vh vx w S F hi hh h2
  by_cases h3 : (VM.at_ c i).op = 3
  · exact look_jump B s sv iv lv c l i h x vh vx w S F hi hh h3
  by_cases h4 : (VM.at_ c i).op = 4
  · exact look_end B s sv iv lv c l i h x vh vx w S F hi hh h4
  by_cases h5 : (VM.at_ c i).op = 5
  · exact look_yes B s sv iv lv c l i h x vh vx w S F hi h5
  · unfold VM.rightIn at hr
    simp [h1, h2, h3, h4, h5] at hr

end Go.Proofs.YtddjppkpgflbjaaDoor
