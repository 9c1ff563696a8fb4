/- mean: the units of a kind. -/
import Derived.Test.YtjbdlihlcoldlaaGreatDoorG07
import Derived.Test.YtjbdlihlcoldlaaGreatDoorG29
import Derived.Test.YtjbdlihlcoldlaaGreatDoorG30
namespace Go.Proofs.YtjbdlihlcoldlaaGreatDoor.M
open Go.RowKit Go.Shelf Go.Proofs.YtjbdlihlcoldlaaGreatDoor.Q

/-- Units at hand, by their points. -/
def UnAt (w : World) (v : Value) (pts : List Int) : Prop :=
  ∃ ao cap, v = .slice ao pts.length cap ∧ pts.length ≤ cap ∧ cap ≤ 9223372036854775807 ∧ (pts ≠ [] → ∃ b off, ao = some ⟨b, off, none⟩ ∧ ∀ k (h : k < pts.length), w.cell? ⟨b, off + k * 3, none⟩ = some (.int .i64 pts[k]))

theorem UnAt.below {w w' : World} {v : Value} {pts : List Int} (h : UnAt w v pts) (hb : Below w.heap.size w w') : UnAt w' v pts := by
  obtain ⟨ao, cap, rfl, h1, h2, h3⟩ := h
  refine ⟨ao, cap, rfl, h1, h2, fun hz => ?_⟩
  obtain ⟨b, off, rfl, h4⟩ := h3 hz
  exact ⟨b, off, rfl, fun k hk => cell_below (h4 k hk) hb⟩

/-- All that a walk's block holds while patterns are made ready. -/
def WkIn (S : Wk) (T : CK.Tab) (pts : List Int) (w : World) (wb : Nat) : Prop :=
  8 ≤ wb ∧ S.n = pts.length + 1 ∧ S.n ≤ 64 ∧ ∃ uv mv av ev', w.heap[wb]? = some (.cells #[uv, mv, .int .i64 S.n, .bool S.ends, av, ev'] 154 (0, 0)) ∧ UnAt w uv pts ∧ NmAt w.heap.size w mv T ∧ Pl w.heap.size w av (mask (fun i => decide (i < pts.length)) S.n) ∧ Pl w.heap.size w ev' S.e

theorem WkIn.below {S : Wk} {T : CK.Tab} {pts : List Int} {w w' : World} {wb : Nat} (h : WkIn S T pts w wb) (hb : Below w.heap.size w w') : WkIn S T pts w' wb := by
  obtain ⟨h1, h2, h3, uv, mv, av, ev', h4, h5, h6, h7, h8⟩ := h
  exact ⟨h1, h2, h3, uv, mv, av, ev', (hb.block wb (lt_of_block h4)).trans h4, h5.below hb, h6.below hb _ hb.size, h7.below hb _ hb.size, h8.below hb _ hb.size⟩

/-- The units whose points are in a kind. -/
noncomputable def unitsQ (T : CK.Tab) (pts : List Int) (n : Nat) (k : RP.K) : Nat :=
  match CK.missK T k with
  | some _ => 0
  | none => mask (fun i => decide (i < pts.length) && RS.has (CK.setK T k) (pts.getD i 0)) n

/-- What a question on a unit loads. -/
def AskS (w : World) (bw wb bs ub : Nat) (o : Nat) (av uv sv x : Value) (W : World) : Prop :=
  W.cell? ⟨bw, 0, none⟩ = some (.pointer (some ⟨wb, 0, none⟩)) ∧ W.cell? ⟨wb, 4, none⟩ = some av ∧ W.cell? ⟨wb, 0, none⟩ = some uv ∧ W.cell? ⟨bs, 0, none⟩ = some sv ∧ W.cell? ⟨ub, o, none⟩ = some x ∧ Below w.heap.size w W

theorem AskS.open_ {w : World} {bw wb bs ub o : Nat} {av uv sv x : Value} {W : World} (h : AskS w bw wb bs ub o av uv sv x W) : W.cell? ⟨bw, 0, none⟩ = some (.pointer (some ⟨wb, 0, none⟩)) ∧ W.cell? ⟨wb, 4, none⟩ = some av ∧ W.cell? ⟨wb, 0, none⟩ = some uv ∧ W.cell? ⟨bs, 0, none⟩ = some sv ∧ W.cell? ⟨ub, o, none⟩ = some x ∧ Below w.heap.size w W := h

theorem AskS.below {w : World} {bw wb bs ub o : Nat} {av uv sv x : Value} {W W' : World} (h : AskS w bw wb bs ub o av uv sv x W) (hb : Below W.heap.size W W') : AskS w bw wb bs ub o av uv sv x W' :=
  ⟨cell_below h.1 hb, cell_below h.2.1 hb, cell_below h.2.2.1 hb, cell_below h.2.2.2.1 hb, cell_below h.2.2.2.2.1 hb, h.2.2.2.2.2.trans (hb.mono h.2.2.2.2.2.size)⟩

theorem enter193 (args : Array Value) (w : World) : (callFunc 193 args).run Tryz.prog w = .ok (.enter 193 args) w := by kernel_rfl

set_option maxHeartbeats 4000000 in
set_option maxRecDepth 100000 in
theorem ask_unit (S : Wk) (T : CK.Tab) (pts : List Int) (wb bw bs i : Nat) (sv : Value) (X : List RS.Rg) (w : World) (hi : i < S.n) (hW : WkIn S T pts w wb) (hbw : w.cell? ⟨bw, 0, none⟩ = some (.pointer (some ⟨wb, 0, none⟩))) (hbs : w.cell? ⟨bs, 0, none⟩ = some sv)
    (hX : RgAt w.heap.size w sv X) (hr : RS.right X = true) :
    Calls Tryz.prog 193 (#[.int .i64 i] ++ #[.pointer (some ⟨bw, 0, none⟩), .pointer (some ⟨bs, 0, none⟩)]) w fun e w' => e = .returned (.bool (decide (i < pts.length) && RS.has X (pts.getD i 0))) ∧ Below w.heap.size w w' := by
  show Calls Tryz.prog 193 #[.int .i64 i, .pointer (some ⟨bw, 0, none⟩), .pointer (some ⟨bs, 0, none⟩)] w _
  obtain ⟨h0, hn, hn64, uv, mv, av, ev', hwb, hu, -, hal, -⟩ := hW
  obtain ⟨ab, rfl, hab, hac, haq⟩ := hal
  have d0 : w.cell? ⟨wb, 0, none⟩ = some uv := cell_of_row w wb 0 _ _ _ hwb
  have d4 : w.cell? ⟨wb, 4, none⟩ = some (.slice (some ⟨ab, 0, none⟩) 1 1) := cell_of_row w wb 4 _ _ _ hwb
  have hbit : (mask (fun i => decide (i < pts.length)) S.n).testBit i = decide (i < pts.length) := by
    rw [mask_bit]
    simp [hi]
  have C := place_has_any ab _ i (by omega) haq w hac
  rw [hbit] at C
  have hxl := CK.right_le hr
  obtain ⟨uo, uc, rfl, hu1, hu2, hu3⟩ := hu
  obtain ⟨so, sc, rfl, -⟩ := id hX
  have d4d : w.drew.cell? ⟨wb, 4, none⟩ = some (.slice (some ⟨ab, 0, none⟩) 1 1) := d4
  by_cases hip : i < pts.length
  · rw [decide_eq_true hip] at C
    have hU : ∃ ub off, uo = some ⟨ub, off, none⟩ ∧ w.cell? ⟨ub, off + i * 3, none⟩ = some (.int .i64 pts[i]) := by
      obtain ⟨ub, off, e, h⟩ := hu3 (fun e => by rw [e] at hip; simp at hip)
      exact ⟨ub, off, e, h i hip⟩
    obtain ⟨ub, off, rfl, hcu⟩ := hU
    have hcu0 : w.cell? ⟨ub, off + i * 3 + 0, none⟩ = some (.int .i64 pts[i]) := hcu
    have D := fun W (hW : Below w.heap.size w W) => has_any (.slice so X.length sc) X pts[i] (by omega) hr W (hX.below hW _ hW.size)
    have hd : pts.getD i 0 = pts[i] := by simp [List.getD, hip]
    rw [hd, decide_eq_true hip, Bool.true_and]
    generalize RS.has X pts[i] = yes at D ⊢
    generalize pts[i] = pt at *
    have hipi : (i : Int) < (pts.length : Int) := by omega
    have HC : Hid (∀ W, W.cell? ⟨ab, 0, none⟩ = some (.int .u64 (mask (fun i => decide (i < pts.length)) S.n : Nat)) → Calls Tryz.prog 50 #[.slice (some ⟨ab, 0, none⟩) 1 1, .int .i64 i] W fun e W' => e = .returned (.bool true) ∧ W' = W) := by
      intro W hW
      have := place_has_any ab _ i (by omega) haq W hW
      rwa [hbit, decide_eq_true hip] at this
    have HD : Hid (∀ W, Below w.heap.size w W → Calls Tryz.prog 159 #[.slice so X.length sc, .int .i64 pt] W fun e W' => e = .returned (.bool yes) ∧ Below W.heap.size W W') := D
    have hA : AskS w bw wb bs ub (off + i * 3) (.slice (some ⟨ab, 0, none⟩) 1 1) (.slice (some ⟨ub, off, none⟩) pts.length uc) (.slice so X.length sc) (.int .i64 pt) w.drew := ⟨hbw, d4, d0, hbs, hcu, (Below.refl _ w).drew⟩
    have HAC : Hid (w.drew.cell? ⟨ab, 0, none⟩ = some (.int .u64 (mask (fun i => decide (i < pts.length)) S.n : Nat))) := hac
    clear C D hd hcu0 hX
    go_enter Tryz.func193, Tryz.ntmps193
    go_wp2_with fail
    go_region_held3 (fun W => W.cell? ⟨bw, 0, none⟩ = some (.pointer (some ⟨wb, 0, none⟩)) ∧ W.cell? ⟨wb, 4, none⟩ = some (.slice (some ⟨ab, 0, none⟩) 1 1) ∧ W.cell? ⟨wb, 0, none⟩ = some (.slice (some ⟨ub, off, none⟩) pts.length uc) ∧ W.cell? ⟨bs, 0, none⟩ = some (.slice so X.length sc) ∧ W.cell? ⟨ub, off + i * 3, none⟩ = some (.int .i64 pt) ∧ Below w.heap.size w W) (exact AskS.open_ (by assumption))
      (first
        | (go_at_call 50; refine (HC.out _ HAC.out).mono ?_; rintro e w5 ⟨rfl, rfl⟩)
        | (go_at_call 159; refine (HD.out _ hA.2.2.2.2.2).mono ?_; rintro e w6 ⟨rfl, hb6⟩; have hA6 := hA.below hb6))
    have HB6 : Hid (Below w.heap.size w w6) := hA6.2.2.2.2.2
    clear hA hA6 hb6
    go_wp2_with fail
    go_ret
    exact ⟨rfl, HB6.out⟩
  · rw [decide_eq_false hip] at C
    rw [decide_eq_false hip, Bool.false_and]
    have HC : Hid (∀ W, W.cell? ⟨ab, 0, none⟩ = some (.int .u64 (mask (fun i => decide (i < pts.length)) S.n : Nat)) → Calls Tryz.prog 50 #[.slice (some ⟨ab, 0, none⟩) 1 1, .int .i64 i] W fun e W' => e = .returned (.bool false) ∧ W' = W) := by
      intro W hW
      have := place_has_any ab _ i (by omega) haq W hW
      rwa [hbit, decide_eq_false hip] at this
    have hA : AskS w bw wb bs bw 0 (.slice (some ⟨ab, 0, none⟩) 1 1) (.slice uo pts.length uc) (.slice so X.length sc) (.pointer (some ⟨wb, 0, none⟩)) w.drew := ⟨hbw, d4, d0, hbs, hbw, (Below.refl _ w).drew⟩
    have HAC : Hid (w.drew.cell? ⟨ab, 0, none⟩ = some (.int .u64 (mask (fun i => decide (i < pts.length)) S.n : Nat))) := hac
    clear C hX
    go_enter Tryz.func193, Tryz.ntmps193
    go_wp2_with fail
    refine wp_region_held_drew (S := (fun W => W.cell? ⟨bw, 0, none⟩ = some (.pointer (some ⟨wb, 0, none⟩)) ∧ W.cell? ⟨wb, 4, none⟩ = some (.slice (some ⟨ab, 0, none⟩) 1 1) ∧ W.cell? ⟨wb, 0, none⟩ = some (.slice uo pts.length uc) ∧ W.cell? ⟨bs, 0, none⟩ = some (.slice so X.length sc) ∧ W.cell? ⟨bw, 0, none⟩ = some (.pointer (some ⟨wb, 0, none⟩)) ∧ Below w.heap.size w W)) (by kernel_rfl) (hA) (fun hHeld => ?_)
    refine wpAnyH_take (i := 0) (oi := { dst := some 5, op := Op.load 225 (Operand.tmp 1), type := 225, pos := "walk.go:72", after := #[], guard := none }) (v := ?_) rfl (by kernel_rfl) (by kernel_rfl) (by kernel_rfl) (fun _ _ _ h => h) (Or.inl ⟨by rfl, ?_⟩) (by assumption) ?_
    rotate_left
    · (intro w hSw; (try dsimp only at hSw); go_simp) <;> try with_reducible rfl
    try simp only [Act.put, List.setIfInBounds_toArray, List.set_cons_zero, List.set_cons_succ]
    refine wpAnyH_take (i := 1) (oi := { dst := some 6, op := Op.nilCheck (Operand.tmp 5), type := 0, pos := "walk.go:72", after := #[{ on := 0, ground := Ground.data }], guard := none }) (v := ?_) rfl (by kernel_rfl) (by kernel_rfl) (by kernel_rfl) (fun _ _ _ h => h) (Or.inl ⟨by rfl, ?_⟩) (by assumption) ?_
    rotate_left
    · (intro w hSw; (try dsimp only at hSw); go_simp) <;> try with_reducible rfl
    try simp only [Act.put, List.setIfInBounds_toArray, List.set_cons_zero, List.set_cons_succ]
    refine wpAnyH_take (i := 2) (oi := { dst := some 7, op := Op.fieldAddr 154 (Operand.tmp 6) 4, type := 0, pos := "walk.go:72", after := #[{ on := 1, ground := Ground.data }], guard := none }) (v := ?_) rfl (by kernel_rfl) (by kernel_rfl) (by kernel_rfl) (fun _ _ _ h => h) (Or.inl ⟨by rfl, ?_⟩) (by assumption) ?_
    rotate_left
    · (intro w hSw; (try dsimp only at hSw); go_simp) <;> try with_reducible rfl
    try simp only [Act.put, List.setIfInBounds_toArray, List.set_cons_zero, List.set_cons_succ]
    refine wpAnyH_take (i := 3) (oi := { dst := some 8, op := Op.load 110 (Operand.tmp 7), type := 110, pos := "walk.go:72", after := #[{ on := 2, ground := Ground.data }], guard := none }) (v := ?_) rfl (by kernel_rfl) (by kernel_rfl) (by kernel_rfl) (fun _ _ _ h => h) (Or.inl ⟨by rfl, ?_⟩) (by assumption) ?_
    rotate_left
    · (intro w hSw; (try dsimp only at hSw); go_simp) <;> try with_reducible rfl
    try simp only [Act.put, List.setIfInBounds_toArray, List.set_cons_zero, List.set_cons_succ]
    refine wpAnyH_take (i := 4) (oi := { dst := some 9, op := Op.move (Operand.tmp 0), type := 3, pos := "walk.go:72", after := #[], guard := none }) (v := ?_) rfl (by kernel_rfl) (by kernel_rfl) (by kernel_rfl) (fun _ _ _ h => h) (Or.inl ⟨by rfl, ?_⟩) (by assumption) ?_
    rotate_left
    · (intro w hSw; (try dsimp only at hSw); go_simp) <;> try with_reducible rfl
    try simp only [Act.put, List.setIfInBounds_toArray, List.set_cons_zero, List.set_cons_succ]
    refine wpAnyH_ready (rs := [5]) (by kernel_rfl) (by simp) ?_
    refine AllReadyH.cons (o := { dst := some 10, op := Op.call { callee := Callee.value (Operand.func 50), args := #[Operand.tmp 8, Operand.tmp 9], argTypes := #[110, 3] }, type := 4, pos := "walk.go:72", after := #[{ on := 3, ground := Ground.data }, { on := 4, ground := Ground.data }], guard := none }) rfl (fun K hK => ?_) AllReadyH.nil
    go_simp
    refine (HC.out _ HAC.out).mono ?_
    rintro e w5 ⟨rfl, rfl⟩
    go_wp2_with fail
    refine hK.out _ _ ?_ (fun hHeld => ?_)
    · exact hHeld
    clear hK K
    try simp only [Act.put, List.setIfInBounds_toArray, List.set_cons_zero, List.set_cons_succ]
    refine wpAnyH_take (i := 6) (oi := { dst := some 11, op := Op.move (Operand.tmp 10), type := 4, pos := "walk.go:72", after := #[{ on := 5, ground := Ground.data }, { on := 5, ground := Ground.chain }], guard := none }) (v := ?_) rfl (by kernel_rfl) (by kernel_rfl) (by kernel_rfl) (fun _ _ _ h => h) (Or.inl ⟨by rfl, ?_⟩) (by assumption) ?_
    rotate_left
    · (intro w hSw; (try dsimp only at hSw); go_simp) <;> try with_reducible rfl
    try simp only [Act.put, List.setIfInBounds_toArray, List.set_cons_zero, List.set_cons_succ]
    refine wpAnyH_take (i := 7) (oi := { dst := some 12, op := Op.load 41 (Operand.tmp 2), type := 41, pos := "walk.go:72", after := #[{ on := 6, ground := Ground.guard }], guard := some (6, true) }) (v := undef) rfl (by kernel_rfl) (by kernel_rfl) (by kernel_rfl) (fun _ _ _ h => h) (Or.inr ⟨by rfl, rfl⟩) (by assumption) ?_
    try simp only [Act.put, List.setIfInBounds_toArray, List.set_cons_zero, List.set_cons_succ]
    refine wpAnyH_take (i := 8) (oi := { dst := some 13, op := Op.load 225 (Operand.tmp 1), type := 225, pos := "walk.go:72", after := #[{ on := 6, ground := Ground.guard }], guard := some (6, true) }) (v := undef) rfl (by kernel_rfl) (by kernel_rfl) (by kernel_rfl) (fun _ _ _ h => h) (Or.inr ⟨by rfl, rfl⟩) (by assumption) ?_
    try simp only [Act.put, List.setIfInBounds_toArray, List.set_cons_zero, List.set_cons_succ]
    refine wpAnyH_take (i := 9) (oi := { dst := some 14, op := Op.nilCheck (Operand.tmp 13), type := 0, pos := "walk.go:72", after := #[{ on := 8, ground := Ground.data }, { on := 6, ground := Ground.guard }], guard := some (6, true) }) (v := undef) rfl (by kernel_rfl) (by kernel_rfl) (by kernel_rfl) (fun _ _ _ h => h) (Or.inr ⟨by rfl, rfl⟩) (by assumption) ?_
    try simp only [Act.put, List.setIfInBounds_toArray, List.set_cons_zero, List.set_cons_succ]
    refine wpAnyH_take (i := 10) (oi := { dst := some 15, op := Op.fieldAddr 154 (Operand.tmp 14) 0, type := 0, pos := "walk.go:72", after := #[{ on := 9, ground := Ground.data }, { on := 6, ground := Ground.guard }], guard := some (6, true) }) (v := undef) rfl (by kernel_rfl) (by kernel_rfl) (by kernel_rfl) (fun _ _ _ h => h) (Or.inr ⟨by rfl, rfl⟩) (by assumption) ?_
    try simp only [Act.put, List.setIfInBounds_toArray, List.set_cons_zero, List.set_cons_succ]
    refine wpAnyH_take (i := 11) (oi := { dst := some 16, op := Op.load 51 (Operand.tmp 15), type := 51, pos := "walk.go:72", after := #[{ on := 10, ground := Ground.data }, { on := 6, ground := Ground.guard }], guard := some (6, true) }) (v := undef) rfl (by kernel_rfl) (by kernel_rfl) (by kernel_rfl) (fun _ _ _ h => h) (Or.inr ⟨by rfl, rfl⟩) (by assumption) ?_
    try simp only [Act.put, List.setIfInBounds_toArray, List.set_cons_zero, List.set_cons_succ]
    refine wpAnyH_take (i := 12) (oi := { dst := some 17, op := Op.move (Operand.tmp 0), type := 3, pos := "walk.go:72", after := #[{ on := 6, ground := Ground.guard }], guard := some (6, true) }) (v := undef) rfl (by kernel_rfl) (by kernel_rfl) (by kernel_rfl) (fun _ _ _ h => h) (Or.inr ⟨by rfl, rfl⟩) (by assumption) ?_
    try simp only [Act.put, List.setIfInBounds_toArray, List.set_cons_zero, List.set_cons_succ]
    refine wpAnyH_take (i := 13) (oi := { dst := some 18, op := Op.indexAddr 51 (Operand.tmp 16) (Operand.tmp 17), type := 0, pos := "walk.go:72", after := #[{ on := 11, ground := Ground.data }, { on := 12, ground := Ground.data }, { on := 6, ground := Ground.guard }], guard := some (6, true) }) (v := undef) rfl (by kernel_rfl) (by kernel_rfl) (by kernel_rfl) (fun _ _ _ h => h) (Or.inr ⟨by rfl, rfl⟩) (by assumption) ?_
    try simp only [Act.put, List.setIfInBounds_toArray, List.set_cons_zero, List.set_cons_succ]
    refine wpAnyH_take (i := 14) (oi := { dst := some 19, op := Op.fieldAddr 62 (Operand.tmp 18) 0, type := 0, pos := "walk.go:72", after := #[{ on := 13, ground := Ground.data }, { on := 6, ground := Ground.guard }], guard := some (6, true) }) (v := undef) rfl (by kernel_rfl) (by kernel_rfl) (by kernel_rfl) (fun _ _ _ h => h) (Or.inr ⟨by rfl, rfl⟩) (by assumption) ?_
    try simp only [Act.put, List.setIfInBounds_toArray, List.set_cons_zero, List.set_cons_succ]
    refine wpAnyH_take (i := 15) (oi := { dst := some 20, op := Op.load 3 (Operand.tmp 19), type := 3, pos := "walk.go:72", after := #[{ on := 14, ground := Ground.data }, { on := 6, ground := Ground.guard }], guard := some (6, true) }) (v := undef) rfl (by kernel_rfl) (by kernel_rfl) (by kernel_rfl) (fun _ _ _ h => h) (Or.inr ⟨by rfl, rfl⟩) (by assumption) ?_
    try simp only [Act.put, List.setIfInBounds_toArray, List.set_cons_zero, List.set_cons_succ]
    refine wpAnyH_take (i := 16) (oi := { dst := some 21, op := Op.call { callee := Callee.value (Operand.func 159), args := #[Operand.tmp 12, Operand.tmp 20], argTypes := #[41, 3] }, type := 4, pos := "walk.go:72", after := #[{ on := 7, ground := Ground.data }, { on := 15, ground := Ground.data }, { on := 6, ground := Ground.chain }, { on := 6, ground := Ground.guard }], guard := some (6, true) }) (v := undef) rfl (by kernel_rfl) (by kernel_rfl) (by kernel_rfl) (fun _ _ _ h => h) (Or.inr ⟨by rfl, rfl⟩) (by assumption) ?_
    try simp only [Act.put, List.setIfInBounds_toArray, List.set_cons_zero, List.set_cons_succ]
    refine wpAnyH_take (i := 17) (oi := { dst := some 22, op := Op.pick (Operand.tmp 11) (Operand.tmp 21) (Operand.const (Value.bool false)), type := 4, pos := "walk.go:72", after := #[{ on := 6, ground := Ground.data }, { on := 16, ground := Ground.data }], guard := none }) (v := ?_) rfl (by kernel_rfl) (by kernel_rfl) (by kernel_rfl) (fun _ _ _ h => h) (Or.inl ⟨by rfl, ?_⟩) (by assumption) ?_
    rotate_left
    · (intro w hSw; (try dsimp only at hSw); go_simp) <;> try with_reducible rfl
    try simp only [Act.put, List.setIfInBounds_toArray, List.set_cons_zero, List.set_cons_succ]
    refine wpAnyH_take (i := 18) (oi := { dst := some 4, op := Op.assign (Operand.tmp 22), type := 4, pos := "walk.go:72", after := #[{ on := 17, ground := Ground.data }, { on := 16, ground := Ground.chain }, { on := 0, ground := Ground.phase }, { on := 1, ground := Ground.phase }, { on := 2, ground := Ground.phase }, { on := 3, ground := Ground.phase }, { on := 4, ground := Ground.phase }, { on := 5, ground := Ground.phase }, { on := 6, ground := Ground.phase }, { on := 7, ground := Ground.phase }, { on := 8, ground := Ground.phase }, { on := 9, ground := Ground.phase }, { on := 10, ground := Ground.phase }, { on := 11, ground := Ground.phase }, { on := 12, ground := Ground.phase }, { on := 13, ground := Ground.phase }, { on := 14, ground := Ground.phase }, { on := 15, ground := Ground.phase }, { on := 16, ground := Ground.phase }, { on := 17, ground := Ground.phase }], guard := none }) (v := ?_) rfl (by kernel_rfl) (by kernel_rfl) (by kernel_rfl) (fun _ _ _ h => h) (Or.inl ⟨by rfl, ?_⟩) (by assumption) ?_
    rotate_left
    · (intro w hSw; (try dsimp only at hSw); go_simp) <;> try with_reducible rfl
    try simp only [Act.put, List.setIfInBounds_toArray, List.set_cons_zero, List.set_cons_succ]
    refine wpAnyH_done (by kernel_rfl) ?_ _
    clear hA hHeld
    go_wp2_with fail
    go_ret
    exact ⟨rfl, (Below.refl _ w).drew⟩

set_option maxHeartbeats 4000000 in
set_option maxRecDepth 100000 in
theorem unitsOf_any (S : Wk) (T : CK.Tab) (pts : List Int) (wb : Nat) (k : RP.K) (kv : Value) (w : World) (hW : WkIn S T pts w wb) (hf : CK.Fit k) (hk : KAt (fun _ => True) w kv k) :
    Calls Tryz.prog 137 #[.pointer (some ⟨wb, 0, none⟩), kv] w (PlNew w (unitsQ T pts S.n k)) := by
  have hwk := hW
  obtain ⟨h0, hn, hn64, uv, mv, av, ev', hwb, hu, hm, hal, -⟩ := hW
  have hb0 : Below w.heap.size w (w.alloc (.cells #[.pointer (some ⟨wb, 0, none⟩)] 225)) := (Below.refl _ w).alloc (Nat.le_refl _) _
  have K := kind_set_any T k kv mv _ hf (hk.keep (keepsB hb0)) (hm.below hb0 _ hb0.size)
  have c1 : (w.alloc (.cells #[.pointer (some ⟨wb, 0, none⟩)] 225)).cell? ⟨wb, 1, none⟩ = some mv := cell_below (cell_of_row w wb 1 _ _ _ hwb) hb0
  have HB0 : Hid (Below w.heap.size w (w.alloc (.cells #[.pointer (some ⟨wb, 0, none⟩)] 225))) := hb0
  have HBX : Hid ((w.alloc (.cells #[.pointer (some ⟨wb, 0, none⟩)] 225)).heap[w.heap.size]? = some (.cells #[.pointer (some ⟨wb, 0, none⟩)] 225 (0, 0))) := heap_alloc_new _ _
  have HWK : Hid (WkIn S T pts (w.alloc (.cells #[.pointer (some ⟨wb, 0, none⟩)] 225)) wb) := hwk.below hb0
  have hn1 : 1 ≤ S.n := by omega
  obtain ⟨mb, _, _, rfl, -⟩ := hm
  obtain ⟨kb, rfl⟩ := hk.ptr
  clear hwb hu hal hk hwk hb0 hn h0
  go_enter Tryz.func137, Tryz.ntmps137
  go_wp2_with fail
  refine K.mono ?_
  rintro e w1 ⟨hb1, hs⟩
  have HW1 : Hid (WkIn S T pts w1 wb) := HWK.out.below hb1
  have HB1 : Hid (Below w.heap.size w w1) := HB0.out.trans (hb1.mono HB0.out.size)
  have hbx1 := (hb1.block w.heap.size (by simp)).trans HBX.out
  have b0 : w1.cell? ⟨w.heap.size, 0, none⟩ = some (.pointer (some ⟨wb, 0, none⟩)) := cell_of_row w1 w.heap.size 0 _ _ _ hbx1
  have hd2 : w1.cell? ⟨wb, 2, none⟩ = some (.int .i64 S.n) := by
    obtain ⟨_, _, _, _, _, _, _, hwb, _⟩ := HW1.out
    exact cell_of_row w1 wb 2 _ _ _ hwb
  have hws := HB1.out.size
  have hbl : w.heap.size < w1.heap.size := lt_of_block hbx1
  have hwbl : wb < w1.heap.size := cell_lt hd2
  clear K hb1 hbx1 c1
  cases hmk : CK.missK T k with
  | some a =>
    have HQ : Hid (unitsQ T pts S.n k = 0) := by show _ = _; unfold unitsQ; simp only [hmk]
    simp only [hmk] at hs
    obtain ⟨g, rfl, -, -⟩ := hs
    have C := nowhere_any S.n hn1 hn64 (w1.alloc (.cells #[.slice none 0 0] 41))
    go_wp2_with fail
    refine C.mono ?_
    rintro e w2 ⟨rfl, hw2⟩
    have HR : Hid (PlNew w 0 (.returned (.slice (some ⟨(w1.alloc (.cells #[.slice none 0 0] 41)).heap.size, 0, none⟩) 1 1)) w2) := by
      refine ⟨⟨_, rfl, ?_, ?_, ?_, by decide⟩, ?_⟩
      · simp; omega
      · rw [hw2]; simp
      · rw [hw2]; simp
      · rw [hw2]; exact (HB1.out.alloc HB1.out.size _).alloc (by simp; omega) _
    clear C hw2
    simp only [World.size_alloc] at HR ⊢
    go_wp2_with fail
    go_ret
    rw [HQ.out]
    exact HR.out
  | none =>
    have HQ : Hid (unitsQ T pts S.n k = mask (fun i => decide (i < pts.length) && RS.has (CK.setK T k) (pts.getD i 0)) S.n) := by show _ = _; unfold unitsQ; simp only [hmk]
    simp only [hmk] at hs
    obtain ⟨sv, rfl, hsv, hsr⟩ := hs
    have hb2 : Below w1.heap.size w1 (w1.alloc (.cells #[sv] 41)) := (Below.refl _ w1).alloc (Nat.le_refl _) _
    have hbs : (w1.alloc (.cells #[sv] 41)).cell? ⟨w1.heap.size, 0, none⟩ = some sv := by simp
    have C := which_new S.n hn1 hn64 193 #[.pointer (some ⟨w.heap.size, 0, none⟩), .pointer (some ⟨w1.heap.size, 0, none⟩)] (fun i => decide (i < pts.length) && RS.has (CK.setK T k) (pts.getD i 0)) (w1.alloc (.cells #[sv] 41)) enter193
      (fun i hi W hW => ask_unit S T pts wb w.heap.size w1.heap.size i sv (CK.setK T k) W hi ((HW1.out.below hb2).below hW) (cell_below (cell_below b0 hb2) hW) (cell_below hbs hW) ((hsv.below hb2 _ hb2.size).below hW _ hW.size) hsr)
    have HB2 : Hid (Below w.heap.size w (w1.alloc (.cells #[sv] 41))) := HB1.out.alloc HB1.out.size _
    obtain ⟨so, sc, rfl, -⟩ := hsv
    generalize (CK.setK T k).length = xn at *
    clear hb2 hbs hsr hmk
    go_wp2_with fail
    refine C.mono ?_
    rintro e w2 ⟨⟨vb, rfl, hvb, hv⟩, hb⟩
    have HR : Hid (PlNew w _ (.returned (.slice (some ⟨vb, 0, none⟩) 1 1)) w2) := ⟨⟨vb, rfl, Nat.le_trans HB2.out.size hvb, hv⟩, HB2.out.trans (hb.mono HB2.out.size)⟩
    clear C hb hv hvb
    go_wp2_with fail
    go_ret
    rw [HQ.out]
    exact HR.out

end Go.Proofs.YtjbdlihlcoldlaaGreatDoor.M

namespace Go.Proofs.YtjbdlihlcoldlaaGreatDoor.Q
open Go.RowKit Go.Shelf Go.Maps

/-- What Names tells. -/
def NamesSay (w : World) (r : Except (Nat × Nat) CK.Tab) (e : Ending) (w' : World) : Prop :=
  Below w.heap.size w w' ∧ match r with
    | .ok T => ∃ mv, e = .returned (.tuple #[mv, .nilIface]) ∧ NmAt w'.heap.size w' mv T
    | .error b => ∃ g, e = .returned (.tuple #[.map none, .iface 96 (.pointer (some ⟨g, 0, none⟩))]) ∧ w'.heap[g]? = some (.cells #[.int .i64 b.1, .int .i64 b.2] 98) ∧ w.heap.size ≤ g

theorem rg_kept {B : Nat} {w w' : World} {v : Value} {X : List RS.Rg} {row : Option Nat} (h : RgAt B w v X) (hg : w.grownBy w' row) (hr : ∀ k, row = some k → ∀ j, w.cell? ⟨k, j, none⟩ = none) : RgAt B w' v X := by
  obtain ⟨ao, cap, rfl, hc, h⟩ := h
  refine ⟨ao, cap, rfl, hc, fun hz => ?_⟩
  obtain ⟨b, off, e, hbl, hcc⟩ := h hz
  refine ⟨b, off, e, hbl, fun k hk => ?_⟩
  obtain ⟨c1, c2⟩ := hcc k hk
  have hne : some b ≠ row := fun e' => by have := hr b e'.symm (off + k * 2); rw [this] at c1; cases c1
  exact ⟨hg.cell c1 hne, hg.cell c2 hne⟩

theorem map_cell {w : World} {b : Nat} {es : Array MapEntry} {c : Nat} (h : w.heap[b]? = some (.map es c)) (j : Nat) : w.cell? ⟨b, j, none⟩ = none := by
  simp [World.cell?, h]

/-- One more name. -/
theorem NmAt.put {w w' : World} {mb n : Nat} {D : DataW Value} {T : CK.Tab} {x : List UInt8} {X : List RS.Rg} {u : Value}
    (h1 : w.ownsMap Tryz.prog 9 heldElem mb n D) (h4 : ∀ x : List UInt8, Maps.has D (.string x) = (CK.look T x).isSome)
    (h5 : ∀ x X, CK.look T x = some X → ∃ u, (∀ z, D.atKey (.string x) z = .held u) ∧ RgAt w.heap.size w u X ∧ RS.right X = true) (hx : CK.look T x = none) (hxl : x.length ≤ 5000) (hu : RgAt w.heap.size w u X) (hr : RS.right X = true)
    (hn : n ≤ T.length) (hown : w'.ownsMap Tryz.prog 9 heldElem mb (n + 1) (D.put (.string x) (.held u))) (hg : w.grownBy w' (some mb)) :
    NmAt w'.heap.size w' (.map (some mb)) (T ++ [(x, X)]) := by
  have hkey := keyed9.key (key9 x hxl)
  have hD := h1.isMap
  have hmap : ∀ j, w.cell? ⟨mb, j, none⟩ = none := by
    obtain ⟨es, c, hb, _⟩ := h1
    exact map_cell hb
  have hrg : ∀ {u : Value} {X : List RS.Rg}, RgAt w.heap.size w u X → RgAt w'.heap.size w' u X := fun h => by
    have h2 := rg_kept h hg (fun k e j => by cases e; exact hmap j)
    obtain ⟨ao, cap, rfl, hc, h3⟩ := h2
    refine ⟨ao, cap, rfl, hc, fun hz => ?_⟩
    obtain ⟨b, off, e, hbl, hcc⟩ := h3 hz
    exact ⟨b, off, e, Nat.lt_of_lt_of_le hbl hg.size, hcc⟩
  refine ⟨mb, n + 1, _, rfl, hown.lt, by simp; omega, hown, fun y => ?_, fun y Y hy => ?_⟩
  · rw [CK.look_append]
    by_cases hxy : x = y
    · subst hxy
      rw [has_put_same hD hkey, hx]
      simp
    · rw [has_put_other (fun e => hxy (by injection e with e; exact e.symm)), h4, if_neg hxy]
      cases CK.look T y <;> rfl
  · rw [CK.look_append] at hy
    by_cases hxy : x = y
    · subst hxy
      rw [hx, if_pos rfl] at hy
      cases hy
      exact ⟨u, fun z => atKey_put_same hD hkey _ z, hrg hu, hr⟩
    · rw [if_neg hxy] at hy
      cases hl : CK.look T y with
      | none => rw [hl] at hy; cases hy
      | some Z =>
        rw [hl] at hy
        cases hy
        obtain ⟨u2, k1, k2, k3⟩ := h5 y _ hl
        exact ⟨u2, fun z => by rw [atKey_put_other (fun e => hxy (by injection e with e; exact e.symm))]; exact k1 z, hrg k2, k3⟩

theorem NmAt.new {w : World} {T : CK.Tab} {b : Nat} (hT : T = []) (h : w.ownsMap Tryz.prog 9 heldElem b 0 (.map [])) : NmAt w.heap.size w (.map (some b)) T := by
  subst hT
  exact ⟨b, 0, _, rfl, h.lt, Nat.le_refl _, h, fun _ => rfl, fun x X hx => by cases hx⟩

theorem namesL_step {T : CK.Tab} {c : RP.Cl} {cs : List RP.Cl} : CK.namesL 9 7 (c :: cs) T = if (CK.look T c.name).isSome then .error (9, c.at_) else match CK.missK T c.kind with
      | some a => .error (7, a)
      | none => CK.namesL 9 7 cs (T ++ [(c.name, CK.setK T c.kind)]) := rfl

set_option maxHeartbeats 8000000 in
set_option maxRecDepth 100000 in
theorem names_any (f : RP.Fi) (v : Value) (w : World) (hF : CK.FitF f) (h : FAt (fun _ => True) w v f) : Calls Tryz.prog 12 #[v] w (NamesSay w (CK.namesL 9 7 f.classes [])) := by
  obtain ⟨cs, rs, els⟩ := f
  obtain ⟨cv, rv, vs, us, rfl, h1, h2, h3, h4⟩ := h
  dsimp only at h1 h2 h3 h4 ⊢
  obtain ⟨hf1, -, hf3, -⟩ := hF
  dsimp only at hf1 hf3
  obtain ⟨co, cc, rfl, hcc, hcg⟩ := row_cells h1
  obtain ⟨ro, rc, rfl, -, -⟩ := row_cells h2
  obtain ⟨n, hn⟩ : ∃ n, n = cs.length := ⟨_, rfl⟩
  obtain ⟨rn, hrn⟩ : ∃ n, n = rs.length := ⟨_, rfl⟩
  rw [← hn] at hcc hf3 ⊢
  rw [← hrn]
  have HN : Hid (n = cs.length) := hn
  have HF : Hid (∀ c ∈ cs, CK.Fit c.kind ∧ c.name.length ≤ 10) := hf1
  have HC : Hid (CsAt (fun _ => True) w vs cs ∧ (vs ≠ [] → ∃ g off, co = some ⟨g, off, none⟩ ∧ g < w.heap.size ∧ ∀ j u, vs[j]? = some u → w.cell? ⟨g, off + j, none⟩ = some u)) := ⟨h3, hcg⟩
  have hmm : ∀ W : World, (Instr.makeMap 29 (some (.int .i64 (n : Nat)))).run Tryz.prog W = .ok (.map (some W.heap.size)) (W.alloc (.map #[] 0)) := fun W => by
    simp [Instr.makeMap, go_sem]
  clear h1 h2 h3 h4 hcg hn hrn hf1
  go_enter Tryz.func12, Tryz.ntmps12
  go_wp2_with fail
  have hown := World.ownsMap_made (w.alloc (.cells #[.slice co n cc, .slice ro rn rc, .bool els] 26)) Tryz.prog 9 heldElem
  have hbs : Below w.heap.size w ((w.alloc (.cells #[.slice co n cc, .slice ro rn rc, .bool els] 26)).alloc (.map #[] 0)) := ((Below.refl _ w).alloc (Nat.le_refl _) _).alloc (by simp) _
  have hsz : (w.alloc (.cells #[.slice co n cc, .slice ro rn rc, .bool els] 26)).heap.size = w.heap.size + 1 := by simp
  rw [hsz] at hown
  have HM0 : Hid (NmAt _ _ (.map (some (w.heap.size + 1))) []) := NmAt.new rfl hown
  have HB0 : Hid (Below w.heap.size w ((w.alloc (.cells #[.slice co n cc, .slice ro rn rc, .bool els] 26)).alloc (.map #[] 0))) := hbs
  clear hown hbs hsz hmm
  go_loopw [18] (fun i wr => ∃ (k : Nat) (T : CK.Tab), k ≤ n ∧ i = .int .i64 k ∧ Below w.heap.size w wr ∧ NmAt wr.heap.size wr (.map (some (w.heap.size + 1))) T ∧ T.length ≤ k ∧ CK.namesL 9 7 cs [] = CK.namesL 9 7 (cs.drop k) T) (fun i _ => n - (intOf i).toNat)
  case atStart => exact ⟨0, [], Nat.zero_le _, rfl, HB0.out, HM0.out, Nat.le_refl _, rfl⟩
  case round =>
    obtain ⟨k, T, hk, rfl, hb, hm, hTl, he⟩ := hrel
    by_cases hlt : k < n
    · have hkp : k < cs.length := by have := HN.out; omega
      obtain ⟨kv, y0, y1, y2, hKA⟩ := HC.out.1.get k hkp
      obtain ⟨g, off, rfl, hgl, hcell⟩ := HC.out.2 (fun e => by rw [e] at y0; simp at y0)
      have x0 := (hb.cell (p := ⟨g, off + k * 3, none⟩) (by exact hgl)).trans (hcell _ _ y0)
      have x1 := (hb.cell (p := ⟨g, off + (k * 3 + 1), none⟩) (by exact hgl)).trans (hcell _ _ y1)
      have x2 := (hb.cell (p := ⟨g, off + (k * 3 + 2), none⟩) (by exact hgl)).trans (hcell _ _ y2)
      rw [← Nat.add_assoc] at x1 x2
      obtain ⟨hfit, hnl⟩ := HF.out cs[k] (List.getElem_mem hkp)
      rw [List.drop_eq_getElem_cons hkp, namesL_step] at he
      obtain ⟨c, hc⟩ : ∃ c, c = cs[k] := ⟨_, rfl⟩
      rw [← hc] at x0 x1 hKA hfit hnl he
      obtain ⟨kb, rfl⟩ := hKA.ptr
      have hb1 : Below wr.heap.size wr (wr.alloc (.cells #[.string ⟨c.name.toArray⟩, .int .i64 c.at_, .pointer (some ⟨kb, 0, none⟩)] 94)) := (Below.refl _ wr).alloc (Nat.le_refl _) _
      have hm1 := hm.below hb1 _ hb1.size
      have hbx := hb.trans (hb1.mono hb.size)
      obtain ⟨mb', u0, hmb, fl, -, -, -⟩ := hm1.find c.name (by omega)
      cases hmb
      have K := kind_set_any T c.kind (.pointer (some ⟨kb, 0, none⟩)) (.map (some (w.heap.size + 1))) _ hfit (hKA.keep (keepsB hbx)) hm1
      have hki : (k : Int) < n := by omega
      have hkey := key9 c.name (by omega)
      have hboxn := heap_alloc_new wr (.cells #[.string ⟨c.name.toArray⟩, .int .i64 c.at_, .pointer (some ⟨kb, 0, none⟩)] 94)
      generalize hyy : (⟨c.name.toArray⟩ : ByteArray) = y at x0 fl hb1 hm1 hbx K hkey hboxn
      have HBX : Hid (Below w.heap.size w (wr.alloc (.cells #[.string y, .int .i64 c.at_, .pointer (some ⟨kb, 0, none⟩)] 94))) := hbx
      have HBN : Hid ((wr.alloc (.cells #[.string y, .int .i64 c.at_, .pointer (some ⟨kb, 0, none⟩)] 94)).heap[wr.heap.size]? = some (.cells #[.string y, .int .i64 c.at_, .pointer (some ⟨kb, 0, none⟩)] 94)) := hboxn
      have HM1 : Hid (NmAt _ (wr.alloc (.cells #[.string y, .int .i64 c.at_, .pointer (some ⟨kb, 0, none⟩)] 94)) (.map (some (w.heap.size + 1))) T) := hm1
      have HE : Hid (CK.namesL 9 7 cs [] = _) := he
      have HK : Hid (keyOf Tryz.prog 9 (.string y) = some (.string c.name)) := hkey
      have hws := hb.size
      cases hl : (CK.look T c.name).isSome with
      | true =>
        rw [hl] at fl
        have HE2 : Hid (CK.namesL 9 7 cs [] = .error (9, c.at_)) := by show _ = _; rw [HE.out, hl]; rfl
        clear hc y0 y1 y2 hcell hKA hfit he hb hm hm1 hbx hkey K hboxn hl HM1 hb1
        go_wp2_with fail
        go_region_law (fail)
        all_goals
          go_wp2_with fail
          go_ret2
          rw [HE2.out]
          refine ⟨?_, _, rfl, ?_, ?_⟩
          · first
            | exact (HBX.out.alloc HBX.out.size _).drew
            | exact (HBX.out.drew).alloc HBX.out.size _
          · have h := heap_alloc_new (wr.alloc (.cells #[.string y, .int .i64 c.at_, .pointer (some ⟨kb, 0, none⟩)] 94)) (.cells #[.int .i64 9, .int .i64 c.at_] 98)
            rw [show (wr.alloc (.cells #[.string y, .int .i64 c.at_, .pointer (some ⟨kb, 0, none⟩)] 94)).heap.size = wr.heap.size + 1 by simp] at h
            exact h
          · have := HBX.out.size
            simpa using this
      | false =>
        rw [hl] at fl
        have HL : Hid (CK.look T c.name = none) := by
          show _ = _
          cases hx : CK.look T c.name with
          | none => rfl
          | some _ => rw [hx] at hl; cases hl
        have HE2 : Hid (CK.namesL 9 7 cs [] = match CK.missK T c.kind with
            | some a => .error (7, a)
            | none => CK.namesL 9 7 (cs.drop (k + 1)) (T ++ [(c.name, CK.setK T c.kind)])) := by show _ = _; rw [HE.out, hl]; rfl
        clear hc y0 y1 y2 hcell hKA hfit he hb hm hm1 hbx hkey hboxn hl hb1 HE
        go_wp2_with fail
        refine K.mono ?_
        rintro e w2 ⟨hb2, hs⟩
        have HB2 : Hid (Below w.heap.size w w2) := HBX.out.trans (hb2.mono HBX.out.size)
        have hbox2 := (hb2.block wr.heap.size (lt_of_block HBN.out)).trans HBN.out
        have HM2 : Hid (NmAt w2.heap.size w2 (.map (some (w.heap.size + 1))) T) := HM1.out.below hb2 _ hb2.size
        have n0 := loc_cell (k := 0) hbox2 rfl
        clear K x0 x1 x2 fl hb2 hbox2
        cases hmk : CK.missK T c.kind with
        | some a =>
          simp only [hmk] at hs
          obtain ⟨g2, rfl, h1, h2⟩ := hs
          have HR : Hid (NamesSay w (CK.namesL 9 7 cs []) (.returned (.tuple #[.map none, .iface 96 (.pointer (some ⟨g2, 0, none⟩))])) w2) := by
            have e := HE2.out
            simp only [hmk] at e
            rw [e]
            refine ⟨HB2.out, g2, rfl, h1, ?_⟩
            simp at h2
            omega
          clear h1 n0 hmk
          go_wp2_with fail
          go_ret2
          exact HR.out
        | none =>
          simp only [hmk] at hs
          obtain ⟨sv, rfl, hsv, hsr⟩ := hs
          have HE3 : Hid (CK.namesL 9 7 cs [] = CK.namesL 9 7 (cs.drop (k + 1)) (T ++ [(c.name, CK.setK T c.kind)])) := by
            have e := HE2.out
            simp only [hmk] at e
            exact e
          obtain ⟨mb', nn, D, hmb, hmlt, hnT, hown2, hhas, hat⟩ := HM2.out
          cases hmb
          have HP : Hid (∀ w3, w3.ownsMap Tryz.prog 9 heldElem (w.heap.size + 1) (nn + 1) (D.put (.string c.name) (.held sv)) → w2.grownBy w3 (some (w.heap.size + 1)) → NmAt w3.heap.size w3 (.map (some (w.heap.size + 1))) (T ++ [(c.name, CK.setK T c.kind)])) :=
            fun w3 ho hg => NmAt.put hown2 hhas hat HL.out (by omega) hsv hsr hnT ho hg
          have hnm : nn < maxLen := by unfold maxLen; omega
          obtain ⟨so, sc, rfl, -⟩ := hsv
          have HO2 : Hid (w2.ownsMap Tryz.prog 9 heldElem (w.heap.size + 1) nn D) := hown2
          generalize (CK.setK T c.kind).length = sn at *
          clear hown2 hhas hat hmk hmlt
          go_wp2_with (at_mapUpdate; refine wpList_mapUpdate_own _ rfl _ _ _ 29 rfl 9 41 keyed9 Tryz.underlying29 heldElem (w.heap.size + 1) nn D rfl HO2.out hnm _ _ (.string c.name) rfl rfl HK.out (.held (.slice so sn sc)) [] rfl ?_)
          intro w3 hown3 hg3
          have HM3 := HP.out w3 hown3 hg3
          have HM3' : Hid (NmAt w3.heap.size w3 (.map (some (w.heap.size + 1))) (T ++ [(c.name, CK.setK T c.kind)])) := HM3
          have HB3 : Hid (Below w.heap.size w w3) := HB2.out.grown hg3 HB2.out.size (fun j hj => by cases hj; omega)
          clear HM3 hown3 hg3 n0
          go_wp2_with fail
          case roundEnd => exact ⟨⟨k + 1, _, by omega, by go_num, HB3.out, HM3'.out, by simp; omega, HE3.out⟩, by simp [intOf]; omega⟩
    · obtain rfl : n = k := by omega
      have hd : cs.drop n = [] := by rw [HN.out]; exact List.drop_length
      rw [hd] at he
      have HR : Hid (NamesSay w (CK.namesL 9 7 cs []) (.returned (.tuple #[.map (some (w.heap.size + 1)), .nilIface])) wr) := by rw [he]; exact ⟨hb, _, rfl, hm⟩
      clear hb hm he hd
      go_wp2_with fail
      go_ret2
      exact HR.out

end Go.Proofs.YtjbdlihlcoldlaaGreatDoor.Q

namespace Go.Proofs.YtjbdlihlcoldlaaGreatDoor.Q
open Go.RowKit Go.Shelf Go.Maps

theorem PAt.isPtr {ok : Nat → Prop} {w : World} {v : Value} {p : RP.Pt} (hf : CK.FitP p false) (h : PAt ok w [v] p) : ∃ b, v = .pointer (some ⟨b, 0, none⟩) := by
  cases p with
  | nil => cases hf
  | cons p ps => cases hf.1
  | one k => obtain ⟨b', _, e, _⟩ := h; cases e; exact ⟨_, rfl⟩
  | any => obtain ⟨b', e, _⟩ := h; cases e; exact ⟨_, rfl⟩
  | edge => obtain ⟨b', e, _⟩ := h; cases e; exact ⟨_, rfl⟩
  | cat ps => obtain ⟨b', _, _, e, _⟩ := h; cases e; exact ⟨_, rfl⟩
  | alt ps => obtain ⟨b', _, _, e, _⟩ := h; cases e; exact ⟨_, rfl⟩
  | many p lo hi => obtain ⟨b', _, _, e, _⟩ := h; cases e; exact ⟨_, rfl⟩

/-- What Check tells. -/
def CheckSay (w : World) (r : Option (Nat × Nat)) (e : Ending) (w' : World) : Prop :=
  Below w.heap.size w w' ∧ match r with
    | none => e = .returned .nilIface
    | some b => ∃ g, e = .returned (.iface 96 (.pointer (some ⟨g, 0, none⟩))) ∧ w'.heap[g]? = some (.cells #[.int .i64 b.1, .int .i64 b.2] 98) ∧ w.heap.size ≤ g

theorem FAt.below {w w' : World} {v : Value} {f : RP.Fi} (h : FAt (fun _ => True) w v f) (hb : Below w.heap.size w w') : FAt (fun _ => True) w' v f := by
  have hk := keepsB hb
  obtain ⟨cv, rv, vs, us, rfl, h1, h2, h3, h4⟩ := h
  exact ⟨cv, rv, vs, us, rfl, h1.keep hk, h2.keep hk, CsAt.keep hk h3, RsAt.keep hk h4⟩

theorem below_alloc1 (w : World) (o : Obj) : Below w.heap.size w (w.alloc o) := (Below.refl _ w).alloc (Nat.le_refl _) _

set_option maxHeartbeats 8000000 in
set_option maxRecDepth 100000 in
theorem check_any (f : RP.Fi) (v : Value) (w : World) (hF : CK.FitF f) (h : FAt (fun _ => True) w v f) : Calls Tryz.prog 37 #[v] w (CheckSay w (CK.checkF 9 7 f)) := by
  have hFA := h
  obtain ⟨cs, rs, els⟩ := f
  obtain ⟨cv, rv, vs, us, rfl, h1, h2, h3, h4⟩ := h
  dsimp only at h1 h2 h3 h4
  obtain ⟨co, cc, rfl, -, -⟩ := row_cells h1
  obtain ⟨ro, rc, rfl, hrc, hrg⟩ := row_cells h2
  have N := names_any ⟨cs, rs, els⟩ _ (w.alloc (.cells #[.slice co cs.length cc, .slice ro rs.length rc, .bool els] 26)) hF (hFA.below (below_alloc1 _ _))
  dsimp only at N
  have hbox := heap_alloc_new w (.cells #[.slice co cs.length cc, .slice ro rs.length rc, .bool els] 26)
  obtain ⟨-, hf2, -, hf4⟩ := hF
  dsimp only at hf2 hf4
  have HCK : Hid (CK.checkF 9 7 ⟨cs, rs, els⟩ = match CK.namesL 9 7 cs [] with
      | .error b => some b
      | .ok T => (CK.missR T rs).map fun a => (7, a)) := rfl
  generalize CK.checkF 9 7 ⟨cs, rs, els⟩ = res at HCK ⊢
  obtain ⟨n, hn⟩ : ∃ n, n = rs.length := ⟨_, rfl⟩
  obtain ⟨cn, hcn⟩ : ∃ n, n = cs.length := ⟨_, rfl⟩
  rw [← hn] at hrc hf4 N hbox ⊢
  rw [← hcn] at N hbox ⊢
  have HN : Hid (n = rs.length) := hn
  have HF : Hid (∀ r ∈ rs, CK.FitP r.before false ∧ CK.FitP r.after false) := hf2
  have HC : Hid (RsAt (fun _ => True) w us rs ∧ (us ≠ [] → ∃ g off, ro = some ⟨g, off, none⟩ ∧ g < w.heap.size ∧ ∀ j u, us[j]? = some u → w.cell? ⟨g, off + j, none⟩ = some u)) := ⟨h4, hrg⟩
  have HBX : Hid (_ = _) := hbox
  clear h1 h2 h3 h4 hrg hn hcn hf2 hFA hbox
  generalize CK.namesL 9 7 cs [] = nm at N HCK
  go_enter Tryz.func37, Tryz.ntmps37
  go_wp2_with fail
  refine N.mono ?_
  rintro e w1 ⟨hb1, hs⟩
  have hB1 : Below w.heap.size w w1 := (below_alloc1 _ _).trans (hb1.mono (below_alloc1 w _).size)
  have hbox1 := (hb1.block w.heap.size (by simp)).trans HBX.out
  have r1 := loc_cell (k := 1) hbox1 rfl
  have HB1 : Hid (Below w.heap.size w w1) := hB1
  clear N hb1 hbox1 hB1 HBX
  cases nm with
  | error b =>
    obtain ⟨g, rfl, k1, k2⟩ := hs
    have HR : Hid (CheckSay w res (.returned (.iface 96 (.pointer (some ⟨g, 0, none⟩)))) w1) := by
      rw [HCK.out]
      refine ⟨HB1.out, g, rfl, k1, ?_⟩
      simp at k2
      omega
    clear k1
    go_wp2_with fail
    go_ret
    exact HR.out
  | ok T =>
    obtain ⟨mv, rfl, hm⟩ := hs
    have HM : Hid (NmAt w1.heap.size w1 mv T) := hm
    obtain ⟨mb, _, _, rfl, -⟩ := hm
    go_wp2_with fail
    go_loopw [20] (fun i wr => ∃ (k : Nat), k ≤ n ∧ i = .int .i64 k ∧ Below w1.heap.size w1 wr ∧ CK.missR T rs = CK.missR T (rs.drop k)) (fun i _ => n - (intOf i).toNat)
    case atStart => exact ⟨0, Nat.zero_le _, rfl, Below.refl _ _, rfl⟩
    case round =>
      obtain ⟨k, hk, rfl, hb, he⟩ := hrel
      by_cases hlt : k < n
      · have hkp : k < rs.length := by have := HN.out; omega
        have hbw := HB1.out.trans (hb.mono HB1.out.size)
        obtain ⟨bv, av, y0, y1, y2, y3, hPB, hPA⟩ := HC.out.1.get k hkp
        obtain ⟨g, off, rfl, hgl, hcell⟩ := HC.out.2 (fun e => by rw [e] at y0; simp at y0)
        have x0 := (hbw.cell (p := ⟨g, off + k * 4, none⟩) (by exact hgl)).trans (hcell _ _ y0)
        have x1 := (hbw.cell (p := ⟨g, off + (k * 4 + 1), none⟩) (by exact hgl)).trans (hcell _ _ y1)
        have x2 := (hbw.cell (p := ⟨g, off + (k * 4 + 2), none⟩) (by exact hgl)).trans (hcell _ _ y2)
        have x3 := (hbw.cell (p := ⟨g, off + (k * 4 + 3), none⟩) (by exact hgl)).trans (hcell _ _ y3)
        rw [← Nat.add_assoc] at x1 x2 x3
        obtain ⟨hfb, hfa⟩ := HF.out rs[k] (List.getElem_mem hkp)
        rw [List.drop_eq_getElem_cons hkp] at he
        obtain ⟨r, hr⟩ : ∃ r, r = rs[k] := ⟨_, rfl⟩
        rw [← hr] at x0 x1 hPB hPA hfb hfa he
        obtain ⟨bb, rfl⟩ := hPB.isPtr hfb
        obtain ⟨ab, rfl⟩ := hPA.isPtr hfa
        have hba : Below w1.heap.size w1 (wr.alloc (.cells #[.int .i64 r.at_, .bool r.brk, .pointer (some ⟨bb, 0, none⟩), .pointer (some ⟨ab, 0, none⟩)] 50)) := hb.alloc hb.size _
        have hbaw := HB1.out.trans (hba.mono HB1.out.size)
        have C := (patternMissing_any T r.before).1 _ (.map (some mb)) _ hfb (hPB.keep (keepsB hbaw)) (HM.out.below hba _ hba.size)
        have HD : Hid (∀ W, Below w1.heap.size w1 W → Calls Tryz.prog 62 #[.pointer (some ⟨ab, 0, none⟩), .map (some mb)] W (MissSay W (CK.missP T r.after))) := fun W hW =>
          (patternMissing_any T r.after).1 _ _ W hfa (hPA.keep (keepsB (HB1.out.trans (hW.mono HB1.out.size)))) (HM.out.below hW _ hW.size)
        have hboxn := heap_alloc_new wr (.cells #[.int .i64 r.at_, .bool r.brk, .pointer (some ⟨bb, 0, none⟩), .pointer (some ⟨ab, 0, none⟩)] 50)
        have HBN : Hid (_ = _) := hboxn
        have HBA : Hid (Below w1.heap.size w1 (wr.alloc (.cells #[.int .i64 r.at_, .bool r.brk, .pointer (some ⟨bb, 0, none⟩), .pointer (some ⟨ab, 0, none⟩)] 50))) := hba
        have HE : Hid (CK.missR T rs = ((CK.missP T r.before).or (CK.missP T r.after)).or (CK.missR T (rs.drop (k + 1)))) := he
        have hki : (k : Int) < n := by omega
        generalize CK.missP T r.before = m1 at C HE
        generalize CK.missP T r.after = m2 at HD HE
        clear hr hb hbw y0 y1 y2 y3 hcell hPB hPA hfb hfa he hba hbaw hboxn
        go_wp2_with fail
        refine C.mono ?_
        rintro e w2 h2
        have h3 := h2.after (below_alloc1 wr (.cells #[.int .i64 r.at_, .bool r.brk, .pointer (some ⟨bb, 0, none⟩), .pointer (some ⟨ab, 0, none⟩)] 50))
        obtain ⟨hb2, hs2⟩ := h2
        have HB2 : Hid (Below w1.heap.size w1 w2) := HBA.out.trans (hb2.mono HBA.out.size)
        have hbox2 := (hb2.block wr.heap.size (by simp)).trans HBN.out
        have n3 := loc_cell (k := 3) hbox2 rfl
        clear C hb2 hbox2 x0 x1 x2 x3 h3 HBN
        cases m1 with
        | some a =>
          obtain ⟨g2, rfl, k1, k2⟩ := hs2
          have HR : Hid (CheckSay w res (.returned (.iface 96 (.pointer (some ⟨g2, 0, none⟩)))) w2) := by
            rw [HCK.out]
            rw [HE.out]
            refine ⟨HB1.out.trans (HB2.out.mono HB1.out.size), g2, rfl, k1, ?_⟩
            have := HB1.out.size
            have := HBA.out.size
            simp at k2 this
            omega
          clear k1 n3
          go_wp2_with fail
          go_ret
          exact HR.out
        | none =>
          obtain rfl := hs2
          have D := HD.out w2 HB2.out
          go_wp2_with fail
          refine D.mono ?_
          rintro e w3 ⟨hb3, hs3⟩
          have HB3 : Hid (Below w1.heap.size w1 w3) := HB2.out.trans (hb3.mono HB2.out.size)
          clear D hb3 n3
          cases m2 with
          | some a =>
            obtain ⟨g2, rfl, k1, k2⟩ := hs3
            have HR : Hid (CheckSay w res (.returned (.iface 96 (.pointer (some ⟨g2, 0, none⟩)))) w3) := by
              rw [HCK.out]
              rw [HE.out]
              refine ⟨HB1.out.trans (HB3.out.mono HB1.out.size), g2, rfl, k1, ?_⟩
              have := HB1.out.size
              have := HB2.out.size
              omega
            clear k1
            go_wp2_with fail
            go_ret
            exact HR.out
          | none =>
            obtain rfl := hs3
            go_wp2_with fail
            case roundEnd => exact ⟨⟨k + 1, by omega, by go_num, HB3.out, HE.out⟩, by simp [intOf]; omega⟩
      · obtain rfl : n = k := by omega
        have hd : rs.drop n = [] := by rw [HN.out]; exact List.drop_length
        rw [hd] at he
        have HR : Hid (CheckSay w res (.returned .nilIface) wr) := by
          rw [HCK.out]
          rw [he]
          exact ⟨HB1.out.trans (hb.mono HB1.out.size), rfl⟩
        clear hb he hd
        go_wp2_with fail
        go_ret
        exact HR.out

end Go.Proofs.YtjbdlihlcoldlaaGreatDoor.Q
