/- The contracts of utf.appendPoint and utf.Encode. -/
import Derived.Test.YtneemepjpeohbaaDoorDec
import Derived.Test.YtneemepjpeohbaaDoorStep
namespace Go.Proofs.YtneemepjpeohbaaDoor
open Go.RowKit

theorem info5 : (Tryd.prog.info? 5).map (fun i => (i.zero, i.size, i.bytes)) = some (some (.int .u8 0), 1, 1) := by kernel_rfl

set_option maxHeartbeats 1000000 in
set_option maxRecDepth 100000 in
theorem append_1 (B : Nat) (v : Value) (n : Nat) (xs : List Value) (p : Int) (h0 : 0 ≤ p) (h : p < 128) (w : World) (hL : LE w) (hB : B ≤ w.heap.size) (hown : w.ownsRow B 5 1 v n xs) (hn : n ≤ 1000000) :
    Calls Tryd.prog 21 #[v, .int .i64 p] w fun e w' => ∃ v', e = .returned v' ∧ w'.ownsRow B 5 1 v' (n + 1) (xs ++ [.int .u8 p]) ∧ Below B w w' := by
  obtain ⟨i0, hi, hz0, hz1, hz2⟩ := info_parts info5
  go_enter Tryd.func21, Tryd.ntmps21
  go_wp2_with fail
  refine (lengthOf_1 _ h _ hL).mono ?_
  rintro e w' ⟨rfl, rfl⟩
  go_wp2_with (at_builtin; refine wpList_append_own _ rfl _ _ 51 rfl B 5 i0 (.int .u8 0) 1 1 Tryd.underlying51 hi hz0 hz1 hz2 rfl (by decide) _ _ _ rfl (hown.alloc _) ⟨w'.heap.size, 0, none⟩ 1 1 [.int .u8 p] rfl rfl ?_ ?_ ?_ ?_ ?_ ?_)
  rotate_right
  · intro v' w1 hown' hgrow _
    have hb : Below B w' w1 := ((Below.refl B w').alloc hB _).grown hgrow (by simp; omega) (fun k hk => (hown.lt k hk).1)
    clear hgrow
    go_wp2
    go_ret
    exact ⟨_, rfl, hown', hb⟩
  · intro j u hj
    match j, hj with
    | 0, hj => simp at hj; subst hj; simp [Addr.add]
    | j + 1, hj => simp at hj
  · intro u hu; simp at hu; subst hu; rfl
  · unfold maxLen; omega
  · omega
  · simp; omega

theorem one_u8 (c : Int) : ∀ u ∈ [Value.int .u8 c], u.oneCell' = true := by intro u hu; simp at hu; subst hu; rfl

set_option maxHeartbeats 1000000 in
set_option maxRecDepth 100000 in
theorem append_2 (B : Nat) (v : Value) (n : Nat) (xs : List Value) (p : Int) (h0 : 128 ≤ p) (h : p < 2048) (w : World) (hL : LE w) (hB : B ≤ w.heap.size) (hown : w.ownsRow B 5 1 v n xs) (hn : n ≤ 1000000)
    (c0 c1 : Int) (e0 : IntKind.u8.wrap (bits .or .i64 16320 (p / 64)) = c0) (e1 : bits .or .i64 128 (bits .and .i64 p 63) % 256 = c1) :
    Calls Tryd.prog 21 #[v, .int .i64 p] w fun e w' => ∃ v', e = .returned v' ∧ w'.ownsRow B 5 1 v' (n + 2) (xs ++ [.int .u8 c0, .int .u8 c1]) ∧ Below B w w' := by
  obtain ⟨i0, hi, hz0, hz1, hz2⟩ := info_parts info5
  have B0 : Hid (n + 1 ≤ maxLen) := by show _ ≤ _; unfold maxLen; omega
  have D0 : Hid ((n + 1) * 1 ≤ 140737488355328) := by show _ ≤ _; omega
  have B1 : Hid (n + 1 + 1 ≤ maxLen) := by show _ ≤ _; unfold maxLen; omega
  have D1 : Hid ((n + 1 + 1) * 1 ≤ 140737488355328) := by show _ ≤ _; omega
  have HB : Hid (B ≤ w.heap.size + 1) := by show _ ≤ _; omega
  go_enter Tryd.func21, Tryd.ntmps21
  go_wp2_with fail
  refine (lengthOf_2 _ h0 h _ hL).mono ?_
  rintro e w' ⟨rfl, rfl⟩
  have k1 : IntKind.i64.wrap 1 = 1 := by decide
  have k2 : IntKind.i64.wrap 2 = 2 := by decide
  have k3 : IntKind.i64.wrap 3 = 3 := by decide
  have k6 : IntKind.i64.wrap 6 = 6 := by decide
  go_wp2_with fail
  go_region_law (refine step_append_own rfl (.tmp 16) (.tmp 26) 51 rfl B 5 i0 (.int .u8 0) 1 1 Tryd.underlying51 hi hz0 hz1 hz2 rfl (by decide) v n xs (by simp [Act.eval]) (hown.alloc _).drew ⟨w'.heap.size, 0, none⟩ 1 1 [.int .u8 c0] (by simp [Act.eval]) rfl (cell_one_new _ _ _) (one_u8 _) B0.out D0.out (by simpa using HB.out) ?_; intro v1 w1 hown1 hgrow1)
  have hb1 : Hid (Below B w' w1) := (((Below.refl B w').alloc hB _).drew).grown hgrow1 (by simp; omega) (fun k hk => (hown.lt k hk).1)
  clear hgrow1 hown
  have HB1 : Hid (B ≤ w1.heap.size + 1) := by have := hb1.out.size; show _ ≤ _; omega
  go_wp2_with fail
  refine wp_loop_rounds 2 ?_
  rw [rounds_succ]
  go_wp2_with (at_builtin; refine wpList_append_own _ rfl _ _ 51 rfl B 5 i0 (.int .u8 0) 1 1 Tryd.underlying51 hi hz0 hz1 hz2 rfl (by decide) _ _ _ rfl (hown1.alloc _) ⟨w1.heap.size, 0, none⟩ 1 1 [.int .u8 c1] rfl rfl (cell_one_new _ _ _) (one_u8 _) B1.out D1.out (by simpa using HB1.out) ?_; intro v2 w2 hown2 hgrow2 _)
  have hb2 : Hid (Below B w' w2) := (hb1.out.alloc (Nat.le_trans hB hb1.out.size) _).grown hgrow2 (by have := HB1.out; simpa using this) (fun k hk => (hown1.lt k hk).1)
  clear hgrow2 hown1
  have HB2 : Hid (B ≤ w2.heap.size + 1) := by have := hb2.out.size; show _ ≤ _; omega
  go_wp2_with fail
  rw [rounds_succ]
  go_wp2_with fail
  go_ret
  exact ⟨_, rfl, by simpa using hown2, hb2.out⟩

set_option maxHeartbeats 1000000 in
set_option maxRecDepth 100000 in
theorem append_3 (B : Nat) (v : Value) (n : Nat) (xs : List Value) (p : Int) (h0 : 2048 ≤ p) (h : p < 65536) (w : World) (hL : LE w) (hB : B ≤ w.heap.size) (hown : w.ownsRow B 5 1 v n xs) (hn : n ≤ 1000000)
    (c0 c1 c2 : Int) (e0 : IntKind.u8.wrap (bits .or .i64 8160 (p / 4096)) = c0) (e1 : bits .or .i64 128 (bits .and .i64 (p / 64) 63) % 256 = c1) (e2 : bits .or .i64 128 (bits .and .i64 p 63) % 256 = c2) :
    Calls Tryd.prog 21 #[v, .int .i64 p] w fun e w' => ∃ v', e = .returned v' ∧ w'.ownsRow B 5 1 v' (n + 3) (xs ++ [.int .u8 c0, .int .u8 c1, .int .u8 c2]) ∧ Below B w w' := by
  obtain ⟨i0, hi, hz0, hz1, hz2⟩ := info_parts info5
  have B0 : Hid (n + 1 ≤ maxLen) := by show _ ≤ _; unfold maxLen; omega
  have D0 : Hid ((n + 1) * 1 ≤ 140737488355328) := by show _ ≤ _; omega
  have B1 : Hid (n + 1 + 1 ≤ maxLen) := by show _ ≤ _; unfold maxLen; omega
  have D1 : Hid ((n + 1 + 1) * 1 ≤ 140737488355328) := by show _ ≤ _; omega
  have B2 : Hid (n + 1 + 1 + 1 ≤ maxLen) := by show _ ≤ _; unfold maxLen; omega
  have D2 : Hid ((n + 1 + 1 + 1) * 1 ≤ 140737488355328) := by show _ ≤ _; omega
  have HB : Hid (B ≤ w.heap.size + 1) := by show _ ≤ _; omega
  go_enter Tryd.func21, Tryd.ntmps21
  go_wp2_with fail
  refine (lengthOf_3 _ h0 h _ hL).mono ?_
  rintro e w' ⟨rfl, rfl⟩
  have k1 : IntKind.i64.wrap 1 = 1 := by decide
  have k2 : IntKind.i64.wrap 2 = 2 := by decide
  have k3 : IntKind.i64.wrap 3 = 3 := by decide
  have k6 : IntKind.i64.wrap 12 = 12 := by decide
  go_wp2_with fail
  go_region_law (refine step_append_own rfl (.tmp 16) (.tmp 26) 51 rfl B 5 i0 (.int .u8 0) 1 1 Tryd.underlying51 hi hz0 hz1 hz2 rfl (by decide) v n xs (by simp [Act.eval]) (hown.alloc _).drew ⟨w'.heap.size, 0, none⟩ 1 1 [.int .u8 c0] (by simp [Act.eval]) rfl (cell_one_new _ _ _) (one_u8 _) B0.out D0.out (by simpa using HB.out) ?_; intro v1 w1 hown1 hgrow1)
  have hb1 : Hid (Below B w' w1) := (((Below.refl B w').alloc hB _).drew).grown hgrow1 (by simp; omega) (fun k hk => (hown.lt k hk).1)
  clear hgrow1 hown
  have HB1 : Hid (B ≤ w1.heap.size + 1) := by have := hb1.out.size; show _ ≤ _; omega
  go_wp2_with fail
  refine wp_loop_rounds 3 ?_
  rw [rounds_succ]
  go_wp2_with (at_builtin; refine wpList_append_own _ rfl _ _ 51 rfl B 5 i0 (.int .u8 0) 1 1 Tryd.underlying51 hi hz0 hz1 hz2 rfl (by decide) _ _ _ rfl (hown1.alloc _) ⟨w1.heap.size, 0, none⟩ 1 1 [.int .u8 c1] rfl rfl (cell_one_new _ _ _) (one_u8 _) B1.out D1.out (by simpa using HB1.out) ?_; intro v2 w2 hown2 hgrow2 _)
  have hb2 : Hid (Below B w' w2) := (hb1.out.alloc (Nat.le_trans hB hb1.out.size) _).grown hgrow2 (by have := HB1.out; simpa using this) (fun k hk => (hown1.lt k hk).1)
  clear hgrow2 hown1
  have HB2 : Hid (B ≤ w2.heap.size + 1) := by have := hb2.out.size; show _ ≤ _; omega
  go_wp2_with fail
  rw [rounds_succ]
  go_wp2_with (at_builtin; refine wpList_append_own _ rfl _ _ 51 rfl B 5 i0 (.int .u8 0) 1 1 Tryd.underlying51 hi hz0 hz1 hz2 rfl (by decide) _ _ _ rfl (hown2.alloc _) ⟨w2.heap.size, 0, none⟩ 1 1 [.int .u8 c2] rfl rfl (cell_one_new _ _ _) (one_u8 _) B2.out D2.out (by simpa using HB2.out) ?_; intro v3 w3 hown3 hgrow3 _)
  have hb3 : Hid (Below B w' w3) := (hb2.out.alloc (Nat.le_trans hB hb2.out.size) _).grown hgrow3 (by have := HB2.out; simpa using this) (fun k hk => (hown2.lt k hk).1)
  clear hgrow3 hown2
  have HB3 : Hid (B ≤ w3.heap.size + 1) := by have := hb3.out.size; show _ ≤ _; omega
  go_wp2_with fail
  rw [rounds_succ]
  go_wp2_with fail
  go_ret
  exact ⟨_, rfl, by simpa using hown3, hb3.out⟩

set_option maxHeartbeats 1000000 in
set_option maxRecDepth 100000 in
theorem append_4 (B : Nat) (v : Value) (n : Nat) (xs : List Value) (p : Int) (h0 : 65536 ≤ p) (_h : p < 2000000) (w : World) (hL : LE w) (hB : B ≤ w.heap.size) (hown : w.ownsRow B 5 1 v n xs) (hn : n ≤ 1000000)
    (c0 c1 c2 c3 : Int) (e0 : IntKind.u8.wrap (bits .or .i64 4080 (p / 262144)) = c0) (e1 : bits .or .i64 128 (bits .and .i64 (p / 4096) 63) % 256 = c1) (e2 : bits .or .i64 128 (bits .and .i64 (p / 64) 63) % 256 = c2) (e3 : bits .or .i64 128 (bits .and .i64 p 63) % 256 = c3) :
    Calls Tryd.prog 21 #[v, .int .i64 p] w fun e w' => ∃ v', e = .returned v' ∧ w'.ownsRow B 5 1 v' (n + 4) (xs ++ [.int .u8 c0, .int .u8 c1, .int .u8 c2, .int .u8 c3]) ∧ Below B w w' := by
  obtain ⟨i0, hi, hz0, hz1, hz2⟩ := info_parts info5
  have B0 : Hid (n + 1 ≤ maxLen) := by show _ ≤ _; unfold maxLen; omega
  have D0 : Hid ((n + 1) * 1 ≤ 140737488355328) := by show _ ≤ _; omega
  have B1 : Hid (n + 1 + 1 ≤ maxLen) := by show _ ≤ _; unfold maxLen; omega
  have D1 : Hid ((n + 1 + 1) * 1 ≤ 140737488355328) := by show _ ≤ _; omega
  have B2 : Hid (n + 1 + 1 + 1 ≤ maxLen) := by show _ ≤ _; unfold maxLen; omega
  have D2 : Hid ((n + 1 + 1 + 1) * 1 ≤ 140737488355328) := by show _ ≤ _; omega
  have B3 : Hid (n + 1 + 1 + 1 + 1 ≤ maxLen) := by show _ ≤ _; unfold maxLen; omega
  have D3 : Hid ((n + 1 + 1 + 1 + 1) * 1 ≤ 140737488355328) := by show _ ≤ _; omega
  have HB : Hid (B ≤ w.heap.size + 1) := by show _ ≤ _; omega
  go_enter Tryd.func21, Tryd.ntmps21
  go_wp2_with fail
  refine (lengthOf_4 _ h0 _ hL).mono ?_
  rintro e w' ⟨rfl, rfl⟩
  have k1 : IntKind.i64.wrap 1 = 1 := by decide
  have k2 : IntKind.i64.wrap 2 = 2 := by decide
  have k3 : IntKind.i64.wrap 3 = 3 := by decide
  have k6 : IntKind.i64.wrap 18 = 18 := by decide
  go_wp2_with fail
  go_region_law (refine step_append_own rfl (.tmp 16) (.tmp 26) 51 rfl B 5 i0 (.int .u8 0) 1 1 Tryd.underlying51 hi hz0 hz1 hz2 rfl (by decide) v n xs (by simp [Act.eval]) (hown.alloc _).drew ⟨w'.heap.size, 0, none⟩ 1 1 [.int .u8 c0] (by simp [Act.eval]) rfl (cell_one_new _ _ _) (one_u8 _) B0.out D0.out (by simpa using HB.out) ?_; intro v1 w1 hown1 hgrow1)
  have hb1 : Hid (Below B w' w1) := (((Below.refl B w').alloc hB _).drew).grown hgrow1 (by simp; omega) (fun k hk => (hown.lt k hk).1)
  clear hgrow1 hown
  have HB1 : Hid (B ≤ w1.heap.size + 1) := by have := hb1.out.size; show _ ≤ _; omega
  go_wp2_with fail
  refine wp_loop_rounds 4 ?_
  rw [rounds_succ]
  go_wp2_with (at_builtin; refine wpList_append_own _ rfl _ _ 51 rfl B 5 i0 (.int .u8 0) 1 1 Tryd.underlying51 hi hz0 hz1 hz2 rfl (by decide) _ _ _ rfl (hown1.alloc _) ⟨w1.heap.size, 0, none⟩ 1 1 [.int .u8 c1] rfl rfl (cell_one_new _ _ _) (one_u8 _) B1.out D1.out (by simpa using HB1.out) ?_; intro v2 w2 hown2 hgrow2 _)
  have hb2 : Hid (Below B w' w2) := (hb1.out.alloc (Nat.le_trans hB hb1.out.size) _).grown hgrow2 (by have := HB1.out; simpa using this) (fun k hk => (hown1.lt k hk).1)
  clear hgrow2 hown1
  have HB2 : Hid (B ≤ w2.heap.size + 1) := by have := hb2.out.size; show _ ≤ _; omega
  go_wp2_with fail
  rw [rounds_succ]
  go_wp2_with (at_builtin; refine wpList_append_own _ rfl _ _ 51 rfl B 5 i0 (.int .u8 0) 1 1 Tryd.underlying51 hi hz0 hz1 hz2 rfl (by decide) _ _ _ rfl (hown2.alloc _) ⟨w2.heap.size, 0, none⟩ 1 1 [.int .u8 c2] rfl rfl (cell_one_new _ _ _) (one_u8 _) B2.out D2.out (by simpa using HB2.out) ?_; intro v3 w3 hown3 hgrow3 _)
  have hb3 : Hid (Below B w' w3) := (hb2.out.alloc (Nat.le_trans hB hb2.out.size) _).grown hgrow3 (by have := HB2.out; simpa using this) (fun k hk => (hown2.lt k hk).1)
  clear hgrow3 hown2
  have HB3 : Hid (B ≤ w3.heap.size + 1) := by have := hb3.out.size; show _ ≤ _; omega
  go_wp2_with fail
  rw [rounds_succ]
  go_wp2_with (at_builtin; refine wpList_append_own _ rfl _ _ 51 rfl B 5 i0 (.int .u8 0) 1 1 Tryd.underlying51 hi hz0 hz1 hz2 rfl (by decide) _ _ _ rfl (hown3.alloc _) ⟨w3.heap.size, 0, none⟩ 1 1 [.int .u8 c3] rfl rfl (cell_one_new _ _ _) (one_u8 _) B3.out D3.out (by simpa using HB3.out) ?_; intro v4 w4 hown4 hgrow4 _)
  have hb4 : Hid (Below B w' w4) := (hb3.out.alloc (Nat.le_trans hB hb3.out.size) _).grown hgrow4 (by have := HB3.out; simpa using this) (fun k hk => (hown3.lt k hk).1)
  clear hgrow4 hown3
  have HB4 : Hid (B ≤ w4.heap.size + 1) := by have := hb4.out.size; show _ ≤ _; omega
  go_wp2_with fail
  rw [rounds_succ]
  go_wp2_with fail
  go_ret
  exact ⟨_, rfl, by simpa using hown4, hb4.out⟩

/-- A byte, as a value. -/
def byteV (b : UInt8) : Value := .int .u8 (b.toNat : Int)

theorem byteV_of (n : Nat) (h : n < 256) : byteV (UInt8.ofNat n) = .int .u8 (n : Int) := by unfold byteV; rw [U8.toNat_of h]

theorem lead_byte (x y i : Nat) (hx : x % 2 ^ i = 0) (hy : y < 2 ^ i) (hi : i ≤ 8) (hxs : x < 65536) : IntKind.u8.wrap (bits .or .i64 (x : Int) (y : Int)) = (((x + y) % 256 : Nat) : Int) := by
  have h2 : 2 ^ i ≤ 2 ^ 8 := Nat.pow_le_pow_right (by omega) hi
  rw [i64_or_nat _ _ (by omega) (by omega), nat_join i x y hx hy, IntKind.wrap_u8']
  omega

theorem tail_byte (x : Nat) (hx : x < 10000000) : bits .or .i64 128 (bits .and .i64 (x : Int) 63) % 256 = ((128 + x % 64 : Nat) : Int) := by
  rw [show (63 : Int) = ((63 : Nat) : Int) from rfl, i64_and_nat _ _ (by omega) (by omega), nat_mask6, show (128 : Int) = ((128 : Nat) : Int) from rfl, i64_or_nat _ _ (by omega) (by omega), nat_join 6 128 (x % 64) (by omega) (by omega)]
  omega

theorem appendPoint_any (B : Nat) (v : Value) (n : Nat) (xs : List Value) (p : Nat) (hp : U8.isPt p = true) (w : World) (hL : LE w) (hB : B ≤ w.heap.size) (hown : w.ownsRow B 5 1 v n xs) (hn : n ≤ 1000000) :
    Calls Tryd.prog 21 #[v, .int .i64 p] w fun e w' => ∃ v', e = .returned v' ∧ w'.ownsRow B 5 1 v' (n + U8.lenOf p) (xs ++ (U8.enc p).map byteV) ∧ Below B w w' := by
  rw [U8.isPt_nat] at hp
  by_cases g1 : p < 128
  · have h := append_1 B v n xs p (by omega) (by omega) w hL hB hown hn
    have e1 : (U8.enc p).map byteV = [.int .u8 (p : Int)] := by simp only [U8.enc, g1, if_true, List.map_cons, List.map_nil]; rw [byteV_of _ (by omega)]
    have e2 : U8.lenOf p = 1 := by simp [U8.lenOf, g1]
    rw [e1, e2]; exact h
  by_cases g2 : p < 2048
  · have q0 : ((p : Int) / 64) = ((p / 64 : Nat) : Int) := by omega
    have e0 := lead_byte 16320 (p / 64) 5 (by decide) (by omega) (by omega) (by omega)
    have e1 := tail_byte p (by omega)
    rw [← q0] at e0
    have h := append_2 B v n xs p (by omega) (by omega) w hL hB hown hn _ _ e0 e1
    have e1 : (U8.enc p).map byteV = [.int .u8 (((16320 + p / 64) % 256 : Nat) : Int), .int .u8 ((128 + p % 64 : Nat) : Int)] := by
      simp only [U8.enc, g1, g2, if_true, if_false, List.map_cons, List.map_nil]
      rw [byteV_of _ (by omega), byteV_of _ (by omega), show (16320 + p / 64) % 256 = 192 + p / 64 by omega]
    have e2 : U8.lenOf p = 2 := by simp [U8.lenOf, g1, g2]
    rw [e1, e2]; exact h
  by_cases g3 : p < 65536
  · have q0 : ((p : Int) / 4096) = ((p / 4096 : Nat) : Int) := by omega
    have q1 : ((p : Int) / 64) = ((p / 64 : Nat) : Int) := by omega
    have e0 := lead_byte 8160 (p / 4096) 4 (by decide) (by omega) (by omega) (by omega)
    have e1 := tail_byte (p / 64) (by omega)
    have e2 := tail_byte p (by omega)
    rw [← q0] at e0
    rw [← q1] at e1
    have h := append_3 B v n xs p (by omega) (by omega) w hL hB hown hn _ _ _ e0 e1 e2
    have e1 : (U8.enc p).map byteV = [.int .u8 (((8160 + p / 4096) % 256 : Nat) : Int), .int .u8 ((128 + p / 64 % 64 : Nat) : Int), .int .u8 ((128 + p % 64 : Nat) : Int)] := by
      simp only [U8.enc, g1, g2, g3, if_true, if_false, List.map_cons, List.map_nil]
      rw [byteV_of _ (by omega), byteV_of _ (by omega), byteV_of _ (by omega), show (8160 + p / 4096) % 256 = 224 + p / 4096 by omega]
    have e2 : U8.lenOf p = 3 := by simp [U8.lenOf, g1, g2, g3]
    rw [e1, e2]; exact h
  · have q0 : ((p : Int) / 262144) = ((p / 262144 : Nat) : Int) := by omega
    have q1 : ((p : Int) / 4096) = ((p / 4096 : Nat) : Int) := by omega
    have q2 : ((p : Int) / 64) = ((p / 64 : Nat) : Int) := by omega
    have e0 := lead_byte 4080 (p / 262144) 3 (by decide) (by omega) (by omega) (by omega)
    have e1 := tail_byte (p / 4096) (by omega)
    have e2 := tail_byte (p / 64) (by omega)
    have e3 := tail_byte p (by omega)
    rw [← q0] at e0
    rw [← q1] at e1
    rw [← q2] at e2
    have h := append_4 B v n xs p (by omega) (by omega) w hL hB hown hn _ _ _ _ e0 e1 e2 e3
    have e1 : (U8.enc p).map byteV = [.int .u8 (((4080 + p / 262144) % 256 : Nat) : Int), .int .u8 ((128 + p / 4096 % 64 : Nat) : Int), .int .u8 ((128 + p / 64 % 64 : Nat) : Int), .int .u8 ((128 + p % 64 : Nat) : Int)] := by
      simp only [U8.enc, g1, g2, g3, if_false, List.map_cons, List.map_nil]
      rw [byteV_of _ (by omega), byteV_of _ (by omega), byteV_of _ (by omega), byteV_of _ (by omega), show (4080 + p / 262144) % 256 = 240 + p / 262144 by omega]
    have e2 : U8.lenOf p = 4 := by simp [U8.lenOf, g1, g2, g3]
    rw [e1, e2]; exact h

end Go.Proofs.YtneemepjpeohbaaDoor
