/- The contracts of the document's own answer: in, bytesOf. -/
import Derived.Test.YtneemepjpeohbaaDoorEncode
import Derived.Deep.RegionWith
namespace Go.Proofs.YtneemepjpeohbaaDoor
open Go.RowKit

set_option maxHeartbeats 400000 in
set_option maxRecDepth 100000 in
theorem in_any (n lo hi : Int) (w : World) :
    Calls Tryd.prog 27 #[.int .i64 n, .int .i64 lo, .int .i64 hi] w fun e w' => e = .returned (.bool (decide (lo ≤ n) && decide (n ≤ hi))) ∧ w' = w := by
  go_enter Tryd.func27, Tryd.ntmps27
  go_wp2
  all_goals go_ret
  all_goals refine ⟨ret_bool ?_, rfl⟩
  all_goals (rw [Bool.eq_iff_iff]; simp; try omega)

set_option maxHeartbeats 400000 in
set_option maxRecDepth 100000 in
theorem six_0 (b : Nat) (p : Int) (h0 : 0 ≤ p) (h1 : p < 2000000) (w : World) (hc : w.cell? ⟨b, 0, none⟩ = some (.int .i64 p)) :
    Calls Tryd.prog 26 #[.int .i64 0, .pointer (some ⟨b, 0, none⟩)] w fun e w' => e = .returned (.int .u8 (128 + p % 64)) ∧ w' = w := by
  go_enter Tryd.func26, Tryd.ntmps26
  go_wp2
  go_ret
  refine ⟨ret_int ?_, rfl⟩
  omega

set_option maxHeartbeats 400000 in
set_option maxRecDepth 100000 in
theorem six_1 (b : Nat) (p : Int) (h0 : 0 ≤ p) (h1 : p < 2000000) (w : World) (hc : w.cell? ⟨b, 0, none⟩ = some (.int .i64 p)) :
    Calls Tryd.prog 26 #[.int .i64 1, .pointer (some ⟨b, 0, none⟩)] w fun e w' => e = .returned (.int .u8 (128 + p / 64 % 64)) ∧ w' = w := by
  go_enter Tryd.func26, Tryd.ntmps26
  go_wp2
  go_ret
  refine ⟨ret_int ?_, rfl⟩
  omega

set_option maxHeartbeats 400000 in
set_option maxRecDepth 100000 in
theorem six_2 (b : Nat) (p : Int) (h0 : 0 ≤ p) (h1 : p < 2000000) (w : World) (hc : w.cell? ⟨b, 0, none⟩ = some (.int .i64 p)) :
    Calls Tryd.prog 26 #[.int .i64 2, .pointer (some ⟨b, 0, none⟩)] w fun e w' => e = .returned (.int .u8 (128 + p / 4096 % 64)) ∧ w' = w := by
  go_enter Tryd.func26, Tryd.ntmps26
  go_wp2
  go_ret
  refine ⟨ret_int ?_, rfl⟩
  omega

/-- Bytes just laid, as a text. -/
theorem conv_new (W : World) (l : List UInt8) :
    (convert 51 9 (.slice (some ⟨W.heap.size, 0, none⟩) l.length l.length)).run Tryd.prog (W.alloc (.cells (l.map byteV).toArray 5)) = .ok (.string ⟨l.toArray⟩) (W.alloc (.cells (l.map byteV).toArray 5)) := by
  refine run_convert_bytes_back (P := Tryd.prog) _ 51 9 5 ⟨W.heap.size, 0, none⟩ _ l Tryd.underlying51 Tryd.underlying5 Tryd.underlying9 fun j hj => ?_
  rw [Addr.add_lit, Nat.zero_add, World.cell?_alloc_at _ _ _ _ rfl]
  simp [hj, byteV]

/-- The same behind a draw. -/
theorem conv_drew (W : World) (l : List UInt8) :
    (convert 51 9 (.slice (some ⟨W.heap.size, 0, none⟩) l.length l.length)).run Tryd.prog (W.alloc (.cells (l.map byteV).toArray 5)).drew = .ok (.string ⟨l.toArray⟩) (W.alloc (.cells (l.map byteV).toArray 5)).drew := by
  refine run_convert_bytes_back (P := Tryd.prog) _ 51 9 5 ⟨W.heap.size, 0, none⟩ _ l Tryd.underlying51 Tryd.underlying5 Tryd.underlying9 fun j hj => ?_
  show (W.alloc (.cells (l.map byteV).toArray 5)).cell? _ = _
  rw [Addr.add_lit, Nat.zero_add, World.cell?_alloc_at _ _ _ _ rfl]
  simp [hj, byteV]

set_option maxHeartbeats 400000 in
set_option maxRecDepth 100000 in
theorem bytes_none1 (p : Int) (h : p < 0 ∨ 1114111 < p) (w : World) :
    Calls Tryd.prog 19 #[.int .i64 p] w fun e w' => e = .returned (.string ⟨#[]⟩) ∧ Below w.heap.size w w' := by
  rcases h with h | h
  · go_enter Tryd.func19, Tryd.ntmps19
    go_wp2_with fail
    go_ret
    exact ⟨rfl, (Below.refl _ _).alloc (Nat.le_refl _) _⟩
  · have h0 : 0 ≤ p := by omega
    go_enter Tryd.func19, Tryd.ntmps19
    go_wp2_with fail
    go_ret
    exact ⟨rfl, (Below.refl _ _).alloc (Nat.le_refl _) _⟩

set_option maxHeartbeats 400000 in
set_option maxRecDepth 100000 in
theorem bytes_none2 (p : Int) (h0 : 55296 ≤ p) (h1 : p ≤ 57343) (w : World) :
    Calls Tryd.prog 19 #[.int .i64 p] w fun e w' => e = .returned (.string ⟨#[]⟩) ∧ Below w.heap.size w w' := by
  go_enter Tryd.func19, Tryd.ntmps19
  go_wp2_with fail
  refine (in_any _ _ _ _).mono ?_
  rintro e w1 ⟨rfl, rfl⟩
  rw [show (decide (55296 ≤ p) && decide (p ≤ 57343)) = true by simp; omega]
  go_wp2_with fail
  go_ret
  exact ⟨rfl, (Below.refl _ _).alloc (Nat.le_refl _) _⟩

theorem size_box (w : World) (o : Obj) : (w.alloc o).heap.size = w.heap.size + 1 := by simp

set_option maxHeartbeats 400000 in
set_option maxRecDepth 100000 in
theorem bytes_1 (p : Int) (h0 : 0 ≤ p) (h1 : p < 128) (hin : (decide (55296 ≤ p) && decide (p ≤ 57343)) = false) (w : World) (c0 : UInt8) (e0 : byteV c0 = .int .u8 p) :
    Calls Tryd.prog 19 #[.int .i64 p] w fun e w' => e = .returned (.string ⟨#[c0]⟩) ∧ Below w.heap.size w w' := by
  have hcv := conv_new (w.alloc (.cells #[.int .i64 p] 3)) [c0]
  simp only [List.map_cons, List.map_nil, List.length_cons, List.length_nil, e0, size_box, Nat.zero_add] at hcv
  clear e0
  have HIN : Hid _ := hin
  clear hin
  go_enter Tryd.func19, Tryd.ntmps19
  go_wp2_with fail
  refine (in_any _ _ _ _).mono ?_
  rintro e w1 ⟨rfl, rfl⟩
  rw [HIN.out]
  go_wp2_with fail
  go_ret
  exact ⟨rfl, ((Below.refl _ _).alloc (Nat.le_refl _) _).alloc (by simp) _⟩


set_option maxHeartbeats 1000000 in
set_option maxRecDepth 100000 in
theorem bytes_2 (p : Int) (h0 : 128 ≤ p) (h1 : p < 2048) (hin : (decide (55296 ≤ p) && decide (p ≤ 57343)) = false) (w : World) (c0 c1 : UInt8) (e0 : byteV c0 = .int .u8 (192 + p / 64)) (e1 : byteV c1 = .int .u8 (128 + p % 64)) :
    Calls Tryd.prog 19 #[.int .i64 p] w fun e w' => e = .returned (.string ⟨#[c0, c1]⟩) ∧ Below w.heap.size w w' := by
  have hcv := conv_drew (w.alloc (.cells #[.int .i64 p] 3)) [c0, c1]
  simp only [List.map_cons, List.map_nil, List.length_cons, List.length_nil, e0, e1, size_box, Nat.zero_add, Nat.reduceAdd] at hcv
  clear e0 e1
  have HIN : Hid _ := hin
  clear hin
  have g0 : 0 ≤ p := by omega
  have g1 : p < 2000000 := by omega
  have k1 : IntKind.i64.wrap (192 + p / 64) = 192 + p / 64 := by rw [IntKind.wrap_i64]; omega
  have k2 : IntKind.u8.wrap (192 + p / 64) = 192 + p / 64 := by rw [IntKind.wrap_u8']; omega
  have HC : Hid ((w.alloc (.cells #[.int .i64 p] 3)).cell? ⟨w.heap.size, 0, none⟩ = some (.int .i64 p)) := by show _ = _; simp
  go_enter Tryd.func19, Tryd.ntmps19
  go_wp2_with fail
  refine (in_any _ _ _ _).mono ?_
  rintro e w1 ⟨rfl, rfl⟩
  rw [HIN.out]
  go_wp2_with fail
  go_region_with (first | (go_at_call_of 26 (Value.int IntKind.i64 0); refine (six_0 w.heap.size p g0 g1 _ ?_).mono ?_; exact HC.out; rintro e w1 ⟨rfl, rfl⟩))
  all_goals go_wp2
  all_goals go_ret
  all_goals exact ⟨rfl, ((((Below.refl _ _).alloc (Nat.le_refl _) _).alloc (by simp) _).drew)⟩

set_option maxHeartbeats 1000000 in
set_option maxRecDepth 100000 in
theorem bytes_3 (p : Int) (h0 : 2048 ≤ p) (h1 : p < 65536) (hin : (decide (55296 ≤ p) && decide (p ≤ 57343)) = false) (w : World) (c0 c1 c2 : UInt8) (e0 : byteV c0 = .int .u8 (224 + p / 4096)) (e1 : byteV c1 = .int .u8 (128 + p / 64 % 64)) (e2 : byteV c2 = .int .u8 (128 + p % 64)) :
    Calls Tryd.prog 19 #[.int .i64 p] w fun e w' => e = .returned (.string ⟨#[c0, c1, c2]⟩) ∧ Below w.heap.size w w' := by
  have hcv := conv_drew (w.alloc (.cells #[.int .i64 p] 3)) [c0, c1, c2]
  simp only [List.map_cons, List.map_nil, List.length_cons, List.length_nil, e0, e1, e2, size_box, Nat.zero_add, Nat.reduceAdd] at hcv
  clear e0 e1 e2
  have HIN : Hid _ := hin
  clear hin
  have g0 : 0 ≤ p := by omega
  have g1 : p < 2000000 := by omega
  have k1 : IntKind.i64.wrap (224 + p / 4096) = 224 + p / 4096 := by rw [IntKind.wrap_i64]; omega
  have k2 : IntKind.u8.wrap (224 + p / 4096) = 224 + p / 4096 := by rw [IntKind.wrap_u8']; omega
  have HC : Hid ((w.alloc (.cells #[.int .i64 p] 3)).cell? ⟨w.heap.size, 0, none⟩ = some (.int .i64 p)) := by show _ = _; simp
  go_enter Tryd.func19, Tryd.ntmps19
  go_wp2_with fail
  refine (in_any _ _ _ _).mono ?_
  rintro e w1 ⟨rfl, rfl⟩
  rw [HIN.out]
  go_wp2_with fail
  go_region_with (first | (go_at_call_of 26 (Value.int IntKind.i64 1); refine (six_1 w.heap.size p g0 g1 _ ?_).mono ?_; exact HC.out; rintro e w1 ⟨rfl, rfl⟩) | (go_at_call_of 26 (Value.int IntKind.i64 0); refine (six_0 w.heap.size p g0 g1 _ ?_).mono ?_; exact HC.out; rintro e w1 ⟨rfl, rfl⟩))
  all_goals go_wp2
  all_goals go_ret
  all_goals exact ⟨rfl, ((((Below.refl _ _).alloc (Nat.le_refl _) _).alloc (by simp) _).drew)⟩

set_option maxHeartbeats 1000000 in
set_option maxRecDepth 100000 in
theorem bytes_4 (p : Int) (h0 : 65536 ≤ p) (h1 : p ≤ 1114111) (hin : (decide (55296 ≤ p) && decide (p ≤ 57343)) = false) (w : World) (c0 c1 c2 c3 : UInt8) (e0 : byteV c0 = .int .u8 (240 + p / 262144)) (e1 : byteV c1 = .int .u8 (128 + p / 4096 % 64)) (e2 : byteV c2 = .int .u8 (128 + p / 64 % 64)) (e3 : byteV c3 = .int .u8 (128 + p % 64)) :
    Calls Tryd.prog 19 #[.int .i64 p] w fun e w' => e = .returned (.string ⟨#[c0, c1, c2, c3]⟩) ∧ Below w.heap.size w w' := by
  have hcv := conv_drew (w.alloc (.cells #[.int .i64 p] 3)) [c0, c1, c2, c3]
  simp only [List.map_cons, List.map_nil, List.length_cons, List.length_nil, e0, e1, e2, e3, size_box, Nat.zero_add, Nat.reduceAdd] at hcv
  clear e0 e1 e2 e3
  have HIN : Hid _ := hin
  clear hin
  have g0 : 0 ≤ p := by omega
  have g1 : p < 2000000 := by omega
  have k1 : IntKind.i64.wrap (240 + p / 262144) = 240 + p / 262144 := by rw [IntKind.wrap_i64]; omega
  have k2 : IntKind.u8.wrap (240 + p / 262144) = 240 + p / 262144 := by rw [IntKind.wrap_u8']; omega
  have HC : Hid ((w.alloc (.cells #[.int .i64 p] 3)).cell? ⟨w.heap.size, 0, none⟩ = some (.int .i64 p)) := by show _ = _; simp
  go_enter Tryd.func19, Tryd.ntmps19
  go_wp2_with fail
  refine (in_any _ _ _ _).mono ?_
  rintro e w1 ⟨rfl, rfl⟩
  rw [HIN.out]
  go_wp2_with fail
  go_region_with (first | (go_at_call_of 26 (Value.int IntKind.i64 2); refine (six_2 w.heap.size p g0 g1 _ ?_).mono ?_; exact HC.out; rintro e w1 ⟨rfl, rfl⟩) | (go_at_call_of 26 (Value.int IntKind.i64 1); refine (six_1 w.heap.size p g0 g1 _ ?_).mono ?_; exact HC.out; rintro e w1 ⟨rfl, rfl⟩) | (go_at_call_of 26 (Value.int IntKind.i64 0); refine (six_0 w.heap.size p g0 g1 _ ?_).mono ?_; exact HC.out; rintro e w1 ⟨rfl, rfl⟩))
  all_goals go_wp2
  all_goals go_ret
  all_goals exact ⟨rfl, ((((Below.refl _ _).alloc (Nat.le_refl _) _).alloc (by simp) _).drew)⟩

end Go.Proofs.YtneemepjpeohbaaDoor
