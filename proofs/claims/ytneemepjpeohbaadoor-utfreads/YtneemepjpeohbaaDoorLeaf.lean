/- The contracts of the leaves of package utf: lengthBy, isPoint, lengthOf, first. -/
import Derived.Test.YtneemepjpeohbaaDoorRows
import Derived.Test.YtneemepjpeohbaaDoorMath
import Derived.WalkKit
import Derived.WalkSpells
import Derived.WalkLawsBesides
import Derived.BigQuiet
namespace Go.Proofs.YtneemepjpeohbaaDoor
open Go.RowKit

theorem ret_int {k : IntKind} {a b : Int} (h : a = b) : Ending.returned (.int k a) = .returned (.int k b) := by rw [h]
theorem ret_bool {a b : Bool} (h : a = b) : Ending.returned (.bool a) = .returned (.bool b) := by rw [h]

theorem lenBy1 {b : Nat} (h : ((b : Int) / 128 == 0) = true) : (1 : Int) = (U8.lenBy b : Nat) := by
  simp only [beq_iff_eq] at h
  rw [U8.lenBy, if_pos (by omega)]; rfl
theorem lenBy2 {b : Nat} (_h1 : ((b : Int) / 128 == 0) = false) (h : ((b : Int) / 32 == 6) = true) : (2 : Int) = (U8.lenBy b : Nat) := by
  simp only [beq_iff_eq, beq_eq_false_iff_ne, ne_eq] at h _h1
  rw [U8.lenBy, if_neg (by omega), if_pos (by omega)]; rfl
theorem lenBy3 {b : Nat} (_h1 : ((b : Int) / 128 == 0) = false) (_h2 : ((b : Int) / 32 == 6) = false) (h : ((b : Int) / 16 == 14) = true) : (3 : Int) = (U8.lenBy b : Nat) := by
  simp only [beq_iff_eq, beq_eq_false_iff_ne, ne_eq] at h _h1 _h2
  rw [U8.lenBy, if_neg (by omega), if_neg (by omega), if_pos (by omega)]; rfl
theorem lenBy4 {b : Nat} (_h1 : ((b : Int) / 128 == 0) = false) (_h2 : ((b : Int) / 32 == 6) = false) (_h3 : ((b : Int) / 16 == 14) = false) (h : ((b : Int) / 8 == 30) = true) : (4 : Int) = (U8.lenBy b : Nat) := by
  simp only [beq_iff_eq, beq_eq_false_iff_ne, ne_eq] at h _h1 _h2 _h3
  rw [U8.lenBy, if_neg (by omega), if_neg (by omega), if_neg (by omega), if_pos (by omega)]; rfl
theorem lenBy0 {b : Nat} (h1 : ((b : Int) / 128 == 0) = false) (h2 : ((b : Int) / 32 == 6) = false) (h3 : ((b : Int) / 16 == 14) = false) (h : ((b : Int) / 8 == 30) = false) : (0 : Int) = (U8.lenBy b : Nat) := by
  simp only [beq_eq_false_iff_ne, ne_eq] at h h1 h2 h3
  rw [U8.lenBy, if_neg (by omega), if_neg (by omega), if_neg (by omega), if_neg (by omega)]; rfl

set_option maxHeartbeats 400000 in
set_option maxRecDepth 100000 in
theorem lengthBy_any (b : Nat) (_hb : b < 256) (w : World) :
    Calls Tryd.prog 25 #[.int .u8 (b : Int)] w fun e w' => e = .returned (.int .i64 (U8.lenBy b : Nat)) ∧ w' = w := by
  go_enter Tryd.func25, Tryd.ntmps25
  go_wp2
  all_goals go_ret
  all_goals refine ⟨ret_int ?_, rfl⟩
  all_goals first | exact lenBy1 (by assumption) | exact lenBy2 (by assumption) (by assumption) | exact lenBy3 (by assumption) (by assumption) (by assumption) | exact lenBy4 (by assumption) (by assumption) (by assumption) (by assumption) | exact lenBy0 (by assumption) (by assumption) (by assumption) (by assumption)

set_option maxHeartbeats 400000 in
set_option maxRecDepth 100000 in
theorem isPoint_any (p : Int) (w : World) :
    Calls Tryd.prog 20 #[.int .i64 p] w fun e w' => e = .returned (.bool (U8.isPt p)) ∧ w' = w := by
  go_enter Tryd.func20, Tryd.ntmps20
  go_wp2
  all_goals go_ret
  all_goals refine ⟨ret_bool ?_, rfl⟩
  all_goals (rw [Bool.eq_iff_iff, U8.isPt_iff]; simp; try omega)

/-- The table of the least code points lies in block 1. -/
def LE (w : World) : Prop := w.cell? ⟨1, 0, none⟩ = some (.int .i64 0) ∧ w.cell? ⟨1, 1, none⟩ = some (.int .i64 128) ∧ w.cell? ⟨1, 2, none⟩ = some (.int .i64 2048) ∧ w.cell? ⟨1, 3, none⟩ = some (.int .i64 65536)

theorem LE.below {w w' : World} {B : Nat} (h : LE w) (hb : Below B w w') (hB : 1 < B) : LE w' :=
  ⟨(hb.cell (by exact hB)).trans h.1, (hb.cell (by exact hB)).trans h.2.1, (hb.cell (by exact hB)).trans h.2.2.1, (hb.cell (by exact hB)).trans h.2.2.2⟩


set_option maxHeartbeats 400000 in
set_option maxRecDepth 100000 in
theorem lengthOf_1 (p : Int) (h : p < 128) (w : World) (hL : LE w) :
    Calls Tryd.prog 28 #[.int .i64 p] w fun e w' => e = .returned (.int .i64 1) ∧ w' = w := by
  obtain ⟨l0, l1, l2, l3⟩ := hL
  go_enter Tryd.func28, Tryd.ntmps28
  go_wp2_with fail
  refine wp_loop_rounds 1 ?_
  rw [rounds_succ]
  go_wp2_with fail
  go_ret
  exact ⟨rfl, rfl⟩

set_option maxHeartbeats 400000 in
set_option maxRecDepth 100000 in
theorem lengthOf_2 (p : Int) (h1 : 128 ≤ p) (h : p < 2048) (w : World) (hL : LE w) :
    Calls Tryd.prog 28 #[.int .i64 p] w fun e w' => e = .returned (.int .i64 2) ∧ w' = w := by
  obtain ⟨l0, l1, l2, l3⟩ := hL
  go_enter Tryd.func28, Tryd.ntmps28
  go_wp2_with fail
  refine wp_loop_rounds 2 ?_
  rw [rounds_succ]
  go_wp2_with fail
  rw [rounds_succ]
  go_wp2_with fail
  go_ret
  exact ⟨rfl, rfl⟩

set_option maxHeartbeats 400000 in
set_option maxRecDepth 100000 in
theorem lengthOf_3 (p : Int) (h1 : 2048 ≤ p) (h : p < 65536) (w : World) (hL : LE w) :
    Calls Tryd.prog 28 #[.int .i64 p] w fun e w' => e = .returned (.int .i64 3) ∧ w' = w := by
  obtain ⟨l0, l1, l2, l3⟩ := hL
  go_enter Tryd.func28, Tryd.ntmps28
  go_wp2_with fail
  refine wp_loop_rounds 3 ?_
  rw [rounds_succ]
  go_wp2_with fail
  rw [rounds_succ]
  go_wp2_with fail
  rw [rounds_succ]
  go_wp2_with fail
  go_ret
  exact ⟨rfl, rfl⟩

set_option maxHeartbeats 400000 in
set_option maxRecDepth 100000 in
theorem lengthOf_4 (p : Int) (h1 : 65536 ≤ p) (w : World) (hL : LE w) :
    Calls Tryd.prog 28 #[.int .i64 p] w fun e w' => e = .returned (.int .i64 4) ∧ w' = w := by
  obtain ⟨l0, l1, l2, l3⟩ := hL
  go_enter Tryd.func28, Tryd.ntmps28
  go_wp2_with fail
  refine wp_loop_rounds 4 ?_
  rw [rounds_succ]
  go_wp2_with fail
  rw [rounds_succ]
  go_wp2_with fail
  rw [rounds_succ]
  go_wp2_with fail
  rw [rounds_succ]
  go_wp2_with fail
  go_ret
  exact ⟨rfl, rfl⟩

theorem i64_or_nat (a b : Nat) (ha : a < 4611686018427387904) (hb : b < 4611686018427387904) : bits .or .i64 (a : Int) (b : Int) = ((a ||| b : Nat) : Int) := by
  have hx : a ||| b < 2 ^ 62 := Nat.or_lt_two_pow (by omega) (by omega)
  show IntKind.i64.wrap ((BitVec.ofInt 64 (a : Int) ||| BitVec.ofInt 64 (b : Int)).toNat : Int) = _
  rw [BitVec.toNat_or, ofInt_u64 a (by omega), ofInt_u64 b (by omega), IntKind.wrap_i64]
  omega
theorem i64_and_nat (a b : Nat) (ha : a < 4611686018427387904) (hb : b < 4611686018427387904) : bits .and .i64 (a : Int) (b : Int) = ((a &&& b : Nat) : Int) := by
  have hx : a &&& b < 2 ^ 62 := Nat.and_lt_two_pow _ (by omega)
  show IntKind.i64.wrap ((BitVec.ofInt 64 (a : Int) &&& BitVec.ofInt 64 (b : Int)).toNat : Int) = _
  rw [BitVec.toNat_and, ofInt_u64 a (by omega), ofInt_u64 b (by omega), IntKind.wrap_i64]
  omega
theorem i64_or6 (x y : Int) (h0 : 0 ≤ x) (h1 : x < 1000000000) (h2 : 0 ≤ y) (h3 : y < 64) : bits .or .i64 (x * 64) y = x * 64 + y := by
  obtain ⟨a, rfl⟩ := Int.eq_ofNat_of_zero_le h0
  obtain ⟨b, rfl⟩ := Int.eq_ofNat_of_zero_le h2
  have e : ((a : Int) * 64) = ((a * 64 : Nat) : Int) := by omega
  rw [e, i64_or_nat _ _ (by omega) (by omega), nat_join 6 (a * 64) b (by omega) (by omega)]
  omega
theorem and31 (a : Nat) (h : a < 256) : bits .and .i64 (a : Int) 31 = (a : Int) % 32 := by
  rw [show (31 : Int) = ((31 : Nat) : Int) from rfl, i64_and_nat _ _ (by omega) (by omega), nat_mask5]; omega
theorem and15 (a : Nat) (h : a < 256) : bits .and .i64 (a : Int) 15 = (a : Int) % 16 := by
  rw [show (15 : Int) = ((15 : Nat) : Int) from rfl, i64_and_nat _ _ (by omega) (by omega), nat_mask4]; omega
theorem and7 (a : Nat) (h : a < 256) : bits .and .i64 (a : Int) 7 = (a : Int) % 8 := by
  rw [show (7 : Int) = ((7 : Nat) : Int) from rfl, i64_and_nat _ _ (by omega) (by omega), nat_mask3]; omega

/-- What 'first' hands back. -/
def told (o : Option (Nat × Nat)) : Value := match o with
  | none => .tuple #[.int .i64 0, .int .i64 0, .bool false]
  | some (p, n) => .tuple #[.int .i64 p, .int .i64 n, .bool true]
def nothing : Value := .tuple #[.int .i64 0, .int .i64 0, .bool false]

set_option maxHeartbeats 1000000 in
set_option maxRecDepth 100000 in
theorem first_0 (s : ByteArray) (_hs : s.size ≤ 1000000) (h0 : 0 < s.size) (w : World) (hL : LE w) (hn : U8.lenBy (s[0]'(by omega)).toNat = 0) :
    Calls Tryd.prog 18 #[.string s] w fun e w' => e = .returned nothing ∧ w' = w := by
  obtain ⟨l0, l1, l2, l3⟩ := hL
  have HN : Hid (U8.lenBy (s[0]'(by omega)).toNat = 0) := hn
  clear hn
  go_enter Tryd.func18, Tryd.ntmps18
  go_wp2_with fail
  refine (lengthBy_any _ (UInt8.toNat_lt _) _).mono ?_
  rintro e w' ⟨rfl, rfl⟩
  rw [HN.out]
  go_wp2_with fail
  go_ret3
  exact ⟨rfl, rfl⟩

set_option maxHeartbeats 1000000 in
set_option maxRecDepth 100000 in
theorem first_2s (s : ByteArray) (hs : s.size ≤ 1000000) (h0 : 0 < s.size) (h1 : s.size < 2) (w : World) (hL : LE w) (hn : U8.lenBy (s[0]'(by omega)).toNat = 2) :
    Calls Tryd.prog 18 #[.string s] w fun e w' => e = .returned nothing ∧ w' = w := by
  obtain ⟨l0, l1, l2, l3⟩ := hL
  have HN : Hid (U8.lenBy (s[0]'(by omega)).toNat = 2) := hn
  clear hn
  go_enter Tryd.func18, Tryd.ntmps18
  go_wp2_with fail
  refine (lengthBy_any _ (UInt8.toNat_lt _) _).mono ?_
  rintro e w' ⟨rfl, rfl⟩
  rw [HN.out]
  go_wp2_with fail
  go_ret3
  exact ⟨rfl, rfl⟩

set_option maxHeartbeats 1000000 in
set_option maxRecDepth 100000 in
theorem first_3s (s : ByteArray) (hs : s.size ≤ 1000000) (h0 : 0 < s.size) (h1 : s.size < 3) (w : World) (hL : LE w) (hn : U8.lenBy (s[0]'(by omega)).toNat = 3) :
    Calls Tryd.prog 18 #[.string s] w fun e w' => e = .returned nothing ∧ w' = w := by
  obtain ⟨l0, l1, l2, l3⟩ := hL
  have HN : Hid (U8.lenBy (s[0]'(by omega)).toNat = 3) := hn
  clear hn
  go_enter Tryd.func18, Tryd.ntmps18
  go_wp2_with fail
  refine (lengthBy_any _ (UInt8.toNat_lt _) _).mono ?_
  rintro e w' ⟨rfl, rfl⟩
  rw [HN.out]
  go_wp2_with fail
  go_ret3
  exact ⟨rfl, rfl⟩

set_option maxHeartbeats 1000000 in
set_option maxRecDepth 100000 in
theorem first_4s (s : ByteArray) (hs : s.size ≤ 1000000) (h0 : 0 < s.size) (h1 : s.size < 4) (w : World) (hL : LE w) (hn : U8.lenBy (s[0]'(by omega)).toNat = 4) :
    Calls Tryd.prog 18 #[.string s] w fun e w' => e = .returned nothing ∧ w' = w := by
  obtain ⟨l0, l1, l2, l3⟩ := hL
  have HN : Hid (U8.lenBy (s[0]'(by omega)).toNat = 4) := hn
  clear hn
  go_enter Tryd.func18, Tryd.ntmps18
  go_wp2_with fail
  refine (lengthBy_any _ (UInt8.toNat_lt _) _).mono ?_
  rintro e w' ⟨rfl, rfl⟩
  rw [HN.out]
  go_wp2_with fail
  go_ret3
  exact ⟨rfl, rfl⟩

set_option maxHeartbeats 1000000 in
set_option maxRecDepth 100000 in
theorem first_1 (s : ByteArray) (hs : s.size ≤ 1000000) (h0 : 0 < s.size) (w : World) (hL : LE w) (hn : U8.lenBy (s[0]'(by omega)).toNat = 1) (hb : (s[0]'(by omega)).toNat < 128) (hp : U8.isPt ((s[0]'(by omega)).toNat : Nat) = true) :
    Calls Tryd.prog 18 #[.string s] w fun e w' => e = .returned (.tuple #[.int .i64 ((s[0]'(by omega)).toNat : Nat), .int .i64 1, .bool true]) ∧ w' = w := by
  obtain ⟨l0, l1, l2, l3⟩ := hL
  have HN : Hid (U8.lenBy (s[0]'(by omega)).toNat = 1) := hn
  clear hn
  go_enter Tryd.func18, Tryd.ntmps18
  go_wp2_with fail
  refine (lengthBy_any _ (UInt8.toNat_lt _) _).mono ?_
  rintro e w' ⟨rfl, rfl⟩
  rw [HN.out]
  go_wp2_with fail
  refine wp_loop_rounds 1 ?_
  rw [rounds_succ]
  go_wp2_with fail
  refine (isPoint_any _ _).mono ?_
  rintro e w' ⟨rfl, rfl⟩
  rw [hp]
  go_wp2_with fail
  go_ret3
  exact ⟨rfl, rfl⟩


set_option maxHeartbeats 1000000 in
set_option maxRecDepth 100000 in
theorem first_2b1 (s : ByteArray) (hs : s.size ≤ 1000000) (h0 : 2 ≤ s.size) (w : World) (hL : LE w) (hn : U8.lenBy (s[0]'(by omega)).toNat = 2) (c1 : (((s[1]'(by omega)).toNat : Int) / 64 != 2) = true) (_ha : bits .and .i64 ((s[0]'(by omega)).toNat : Int) 31 = ((s[0]'(by omega)).toNat : Int) % 32) :
    Calls Tryd.prog 18 #[.string s] w fun e w' => e = .returned nothing ∧ w' = w := by
  obtain ⟨l0, l1, l2, l3⟩ := hL
  have HN : Hid (U8.lenBy (s[0]'(by omega)).toNat = 2) := hn
  clear hn
  have b0 : (s[0]'(by omega)).toNat < 256 := UInt8.toNat_lt _
  have b1 : (s[1]'(by omega)).toNat < 256 := UInt8.toNat_lt _
  go_enter Tryd.func18, Tryd.ntmps18
  go_wp2_with fail
  refine (lengthBy_any _ (UInt8.toNat_lt _) _).mono ?_
  rintro e w' ⟨rfl, rfl⟩
  rw [HN.out]
  go_wp2_with fail
  refine wp_loop_rounds 1 ?_
  rw [rounds_succ]
  go_wp2_with fail
  go_ret3
  exact ⟨rfl, rfl⟩

set_option maxHeartbeats 1000000 in
set_option maxRecDepth 100000 in
theorem first_2l (s : ByteArray) (hs : s.size ≤ 1000000) (h0 : 2 ≤ s.size) (w : World) (hL : LE w) (hn : U8.lenBy (s[0]'(by omega)).toNat = 2) (P1 : Int) (c1 : (((s[1]'(by omega)).toNat : Int) / 64 != 2) = false) (ha : bits .and .i64 ((s[0]'(by omega)).toNat : Int) 31 = ((s[0]'(by omega)).toNat : Int) % 32) (e1 : bits .or .i64 (((s[0]'(by omega)).toNat : Int) % 32 * 64) (((s[1]'(by omega)).toNat : Int) % 64) = P1) (_q1 : 0 ≤ P1) (_r1 : P1 < 1000000000) (hl : P1 < 128) :
    Calls Tryd.prog 18 #[.string s] w fun e w' => e = .returned nothing ∧ w' = w := by
  obtain ⟨l0, l1, l2, l3⟩ := hL
  have HN : Hid (U8.lenBy (s[0]'(by omega)).toNat = 2) := hn
  clear hn
  have b0 : (s[0]'(by omega)).toNat < 256 := UInt8.toNat_lt _
  have b1 : (s[1]'(by omega)).toNat < 256 := UInt8.toNat_lt _
  go_enter Tryd.func18, Tryd.ntmps18
  go_wp2_with fail
  refine (lengthBy_any _ (UInt8.toNat_lt _) _).mono ?_
  rintro e w' ⟨rfl, rfl⟩
  rw [HN.out]
  go_wp2_with fail
  refine wp_loop_rounds 2 ?_
  rw [rounds_succ]
  go_wp2_with fail
  rw [rounds_succ]
  go_wp2_with fail
  go_ret3
  exact ⟨rfl, rfl⟩

set_option maxHeartbeats 1000000 in
set_option maxRecDepth 100000 in
theorem first_2y (s : ByteArray) (hs : s.size ≤ 1000000) (h0 : 2 ≤ s.size) (w : World) (hL : LE w) (hn : U8.lenBy (s[0]'(by omega)).toNat = 2) (P1 : Int) (c1 : (((s[1]'(by omega)).toNat : Int) / 64 != 2) = false) (ha : bits .and .i64 ((s[0]'(by omega)).toNat : Int) 31 = ((s[0]'(by omega)).toNat : Int) % 32) (e1 : bits .or .i64 (((s[0]'(by omega)).toNat : Int) % 32 * 64) (((s[1]'(by omega)).toNat : Int) % 64) = P1) (_q1 : 0 ≤ P1) (_r1 : P1 < 1000000000) (hl : 128 ≤ P1) (hp : U8.isPt P1 = true) :
    Calls Tryd.prog 18 #[.string s] w fun e w' => e = .returned (.tuple #[.int .i64 P1, .int .i64 2, .bool true]) ∧ w' = w := by
  obtain ⟨l0, l1, l2, l3⟩ := hL
  have HN : Hid (U8.lenBy (s[0]'(by omega)).toNat = 2) := hn
  clear hn
  have b0 : (s[0]'(by omega)).toNat < 256 := UInt8.toNat_lt _
  have b1 : (s[1]'(by omega)).toNat < 256 := UInt8.toNat_lt _
  go_enter Tryd.func18, Tryd.ntmps18
  go_wp2_with fail
  refine (lengthBy_any _ (UInt8.toNat_lt _) _).mono ?_
  rintro e w' ⟨rfl, rfl⟩
  rw [HN.out]
  go_wp2_with fail
  refine wp_loop_rounds 2 ?_
  rw [rounds_succ]
  go_wp2_with fail
  rw [rounds_succ]
  go_wp2_with fail
  refine (isPoint_any _ _).mono ?_
  rintro e w' ⟨rfl, rfl⟩
  rw [hp]
  go_wp2_with fail
  go_ret3
  exact ⟨rfl, rfl⟩

set_option maxHeartbeats 1000000 in
set_option maxRecDepth 100000 in
theorem first_2n (s : ByteArray) (hs : s.size ≤ 1000000) (h0 : 2 ≤ s.size) (w : World) (hL : LE w) (hn : U8.lenBy (s[0]'(by omega)).toNat = 2) (P1 : Int) (c1 : (((s[1]'(by omega)).toNat : Int) / 64 != 2) = false) (ha : bits .and .i64 ((s[0]'(by omega)).toNat : Int) 31 = ((s[0]'(by omega)).toNat : Int) % 32) (e1 : bits .or .i64 (((s[0]'(by omega)).toNat : Int) % 32 * 64) (((s[1]'(by omega)).toNat : Int) % 64) = P1) (_q1 : 0 ≤ P1) (_r1 : P1 < 1000000000) (hl : 128 ≤ P1) (hp : U8.isPt P1 = false) :
    Calls Tryd.prog 18 #[.string s] w fun e w' => e = .returned nothing ∧ w' = w := by
  obtain ⟨l0, l1, l2, l3⟩ := hL
  have HN : Hid (U8.lenBy (s[0]'(by omega)).toNat = 2) := hn
  clear hn
  have b0 : (s[0]'(by omega)).toNat < 256 := UInt8.toNat_lt _
  have b1 : (s[1]'(by omega)).toNat < 256 := UInt8.toNat_lt _
  go_enter Tryd.func18, Tryd.ntmps18
  go_wp2_with fail
  refine (lengthBy_any _ (UInt8.toNat_lt _) _).mono ?_
  rintro e w' ⟨rfl, rfl⟩
  rw [HN.out]
  go_wp2_with fail
  refine wp_loop_rounds 2 ?_
  rw [rounds_succ]
  go_wp2_with fail
  rw [rounds_succ]
  go_wp2_with fail
  refine (isPoint_any _ _).mono ?_
  rintro e w' ⟨rfl, rfl⟩
  rw [hp]
  go_wp2_with fail
  go_ret3
  exact ⟨rfl, rfl⟩

set_option maxHeartbeats 1000000 in
set_option maxRecDepth 100000 in
theorem first_3b1 (s : ByteArray) (hs : s.size ≤ 1000000) (h0 : 3 ≤ s.size) (w : World) (hL : LE w) (hn : U8.lenBy (s[0]'(by omega)).toNat = 3) (c1 : (((s[1]'(by omega)).toNat : Int) / 64 != 2) = true) (ha : bits .and .i64 ((s[0]'(by omega)).toNat : Int) 15 = ((s[0]'(by omega)).toNat : Int) % 16) :
    Calls Tryd.prog 18 #[.string s] w fun e w' => e = .returned nothing ∧ w' = w := by
  obtain ⟨l0, l1, l2, l3⟩ := hL
  have HN : Hid (U8.lenBy (s[0]'(by omega)).toNat = 3) := hn
  clear hn
  have b0 : (s[0]'(by omega)).toNat < 256 := UInt8.toNat_lt _
  have b1 : (s[1]'(by omega)).toNat < 256 := UInt8.toNat_lt _
  have b2 : (s[2]'(by omega)).toNat < 256 := UInt8.toNat_lt _
  go_enter Tryd.func18, Tryd.ntmps18
  go_wp2_with fail
  refine (lengthBy_any _ (UInt8.toNat_lt _) _).mono ?_
  rintro e w' ⟨rfl, rfl⟩
  rw [HN.out]
  go_wp2_with fail
  refine wp_loop_rounds 1 ?_
  rw [rounds_succ]
  go_wp2_with fail
  go_ret3
  exact ⟨rfl, rfl⟩

set_option maxHeartbeats 1000000 in
set_option maxRecDepth 100000 in
theorem first_3b2 (s : ByteArray) (hs : s.size ≤ 1000000) (h0 : 3 ≤ s.size) (w : World) (hL : LE w) (hn : U8.lenBy (s[0]'(by omega)).toNat = 3) (P1 : Int) (c1 : (((s[1]'(by omega)).toNat : Int) / 64 != 2) = false) (c2 : (((s[2]'(by omega)).toNat : Int) / 64 != 2) = true) (ha : bits .and .i64 ((s[0]'(by omega)).toNat : Int) 15 = ((s[0]'(by omega)).toNat : Int) % 16) (e1 : bits .or .i64 (((s[0]'(by omega)).toNat : Int) % 16 * 64) (((s[1]'(by omega)).toNat : Int) % 64) = P1) (_q1 : 0 ≤ P1) (_r1 : P1 < 1000000000) :
    Calls Tryd.prog 18 #[.string s] w fun e w' => e = .returned nothing ∧ w' = w := by
  obtain ⟨l0, l1, l2, l3⟩ := hL
  have HN : Hid (U8.lenBy (s[0]'(by omega)).toNat = 3) := hn
  clear hn
  have b0 : (s[0]'(by omega)).toNat < 256 := UInt8.toNat_lt _
  have b1 : (s[1]'(by omega)).toNat < 256 := UInt8.toNat_lt _
  have b2 : (s[2]'(by omega)).toNat < 256 := UInt8.toNat_lt _
  go_enter Tryd.func18, Tryd.ntmps18
  go_wp2_with fail
  refine (lengthBy_any _ (UInt8.toNat_lt _) _).mono ?_
  rintro e w' ⟨rfl, rfl⟩
  rw [HN.out]
  go_wp2_with fail
  refine wp_loop_rounds 2 ?_
  rw [rounds_succ]
  go_wp2_with fail
  rw [rounds_succ]
  go_wp2_with fail
  go_ret3
  exact ⟨rfl, rfl⟩

set_option maxHeartbeats 1000000 in
set_option maxRecDepth 100000 in
theorem first_3l (s : ByteArray) (hs : s.size ≤ 1000000) (h0 : 3 ≤ s.size) (w : World) (hL : LE w) (hn : U8.lenBy (s[0]'(by omega)).toNat = 3) (P1 P2 : Int) (c1 : (((s[1]'(by omega)).toNat : Int) / 64 != 2) = false) (c2 : (((s[2]'(by omega)).toNat : Int) / 64 != 2) = false) (ha : bits .and .i64 ((s[0]'(by omega)).toNat : Int) 15 = ((s[0]'(by omega)).toNat : Int) % 16) (e1 : bits .or .i64 (((s[0]'(by omega)).toNat : Int) % 16 * 64) (((s[1]'(by omega)).toNat : Int) % 64) = P1) (e2 : bits .or .i64 (P1 * 64) (((s[2]'(by omega)).toNat : Int) % 64) = P2) (_q1 : 0 ≤ P1) (_r1 : P1 < 1000000000) (_q2 : 0 ≤ P2) (_r2 : P2 < 1000000000) (hl : P2 < 2048) :
    Calls Tryd.prog 18 #[.string s] w fun e w' => e = .returned nothing ∧ w' = w := by
  obtain ⟨l0, l1, l2, l3⟩ := hL
  have HN : Hid (U8.lenBy (s[0]'(by omega)).toNat = 3) := hn
  clear hn
  have b0 : (s[0]'(by omega)).toNat < 256 := UInt8.toNat_lt _
  have b1 : (s[1]'(by omega)).toNat < 256 := UInt8.toNat_lt _
  have b2 : (s[2]'(by omega)).toNat < 256 := UInt8.toNat_lt _
  go_enter Tryd.func18, Tryd.ntmps18
  go_wp2_with fail
  refine (lengthBy_any _ (UInt8.toNat_lt _) _).mono ?_
  rintro e w' ⟨rfl, rfl⟩
  rw [HN.out]
  go_wp2_with fail
  refine wp_loop_rounds 3 ?_
  rw [rounds_succ]
  go_wp2_with fail
  rw [rounds_succ]
  go_wp2_with fail
  rw [rounds_succ]
  go_wp2_with fail
  go_ret3
  exact ⟨rfl, rfl⟩

set_option maxHeartbeats 1000000 in
set_option maxRecDepth 100000 in
theorem first_3y (s : ByteArray) (hs : s.size ≤ 1000000) (h0 : 3 ≤ s.size) (w : World) (hL : LE w) (hn : U8.lenBy (s[0]'(by omega)).toNat = 3) (P1 P2 : Int) (c1 : (((s[1]'(by omega)).toNat : Int) / 64 != 2) = false) (c2 : (((s[2]'(by omega)).toNat : Int) / 64 != 2) = false) (ha : bits .and .i64 ((s[0]'(by omega)).toNat : Int) 15 = ((s[0]'(by omega)).toNat : Int) % 16) (e1 : bits .or .i64 (((s[0]'(by omega)).toNat : Int) % 16 * 64) (((s[1]'(by omega)).toNat : Int) % 64) = P1) (e2 : bits .or .i64 (P1 * 64) (((s[2]'(by omega)).toNat : Int) % 64) = P2) (_q1 : 0 ≤ P1) (_r1 : P1 < 1000000000) (_q2 : 0 ≤ P2) (_r2 : P2 < 1000000000) (hl : 2048 ≤ P2) (hp : U8.isPt P2 = true) :
    Calls Tryd.prog 18 #[.string s] w fun e w' => e = .returned (.tuple #[.int .i64 P2, .int .i64 3, .bool true]) ∧ w' = w := by
  obtain ⟨l0, l1, l2, l3⟩ := hL
  have HN : Hid (U8.lenBy (s[0]'(by omega)).toNat = 3) := hn
  clear hn
  have b0 : (s[0]'(by omega)).toNat < 256 := UInt8.toNat_lt _
  have b1 : (s[1]'(by omega)).toNat < 256 := UInt8.toNat_lt _
  have b2 : (s[2]'(by omega)).toNat < 256 := UInt8.toNat_lt _
  go_enter Tryd.func18, Tryd.ntmps18
  go_wp2_with fail
  refine (lengthBy_any _ (UInt8.toNat_lt _) _).mono ?_
  rintro e w' ⟨rfl, rfl⟩
  rw [HN.out]
  go_wp2_with fail
  refine wp_loop_rounds 3 ?_
  rw [rounds_succ]
  go_wp2_with fail
  rw [rounds_succ]
  go_wp2_with fail
  rw [rounds_succ]
  go_wp2_with fail
  refine (isPoint_any _ _).mono ?_
  rintro e w' ⟨rfl, rfl⟩
  rw [hp]
  go_wp2_with fail
  go_ret3
  exact ⟨rfl, rfl⟩

set_option maxHeartbeats 1000000 in
set_option maxRecDepth 100000 in
theorem first_3n (s : ByteArray) (hs : s.size ≤ 1000000) (h0 : 3 ≤ s.size) (w : World) (hL : LE w) (hn : U8.lenBy (s[0]'(by omega)).toNat = 3) (P1 P2 : Int) (c1 : (((s[1]'(by omega)).toNat : Int) / 64 != 2) = false) (c2 : (((s[2]'(by omega)).toNat : Int) / 64 != 2) = false) (ha : bits .and .i64 ((s[0]'(by omega)).toNat : Int) 15 = ((s[0]'(by omega)).toNat : Int) % 16) (e1 : bits .or .i64 (((s[0]'(by omega)).toNat : Int) % 16 * 64) (((s[1]'(by omega)).toNat : Int) % 64) = P1) (e2 : bits .or .i64 (P1 * 64) (((s[2]'(by omega)).toNat : Int) % 64) = P2) (_q1 : 0 ≤ P1) (_r1 : P1 < 1000000000) (_q2 : 0 ≤ P2) (_r2 : P2 < 1000000000) (hl : 2048 ≤ P2) (hp : U8.isPt P2 = false) :
    Calls Tryd.prog 18 #[.string s] w fun e w' => e = .returned nothing ∧ w' = w := by
  obtain ⟨l0, l1, l2, l3⟩ := hL
  have HN : Hid (U8.lenBy (s[0]'(by omega)).toNat = 3) := hn
  clear hn
  have b0 : (s[0]'(by omega)).toNat < 256 := UInt8.toNat_lt _
  have b1 : (s[1]'(by omega)).toNat < 256 := UInt8.toNat_lt _
  have b2 : (s[2]'(by omega)).toNat < 256 := UInt8.toNat_lt _
  go_enter Tryd.func18, Tryd.ntmps18
  go_wp2_with fail
  refine (lengthBy_any _ (UInt8.toNat_lt _) _).mono ?_
  rintro e w' ⟨rfl, rfl⟩
  rw [HN.out]
  go_wp2_with fail
  refine wp_loop_rounds 3 ?_
  rw [rounds_succ]
  go_wp2_with fail
  rw [rounds_succ]
  go_wp2_with fail
  rw [rounds_succ]
  go_wp2_with fail
  refine (isPoint_any _ _).mono ?_
  rintro e w' ⟨rfl, rfl⟩
  rw [hp]
  go_wp2_with fail
  go_ret3
  exact ⟨rfl, rfl⟩

set_option maxHeartbeats 1000000 in
set_option maxRecDepth 100000 in
theorem first_4b1 (s : ByteArray) (hs : s.size ≤ 1000000) (h0 : 4 ≤ s.size) (w : World) (hL : LE w) (hn : U8.lenBy (s[0]'(by omega)).toNat = 4) (c1 : (((s[1]'(by omega)).toNat : Int) / 64 != 2) = true) (ha : bits .and .i64 ((s[0]'(by omega)).toNat : Int) 7 = ((s[0]'(by omega)).toNat : Int) % 8) :
    Calls Tryd.prog 18 #[.string s] w fun e w' => e = .returned nothing ∧ w' = w := by
  obtain ⟨l0, l1, l2, l3⟩ := hL
  have HN : Hid (U8.lenBy (s[0]'(by omega)).toNat = 4) := hn
  clear hn
  have b0 : (s[0]'(by omega)).toNat < 256 := UInt8.toNat_lt _
  have b1 : (s[1]'(by omega)).toNat < 256 := UInt8.toNat_lt _
  have b2 : (s[2]'(by omega)).toNat < 256 := UInt8.toNat_lt _
  have b3 : (s[3]'(by omega)).toNat < 256 := UInt8.toNat_lt _
  go_enter Tryd.func18, Tryd.ntmps18
  go_wp2_with fail
  refine (lengthBy_any _ (UInt8.toNat_lt _) _).mono ?_
  rintro e w' ⟨rfl, rfl⟩
  rw [HN.out]
  go_wp2_with fail
  refine wp_loop_rounds 1 ?_
  rw [rounds_succ]
  go_wp2_with fail
  go_ret3
  exact ⟨rfl, rfl⟩

set_option maxHeartbeats 1000000 in
set_option maxRecDepth 100000 in
theorem first_4b2 (s : ByteArray) (hs : s.size ≤ 1000000) (h0 : 4 ≤ s.size) (w : World) (hL : LE w) (hn : U8.lenBy (s[0]'(by omega)).toNat = 4) (P1 : Int) (c1 : (((s[1]'(by omega)).toNat : Int) / 64 != 2) = false) (c2 : (((s[2]'(by omega)).toNat : Int) / 64 != 2) = true) (ha : bits .and .i64 ((s[0]'(by omega)).toNat : Int) 7 = ((s[0]'(by omega)).toNat : Int) % 8) (e1 : bits .or .i64 (((s[0]'(by omega)).toNat : Int) % 8 * 64) (((s[1]'(by omega)).toNat : Int) % 64) = P1) (_q1 : 0 ≤ P1) (_r1 : P1 < 1000000000) :
    Calls Tryd.prog 18 #[.string s] w fun e w' => e = .returned nothing ∧ w' = w := by
  obtain ⟨l0, l1, l2, l3⟩ := hL
  have HN : Hid (U8.lenBy (s[0]'(by omega)).toNat = 4) := hn
  clear hn
  have b0 : (s[0]'(by omega)).toNat < 256 := UInt8.toNat_lt _
  have b1 : (s[1]'(by omega)).toNat < 256 := UInt8.toNat_lt _
  have b2 : (s[2]'(by omega)).toNat < 256 := UInt8.toNat_lt _
  have b3 : (s[3]'(by omega)).toNat < 256 := UInt8.toNat_lt _
  go_enter Tryd.func18, Tryd.ntmps18
  go_wp2_with fail
  refine (lengthBy_any _ (UInt8.toNat_lt _) _).mono ?_
  rintro e w' ⟨rfl, rfl⟩
  rw [HN.out]
  go_wp2_with fail
  refine wp_loop_rounds 2 ?_
  rw [rounds_succ]
  go_wp2_with fail
  rw [rounds_succ]
  go_wp2_with fail
  go_ret3
  exact ⟨rfl, rfl⟩

set_option maxHeartbeats 1000000 in
set_option maxRecDepth 100000 in
theorem first_4b3 (s : ByteArray) (hs : s.size ≤ 1000000) (h0 : 4 ≤ s.size) (w : World) (hL : LE w) (hn : U8.lenBy (s[0]'(by omega)).toNat = 4) (P1 P2 : Int) (c1 : (((s[1]'(by omega)).toNat : Int) / 64 != 2) = false) (c2 : (((s[2]'(by omega)).toNat : Int) / 64 != 2) = false) (c3 : (((s[3]'(by omega)).toNat : Int) / 64 != 2) = true) (ha : bits .and .i64 ((s[0]'(by omega)).toNat : Int) 7 = ((s[0]'(by omega)).toNat : Int) % 8) (e1 : bits .or .i64 (((s[0]'(by omega)).toNat : Int) % 8 * 64) (((s[1]'(by omega)).toNat : Int) % 64) = P1) (e2 : bits .or .i64 (P1 * 64) (((s[2]'(by omega)).toNat : Int) % 64) = P2) (_q1 : 0 ≤ P1) (_r1 : P1 < 1000000000) (_q2 : 0 ≤ P2) (_r2 : P2 < 1000000000) :
    Calls Tryd.prog 18 #[.string s] w fun e w' => e = .returned nothing ∧ w' = w := by
  obtain ⟨l0, l1, l2, l3⟩ := hL
  have HN : Hid (U8.lenBy (s[0]'(by omega)).toNat = 4) := hn
  clear hn
  have b0 : (s[0]'(by omega)).toNat < 256 := UInt8.toNat_lt _
  have b1 : (s[1]'(by omega)).toNat < 256 := UInt8.toNat_lt _
  have b2 : (s[2]'(by omega)).toNat < 256 := UInt8.toNat_lt _
  have b3 : (s[3]'(by omega)).toNat < 256 := UInt8.toNat_lt _
  go_enter Tryd.func18, Tryd.ntmps18
  go_wp2_with fail
  refine (lengthBy_any _ (UInt8.toNat_lt _) _).mono ?_
  rintro e w' ⟨rfl, rfl⟩
  rw [HN.out]
  go_wp2_with fail
  refine wp_loop_rounds 3 ?_
  rw [rounds_succ]
  go_wp2_with fail
  rw [rounds_succ]
  go_wp2_with fail
  rw [rounds_succ]
  go_wp2_with fail
  go_ret3
  exact ⟨rfl, rfl⟩

set_option maxHeartbeats 1000000 in
set_option maxRecDepth 100000 in
theorem first_4l (s : ByteArray) (hs : s.size ≤ 1000000) (h0 : 4 ≤ s.size) (w : World) (hL : LE w) (hn : U8.lenBy (s[0]'(by omega)).toNat = 4) (P1 P2 P3 : Int) (c1 : (((s[1]'(by omega)).toNat : Int) / 64 != 2) = false) (c2 : (((s[2]'(by omega)).toNat : Int) / 64 != 2) = false) (c3 : (((s[3]'(by omega)).toNat : Int) / 64 != 2) = false) (ha : bits .and .i64 ((s[0]'(by omega)).toNat : Int) 7 = ((s[0]'(by omega)).toNat : Int) % 8) (e1 : bits .or .i64 (((s[0]'(by omega)).toNat : Int) % 8 * 64) (((s[1]'(by omega)).toNat : Int) % 64) = P1) (e2 : bits .or .i64 (P1 * 64) (((s[2]'(by omega)).toNat : Int) % 64) = P2) (e3 : bits .or .i64 (P2 * 64) (((s[3]'(by omega)).toNat : Int) % 64) = P3) (_q1 : 0 ≤ P1) (_r1 : P1 < 1000000000) (_q2 : 0 ≤ P2) (_r2 : P2 < 1000000000) (_q3 : 0 ≤ P3) (_r3 : P3 < 1000000000) (hl : P3 < 65536) :
    Calls Tryd.prog 18 #[.string s] w fun e w' => e = .returned nothing ∧ w' = w := by
  obtain ⟨l0, l1, l2, l3⟩ := hL
  have HN : Hid (U8.lenBy (s[0]'(by omega)).toNat = 4) := hn
  clear hn
  have b0 : (s[0]'(by omega)).toNat < 256 := UInt8.toNat_lt _
  have b1 : (s[1]'(by omega)).toNat < 256 := UInt8.toNat_lt _
  have b2 : (s[2]'(by omega)).toNat < 256 := UInt8.toNat_lt _
  have b3 : (s[3]'(by omega)).toNat < 256 := UInt8.toNat_lt _
  go_enter Tryd.func18, Tryd.ntmps18
  go_wp2_with fail
  refine (lengthBy_any _ (UInt8.toNat_lt _) _).mono ?_
  rintro e w' ⟨rfl, rfl⟩
  rw [HN.out]
  go_wp2_with fail
  refine wp_loop_rounds 4 ?_
  rw [rounds_succ]
  go_wp2_with fail
  rw [rounds_succ]
  go_wp2_with fail
  rw [rounds_succ]
  go_wp2_with fail
  rw [rounds_succ]
  go_wp2_with fail
  go_ret3
  exact ⟨rfl, rfl⟩

set_option maxHeartbeats 1000000 in
set_option maxRecDepth 100000 in
theorem first_4y (s : ByteArray) (hs : s.size ≤ 1000000) (h0 : 4 ≤ s.size) (w : World) (hL : LE w) (hn : U8.lenBy (s[0]'(by omega)).toNat = 4) (P1 P2 P3 : Int) (c1 : (((s[1]'(by omega)).toNat : Int) / 64 != 2) = false) (c2 : (((s[2]'(by omega)).toNat : Int) / 64 != 2) = false) (c3 : (((s[3]'(by omega)).toNat : Int) / 64 != 2) = false) (ha : bits .and .i64 ((s[0]'(by omega)).toNat : Int) 7 = ((s[0]'(by omega)).toNat : Int) % 8) (e1 : bits .or .i64 (((s[0]'(by omega)).toNat : Int) % 8 * 64) (((s[1]'(by omega)).toNat : Int) % 64) = P1) (e2 : bits .or .i64 (P1 * 64) (((s[2]'(by omega)).toNat : Int) % 64) = P2) (e3 : bits .or .i64 (P2 * 64) (((s[3]'(by omega)).toNat : Int) % 64) = P3) (_q1 : 0 ≤ P1) (_r1 : P1 < 1000000000) (_q2 : 0 ≤ P2) (_r2 : P2 < 1000000000) (_q3 : 0 ≤ P3) (_r3 : P3 < 1000000000) (hl : 65536 ≤ P3) (hp : U8.isPt P3 = true) :
    Calls Tryd.prog 18 #[.string s] w fun e w' => e = .returned (.tuple #[.int .i64 P3, .int .i64 4, .bool true]) ∧ w' = w := by
  obtain ⟨l0, l1, l2, l3⟩ := hL
  have HN : Hid (U8.lenBy (s[0]'(by omega)).toNat = 4) := hn
  clear hn
  have b0 : (s[0]'(by omega)).toNat < 256 := UInt8.toNat_lt _
  have b1 : (s[1]'(by omega)).toNat < 256 := UInt8.toNat_lt _
  have b2 : (s[2]'(by omega)).toNat < 256 := UInt8.toNat_lt _
  have b3 : (s[3]'(by omega)).toNat < 256 := UInt8.toNat_lt _
  go_enter Tryd.func18, Tryd.ntmps18
  go_wp2_with fail
  refine (lengthBy_any _ (UInt8.toNat_lt _) _).mono ?_
  rintro e w' ⟨rfl, rfl⟩
  rw [HN.out]
  go_wp2_with fail
  refine wp_loop_rounds 4 ?_
  rw [rounds_succ]
  go_wp2_with fail
  rw [rounds_succ]
  go_wp2_with fail
  rw [rounds_succ]
  go_wp2_with fail
  rw [rounds_succ]
  go_wp2_with fail
  refine (isPoint_any _ _).mono ?_
  rintro e w' ⟨rfl, rfl⟩
  rw [hp]
  go_wp2_with fail
  go_ret3
  exact ⟨rfl, rfl⟩

set_option maxHeartbeats 1000000 in
set_option maxRecDepth 100000 in
theorem first_4n (s : ByteArray) (hs : s.size ≤ 1000000) (h0 : 4 ≤ s.size) (w : World) (hL : LE w) (hn : U8.lenBy (s[0]'(by omega)).toNat = 4) (P1 P2 P3 : Int) (c1 : (((s[1]'(by omega)).toNat : Int) / 64 != 2) = false) (c2 : (((s[2]'(by omega)).toNat : Int) / 64 != 2) = false) (c3 : (((s[3]'(by omega)).toNat : Int) / 64 != 2) = false) (ha : bits .and .i64 ((s[0]'(by omega)).toNat : Int) 7 = ((s[0]'(by omega)).toNat : Int) % 8) (e1 : bits .or .i64 (((s[0]'(by omega)).toNat : Int) % 8 * 64) (((s[1]'(by omega)).toNat : Int) % 64) = P1) (e2 : bits .or .i64 (P1 * 64) (((s[2]'(by omega)).toNat : Int) % 64) = P2) (e3 : bits .or .i64 (P2 * 64) (((s[3]'(by omega)).toNat : Int) % 64) = P3) (_q1 : 0 ≤ P1) (_r1 : P1 < 1000000000) (_q2 : 0 ≤ P2) (_r2 : P2 < 1000000000) (_q3 : 0 ≤ P3) (_r3 : P3 < 1000000000) (hl : 65536 ≤ P3) (hp : U8.isPt P3 = false) :
    Calls Tryd.prog 18 #[.string s] w fun e w' => e = .returned nothing ∧ w' = w := by
  obtain ⟨l0, l1, l2, l3⟩ := hL
  have HN : Hid (U8.lenBy (s[0]'(by omega)).toNat = 4) := hn
  clear hn
  have b0 : (s[0]'(by omega)).toNat < 256 := UInt8.toNat_lt _
  have b1 : (s[1]'(by omega)).toNat < 256 := UInt8.toNat_lt _
  have b2 : (s[2]'(by omega)).toNat < 256 := UInt8.toNat_lt _
  have b3 : (s[3]'(by omega)).toNat < 256 := UInt8.toNat_lt _
  go_enter Tryd.func18, Tryd.ntmps18
  go_wp2_with fail
  refine (lengthBy_any _ (UInt8.toNat_lt _) _).mono ?_
  rintro e w' ⟨rfl, rfl⟩
  rw [HN.out]
  go_wp2_with fail
  refine wp_loop_rounds 4 ?_
  rw [rounds_succ]
  go_wp2_with fail
  rw [rounds_succ]
  go_wp2_with fail
  rw [rounds_succ]
  go_wp2_with fail
  rw [rounds_succ]
  go_wp2_with fail
  refine (isPoint_any _ _).mono ?_
  rintro e w' ⟨rfl, rfl⟩
  rw [hp]
  go_wp2_with fail
  go_ret3
  exact ⟨rfl, rfl⟩

end Go.Proofs.YtneemepjpeohbaaDoor
