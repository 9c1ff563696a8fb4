/- internal/strconv.ParseUint at base 16 and 32 bits, at every text that is not empty. -/
import Derived.Test.YtjbdlihlcoldlaaGreatDoorRows
import Derived.Test.YtjbdlihlcoldlaaGreatDoorG00
import Derived.WalkKit
import Derived.WalkSpells
import Derived.WalkLawsBesides
import Derived.BigQuiet
import Derived.Lib.ConvBytes
import Derived.Lib.Strings
import Derived.Lib.Hide
import Derived.Laws.Strings3
import Derived.Laws.Closers25
import Derived.Laws.Closers25b
import Derived.BigCall
import Derived.BigGuard
import Derived.Test.YtjbdlihlcoldlaaGreatDoorG28
namespace Go.Proofs.YtjbdlihlcoldlaaGreatDoor
open Go.RowKit

theorem u8_or32 (c : Nat) (h : c < 256) : bits .or .u8 (c : Int) 32 = ((c ||| 32 : Nat) : Int) := by
  have : ∀ c : Fin 256, bits .or .u8 (c.val : Int) 32 = ((c.val ||| 32 : Nat) : Int) := by decide +kernel
  exact this ⟨c, h⟩

set_option maxHeartbeats 1000000 in
set_option maxRecDepth 100000 in
theorem lower_any (c : Nat) (h : c < 256) (w : World) : Calls Tryz.prog 274 #[.int .u8 (c : Int)] w fun e w' => e = .returned (.int .u8 ((c ||| 32 : Nat) : Int)) ∧ w' = w := by
  have hb := u8_or32 c h
  go_enter Tryz.func274, Tryz.ntmps274
  go_wp2
  go_ret
  exact ⟨rfl, rfl⟩

/-- What ParseUint hands back. -/
def puTuple (M : Nat) : RS.PU → Value
  | .good n => .tuple #[.int .u64 (n : Int), .nilIface]
  | .bad => .tuple #[.int .u64 0, .iface 344 (.int .i64 2)]
  | .great => .tuple #[.int .u64 (M : Int), .iface 344 (.int .i64 1)]

/-- The bytes of a text, as numbers. -/
def nums (t : ByteArray) : List Nat := t.data.toList.map UInt8.toNat

theorem pu_cons (M acc c : Nat) (l : List Nat) : RS.pu M acc (c :: l) = match RS.worth c with
    | none => .bad
    | some d => if 16 ≤ d then .bad else if M < acc * 16 + d then .great else RS.pu M (acc * 16 + d) l := by
  rw [RS.pu]
  cases RS.worth c <;> rfl

theorem pu_bad {M acc c : Nat} {l : List Nat} (h : RS.worth c = none ∨ ∃ d, RS.worth c = some d ∧ 16 ≤ d) : RS.pu M acc (c :: l) = .bad := by
  rw [pu_cons]
  rcases h with h | ⟨d, h, hd⟩
  · rw [h]
  · rw [h]; simp only; rw [if_pos hd]

theorem pu_great {M acc c d : Nat} {l : List Nat} (h : RS.worth c = some d) (hd : d < 16) (hm : M < acc * 16 + d) : RS.pu M acc (c :: l) = .great := by
  rw [pu_cons, h]; simp only; rw [if_neg (by omega), if_pos hm]

theorem pu_next {M acc c d : Nat} {l : List Nat} (h : RS.worth c = some d) (hd : d < 16) (hm : acc * 16 + d ≤ M) : RS.pu M acc (c :: l) = RS.pu M (acc * 16 + d) l := by
  rw [pu_cons, h]; simp only; rw [if_neg (by omega), if_neg (by omega)]

set_option maxHeartbeats 4000000 in
set_option maxRecDepth 100000 in
theorem pu32_any (t : ByteArray) (hne : t.size ≠ 0) (hmax : t.size ≤ 1000000) (w : World) :
    Calls Tryz.prog 269 #[.string t, .int .i64 16, .int .i64 32] w fun e w' => e = .returned (puTuple 4294967295 (RS.pu 4294967295 0 (nums t))) ∧ w' = Lib.bytesWorld w 5 t := by
  have hemp : t.toList.isEmpty = false := by
    rw [← decide_eq_emptyBytes]
    exact decide_eq_false (fun h => hne (by rw [h]; rfl))
  have hcv := Lib.run_convert_string_bytes (P := Tryz.prog) w 9 219 5 t (u := .string) Tryz.underlying9 Tryz.underlying219 Tryz.underlying5
  have hB : ∀ j, j < t.size → (Lib.bytesWorld w 5 t).cell? ⟨w.heap.size, j, none⟩ = some (.int .u8 (t.data.toList.getD j 0).toNat) := fun j hj => Lib.bytesWorld_cell w 5 t j hj
  obtain ⟨W1, hW1⟩ : ∃ W1, W1 = Lib.bytesWorld w 5 t := ⟨_, rfl⟩
  rw [← hW1] at hcv hB ⊢
  clear hW1
  obtain ⟨bs, hL⟩ : ∃ bs, bs = nums t := ⟨_, rfl⟩
  have hLn : bs.length = t.size := by rw [hL]; simp [nums]
  have hB' : Hid (∀ j (h : j < bs.length), W1.cell? ⟨w.heap.size, j, none⟩ = some (.int .u8 (bs[j] : Int)) ∧ bs[j] < 256) := fun j h => by
    have hj : j < t.size := by omega
    have h1 := hB j hj
    have e : (t.data.toList.getD j 0).toNat = bs[j] := by subst hL; simp [nums, List.getD, hj]
    rw [e] at h1
    refine ⟨h1, ?_⟩
    subst hL
    simp [nums]
    exact UInt8.toNat_lt _
  rw [← hL]
  clear hL hB
  have hmv : IntKind.u64.wrap (IntKind.u64.wrap 4294967296 - 1) = 4294967295 := by
    rw [IntKind.wrap_u64, IntKind.wrap_u64]
    decide
  go_enter Tryz.func269, Tryz.ntmps269
  go_wp2
  go_loop [12, 13, 101] (fun vu vn vi => ∃ (k acc : Nat) (a : Int), vu = .bool false ∧ vn = .int .u64 a ∧ vi = .int .i64 k ∧ k ≤ t.size ∧ Hid (a = (acc : Int) ∧ acc ≤ 4294967295 ∧ RS.pu 4294967295 0 bs = RS.pu 4294967295 acc (bs.drop k)))
    (fun _ _ vi => t.size - (intOf vi).toNat)
  case atStart => exact ⟨0, 0, 0, rfl, rfl, rfl, by omega, rfl, by omega, rfl⟩
  case round =>
    obtain ⟨k, acc, a, rfl, rfl, rfl, hk, hh⟩ := hrel
    obtain ⟨ha, hacc, hdec⟩ := hh.out
    clear hh
    have a0 : 0 ≤ a := by omega
    have a1 : a ≤ 4294967295 := by omega
    by_cases hkn : k < t.size
    · obtain ⟨hc, hc256⟩ := hB'.out k (by omega)
      have hdrop : bs.drop k = bs[k]'(by omega) :: bs.drop (k + 1) := List.drop_eq_getElem_cons (by omega)
      rw [hdrop] at hdec
      generalize bs[k]'(by omega) = c at hc hdec hc256
      have HD : Hid (RS.pu 4294967295 0 bs = RS.pu 4294967295 acc (c :: bs.drop (k + 1))) := hdec
      clear hdrop hdec
      by_cases hdig : 48 ≤ c ∧ c ≤ 57
      · obtain ⟨hd0, hd1⟩ := hdig
        have hw : RS.worth c = some (c - 48) := by unfold RS.worth; rw [if_pos ⟨hd0, hd1⟩]
        by_cases hov : 4294967295 < acc * 16 + (c - 48)
        · have hF := HD.out.trans (pu_great (l := bs.drop (k + 1)) hw (by omega) hov)
          have HE : Hid (RS.pu 4294967295 0 bs = .great) := hF
          have iov : 4294967295 < a * 16 + ((c : Int) - 48) := by omega
          clear hacc hF hov ha hw
          go_wp2
          go_ret2
          exact ⟨by rw [HE.out]; rfl, rfl⟩
        · have hF := HD.out.trans (pu_next (l := bs.drop (k + 1)) hw (by omega) (by omega))
          have HN : Hid (a * 16 + ((c : Int) - 48) = ((acc * 16 + (c - 48) : Nat) : Int) ∧ acc * 16 + (c - 48) ≤ 4294967295 ∧ RS.pu 4294967295 0 bs = RS.pu 4294967295 (acc * 16 + (c - 48)) (bs.drop (k + 1))) := Lib.hid ⟨by omega, by omega, hF⟩
          have iov : a * 16 + ((c : Int) - 48) ≤ 4294967295 := by omega
          clear hacc hF hov ha hw
          go_wp2
          refine ⟨⟨k + 1, acc * 16 + (c - 48), a * 16 + ((c : Int) - 48), rfl, (by first | rfl | (congr 1; omega)), (by first | rfl | (congr 1; omega)), by omega, HN⟩, by simp [intOf]; omega⟩
      · have hlo : c ||| 32 < 256 := Nat.or_lt_two_pow (n := 8) hc256 (by omega)
        have hlow := fun W => lower_any c hc256 W
        have hor := Nat.right_le_or (n := c) (m := 32)
        obtain ⟨d, hdd⟩ : ∃ d, d = c ||| 32 := ⟨_, rfl⟩
        rw [← hdd] at hlow hlo hor
        have hnd : ¬ (48 ≤ (c : Int) ∧ (c : Int) ≤ 57) := by omega
        by_cases hlet : 97 ≤ d ∧ d ≤ 122
        · obtain ⟨hl0, hl1⟩ := hlet
          have hn95 : c ≠ 95 := by
            rintro rfl
            rw [show (95 ||| 32 : Nat) = 127 from rfl] at hdd
            omega
          have h95 : ((c : Int) == 95) = false := by simp; omega
          clear hn95
          have hw : RS.worth c = some (d - 87) := by unfold RS.worth; rw [if_neg hdig, ← hdd, if_pos ⟨hl0, hl1⟩]
          by_cases h16 : 103 ≤ d
          · have HE : Hid (RS.pu 4294967295 0 bs = .bad) := HD.out.trans (pu_bad (.inr ⟨_, hw, by omega⟩))
            clear hacc ha hw hdd hdig
            go_wp2_with (go_at_call 274; refine (hlow _).mono ?_; rintro e w' ⟨rfl, rfl⟩)
            all_goals go_ret2
            all_goals exact ⟨by rw [HE.out]; rfl, rfl⟩
          · by_cases hov : 4294967295 < acc * 16 + (d - 87)
            · have HE : Hid (RS.pu 4294967295 0 bs = .great) := HD.out.trans (pu_great (l := bs.drop (k + 1)) hw (by omega) hov)
              have iov : 4294967295 < a * 16 + ((d : Int) - 97 + 10) := by omega
              clear hacc hov ha hw hdd hdig
              go_wp2_with (go_at_call 274; refine (hlow _).mono ?_; rintro e w' ⟨rfl, rfl⟩)
              all_goals go_ret2
              all_goals exact ⟨by rw [HE.out]; rfl, rfl⟩
            · have hF := HD.out.trans (pu_next (l := bs.drop (k + 1)) hw (by omega) (by omega))
              have HN : Hid (a * 16 + ((d : Int) - 97 + 10) = ((acc * 16 + (d - 87) : Nat) : Int) ∧ acc * 16 + (d - 87) ≤ 4294967295 ∧ RS.pu 4294967295 0 bs = RS.pu 4294967295 (acc * 16 + (d - 87)) (bs.drop (k + 1))) := Lib.hid ⟨by omega, by omega, hF⟩
              have iov : a * 16 + ((d : Int) - 97 + 10) ≤ 4294967295 := by omega
              clear hacc hF hov ha hw hdd hdig
              go_wp2_with (go_at_call 274; refine (hlow _).mono ?_; rintro e w' ⟨rfl, rfl⟩)
              all_goals refine ⟨⟨k + 1, acc * 16 + (d - 87), a * 16 + ((d : Int) - 97 + 10), rfl, (by first | rfl | (congr 1; omega)), (by first | rfl | (congr 1; omega)), by omega, HN⟩, by simp [intOf]; omega⟩
        · have hw : RS.worth c = none := by unfold RS.worth; rw [if_neg hdig, ← hdd, if_neg hlet]
          have HE : Hid (RS.pu 4294967295 0 bs = .bad) := HD.out.trans (pu_bad (.inl hw))
          by_cases hn95 : c = 95
          · subst hn95
            have hlow' := fun W => lower_any 95 (by omega) W
            clear hacc ha hw hdd hdig hlow hnd hlet hor hlo HD
            have hc' : W1.cell? ⟨w.heap.size, k, none⟩ = some (.int .u8 95) := hc
            clear hc
            change ∀ W, Calls Tryz.prog 274 #[.int .u8 95] W (fun e w' => e = .returned (.int .u8 127) ∧ w' = W) at hlow'
            go_wp2_with (go_at_call 274; refine (hlow' _).mono ?_; rintro e w' ⟨rfl, rfl⟩)
            all_goals go_ret2
            all_goals exact ⟨by rw [HE.out]; rfl, rfl⟩
          · have h95 : ((c : Int) == 95) = false := by simp; omega
            clear hacc ha hw hdd hdig hn95
            go_wp2_with (go_at_call 274; refine (hlow _).mono ?_; rintro e w' ⟨rfl, rfl⟩)
            all_goals go_ret2
            all_goals exact ⟨by rw [HE.out]; rfl, rfl⟩
    · have hkk : k = t.size := by omega
      have hF : RS.pu 4294967295 acc (bs.drop k) = .good acc := by rw [List.drop_eq_nil_of_le (by omega)]; rfl
      rw [hF] at hdec
      have HE : Hid (RS.pu 4294967295 0 bs = .good acc) := hdec
      subst ha
      clear hacc hF a0 a1 hdec
      go_wp2
      go_ret2
      exact ⟨by rw [HE.out]; rfl, rfl⟩

end Go.Proofs.YtjbdlihlcoldlaaGreatDoor

namespace Go.Proofs.YtjbdlihlcoldlaaGreatDoor
open Go.RowKit

theorem ret_int {k : IntKind} {a b : Int} (h : a = b) : Ending.returned (.int k a) = .returned (.int k b) := by rw [h]
theorem ret_bool {a b : Bool} (h : a = b) : Ending.returned (.bool a) = .returned (.bool b) := by rw [h]

theorem lenBy1 {b : Nat} (h : ((b : Int) / 128 == 0) = true) : (1 : Int) = (U8.lenBy b : Nat) := by
  simp only [beq_iff_eq] at h
  rw [U8.lenBy, if_pos (by omega)]; rfl
theorem lenBy2 {b : Nat} (_h1 : ((b : Int) / 128 == 0) = false) (h : ((b : Int) / 32 == 6) = true) : (2 : Int) = (U8.lenBy b : Nat) := by
  simp only [beq_iff_eq, beq_eq_false_iff_ne, ne_eq] at h _h1
  rw [U8.lenBy, if_neg (by omega), if_pos (by omega)]; rfl
theorem lenBy3 {b : Nat} (_h1 : ((b : Int) / 128 == 0) = false) (_h2 : ((b : Int) / 32 == 6) = false) (h : ((b : Int) / 16 == 14) = true) : (3 : Int) = (U8.lenBy b : Nat) := by
  simp only [beq_iff_eq, beq_eq_false_iff_ne, ne_eq] at h _h1 _h2
  rw [U8.lenBy, if_neg (by omega), if_neg (by omega), if_pos (by omega)]; rfl
theorem lenBy4 {b : Nat} (_h1 : ((b : Int) / 128 == 0) = false) (_h2 : ((b : Int) / 32 == 6) = false) (_h3 : ((b : Int) / 16 == 14) = false) (h : ((b : Int) / 8 == 30) = true) : (4 : Int) = (U8.lenBy b : Nat) := by
  simp only [beq_iff_eq, beq_eq_false_iff_ne, ne_eq] at h _h1 _h2 _h3
  rw [U8.lenBy, if_neg (by omega), if_neg (by omega), if_neg (by omega), if_pos (by omega)]; rfl
theorem lenBy0 {b : Nat} (h1 : ((b : Int) / 128 == 0) = false) (h2 : ((b : Int) / 32 == 6) = false) (h3 : ((b : Int) / 16 == 14) = false) (h : ((b : Int) / 8 == 30) = false) : (0 : Int) = (U8.lenBy b : Nat) := by
  simp only [beq_eq_false_iff_ne, ne_eq] at h h1 h2 h3
  rw [U8.lenBy, if_neg (by omega), if_neg (by omega), if_neg (by omega), if_neg (by omega)]; rfl

set_option maxHeartbeats 400000 in
set_option maxRecDepth 100000 in
theorem lengthBy_any (b : Nat) (_hb : b < 256) (w : World) :
    Calls Tryz.prog 73 #[.int .u8 (b : Int)] w fun e w' => e = .returned (.int .i64 (U8.lenBy b : Nat)) ∧ w' = w := by
  go_enter Tryz.func73, Tryz.ntmps73
  go_wp2
  all_goals go_ret
  all_goals refine ⟨ret_int ?_, rfl⟩
  all_goals first | exact lenBy1 (by assumption) | exact lenBy2 (by assumption) (by assumption) | exact lenBy3 (by assumption) (by assumption) (by assumption) | exact lenBy4 (by assumption) (by assumption) (by assumption) (by assumption) | exact lenBy0 (by assumption) (by assumption) (by assumption) (by assumption)

set_option maxHeartbeats 400000 in
set_option maxRecDepth 100000 in
theorem isPoint_any (p : Int) (w : World) :
    Calls Tryz.prog 74 #[.int .i64 p] w fun e w' => e = .returned (.bool (U8.isPt p)) ∧ w' = w := by
  go_enter Tryz.func74, Tryz.ntmps74
  go_wp2
  all_goals go_ret
  all_goals refine ⟨ret_bool ?_, rfl⟩
  all_goals (rw [Bool.eq_iff_iff, U8.isPt_iff]; simp; try omega)

/-- The table of the least code points lies in block 1. -/
def LE (w : World) : Prop := w.cell? ⟨0, 0, none⟩ = some (.int .i64 0) ∧ w.cell? ⟨0, 1, none⟩ = some (.int .i64 128) ∧ w.cell? ⟨0, 2, none⟩ = some (.int .i64 2048) ∧ w.cell? ⟨0, 3, none⟩ = some (.int .i64 65536)

theorem LE.below {w w' : World} {B : Nat} (h : LE w) (hb : Below B w w') (hB : 0 < B) : LE w' :=
  ⟨(hb.cell (by exact hB)).trans h.1, (hb.cell (by exact hB)).trans h.2.1, (hb.cell (by exact hB)).trans h.2.2.1, (hb.cell (by exact hB)).trans h.2.2.2⟩


theorem i64_or_nat (a b : Nat) (ha : a < 4611686018427387904) (hb : b < 4611686018427387904) : bits .or .i64 (a : Int) (b : Int) = ((a ||| b : Nat) : Int) := by
  have hx : a ||| b < 2 ^ 62 := Nat.or_lt_two_pow (by omega) (by omega)
  show IntKind.i64.wrap ((BitVec.ofInt 64 (a : Int) ||| BitVec.ofInt 64 (b : Int)).toNat : Int) = _
  rw [BitVec.toNat_or, ofInt_u64 a (by omega), ofInt_u64 b (by omega), IntKind.wrap_i64]
  omega
theorem i64_and_nat (a b : Nat) (ha : a < 4611686018427387904) (hb : b < 4611686018427387904) : bits .and .i64 (a : Int) (b : Int) = ((a &&& b : Nat) : Int) := by
  have hx : a &&& b < 2 ^ 62 := Nat.and_lt_two_pow _ (by omega)
  show IntKind.i64.wrap ((BitVec.ofInt 64 (a : Int) &&& BitVec.ofInt 64 (b : Int)).toNat : Int) = _
  rw [BitVec.toNat_and, ofInt_u64 a (by omega), ofInt_u64 b (by omega), IntKind.wrap_i64]
  omega
theorem i64_or6 (x y : Int) (h0 : 0 ≤ x) (h1 : x < 1000000000) (h2 : 0 ≤ y) (h3 : y < 64) : bits .or .i64 (x * 64) y = x * 64 + y := by
  obtain ⟨a, rfl⟩ := Int.eq_ofNat_of_zero_le h0
  obtain ⟨b, rfl⟩ := Int.eq_ofNat_of_zero_le h2
  have e : ((a : Int) * 64) = ((a * 64 : Nat) : Int) := by omega
  rw [e, i64_or_nat _ _ (by omega) (by omega), nat_join 6 (a * 64) b (by omega) (by omega)]
  omega
theorem and31 (a : Nat) (h : a < 256) : bits .and .i64 (a : Int) 31 = (a : Int) % 32 := by
  rw [show (31 : Int) = ((31 : Nat) : Int) from rfl, i64_and_nat _ _ (by omega) (by omega), nat_mask5]; omega
theorem and15 (a : Nat) (h : a < 256) : bits .and .i64 (a : Int) 15 = (a : Int) % 16 := by
  rw [show (15 : Int) = ((15 : Nat) : Int) from rfl, i64_and_nat _ _ (by omega) (by omega), nat_mask4]; omega
theorem and7 (a : Nat) (h : a < 256) : bits .and .i64 (a : Int) 7 = (a : Int) % 8 := by
  rw [show (7 : Int) = ((7 : Nat) : Int) from rfl, i64_and_nat _ _ (by omega) (by omega), nat_mask3]; omega

/-- What 'first' hands back. -/
def told (o : Option (Nat × Nat)) : Value := match o with
  | none => .tuple #[.int .i64 0, .int .i64 0, .bool false]
  | some (p, n) => .tuple #[.int .i64 p, .int .i64 n, .bool true]
def nothing : Value := .tuple #[.int .i64 0, .int .i64 0, .bool false]

set_option maxHeartbeats 1000000 in
set_option maxRecDepth 100000 in
theorem first_0 (s : ByteArray) (_hs : s.size ≤ 1000000) (h0 : 0 < s.size) (w : World) (hL : LE w) (hn : U8.lenBy (s[0]'(by omega)).toNat = 0) :
    Calls Tryz.prog 44 #[.string s] w fun e w' => e = .returned nothing ∧ w' = w := by
  obtain ⟨l0, l1, l2, l3⟩ := hL
  have HN : Hid (U8.lenBy (s[0]'(by omega)).toNat = 0) := hn
  clear hn
  go_enter Tryz.func44, Tryz.ntmps44
  go_wp2_with fail
  refine (lengthBy_any _ (UInt8.toNat_lt _) _).mono ?_
  rintro e w' ⟨rfl, rfl⟩
  rw [HN.out]
  go_wp2_with fail
  go_ret3
  exact ⟨rfl, rfl⟩

set_option maxHeartbeats 1000000 in
set_option maxRecDepth 100000 in
theorem first_2s (s : ByteArray) (hs : s.size ≤ 1000000) (h0 : 0 < s.size) (h1 : s.size < 2) (w : World) (hL : LE w) (hn : U8.lenBy (s[0]'(by omega)).toNat = 2) :
    Calls Tryz.prog 44 #[.string s] w fun e w' => e = .returned nothing ∧ w' = w := by
  obtain ⟨l0, l1, l2, l3⟩ := hL
  have HN : Hid (U8.lenBy (s[0]'(by omega)).toNat = 2) := hn
  clear hn
  go_enter Tryz.func44, Tryz.ntmps44
  go_wp2_with fail
  refine (lengthBy_any _ (UInt8.toNat_lt _) _).mono ?_
  rintro e w' ⟨rfl, rfl⟩
  rw [HN.out]
  go_wp2_with fail
  go_ret3
  exact ⟨rfl, rfl⟩

set_option maxHeartbeats 1000000 in
set_option maxRecDepth 100000 in
theorem first_3s (s : ByteArray) (hs : s.size ≤ 1000000) (h0 : 0 < s.size) (h1 : s.size < 3) (w : World) (hL : LE w) (hn : U8.lenBy (s[0]'(by omega)).toNat = 3) :
    Calls Tryz.prog 44 #[.string s] w fun e w' => e = .returned nothing ∧ w' = w := by
  obtain ⟨l0, l1, l2, l3⟩ := hL
  have HN : Hid (U8.lenBy (s[0]'(by omega)).toNat = 3) := hn
  clear hn
  go_enter Tryz.func44, Tryz.ntmps44
  go_wp2_with fail
  refine (lengthBy_any _ (UInt8.toNat_lt _) _).mono ?_
  rintro e w' ⟨rfl, rfl⟩
  rw [HN.out]
  go_wp2_with fail
  go_ret3
  exact ⟨rfl, rfl⟩

set_option maxHeartbeats 1000000 in
set_option maxRecDepth 100000 in
theorem first_4s (s : ByteArray) (hs : s.size ≤ 1000000) (h0 : 0 < s.size) (h1 : s.size < 4) (w : World) (hL : LE w) (hn : U8.lenBy (s[0]'(by omega)).toNat = 4) :
    Calls Tryz.prog 44 #[.string s] w fun e w' => e = .returned nothing ∧ w' = w := by
  obtain ⟨l0, l1, l2, l3⟩ := hL
  have HN : Hid (U8.lenBy (s[0]'(by omega)).toNat = 4) := hn
  clear hn
  go_enter Tryz.func44, Tryz.ntmps44
  go_wp2_with fail
  refine (lengthBy_any _ (UInt8.toNat_lt _) _).mono ?_
  rintro e w' ⟨rfl, rfl⟩
  rw [HN.out]
  go_wp2_with fail
  go_ret3
  exact ⟨rfl, rfl⟩

set_option maxHeartbeats 1000000 in
set_option maxRecDepth 100000 in
theorem first_1 (s : ByteArray) (hs : s.size ≤ 1000000) (h0 : 0 < s.size) (w : World) (hL : LE w) (hn : U8.lenBy (s[0]'(by omega)).toNat = 1) (hb : (s[0]'(by omega)).toNat < 128) (hp : U8.isPt ((s[0]'(by omega)).toNat : Nat) = true) :
    Calls Tryz.prog 44 #[.string s] w fun e w' => e = .returned (.tuple #[.int .i64 ((s[0]'(by omega)).toNat : Nat), .int .i64 1, .bool true]) ∧ w' = w := by
  obtain ⟨l0, l1, l2, l3⟩ := hL
  have HN : Hid (U8.lenBy (s[0]'(by omega)).toNat = 1) := hn
  clear hn
  go_enter Tryz.func44, Tryz.ntmps44
  go_wp2_with fail
  refine (lengthBy_any _ (UInt8.toNat_lt _) _).mono ?_
  rintro e w' ⟨rfl, rfl⟩
  rw [HN.out]
  go_wp2_with fail
  refine wp_loop_rounds 1 ?_
  rw [rounds_succ]
  go_wp2_with fail
  refine (isPoint_any _ _).mono ?_
  rintro e w' ⟨rfl, rfl⟩
  rw [hp]
  go_wp2_with fail
  go_ret3
  exact ⟨rfl, rfl⟩


set_option maxHeartbeats 1000000 in
set_option maxRecDepth 100000 in
theorem first_2b1 (s : ByteArray) (hs : s.size ≤ 1000000) (h0 : 2 ≤ s.size) (w : World) (hL : LE w) (hn : U8.lenBy (s[0]'(by omega)).toNat = 2) (c1 : (((s[1]'(by omega)).toNat : Int) / 64 != 2) = true) (_ha : bits .and .i64 ((s[0]'(by omega)).toNat : Int) 31 = ((s[0]'(by omega)).toNat : Int) % 32) :
    Calls Tryz.prog 44 #[.string s] w fun e w' => e = .returned nothing ∧ w' = w := by
  obtain ⟨l0, l1, l2, l3⟩ := hL
  have HN : Hid (U8.lenBy (s[0]'(by omega)).toNat = 2) := hn
  clear hn
  have b0 : (s[0]'(by omega)).toNat < 256 := UInt8.toNat_lt _
  have b1 : (s[1]'(by omega)).toNat < 256 := UInt8.toNat_lt _
  go_enter Tryz.func44, Tryz.ntmps44
  go_wp2_with fail
  refine (lengthBy_any _ (UInt8.toNat_lt _) _).mono ?_
  rintro e w' ⟨rfl, rfl⟩
  rw [HN.out]
  go_wp2_with fail
  refine wp_loop_rounds 1 ?_
  rw [rounds_succ]
  go_wp2_with fail
  go_ret3
  exact ⟨rfl, rfl⟩

set_option maxHeartbeats 1000000 in
set_option maxRecDepth 100000 in
theorem first_2l (s : ByteArray) (hs : s.size ≤ 1000000) (h0 : 2 ≤ s.size) (w : World) (hL : LE w) (hn : U8.lenBy (s[0]'(by omega)).toNat = 2) (P1 : Int) (c1 : (((s[1]'(by omega)).toNat : Int) / 64 != 2) = false) (ha : bits .and .i64 ((s[0]'(by omega)).toNat : Int) 31 = ((s[0]'(by omega)).toNat : Int) % 32) (e1 : bits .or .i64 (((s[0]'(by omega)).toNat : Int) % 32 * 64) (((s[1]'(by omega)).toNat : Int) % 64) = P1) (_q1 : 0 ≤ P1) (_r1 : P1 < 1000000000) (hl : P1 < 128) :
    Calls Tryz.prog 44 #[.string s] w fun e w' => e = .returned nothing ∧ w' = w := by
  obtain ⟨l0, l1, l2, l3⟩ := hL
  have HN : Hid (U8.lenBy (s[0]'(by omega)).toNat = 2) := hn
  clear hn
  have b0 : (s[0]'(by omega)).toNat < 256 := UInt8.toNat_lt _
  have b1 : (s[1]'(by omega)).toNat < 256 := UInt8.toNat_lt _
  go_enter Tryz.func44, Tryz.ntmps44
  go_wp2_with fail
  refine (lengthBy_any _ (UInt8.toNat_lt _) _).mono ?_
  rintro e w' ⟨rfl, rfl⟩
  rw [HN.out]
  go_wp2_with fail
  refine wp_loop_rounds 2 ?_
  rw [rounds_succ]
  go_wp2_with fail
  rw [rounds_succ]
  go_wp2_with fail
  go_ret3
  exact ⟨rfl, rfl⟩

set_option maxHeartbeats 1000000 in
set_option maxRecDepth 100000 in
theorem first_2y (s : ByteArray) (hs : s.size ≤ 1000000) (h0 : 2 ≤ s.size) (w : World) (hL : LE w) (hn : U8.lenBy (s[0]'(by omega)).toNat = 2) (P1 : Int) (c1 : (((s[1]'(by omega)).toNat : Int) / 64 != 2) = false) (ha : bits .and .i64 ((s[0]'(by omega)).toNat : Int) 31 = ((s[0]'(by omega)).toNat : Int) % 32) (e1 : bits .or .i64 (((s[0]'(by omega)).toNat : Int) % 32 * 64) (((s[1]'(by omega)).toNat : Int) % 64) = P1) (_q1 : 0 ≤ P1) (_r1 : P1 < 1000000000) (hl : 128 ≤ P1) (hp : U8.isPt P1 = true) :
    Calls Tryz.prog 44 #[.string s] w fun e w' => e = .returned (.tuple #[.int .i64 P1, .int .i64 2, .bool true]) ∧ w' = w := by
  obtain ⟨l0, l1, l2, l3⟩ := hL
  have HN : Hid (U8.lenBy (s[0]'(by omega)).toNat = 2) := hn
  clear hn
  have b0 : (s[0]'(by omega)).toNat < 256 := UInt8.toNat_lt _
  have b1 : (s[1]'(by omega)).toNat < 256 := UInt8.toNat_lt _
  go_enter Tryz.func44, Tryz.ntmps44
  go_wp2_with fail
  refine (lengthBy_any _ (UInt8.toNat_lt _) _).mono ?_
  rintro e w' ⟨rfl, rfl⟩
  rw [HN.out]
  go_wp2_with fail
  refine wp_loop_rounds 2 ?_
  rw [rounds_succ]
  go_wp2_with fail
  rw [rounds_succ]
  go_wp2_with fail
  refine (isPoint_any _ _).mono ?_
  rintro e w' ⟨rfl, rfl⟩
  rw [hp]
  go_wp2_with fail
  go_ret3
  exact ⟨rfl, rfl⟩

set_option maxHeartbeats 1000000 in
set_option maxRecDepth 100000 in
theorem first_2n (s : ByteArray) (hs : s.size ≤ 1000000) (h0 : 2 ≤ s.size) (w : World) (hL : LE w) (hn : U8.lenBy (s[0]'(by omega)).toNat = 2) (P1 : Int) (c1 : (((s[1]'(by omega)).toNat : Int) / 64 != 2) = false) (ha : bits .and .i64 ((s[0]'(by omega)).toNat : Int) 31 = ((s[0]'(by omega)).toNat : Int) % 32) (e1 : bits .or .i64 (((s[0]'(by omega)).toNat : Int) % 32 * 64) (((s[1]'(by omega)).toNat : Int) % 64) = P1) (_q1 : 0 ≤ P1) (_r1 : P1 < 1000000000) (hl : 128 ≤ P1) (hp : U8.isPt P1 = false) :
    Calls Tryz.prog 44 #[.string s] w fun e w' => e = .returned nothing ∧ w' = w := by
  obtain ⟨l0, l1, l2, l3⟩ := hL
  have HN : Hid (U8.lenBy (s[0]'(by omega)).toNat = 2) := hn
  clear hn
  have b0 : (s[0]'(by omega)).toNat < 256 := UInt8.toNat_lt _
  have b1 : (s[1]'(by omega)).toNat < 256 := UInt8.toNat_lt _
  go_enter Tryz.func44, Tryz.ntmps44
  go_wp2_with fail
  refine (lengthBy_any _ (UInt8.toNat_lt _) _).mono ?_
  rintro e w' ⟨rfl, rfl⟩
  rw [HN.out]
  go_wp2_with fail
  refine wp_loop_rounds 2 ?_
  rw [rounds_succ]
  go_wp2_with fail
  rw [rounds_succ]
  go_wp2_with fail
  refine (isPoint_any _ _).mono ?_
  rintro e w' ⟨rfl, rfl⟩
  rw [hp]
  go_wp2_with fail
  go_ret3
  exact ⟨rfl, rfl⟩

set_option maxHeartbeats 1000000 in
set_option maxRecDepth 100000 in
theorem first_3b1 (s : ByteArray) (hs : s.size ≤ 1000000) (h0 : 3 ≤ s.size) (w : World) (hL : LE w) (hn : U8.lenBy (s[0]'(by omega)).toNat = 3) (c1 : (((s[1]'(by omega)).toNat : Int) / 64 != 2) = true) (ha : bits .and .i64 ((s[0]'(by omega)).toNat : Int) 15 = ((s[0]'(by omega)).toNat : Int) % 16) :
    Calls Tryz.prog 44 #[.string s] w fun e w' => e = .returned nothing ∧ w' = w := by
  obtain ⟨l0, l1, l2, l3⟩ := hL
  have HN : Hid (U8.lenBy (s[0]'(by omega)).toNat = 3) := hn
  clear hn
  have b0 : (s[0]'(by omega)).toNat < 256 := UInt8.toNat_lt _
  have b1 : (s[1]'(by omega)).toNat < 256 := UInt8.toNat_lt _
  have b2 : (s[2]'(by omega)).toNat < 256 := UInt8.toNat_lt _
  go_enter Tryz.func44, Tryz.ntmps44
  go_wp2_with fail
  refine (lengthBy_any _ (UInt8.toNat_lt _) _).mono ?_
  rintro e w' ⟨rfl, rfl⟩
  rw [HN.out]
  go_wp2_with fail
  refine wp_loop_rounds 1 ?_
  rw [rounds_succ]
  go_wp2_with fail
  go_ret3
  exact ⟨rfl, rfl⟩

set_option maxHeartbeats 1000000 in
set_option maxRecDepth 100000 in
theorem first_3b2 (s : ByteArray) (hs : s.size ≤ 1000000) (h0 : 3 ≤ s.size) (w : World) (hL : LE w) (hn : U8.lenBy (s[0]'(by omega)).toNat = 3) (P1 : Int) (c1 : (((s[1]'(by omega)).toNat : Int) / 64 != 2) = false) (c2 : (((s[2]'(by omega)).toNat : Int) / 64 != 2) = true) (ha : bits .and .i64 ((s[0]'(by omega)).toNat : Int) 15 = ((s[0]'(by omega)).toNat : Int) % 16) (e1 : bits .or .i64 (((s[0]'(by omega)).toNat : Int) % 16 * 64) (((s[1]'(by omega)).toNat : Int) % 64) = P1) (_q1 : 0 ≤ P1) (_r1 : P1 < 1000000000) :
    Calls Tryz.prog 44 #[.string s] w fun e w' => e = .returned nothing ∧ w' = w := by
  obtain ⟨l0, l1, l2, l3⟩ := hL
  have HN : Hid (U8.lenBy (s[0]'(by omega)).toNat = 3) := hn
  clear hn
  have b0 : (s[0]'(by omega)).toNat < 256 := UInt8.toNat_lt _
  have b1 : (s[1]'(by omega)).toNat < 256 := UInt8.toNat_lt _
  have b2 : (s[2]'(by omega)).toNat < 256 := UInt8.toNat_lt _
  go_enter Tryz.func44, Tryz.ntmps44
  go_wp2_with fail
  refine (lengthBy_any _ (UInt8.toNat_lt _) _).mono ?_
  rintro e w' ⟨rfl, rfl⟩
  rw [HN.out]
  go_wp2_with fail
  refine wp_loop_rounds 2 ?_
  rw [rounds_succ]
  go_wp2_with fail
  rw [rounds_succ]
  go_wp2_with fail
  go_ret3
  exact ⟨rfl, rfl⟩

set_option maxHeartbeats 1000000 in
set_option maxRecDepth 100000 in
theorem first_3l (s : ByteArray) (hs : s.size ≤ 1000000) (h0 : 3 ≤ s.size) (w : World) (hL : LE w) (hn : U8.lenBy (s[0]'(by omega)).toNat = 3) (P1 P2 : Int) (c1 : (((s[1]'(by omega)).toNat : Int) / 64 != 2) = false) (c2 : (((s[2]'(by omega)).toNat : Int) / 64 != 2) = false) (ha : bits .and .i64 ((s[0]'(by omega)).toNat : Int) 15 = ((s[0]'(by omega)).toNat : Int) % 16) (e1 : bits .or .i64 (((s[0]'(by omega)).toNat : Int) % 16 * 64) (((s[1]'(by omega)).toNat : Int) % 64) = P1) (e2 : bits .or .i64 (P1 * 64) (((s[2]'(by omega)).toNat : Int) % 64) = P2) (_q1 : 0 ≤ P1) (_r1 : P1 < 1000000000) (_q2 : 0 ≤ P2) (_r2 : P2 < 1000000000) (hl : P2 < 2048) :
    Calls Tryz.prog 44 #[.string s] w fun e w' => e = .returned nothing ∧ w' = w := by
  obtain ⟨l0, l1, l2, l3⟩ := hL
  have HN : Hid (U8.lenBy (s[0]'(by omega)).toNat = 3) := hn
  clear hn
  have b0 : (s[0]'(by omega)).toNat < 256 := UInt8.toNat_lt _
  have b1 : (s[1]'(by omega)).toNat < 256 := UInt8.toNat_lt _
  have b2 : (s[2]'(by omega)).toNat < 256 := UInt8.toNat_lt _
  go_enter Tryz.func44, Tryz.ntmps44
  go_wp2_with fail
  refine (lengthBy_any _ (UInt8.toNat_lt _) _).mono ?_
  rintro e w' ⟨rfl, rfl⟩
  rw [HN.out]
  go_wp2_with fail
  refine wp_loop_rounds 3 ?_
  rw [rounds_succ]
  go_wp2_with fail
  rw [rounds_succ]
  go_wp2_with fail
  rw [rounds_succ]
  go_wp2_with fail
  go_ret3
  exact ⟨rfl, rfl⟩

set_option maxHeartbeats 1000000 in
set_option maxRecDepth 100000 in
theorem first_3y (s : ByteArray) (hs : s.size ≤ 1000000) (h0 : 3 ≤ s.size) (w : World) (hL : LE w) (hn : U8.lenBy (s[0]'(by omega)).toNat = 3) (P1 P2 : Int) (c1 : (((s[1]'(by omega)).toNat : Int) / 64 != 2) = false) (c2 : (((s[2]'(by omega)).toNat : Int) / 64 != 2) = false) (ha : bits .and .i64 ((s[0]'(by omega)).toNat : Int) 15 = ((s[0]'(by omega)).toNat : Int) % 16) (e1 : bits .or .i64 (((s[0]'(by omega)).toNat : Int) % 16 * 64) (((s[1]'(by omega)).toNat : Int) % 64) = P1) (e2 : bits .or .i64 (P1 * 64) (((s[2]'(by omega)).toNat : Int) % 64) = P2) (_q1 : 0 ≤ P1) (_r1 : P1 < 1000000000) (_q2 : 0 ≤ P2) (_r2 : P2 < 1000000000) (hl : 2048 ≤ P2) (hp : U8.isPt P2 = true) :
    Calls Tryz.prog 44 #[.string s] w fun e w' => e = .returned (.tuple #[.int .i64 P2, .int .i64 3, .bool true]) ∧ w' = w := by
  obtain ⟨l0, l1, l2, l3⟩ := hL
  have HN : Hid (U8.lenBy (s[0]'(by omega)).toNat = 3) := hn
  clear hn
  have b0 : (s[0]'(by omega)).toNat < 256 := UInt8.toNat_lt _
  have b1 : (s[1]'(by omega)).toNat < 256 := UInt8.toNat_lt _
  have b2 : (s[2]'(by omega)).toNat < 256 := UInt8.toNat_lt _
  go_enter Tryz.func44, Tryz.ntmps44
  go_wp2_with fail
  refine (lengthBy_any _ (UInt8.toNat_lt _) _).mono ?_
  rintro e w' ⟨rfl, rfl⟩
  rw [HN.out]
  go_wp2_with fail
  refine wp_loop_rounds 3 ?_
  rw [rounds_succ]
  go_wp2_with fail
  rw [rounds_succ]
  go_wp2_with fail
  rw [rounds_succ]
  go_wp2_with fail
  refine (isPoint_any _ _).mono ?_
  rintro e w' ⟨rfl, rfl⟩
  rw [hp]
  go_wp2_with fail
  go_ret3
  exact ⟨rfl, rfl⟩

set_option maxHeartbeats 1000000 in
set_option maxRecDepth 100000 in
theorem first_3n (s : ByteArray) (hs : s.size ≤ 1000000) (h0 : 3 ≤ s.size) (w : World) (hL : LE w) (hn : U8.lenBy (s[0]'(by omega)).toNat = 3) (P1 P2 : Int) (c1 : (((s[1]'(by omega)).toNat : Int) / 64 != 2) = false) (c2 : (((s[2]'(by omega)).toNat : Int) / 64 != 2) = false) (ha : bits .and .i64 ((s[0]'(by omega)).toNat : Int) 15 = ((s[0]'(by omega)).toNat : Int) % 16) (e1 : bits .or .i64 (((s[0]'(by omega)).toNat : Int) % 16 * 64) (((s[1]'(by omega)).toNat : Int) % 64) = P1) (e2 : bits .or .i64 (P1 * 64) (((s[2]'(by omega)).toNat : Int) % 64) = P2) (_q1 : 0 ≤ P1) (_r1 : P1 < 1000000000) (_q2 : 0 ≤ P2) (_r2 : P2 < 1000000000) (hl : 2048 ≤ P2) (hp : U8.isPt P2 = false) :
    Calls Tryz.prog 44 #[.string s] w fun e w' => e = .returned nothing ∧ w' = w := by
  obtain ⟨l0, l1, l2, l3⟩ := hL
  have HN : Hid (U8.lenBy (s[0]'(by omega)).toNat = 3) := hn
  clear hn
  have b0 : (s[0]'(by omega)).toNat < 256 := UInt8.toNat_lt _
  have b1 : (s[1]'(by omega)).toNat < 256 := UInt8.toNat_lt _
  have b2 : (s[2]'(by omega)).toNat < 256 := UInt8.toNat_lt _
  go_enter Tryz.func44, Tryz.ntmps44
  go_wp2_with fail
  refine (lengthBy_any _ (UInt8.toNat_lt _) _).mono ?_
  rintro e w' ⟨rfl, rfl⟩
  rw [HN.out]
  go_wp2_with fail
  refine wp_loop_rounds 3 ?_
  rw [rounds_succ]
  go_wp2_with fail
  rw [rounds_succ]
  go_wp2_with fail
  rw [rounds_succ]
  go_wp2_with fail
  refine (isPoint_any _ _).mono ?_
  rintro e w' ⟨rfl, rfl⟩
  rw [hp]
  go_wp2_with fail
  go_ret3
  exact ⟨rfl, rfl⟩

set_option maxHeartbeats 1000000 in
set_option maxRecDepth 100000 in
theorem first_4b1 (s : ByteArray) (hs : s.size ≤ 1000000) (h0 : 4 ≤ s.size) (w : World) (hL : LE w) (hn : U8.lenBy (s[0]'(by omega)).toNat = 4) (c1 : (((s[1]'(by omega)).toNat : Int) / 64 != 2) = true) (ha : bits .and .i64 ((s[0]'(by omega)).toNat : Int) 7 = ((s[0]'(by omega)).toNat : Int) % 8) :
    Calls Tryz.prog 44 #[.string s] w fun e w' => e = .returned nothing ∧ w' = w := by
  obtain ⟨l0, l1, l2, l3⟩ := hL
  have HN : Hid (U8.lenBy (s[0]'(by omega)).toNat = 4) := hn
  clear hn
  have b0 : (s[0]'(by omega)).toNat < 256 := UInt8.toNat_lt _
  have b1 : (s[1]'(by omega)).toNat < 256 := UInt8.toNat_lt _
  have b2 : (s[2]'(by omega)).toNat < 256 := UInt8.toNat_lt _
  have b3 : (s[3]'(by omega)).toNat < 256 := UInt8.toNat_lt _
  go_enter Tryz.func44, Tryz.ntmps44
  go_wp2_with fail
  refine (lengthBy_any _ (UInt8.toNat_lt _) _).mono ?_
  rintro e w' ⟨rfl, rfl⟩
  rw [HN.out]
  go_wp2_with fail
  refine wp_loop_rounds 1 ?_
  rw [rounds_succ]
  go_wp2_with fail
  go_ret3
  exact ⟨rfl, rfl⟩

set_option maxHeartbeats 1000000 in
set_option maxRecDepth 100000 in
theorem first_4b2 (s : ByteArray) (hs : s.size ≤ 1000000) (h0 : 4 ≤ s.size) (w : World) (hL : LE w) (hn : U8.lenBy (s[0]'(by omega)).toNat = 4) (P1 : Int) (c1 : (((s[1]'(by omega)).toNat : Int) / 64 != 2) = false) (c2 : (((s[2]'(by omega)).toNat : Int) / 64 != 2) = true) (ha : bits .and .i64 ((s[0]'(by omega)).toNat : Int) 7 = ((s[0]'(by omega)).toNat : Int) % 8) (e1 : bits .or .i64 (((s[0]'(by omega)).toNat : Int) % 8 * 64) (((s[1]'(by omega)).toNat : Int) % 64) = P1) (_q1 : 0 ≤ P1) (_r1 : P1 < 1000000000) :
    Calls Tryz.prog 44 #[.string s] w fun e w' => e = .returned nothing ∧ w' = w := by
  obtain ⟨l0, l1, l2, l3⟩ := hL
  have HN : Hid (U8.lenBy (s[0]'(by omega)).toNat = 4) := hn
  clear hn
  have b0 : (s[0]'(by omega)).toNat < 256 := UInt8.toNat_lt _
  have b1 : (s[1]'(by omega)).toNat < 256 := UInt8.toNat_lt _
  have b2 : (s[2]'(by omega)).toNat < 256 := UInt8.toNat_lt _
  have b3 : (s[3]'(by omega)).toNat < 256 := UInt8.toNat_lt _
  go_enter Tryz.func44, Tryz.ntmps44
  go_wp2_with fail
  refine (lengthBy_any _ (UInt8.toNat_lt _) _).mono ?_
  rintro e w' ⟨rfl, rfl⟩
  rw [HN.out]
  go_wp2_with fail
  refine wp_loop_rounds 2 ?_
  rw [rounds_succ]
  go_wp2_with fail
  rw [rounds_succ]
  go_wp2_with fail
  go_ret3
  exact ⟨rfl, rfl⟩

set_option maxHeartbeats 1000000 in
set_option maxRecDepth 100000 in
theorem first_4b3 (s : ByteArray) (hs : s.size ≤ 1000000) (h0 : 4 ≤ s.size) (w : World) (hL : LE w) (hn : U8.lenBy (s[0]'(by omega)).toNat = 4) (P1 P2 : Int) (c1 : (((s[1]'(by omega)).toNat : Int) / 64 != 2) = false) (c2 : (((s[2]'(by omega)).toNat : Int) / 64 != 2) = false) (c3 : (((s[3]'(by omega)).toNat : Int) / 64 != 2) = true) (ha : bits .and .i64 ((s[0]'(by omega)).toNat : Int) 7 = ((s[0]'(by omega)).toNat : Int) % 8) (e1 : bits .or .i64 (((s[0]'(by omega)).toNat : Int) % 8 * 64) (((s[1]'(by omega)).toNat : Int) % 64) = P1) (e2 : bits .or .i64 (P1 * 64) (((s[2]'(by omega)).toNat : Int) % 64) = P2) (_q1 : 0 ≤ P1) (_r1 : P1 < 1000000000) (_q2 : 0 ≤ P2) (_r2 : P2 < 1000000000) :
    Calls Tryz.prog 44 #[.string s] w fun e w' => e = .returned nothing ∧ w' = w := by
  obtain ⟨l0, l1, l2, l3⟩ := hL
  have HN : Hid (U8.lenBy (s[0]'(by omega)).toNat = 4) := hn
  clear hn
  have b0 : (s[0]'(by omega)).toNat < 256 := UInt8.toNat_lt _
  have b1 : (s[1]'(by omega)).toNat < 256 := UInt8.toNat_lt _
  have b2 : (s[2]'(by omega)).toNat < 256 := UInt8.toNat_lt _
  have b3 : (s[3]'(by omega)).toNat < 256 := UInt8.toNat_lt _
  go_enter Tryz.func44, Tryz.ntmps44
  go_wp2_with fail
  refine (lengthBy_any _ (UInt8.toNat_lt _) _).mono ?_
  rintro e w' ⟨rfl, rfl⟩
  rw [HN.out]
  go_wp2_with fail
  refine wp_loop_rounds 3 ?_
  rw [rounds_succ]
  go_wp2_with fail
  rw [rounds_succ]
  go_wp2_with fail
  rw [rounds_succ]
  go_wp2_with fail
  go_ret3
  exact ⟨rfl, rfl⟩

set_option maxHeartbeats 1000000 in
set_option maxRecDepth 100000 in
theorem first_4l (s : ByteArray) (hs : s.size ≤ 1000000) (h0 : 4 ≤ s.size) (w : World) (hL : LE w) (hn : U8.lenBy (s[0]'(by omega)).toNat = 4) (P1 P2 P3 : Int) (c1 : (((s[1]'(by omega)).toNat : Int) / 64 != 2) = false) (c2 : (((s[2]'(by omega)).toNat : Int) / 64 != 2) = false) (c3 : (((s[3]'(by omega)).toNat : Int) / 64 != 2) = false) (ha : bits .and .i64 ((s[0]'(by omega)).toNat : Int) 7 = ((s[0]'(by omega)).toNat : Int) % 8) (e1 : bits .or .i64 (((s[0]'(by omega)).toNat : Int) % 8 * 64) (((s[1]'(by omega)).toNat : Int) % 64) = P1) (e2 : bits .or .i64 (P1 * 64) (((s[2]'(by omega)).toNat : Int) % 64) = P2) (e3 : bits .or .i64 (P2 * 64) (((s[3]'(by omega)).toNat : Int) % 64) = P3) (_q1 : 0 ≤ P1) (_r1 : P1 < 1000000000) (_q2 : 0 ≤ P2) (_r2 : P2 < 1000000000) (_q3 : 0 ≤ P3) (_r3 : P3 < 1000000000) (hl : P3 < 65536) :
    Calls Tryz.prog 44 #[.string s] w fun e w' => e = .returned nothing ∧ w' = w := by
  obtain ⟨l0, l1, l2, l3⟩ := hL
  have HN : Hid (U8.lenBy (s[0]'(by omega)).toNat = 4) := hn
  clear hn
  have b0 : (s[0]'(by omega)).toNat < 256 := UInt8.toNat_lt _
  have b1 : (s[1]'(by omega)).toNat < 256 := UInt8.toNat_lt _
  have b2 : (s[2]'(by omega)).toNat < 256 := UInt8.toNat_lt _
  have b3 : (s[3]'(by omega)).toNat < 256 := UInt8.toNat_lt _
  go_enter Tryz.func44, Tryz.ntmps44
  go_wp2_with fail
  refine (lengthBy_any _ (UInt8.toNat_lt _) _).mono ?_
  rintro e w' ⟨rfl, rfl⟩
  rw [HN.out]
  go_wp2_with fail
  refine wp_loop_rounds 4 ?_
  rw [rounds_succ]
  go_wp2_with fail
  rw [rounds_succ]
  go_wp2_with fail
  rw [rounds_succ]
  go_wp2_with fail
  rw [rounds_succ]
  go_wp2_with fail
  go_ret3
  exact ⟨rfl, rfl⟩

set_option maxHeartbeats 1000000 in
set_option maxRecDepth 100000 in
theorem first_4y (s : ByteArray) (hs : s.size ≤ 1000000) (h0 : 4 ≤ s.size) (w : World) (hL : LE w) (hn : U8.lenBy (s[0]'(by omega)).toNat = 4) (P1 P2 P3 : Int) (c1 : (((s[1]'(by omega)).toNat : Int) / 64 != 2) = false) (c2 : (((s[2]'(by omega)).toNat : Int) / 64 != 2) = false) (c3 : (((s[3]'(by omega)).toNat : Int) / 64 != 2) = false) (ha : bits .and .i64 ((s[0]'(by omega)).toNat : Int) 7 = ((s[0]'(by omega)).toNat : Int) % 8) (e1 : bits .or .i64 (((s[0]'(by omega)).toNat : Int) % 8 * 64) (((s[1]'(by omega)).toNat : Int) % 64) = P1) (e2 : bits .or .i64 (P1 * 64) (((s[2]'(by omega)).toNat : Int) % 64) = P2) (e3 : bits .or .i64 (P2 * 64) (((s[3]'(by omega)).toNat : Int) % 64) = P3) (_q1 : 0 ≤ P1) (_r1 : P1 < 1000000000) (_q2 : 0 ≤ P2) (_r2 : P2 < 1000000000) (_q3 : 0 ≤ P3) (_r3 : P3 < 1000000000) (hl : 65536 ≤ P3) (hp : U8.isPt P3 = true) :
    Calls Tryz.prog 44 #[.string s] w fun e w' => e = .returned (.tuple #[.int .i64 P3, .int .i64 4, .bool true]) ∧ w' = w := by
  obtain ⟨l0, l1, l2, l3⟩ := hL
  have HN : Hid (U8.lenBy (s[0]'(by omega)).toNat = 4) := hn
  clear hn
  have b0 : (s[0]'(by omega)).toNat < 256 := UInt8.toNat_lt _
  have b1 : (s[1]'(by omega)).toNat < 256 := UInt8.toNat_lt _
  have b2 : (s[2]'(by omega)).toNat < 256 := UInt8.toNat_lt _
  have b3 : (s[3]'(by omega)).toNat < 256 := UInt8.toNat_lt _
  go_enter Tryz.func44, Tryz.ntmps44
  go_wp2_with fail
  refine (lengthBy_any _ (UInt8.toNat_lt _) _).mono ?_
  rintro e w' ⟨rfl, rfl⟩
  rw [HN.out]
  go_wp2_with fail
  refine wp_loop_rounds 4 ?_
  rw [rounds_succ]
  go_wp2_with fail
  rw [rounds_succ]
  go_wp2_with fail
  rw [rounds_succ]
  go_wp2_with fail
  rw [rounds_succ]
  go_wp2_with fail
  refine (isPoint_any _ _).mono ?_
  rintro e w' ⟨rfl, rfl⟩
  rw [hp]
  go_wp2_with fail
  go_ret3
  exact ⟨rfl, rfl⟩

set_option maxHeartbeats 1000000 in
set_option maxRecDepth 100000 in
theorem first_4n (s : ByteArray) (hs : s.size ≤ 1000000) (h0 : 4 ≤ s.size) (w : World) (hL : LE w) (hn : U8.lenBy (s[0]'(by omega)).toNat = 4) (P1 P2 P3 : Int) (c1 : (((s[1]'(by omega)).toNat : Int) / 64 != 2) = false) (c2 : (((s[2]'(by omega)).toNat : Int) / 64 != 2) = false) (c3 : (((s[3]'(by omega)).toNat : Int) / 64 != 2) = false) (ha : bits .and .i64 ((s[0]'(by omega)).toNat : Int) 7 = ((s[0]'(by omega)).toNat : Int) % 8) (e1 : bits .or .i64 (((s[0]'(by omega)).toNat : Int) % 8 * 64) (((s[1]'(by omega)).toNat : Int) % 64) = P1) (e2 : bits .or .i64 (P1 * 64) (((s[2]'(by omega)).toNat : Int) % 64) = P2) (e3 : bits .or .i64 (P2 * 64) (((s[3]'(by omega)).toNat : Int) % 64) = P3) (_q1 : 0 ≤ P1) (_r1 : P1 < 1000000000) (_q2 : 0 ≤ P2) (_r2 : P2 < 1000000000) (_q3 : 0 ≤ P3) (_r3 : P3 < 1000000000) (hl : 65536 ≤ P3) (hp : U8.isPt P3 = false) :
    Calls Tryz.prog 44 #[.string s] w fun e w' => e = .returned nothing ∧ w' = w := by
  obtain ⟨l0, l1, l2, l3⟩ := hL
  have HN : Hid (U8.lenBy (s[0]'(by omega)).toNat = 4) := hn
  clear hn
  have b0 : (s[0]'(by omega)).toNat < 256 := UInt8.toNat_lt _
  have b1 : (s[1]'(by omega)).toNat < 256 := UInt8.toNat_lt _
  have b2 : (s[2]'(by omega)).toNat < 256 := UInt8.toNat_lt _
  have b3 : (s[3]'(by omega)).toNat < 256 := UInt8.toNat_lt _
  go_enter Tryz.func44, Tryz.ntmps44
  go_wp2_with fail
  refine (lengthBy_any _ (UInt8.toNat_lt _) _).mono ?_
  rintro e w' ⟨rfl, rfl⟩
  rw [HN.out]
  go_wp2_with fail
  refine wp_loop_rounds 4 ?_
  rw [rounds_succ]
  go_wp2_with fail
  rw [rounds_succ]
  go_wp2_with fail
  rw [rounds_succ]
  go_wp2_with fail
  rw [rounds_succ]
  go_wp2_with fail
  refine (isPoint_any _ _).mono ?_
  rintro e w' ⟨rfl, rfl⟩
  rw [hp]
  go_wp2_with fail
  go_ret3
  exact ⟨rfl, rfl⟩

end Go.Proofs.YtjbdlihlcoldlaaGreatDoor

namespace Go.Proofs.YtjbdlihlcoldlaaGreatDoor
open Go.RowKit

theorem at_list (s : ByteArray) (k : Nat) (h : k < s.size) : s.data.toList[k]? = some s[k] := by
  rw [List.getElem?_eq_getElem (by simpa using h)]; rfl

theorem cont_int {c : UInt8} : ((c.toNat : Int) / 64 != 2) = !(U8.cont c) := by
  unfold U8.cont
  by_cases h : c.toNat / 64 = 2
  · have : ((c.toNat : Int) / 64) = 2 := by omega
    simp [h, this]
  · have : ((c.toNat : Int) / 64) ≠ 2 := by omega
    simp [h, this]

theorem lenBy_five (a : Nat) : U8.lenBy a = 0 ∨ U8.lenBy a = 1 ∨ U8.lenBy a = 2 ∨ U8.lenBy a = 3 ∨ U8.lenBy a = 4 := by
  unfold U8.lenBy; split <;> (try omega); split <;> (try omega); split <;> (try omega); split <;> omega

theorem lenBy_one {a : Nat} (h : U8.lenBy a = 1) : a < 128 := by
  unfold U8.lenBy at h; split at h <;> (try assumption); split at h <;> (try omega); split at h <;> (try omega); split at h <;> omega

theorem chk_none_lt {n p : Nat} (h : U8.lenOf p < n) : U8.chk n p = none := by
  unfold U8.chk; rw [if_neg]; rintro ⟨h1, _⟩; omega
theorem chk_no {n p : Nat} (h : U8.isPt p = false) : U8.chk n p = none := by
  unfold U8.chk; rw [if_neg]; rintro ⟨_, h1⟩; rw [h] at h1; cases h1
theorem chk_yes {n p : Nat} (h1 : U8.lenOf p = n) (h : U8.isPt p = true) : U8.chk n p = some (p, n) := by
  unfold U8.chk; rw [if_pos ⟨h1, h⟩]
theorem lenOf2 {p : Nat} (h1 : 128 ≤ p) (h2 : p < 2048) : U8.lenOf p = 2 := by unfold U8.lenOf; rw [if_neg (by omega), if_pos h2]
theorem lenOf3 {p : Nat} (h1 : 2048 ≤ p) (h2 : p < 65536) : U8.lenOf p = 3 := by unfold U8.lenOf; rw [if_neg (by omega), if_neg (by omega), if_pos h2]
theorem lenOf4 {p : Nat} (h1 : 65536 ≤ p) : U8.lenOf p = 4 := by unfold U8.lenOf; rw [if_neg (by omega), if_neg (by omega), if_neg (by omega)]
theorem lenOf_lt2 {p : Nat} (h1 : p < 128) : U8.lenOf p < 2 := by unfold U8.lenOf; rw [if_pos h1]; omega
theorem lenOf_lt3 {p : Nat} (h1 : p < 2048) : U8.lenOf p < 3 := by unfold U8.lenOf; split <;> omega
theorem lenOf_lt4 {p : Nat} (h1 : p < 65536) : U8.lenOf p < 4 := by unfold U8.lenOf; (split <;> try omega) <;> split <;> omega

theorem first_any (s : ByteArray) (hs : s.size ≤ 1000000) (h0 : 0 < s.size) (w : World) (hL : LE w) :
    Calls Tryz.prog 44 #[.string s] w fun e w' => e = .returned (told (U8.first s.data.toList)) ∧ w' = w := by
  have hlen : s.data.toList.length = s.size := by simp
  have g0 := at_list s 0 h0
  have b0 : (s[0]'h0).toNat < 256 := UInt8.toNat_lt _
  rcases lenBy_five (s[0]'h0).toNat with hn | hn | hn | hn | hn
  · have e : told (U8.first s.data.toList) = nothing := by
      cases hl : s.data.toList with
      | nil => rfl
      | cons a r =>
        rw [hl] at g0; simp at g0; subst g0
        simp [U8.first, hn, told, nothing]
    rw [e]
    exact first_0 s hs h0 w hL hn
  · have hb := lenBy_one hn
    have hp : U8.isPt (((s[0]'h0).toNat : Nat) : Int) = true := (U8.isPt_nat _).2 (by omega)
    have e : told (U8.first s.data.toList) = .tuple #[.int .i64 ((s[0]'h0).toNat : Nat), .int .i64 1, .bool true] := by
      cases hl : s.data.toList with
      | nil => rw [hl] at g0; simp at g0
      | cons a r =>
        rw [hl] at g0; simp at g0; subst g0
        simp [U8.first, hn, told]
    rw [e]
    exact first_1 s hs h0 w hL hn hb hp
  · by_cases h1 : s.size < 2
    · have e : told (U8.first s.data.toList) = nothing := by
        match hl : s.data.toList with
        | [] => rfl
        | [a] => rw [hl] at g0; simp at g0; subst g0; simp [U8.first, hn, told, nothing]
        | a :: b :: r => rw [hl] at hlen; simp at hlen; omega
      rw [e]
      exact first_2s s hs h0 h1 w hL hn
    · have g1 := at_list s 1 (by omega)
      have b1 : (s[1]'(by omega)).toNat < 256 := UInt8.toNat_lt _
      have e : U8.first s.data.toList = if U8.cont (s[1]'(by omega)) then U8.chk 2 ((s[0]'h0).toNat % 32 * 64 + U8.low (s[1]'(by omega))) else none := by
        match hl : s.data.toList with
        | [] => rw [hl] at hlen; simp at hlen; omega
        | [a] => rw [hl] at hlen; simp at hlen; omega
        | a :: b :: r =>
          rw [hl] at g0 g1; simp at g0 g1; subst g0 g1
          simp [U8.first, hn]
      rw [e]
      have hlow : U8.low (s[1]'(by omega)) < 64 := by unfold U8.low; omega
      have ha := and31 _ b0
      cases hc : U8.cont (s[1]'(by omega)) with
      | false => exact first_2b1 s hs (by omega) w hL hn (by rw [cont_int, hc]; rfl) ha
      | true =>
        simp only [if_true]
        have c1 : (((s[1]'(by omega)).toNat : Int) / 64 != 2) = false := by rw [cont_int, hc]; rfl
        have e1 : bits .or .i64 (((s[0]'h0).toNat : Int) % 32 * 64) (((s[1]'(by omega)).toNat : Int) % 64) = (((s[0]'h0).toNat % 32 * 64 + U8.low (s[1]'(by omega)) : Nat) : Int) := by
          rw [i64_or6 _ _ (by omega) (by omega) (by omega) (by omega)]; unfold U8.low; omega
        generalize hP : (s[0]'h0).toNat % 32 * 64 + U8.low (s[1]'(by omega)) = P at e1 ⊢
        by_cases hl : P < 128
        · rw [chk_none_lt (lenOf_lt2 hl)]
          exact first_2l s hs (by omega) w hL hn P c1 ha e1 (by omega) (by omega) (by omega)
        · cases hp : U8.isPt (P : Int) with
          | false => rw [chk_no hp]; exact first_2n s hs (by omega) w hL hn P c1 ha e1 (by omega) (by omega) (by omega) hp
          | true => rw [chk_yes (lenOf2 (by omega) (by omega)) hp]; exact first_2y s hs (by omega) w hL hn P c1 ha e1 (by omega) (by omega) (by omega) hp
  · by_cases h1 : s.size < 3
    · have e : told (U8.first s.data.toList) = nothing := by
        match hl : s.data.toList with
        | [] => rfl
        | [a] => rw [hl] at g0; simp at g0; subst g0; simp [U8.first, hn, told, nothing]
        | [a, b] => rw [hl] at g0; simp at g0; subst g0; simp [U8.first, hn, told, nothing]
        | a :: b :: c :: r => rw [hl] at hlen; simp at hlen; omega
      rw [e]
      exact first_3s s hs h0 h1 w hL hn
    · have g1 := at_list s 1 (by omega)
      have g2 := at_list s 2 (by omega)
      have b1 : (s[1]'(by omega)).toNat < 256 := UInt8.toNat_lt _
      have b2 : (s[2]'(by omega)).toNat < 256 := UInt8.toNat_lt _
      have e : U8.first s.data.toList = if U8.cont (s[1]'(by omega)) && U8.cont (s[2]'(by omega)) then U8.chk 3 (((s[0]'h0).toNat % 16 * 64 + U8.low (s[1]'(by omega))) * 64 + U8.low (s[2]'(by omega))) else none := by
        match hl : s.data.toList with
        | [] => rw [hl] at hlen; simp at hlen; omega
        | [a] => rw [hl] at hlen; simp at hlen; omega
        | [a, b] => rw [hl] at hlen; simp at hlen; omega
        | a :: b :: c :: r =>
          rw [hl] at g0 g1 g2; simp at g0 g1 g2; subst g0 g1 g2
          simp [U8.first, hn]
      rw [e]
      have hlow : U8.low (s[1]'(by omega)) < 64 := by unfold U8.low; omega
      have hlow2 : U8.low (s[2]'(by omega)) < 64 := by unfold U8.low; omega
      have ha := and15 _ b0
      cases hc : U8.cont (s[1]'(by omega)) with
      | false => exact first_3b1 s hs (by omega) w hL hn (by rw [cont_int, hc]; rfl) ha
      | true =>
        have c1 : (((s[1]'(by omega)).toNat : Int) / 64 != 2) = false := by rw [cont_int, hc]; rfl
        have e1 : bits .or .i64 (((s[0]'h0).toNat : Int) % 16 * 64) (((s[1]'(by omega)).toNat : Int) % 64) = (((s[0]'h0).toNat % 16 * 64 + U8.low (s[1]'(by omega)) : Nat) : Int) := by
          rw [i64_or6 _ _ (by omega) (by omega) (by omega) (by omega)]; unfold U8.low; omega
        generalize hP : (s[0]'h0).toNat % 16 * 64 + U8.low (s[1]'(by omega)) = P at e1 ⊢
        cases hc2 : U8.cont (s[2]'(by omega)) with
        | false => exact first_3b2 s hs (by omega) w hL hn P c1 (by rw [cont_int, hc2]; rfl) ha e1 (by omega) (by omega)
        | true =>
          simp only [Bool.and_self, if_true]
          have c2 : (((s[2]'(by omega)).toNat : Int) / 64 != 2) = false := by rw [cont_int, hc2]; rfl
          have e2 : bits .or .i64 ((P : Int) * 64) (((s[2]'(by omega)).toNat : Int) % 64) = ((P * 64 + U8.low (s[2]'(by omega)) : Nat) : Int) := by
            rw [i64_or6 _ _ (by omega) (by omega) (by omega) (by omega)]; unfold U8.low; omega
          generalize hP2 : P * 64 + U8.low (s[2]'(by omega)) = P2 at e2 ⊢
          by_cases hl : P2 < 2048
          · rw [chk_none_lt (lenOf_lt3 hl)]
            exact first_3l s hs (by omega) w hL hn P P2 c1 c2 ha e1 e2 (by omega) (by omega) (by omega) (by omega) (by omega)
          · cases hp : U8.isPt (P2 : Int) with
            | false => rw [chk_no hp]; exact first_3n s hs (by omega) w hL hn P P2 c1 c2 ha e1 e2 (by omega) (by omega) (by omega) (by omega) (by omega) hp
            | true => rw [chk_yes (lenOf3 (by omega) (by omega)) hp]; exact first_3y s hs (by omega) w hL hn P P2 c1 c2 ha e1 e2 (by omega) (by omega) (by omega) (by omega) (by omega) hp
  · by_cases h1 : s.size < 4
    · have e : told (U8.first s.data.toList) = nothing := by
        match hl : s.data.toList with
        | [] => rfl
        | [a] => rw [hl] at g0; simp at g0; subst g0; simp [U8.first, hn, told, nothing]
        | [a, b] => rw [hl] at g0; simp at g0; subst g0; simp [U8.first, hn, told, nothing]
        | [a, b, c] => rw [hl] at g0; simp at g0; subst g0; simp [U8.first, hn, told, nothing]
        | a :: b :: c :: d :: r => rw [hl] at hlen; simp at hlen; omega
      rw [e]
      exact first_4s s hs h0 h1 w hL hn
    · have g1 := at_list s 1 (by omega)
      have g2 := at_list s 2 (by omega)
      have g3 := at_list s 3 (by omega)
      have b1 : (s[1]'(by omega)).toNat < 256 := UInt8.toNat_lt _
      have b2 : (s[2]'(by omega)).toNat < 256 := UInt8.toNat_lt _
      have b3 : (s[3]'(by omega)).toNat < 256 := UInt8.toNat_lt _
      have e : U8.first s.data.toList = if U8.cont (s[1]'(by omega)) && U8.cont (s[2]'(by omega)) && U8.cont (s[3]'(by omega)) then U8.chk 4 ((((s[0]'h0).toNat % 8 * 64 + U8.low (s[1]'(by omega))) * 64 + U8.low (s[2]'(by omega))) * 64 + U8.low (s[3]'(by omega))) else none := by
        match hl : s.data.toList with
        | [] => rw [hl] at hlen; simp at hlen; omega
        | [a] => rw [hl] at hlen; simp at hlen; omega
        | [a, b] => rw [hl] at hlen; simp at hlen; omega
        | [a, b, c] => rw [hl] at hlen; simp at hlen; omega
        | a :: b :: c :: d :: r =>
          rw [hl] at g0 g1 g2 g3; simp at g0 g1 g2 g3; subst g0 g1 g2 g3
          simp [U8.first, hn]
      rw [e]
      have hlow : U8.low (s[1]'(by omega)) < 64 := by unfold U8.low; omega
      have hlow2 : U8.low (s[2]'(by omega)) < 64 := by unfold U8.low; omega
      have hlow3 : U8.low (s[3]'(by omega)) < 64 := by unfold U8.low; omega
      have ha := and7 _ b0
      cases hc : U8.cont (s[1]'(by omega)) with
      | false => exact first_4b1 s hs (by omega) w hL hn (by rw [cont_int, hc]; rfl) ha
      | true =>
        have c1 : (((s[1]'(by omega)).toNat : Int) / 64 != 2) = false := by rw [cont_int, hc]; rfl
        have e1 : bits .or .i64 (((s[0]'h0).toNat : Int) % 8 * 64) (((s[1]'(by omega)).toNat : Int) % 64) = (((s[0]'h0).toNat % 8 * 64 + U8.low (s[1]'(by omega)) : Nat) : Int) := by
          rw [i64_or6 _ _ (by omega) (by omega) (by omega) (by omega)]; unfold U8.low; omega
        generalize hP : (s[0]'h0).toNat % 8 * 64 + U8.low (s[1]'(by omega)) = P at e1 ⊢
        cases hc2 : U8.cont (s[2]'(by omega)) with
        | false => exact first_4b2 s hs (by omega) w hL hn P c1 (by rw [cont_int, hc2]; rfl) ha e1 (by omega) (by omega)
        | true =>
          have c2 : (((s[2]'(by omega)).toNat : Int) / 64 != 2) = false := by rw [cont_int, hc2]; rfl
          have e2 : bits .or .i64 ((P : Int) * 64) (((s[2]'(by omega)).toNat : Int) % 64) = ((P * 64 + U8.low (s[2]'(by omega)) : Nat) : Int) := by
            rw [i64_or6 _ _ (by omega) (by omega) (by omega) (by omega)]; unfold U8.low; omega
          generalize hP2 : P * 64 + U8.low (s[2]'(by omega)) = P2 at e2 ⊢
          cases hc3 : U8.cont (s[3]'(by omega)) with
          | false => exact first_4b3 s hs (by omega) w hL hn P P2 c1 c2 (by rw [cont_int, hc3]; rfl) ha e1 e2 (by omega) (by omega) (by omega) (by omega)
          | true =>
            simp only [Bool.and_self, if_true]
            have c3 : (((s[3]'(by omega)).toNat : Int) / 64 != 2) = false := by rw [cont_int, hc3]; rfl
            have e3 : bits .or .i64 ((P2 : Int) * 64) (((s[3]'(by omega)).toNat : Int) % 64) = ((P2 * 64 + U8.low (s[3]'(by omega)) : Nat) : Int) := by
              rw [i64_or6 _ _ (by omega) (by omega) (by omega) (by omega)]; unfold U8.low; omega
            generalize hP3 : P2 * 64 + U8.low (s[3]'(by omega)) = P3 at e3 ⊢
            by_cases hl : P3 < 65536
            · rw [chk_none_lt (lenOf_lt4 hl)]
              exact first_4l s hs (by omega) w hL hn P P2 P3 c1 c2 c3 ha e1 e2 e3 (by omega) (by omega) (by omega) (by omega) (by omega) (by omega) (by omega)
            · cases hp : U8.isPt (P3 : Int) with
              | false => rw [chk_no hp]; exact first_4n s hs (by omega) w hL hn P P2 P3 c1 c2 c3 ha e1 e2 e3 (by omega) (by omega) (by omega) (by omega) (by omega) (by omega) (by omega) hp
              | true => rw [chk_yes (lenOf4 (by omega)) hp]; exact first_4y s hs (by omega) w hL hn P P2 P3 c1 c2 c3 ha e1 e2 e3 (by omega) (by omega) (by omega) (by omega) (by omega) (by omega) (by omega) hp

end Go.Proofs.YtjbdlihlcoldlaaGreatDoor

namespace Go.Proofs.YtjbdlihlcoldlaaGreatDoor
open Go.RowKit

theorem info26 : (Tryz.prog.info? 62).map (fun i => (i.zero, i.size, i.bytes)) = some (some (.agg #[.int .i64 0, .int .i64 0, .int .i64 0]), 3, 24) := by kernel_rfl

/-- A unit's three cells. -/
def cells3 (u : Nat × Nat × Nat) : List Value := [.int .i64 u.1, .int .i64 u.2.1, .int .i64 u.2.2]
theorem told_none : told none = .tuple #[.int .i64 0, .int .i64 0, .bool false] := rfl
theorem told_some (p n : Nat) : told (some (p, n)) = .tuple #[.int .i64 p, .int .i64 n, .bool true] := rfl
theorem extract_list (s : ByteArray) (k : Nat) : (s.extract k s.size).data.toList = s.data.toList.drop k := by
  rw [ByteArray.data_extract, Array.toList_extract, List.extract_eq_take_drop]
  rw [List.take_of_length_le (by simp)]
def flat (us : List (Nat × Nat × Nat)) : List Value := us.flatMap cells3

theorem flat_snoc (us : List (Nat × Nat × Nat)) (u : Nat × Nat × Nat) : flat (us ++ [u]) = flat us ++ cells3 u := by
  simp [flat]

theorem dec_mem {w wr w1 : World} {v v' : Value} {us : List (Nat × Nat × Nat)} {u : Nat × Nat × Nat} {B : Nat} {c : Array Value} {o : Obj}
    (hb : Below B w wr) (hB : B ≤ wr.heap.size) (hown : wr.ownsRow B 62 3 v us.length (flat us)) (hc : c[2]? = some (.int .i64 u.2.2))
    (hown' : w1.ownsRow B 62 3 v' (us.length + 1) (flat us ++ cells3 u)) (hg : ((wr.alloc (.cells c 62)).alloc o).grownBy w1 v.ownBlock) :
    w1.cell? ⟨wr.heap.size, 2, none⟩ = some (.int .i64 u.2.2) ∧ w1.ownsRow B 62 3 v' (us ++ [u]).length (flat (us ++ [u])) ∧ Below B w w1 := by
  refine ⟨?_, ?_, ?_⟩
  · have h1 : w1.heap[wr.heap.size]? = ((wr.alloc (.cells c 62)).alloc o).heap[wr.heap.size]? :=
      hg.block _ (by simp; omega) (fun e => by have := hown.lt _ e.symm; omega)
    have h2 := World.cell?_of_block (w := (wr.alloc (.cells c 62)).alloc o) (w' := w1) (a := ⟨wr.heap.size, 2, none⟩) h1
    rw [h2]
    simp [World.cell?_alloc_past, hc]
  · rw [flat_snoc]; simpa using hown'
  · exact ((hb.alloc hB _).alloc (by simp; omega) _).grown hg (by simp; omega) (fun k hk => (hown.lt k hk).1)

theorem dec_next {s : List UInt8} {us : List (Nat × Nat × Nat)} {k p n : Nat} (hk : k < s.length) (h : us ++ U8.dec (s.drop k) k = U8.dec s 0) (hu : U8.unit (s.drop k) = (p, n)) :
    us ++ [(p, k, n)] ++ U8.dec (s.drop (k + n)) (k + n) = U8.dec s 0 := by
  rw [← h, U8.dec_step (l := s.drop k) (by intro e; have := congrArg List.length e; simp at this; omega), hu, List.drop_drop, List.append_assoc]
  rfl

set_option maxHeartbeats 1000000 in
set_option maxRecDepth 100000 in
theorem decode_any (s : ByteArray) (hs : s.size ≤ 1000000) (w : World) (hL : LE w) (hB : 0 < w.heap.size) :
    Calls Tryz.prog 16 #[.string s] w fun e w' => ∃ v, e = .returned v ∧ w'.ownsRow w.heap.size 62 3 v (U8.dec s.data.toList 0).length (flat (U8.dec s.data.toList 0)) ∧ Below w.heap.size w w' := by
  obtain ⟨i0, hi, hz0, hz1, hz2⟩ := info_parts info26
  go_enter Tryz.func16, Tryz.ntmps16
  go_wp2
  go_loopw [3, 4] (fun v i wr => ∃ k us, k ≤ s.size ∧ i = .int .i64 (k : Nat) ∧ wr.ownsRow w.heap.size 62 3 v (List.length us) (flat us) ∧ us ++ U8.dec (s.data.toList.drop k) k = U8.dec s.data.toList 0 ∧ Below w.heap.size w wr)
    (fun _ i _ => s.size - (intOf i).toNat)
  case atStart => exact ⟨0, [], Nat.zero_le _, rfl, World.ownsRow_nil _ _ _ _, rfl, Below.refl _ _⟩
  case round =>
    obtain ⟨k, us, hk, rfl, hown, hus, hnx⟩ := hrel
    have HU : Hid (us ++ U8.dec (s.data.toList.drop k) k = U8.dec s.data.toList 0) := hus
    clear hus
    have hlen : us.length ≤ s.size := by
      have h1 := U8.dec_length_le s.data.toList 0
      rw [← HU.out] at h1
      simp at h1
      omega
    by_cases hlt : k < s.size
    · have hLr : LE wr := hL.below hnx hB
      cases hf : U8.first (s.data.toList.drop k) with
      | none =>
        have HF : Hid (U8.first (s.data.toList.drop k) = none) := hf
        clear hf
        go_wp2_with fail
        refine (first_any (s.extract k s.size) (by simp; omega) (by simp; omega) _ (hL.below (hnx.alloc hnx.size _) hB)).mono ?_
        rintro e w' ⟨rfl, rfl⟩
        rw [extract_list, HF.out, told_none]
        go_wp2_with (at_builtin; refine wpList_append_own _ rfl _ _ 51 rfl w.heap.size 62 i0 (.agg #[.int .i64 0, .int .i64 0, .int .i64 0]) 3 24 Tryz.underlying51 hi hz0 hz1 hz2 rfl (by decide) _ _ _ rfl ((hown.alloc _).alloc _) ⟨wr.heap.size + 1, 0, none⟩ 1 1 (cells3 (65533, k, 1)) rfl rfl ?_ ?_ ?_ ?_ ?_ ?_)
        rotate_right
        · intro v' w1 hown' hgrow _
          have R := dec_mem (u := (65533, k, 1)) hnx hnx.size hown rfl hown' hgrow
          have R1 := R.1
          have R2 : Hid _ := R.2
          clear R hown' hgrow hown
          go_wp2
          go_roundw
          case rel => exact ⟨k + 1, us ++ [(65533, k, 1)], by omega, by go_num, R2.out.1, dec_next (by simpa using hlt) HU.out (by rw [U8.unit, HF.out]; rfl), R2.out.2⟩
          case measure => simp [intOf]; omega
        · intro j u hj
          match j, hj with
          | 0, hj => simp [cells3] at hj; subst hj; simp [Addr.add]
          | 1, hj => simp [cells3] at hj; subst hj; simp [Addr.add]
          | 2, hj => simp [cells3] at hj; subst hj; simp [Addr.add]
          | j + 3, hj => simp [cells3] at hj
        · intro u hu; simp [cells3] at hu; rcases hu with rfl | rfl | rfl <;> rfl
        · have := hlen; unfold maxLen; omega
        · have := hlen; omega
        · have := hnx.size; simp; omega
      | some x =>
        obtain ⟨p, n⟩ := x
        have hfl := U8.first_len hf
        have hsz : s.data.toList.length = s.size := by simp
        rw [List.length_drop, hsz] at hfl
        clear hsz
        have HF : Hid (U8.first (s.data.toList.drop k) = some (p, n)) := hf
        clear hf
        go_wp2_with fail
        refine (first_any (s.extract k s.size) (by simp; omega) (by simp; omega) _ (hL.below (hnx.alloc hnx.size _) hB)).mono ?_
        rintro e w' ⟨rfl, rfl⟩
        rw [extract_list, HF.out, told_some]
        go_wp2_with (at_builtin; refine wpList_append_own _ rfl _ _ 51 rfl w.heap.size 62 i0 (.agg #[.int .i64 0, .int .i64 0, .int .i64 0]) 3 24 Tryz.underlying51 hi hz0 hz1 hz2 rfl (by decide) _ _ _ rfl ((hown.alloc _).alloc _) ⟨wr.heap.size + 1, 0, none⟩ 1 1 (cells3 (p, k, n)) rfl rfl ?_ ?_ ?_ ?_ ?_ ?_)
        rotate_right
        · intro v' w1 hown' hgrow _
          have R := dec_mem (u := (p, k, n)) hnx hnx.size hown rfl hown' hgrow
          have R1 := R.1
          have R2 : Hid _ := R.2
          clear R hown' hgrow hown
          go_wp2
          go_roundw
          case rel => exact ⟨k + n, us ++ [(p, k, n)], by omega, by go_num, R2.out.1, dec_next (by simpa using hlt) HU.out (by rw [U8.unit, HF.out]; rfl), R2.out.2⟩
          case measure => simp [intOf]; omega
        · intro j u hj
          match j, hj with
          | 0, hj => simp [cells3] at hj; subst hj; simp [Addr.add]
          | 1, hj => simp [cells3] at hj; subst hj; simp [Addr.add]
          | 2, hj => simp [cells3] at hj; subst hj; simp [Addr.add]
          | j + 3, hj => simp [cells3] at hj
        · intro u hu; simp [cells3] at hu; rcases hu with rfl | rfl | rfl <;> rfl
        · have := hlen; unfold maxLen; omega
        · have := hlen; omega
        · have := hnx.size; simp; omega
    · go_wp2
      go_ret
      refine ⟨_, rfl, ?_, hnx⟩
      have hk' : k = s.size := by omega
      have h1 : us = U8.dec s.data.toList 0 := by
        rw [← HU.out, List.drop_of_length_le (by simp; omega), U8.dec_nil, List.append_nil]
      rw [← h1]
      exact hown
end Go.Proofs.YtjbdlihlcoldlaaGreatDoor

namespace Go.Proofs.YtjbdlihlcoldlaaGreatDoor
open Go.RowKit

/-- A slice of ints at hand. -/
def IntsAt (B : Nat) (w : World) (v : Value) (zs : List Int) : Prop :=
  ∃ ao cap, v = .slice ao zs.length cap ∧ (zs ≠ [] → ∃ b off, ao = some ⟨b, off, none⟩ ∧ b < B ∧ ∀ j (h : j < zs.length), w.cell? ⟨b, off + j, none⟩ = some (.int .i64 zs[j]))

def ptsV (l : List Int) : List Value := l.map fun x => .int .i64 x

theorem ints_of_own {w : World} {B : Nat} {v : Value} {zs : List Int} (h : w.ownsRow B 3 1 v zs.length (ptsV zs)) : IntsAt w.heap.size w v zs := by
  have hk := h
  obtain ⟨h1, h2 | ⟨g, cap, cur, rfl, hg, hh, hn, hc, hs, ht⟩⟩ := h
  · obtain ⟨rfl, h0⟩ := h2
    obtain rfl : zs = [] := List.length_eq_zero_iff.1 h0
    exact ⟨none, 0, rfl, fun h => absurd rfl h⟩
  · refine ⟨some ⟨g, 0, none⟩, cap, rfl, fun _ => ⟨g, 0, rfl, lt_of_block hh, fun j hj => ?_⟩⟩
    have := hk.cells (g := g) rfl j (.int .i64 zs[j]) (by simp [ptsV, hj])
    simpa [Addr.add_lit] using this

theorem IntsAt.below {w w' : World} {B : Nat} {v : Value} {zs : List Int} (h : IntsAt B w v zs) (hb : Below B w w') (B' : Nat) (hB : B ≤ B') : IntsAt B' w' v zs := by
  obtain ⟨ao, cap, rfl, h⟩ := h
  refine ⟨ao, cap, rfl, fun hz => ?_⟩
  obtain ⟨b, off, e, hbl, hc⟩ := h hz
  exact ⟨b, off, e, by omega, fun j hj => (hb.cell (by exact hbl)).trans (hc j hj)⟩

set_option maxHeartbeats 1000000 in
set_option maxRecDepth 100000 in
theorem index_any (b off cap : Nat) (zs : List Int) (x : Int) (hlen : zs.length ≤ 1000000) (w : World) (hc : ∀ j (h : j < zs.length), w.cell? ⟨b, off + j, none⟩ = some (.int .i64 zs[j])) :
    Calls Tryz.prog 47 #[.slice (some ⟨b, off, none⟩) zs.length cap, .int .i64 x] w fun e w' => ∃ r : Int, e = .returned (.int .i64 r) ∧ (0 ≤ r ↔ x ∈ zs) ∧ w' = w := by
  have HC : Hid (∀ j (h : j < zs.length), w.cell? ⟨b, off + j, none⟩ = some (.int .i64 zs[j])) := hc
  clear hc
  go_enter Tryz.func47, Tryz.ntmps47
  go_wp2
  go_loop [8] (fun i => ∃ k : Nat, k ≤ zs.length ∧ i = .int .i64 k ∧ x ∉ zs.take k) (fun i => zs.length - (intOf i).toNat)
  case atStart => exact ⟨0, Nat.zero_le _, rfl, by simp⟩
  case round =>
    obtain ⟨k, hk, rfl, hno⟩ := hrel
    have HNO : Hid (x ∉ zs.take k) := hno
    clear hno
    by_cases hlt : k < zs.length
    · have hcx := HC.out k hlt
      obtain ⟨y, hy⟩ : ∃ y, y = zs[k] := ⟨_, rfl⟩
      rw [← hy] at hcx
      have HY : Hid (y = zs[k]) := hy
      clear hy
      by_cases hxy : x = y
      · have hq : (x == y) = true := by simp [hxy]
        have HXY : Hid (x = y) := hxy
        clear hxy
        go_wp2
        go_ret
        refine ⟨_, rfl, ⟨fun _ => ?_, fun _ => by omega⟩, rfl⟩
        rw [HXY.out, HY.out]; exact List.getElem_mem hlt
      · have hq : (x == y) = false := by simp [hxy]
        go_wp2
        go_round
        case rel => exact ⟨k + 1, by omega, by go_num, by rw [List.take_succ_eq_append_getElem hlt]; simp only [List.mem_append, List.mem_singleton, not_or]; exact ⟨HNO.out, by rw [← HY.out]; exact hxy⟩⟩
        case measure => simp [intOf]; omega
    · go_wp2
      go_ret
      refine ⟨_, rfl, ⟨fun h => by omega, fun h => ?_⟩, rfl⟩
      have hkl : k = zs.length := by omega
      have := HNO.out
      rw [hkl, List.take_length] at this
      exact absurd h this

set_option maxHeartbeats 1000000 in
set_option maxRecDepth 100000 in
theorem index_nil (ao : Option Addr) (cap : Nat) (x : Int) (w : World) :
    Calls Tryz.prog 47 #[.slice ao 0 cap, .int .i64 x] w fun e w' => e = .returned (.int .i64 (-1)) ∧ w' = w := by
  go_enter Tryz.func47, Tryz.ntmps47
  go_wp2_with fail
  refine wp_loop_rounds 1 ?_
  rw [rounds_succ]
  go_wp2_with fail
  go_ret
  exact ⟨rfl, rfl⟩

theorem index_ints (v : Value) (zs : List Int) (B : Nat) (x : Int) (hlen : zs.length ≤ 1000000) (w : World) (hv : IntsAt B w v zs) :
    Calls Tryz.prog 47 #[v, .int .i64 x] w fun e w' => ∃ r : Int, e = .returned (.int .i64 r) ∧ (0 ≤ r ↔ x ∈ zs) ∧ w' = w := by
  obtain ⟨ao, cap, rfl, h⟩ := hv
  by_cases hz : zs = []
  · subst hz
    refine (index_nil ao cap x w).mono ?_
    rintro e w' ⟨rfl, rfl⟩
    exact ⟨-1, rfl, by simp, rfl⟩
  · obtain ⟨b, off, rfl, hb, hc⟩ := h hz
    exact index_any b off cap zs x hlen w hc

set_option maxHeartbeats 1000000 in
set_option maxRecDepth 100000 in
theorem contains_any (v : Value) (zs : List Int) (B : Nat) (x : Int) (hlen : zs.length ≤ 1000000) (w : World) (hv : IntsAt B w v zs) :
    Calls Tryz.prog 19 #[v, .int .i64 x] w fun e w' => e = .returned (.bool (decide (x ∈ zs))) ∧ w' = w := by
  have HV : Hid (IntsAt B w v zs) := hv
  clear hv
  go_enter Tryz.func19, Tryz.ntmps19
  go_wp2_with fail
  refine (index_ints _ zs B x hlen _ HV.out).mono ?_
  rintro e w' ⟨r, rfl, hr, rfl⟩
  have HR : Hid (0 ≤ r ↔ x ∈ zs) := hr
  clear hr
  go_wp2
  go_ret
  refine ⟨ret_bool ?_, rfl⟩
  have hh := HR.out
  rw [Bool.eq_iff_iff, decide_eq_true_iff, decide_eq_true_iff]
  exact hh

set_option maxHeartbeats 1000000 in
set_option maxRecDepth 100000 in
theorem equal_len (a b : Option Addr) (m n ca cb : Nat) (_hm : m ≤ 1000000) (_hn : n ≤ 1000000) (h : m ≠ n) (w : World) :
    Calls Tryz.prog 18 #[.slice a m ca, .slice b n cb] w fun e w' => e = .returned (.bool false) ∧ w' = w := by
  have hq : ((m : Int) != (n : Int)) = true := by simp; omega
  go_enter Tryz.func18, Tryz.ntmps18
  go_wp2_with fail
  go_ret
  exact ⟨rfl, rfl⟩

set_option maxHeartbeats 1000000 in
set_option maxRecDepth 100000 in
theorem equal_nil (a b : Option Addr) (ca cb : Nat) (w : World) :
    Calls Tryz.prog 18 #[.slice a 0 ca, .slice b 0 cb] w fun e w' => e = .returned (.bool true) ∧ w' = w := by
  go_enter Tryz.func18, Tryz.ntmps18
  go_wp2_with fail
  refine wp_loop_rounds 1 ?_
  rw [rounds_succ]
  go_wp2_with fail
  go_ret
  exact ⟨rfl, rfl⟩

set_option maxHeartbeats 1000000 in
set_option maxRecDepth 100000 in
theorem equal_some (a oa b ob ca cb : Nat) (xs ys : List Int) (hl : xs.length = ys.length) (hlen : xs.length ≤ 1000000) (w : World) (ha : a < w.heap.size) (hb : b < w.heap.size)
    (hx : ∀ j (h : j < xs.length), w.cell? ⟨a, oa + j, none⟩ = some (.int .i64 xs[j])) (hy : ∀ j (h : j < ys.length), w.cell? ⟨b, ob + j, none⟩ = some (.int .i64 ys[j])) :
    Calls Tryz.prog 18 #[.slice (some ⟨a, oa, none⟩) xs.length ca, .slice (some ⟨b, ob, none⟩) xs.length cb] w fun e w' => e = .returned (.bool (decide (xs = ys))) ∧ Below w.heap.size w w' := by
  have HX : Hid (∀ j (h : j < xs.length), w.cell? ⟨a, oa + j, none⟩ = some (.int .i64 xs[j])) := hx
  have HY : Hid (∀ j (h : j < ys.length), w.cell? ⟨b, ob + j, none⟩ = some (.int .i64 ys[j])) := hy
  have HL : Hid (xs.length = ys.length) := hl
  clear hx hy hl
  go_enter Tryz.func18, Tryz.ntmps18
  go_wp2
  go_loopw [13] (fun i wr => ∃ k : Nat, k ≤ xs.length ∧ i = .int .i64 k ∧ xs.take k = ys.take k ∧ Below w.heap.size w wr) (fun i _ => xs.length - (intOf i).toNat)
  case atStart => exact ⟨0, Nat.zero_le _, rfl, by simp, Below.refl _ _⟩
  case round =>
    obtain ⟨k, hk, rfl, hno, hnx⟩ := hrel
    have HNO : Hid (xs.take k = ys.take k) := hno
    clear hno
    by_cases hlt : k < xs.length
    · have hlt2 : k < ys.length := by rw [← HL.out]; exact hlt
      have hcx := (hnx.cell (p := ⟨a, oa + k, none⟩) (by exact ha)).trans (HX.out k hlt)
      have hcy := (hnx.cell (p := ⟨b, ob + k, none⟩) (by exact hb)).trans (HY.out k hlt2)
      obtain ⟨x, hx⟩ : ∃ x, x = xs[k] := ⟨_, rfl⟩
      rw [← hx] at hcx
      have HHX : Hid (x = xs[k]) := hx
      clear hx
      obtain ⟨y, hy⟩ : ∃ y, y = ys[k] := ⟨_, rfl⟩
      rw [← hy] at hcy
      have HHY : Hid (y = ys[k]) := hy
      clear hy
      by_cases hxy : x = y
      · have hq : (x != y) = false := by simp [hxy]
        have HXY : Hid (x = y) := hxy
        clear hxy
        go_wp2
        go_region
        all_goals go_wp2
        all_goals go_roundw
        case rel => exact ⟨k + 1, by omega, by go_num, by rw [List.take_succ_eq_append_getElem hlt, List.take_succ_eq_append_getElem hlt2, HNO.out, ← HHX.out, ← HHY.out, HXY.out], hnx.drew⟩
        case measure => simp [intOf]; omega
      · have hq : (x != y) = true := by simp [hxy]
        have HXY : Hid (¬ x = y) := hxy
        clear hxy
        go_wp2
        go_region
        all_goals go_wp2
        all_goals go_ret
        refine ⟨ret_bool ?_, hnx.drew⟩
        have : xs ≠ ys := by
          intro e
          subst e
          exact HXY.out (HHX.out.trans HHY.out.symm)
        simp [this]
    · go_wp2
      go_ret
      refine ⟨ret_bool ?_, hnx⟩
      have hkl : k = xs.length := by omega
      have := HNO.out
      rw [hkl, List.take_length, HL.out, List.take_length] at this
      simp [this]

theorem equal_any (va vb : Value) (xs ys : List Int) (hx : xs.length ≤ 1000000) (hy : ys.length ≤ 1000000) (w : World) (ha : IntsAt w.heap.size w va xs) (hb : IntsAt w.heap.size w vb ys) :
    Calls Tryz.prog 18 #[va, vb] w fun e w' => e = .returned (.bool (decide (xs = ys))) ∧ Below w.heap.size w w' := by
  obtain ⟨ao, ca, rfl, ha⟩ := ha
  obtain ⟨bo, cb, rfl, hb⟩ := hb
  by_cases hl : xs.length = ys.length
  · by_cases hz : xs = []
    · subst hz
      obtain rfl : ys = [] := List.length_eq_zero_iff.1 hl.symm
      refine (equal_nil ao bo ca cb w).mono ?_
      rintro e w' ⟨rfl, rfl⟩
      exact ⟨by simp, Below.refl _ _⟩
    · obtain ⟨a, oa, rfl, h1, h2⟩ := ha hz
      obtain ⟨b, ob, rfl, h3, h4⟩ := hb (by intro e; subst e; exact hz (List.length_eq_zero_iff.1 hl))
      rw [← hl]
      exact equal_some a oa b ob ca cb xs ys hl hx w h1 h3 h2 h4
  · refine (equal_len ao bo xs.length ys.length ca cb hx hy hl w).mono ?_
    rintro e w' ⟨rfl, rfl⟩
    have : xs ≠ ys := by intro e; subst e; exact hl rfl
    exact ⟨by simp [this], Below.refl _ _⟩

end Go.Proofs.YtjbdlihlcoldlaaGreatDoor
