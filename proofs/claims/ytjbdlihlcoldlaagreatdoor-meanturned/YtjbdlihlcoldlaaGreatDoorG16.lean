/- internal/strconv.ParseUint at base 16 and 32 bits, at every text that is not empty. -/
import Derived.Test.YtjbdlihlcoldlaaGreatDoorRows
import Derived.Test.YtjbdlihlcoldlaaGreatDoorG00
import Derived.WalkKit
import Derived.WalkSpells
import Derived.WalkLawsBesides
import Derived.BigQuiet
import Derived.Lib.ConvBytes
import Derived.Lib.Strings
import Derived.Lib.Hide
import Derived.Laws.Strings3
import Derived.Laws.Closers25
import Derived.Laws.Closers25b
import Derived.BigCall
import Derived.BigGuard
namespace Go.Proofs.YtjbdlihlcoldlaaGreatDoor
open Go.RowKit

theorem u8_or32 (c : Nat) (h : c < 256) : bits .or .u8 (c : Int) 32 = ((c ||| 32 : Nat) : Int) := by
  have : ∀ c : Fin 256, bits .or .u8 (c.val : Int) 32 = ((c.val ||| 32 : Nat) : Int) := by decide +kernel
  exact this ⟨c, h⟩

set_option maxHeartbeats 1000000 in
set_option maxRecDepth 100000 in
theorem lower_any (c : Nat) (h : c < 256) (w : World) : Calls Tryz.prog 274 #[.int .u8 (c : Int)] w fun e w' => e = .returned (.int .u8 ((c ||| 32 : Nat) : Int)) ∧ w' = w := by
  have hb := u8_or32 c h
  go_enter Tryz.func274, Tryz.ntmps274
  go_wp2
  go_ret
  exact ⟨rfl, rfl⟩

/-- What ParseUint hands back. -/
def puTuple (M : Nat) : RS.PU → Value
  | .good n => .tuple #[.int .u64 (n : Int), .nilIface]
  | .bad => .tuple #[.int .u64 0, .iface 344 (.int .i64 2)]
  | .great => .tuple #[.int .u64 (M : Int), .iface 344 (.int .i64 1)]

/-- The bytes of a text, as numbers. -/
def nums (t : ByteArray) : List Nat := t.data.toList.map UInt8.toNat

theorem pu_cons (M acc c : Nat) (l : List Nat) : RS.pu M acc (c :: l) = match RS.worth c with
    | none => .bad
    | some d => if 16 ≤ d then .bad else if M < acc * 16 + d then .great else RS.pu M (acc * 16 + d) l := by
  rw [RS.pu]
  cases RS.worth c <;> rfl

theorem pu_bad {M acc c : Nat} {l : List Nat} (h : RS.worth c = none ∨ ∃ d, RS.worth c = some d ∧ 16 ≤ d) : RS.pu M acc (c :: l) = .bad := by
  rw [pu_cons]
  rcases h with h | ⟨d, h, hd⟩
  · rw [h]
  · rw [h]; simp only; rw [if_pos hd]

theorem pu_great {M acc c d : Nat} {l : List Nat} (h : RS.worth c = some d) (hd : d < 16) (hm : M < acc * 16 + d) : RS.pu M acc (c :: l) = .great := by
  rw [pu_cons, h]; simp only; rw [if_neg (by omega), if_pos hm]

theorem pu_next {M acc c d : Nat} {l : List Nat} (h : RS.worth c = some d) (hd : d < 16) (hm : acc * 16 + d ≤ M) : RS.pu M acc (c :: l) = RS.pu M (acc * 16 + d) l := by
  rw [pu_cons, h]; simp only; rw [if_neg (by omega), if_neg (by omega)]

set_option maxHeartbeats 4000000 in
set_option maxRecDepth 100000 in
theorem pu32_any (t : ByteArray) (hne : t.size ≠ 0) (hmax : t.size ≤ 1000000) (w : World) :
    Calls Tryz.prog 269 #[.string t, .int .i64 16, .int .i64 32] w fun e w' => e = .returned (puTuple 4294967295 (RS.pu 4294967295 0 (nums t))) ∧ w' = Lib.bytesWorld w 5 t := by
  have hemp : t.toList.isEmpty = false := by
    rw [← decide_eq_emptyBytes]
    exact decide_eq_false (fun h => hne (by rw [h]; rfl))
  have hcv := Lib.run_convert_string_bytes (P := Tryz.prog) w 9 219 5 t (u := .string) Tryz.underlying9 Tryz.underlying219 Tryz.underlying5
  have hB : ∀ j, j < t.size → (Lib.bytesWorld w 5 t).cell? ⟨w.heap.size, j, none⟩ = some (.int .u8 (t.data.toList.getD j 0).toNat) := fun j hj => Lib.bytesWorld_cell w 5 t j hj
  obtain ⟨W1, hW1⟩ : ∃ W1, W1 = Lib.bytesWorld w 5 t := ⟨_, rfl⟩
  rw [← hW1] at hcv hB ⊢
  clear hW1
  obtain ⟨bs, hL⟩ : ∃ bs, bs = nums t := ⟨_, rfl⟩
  have hLn : bs.length = t.size := by rw [hL]; simp [nums]
  have hB' : Hid (∀ j (h : j < bs.length), W1.cell? ⟨w.heap.size, j, none⟩ = some (.int .u8 (bs[j] : Int)) ∧ bs[j] < 256) := fun j h => by
    have hj : j < t.size := by omega
    have h1 := hB j hj
    have e : (t.data.toList.getD j 0).toNat = bs[j] := by subst hL; simp [nums, List.getD, hj]
    rw [e] at h1
    refine ⟨h1, ?_⟩
    subst hL
    simp [nums]
    exact UInt8.toNat_lt _
  rw [← hL]
  clear hL hB
  have hmv : IntKind.u64.wrap (IntKind.u64.wrap 4294967296 - 1) = 4294967295 := by
    rw [IntKind.wrap_u64, IntKind.wrap_u64]
    decide
  go_enter Tryz.func269, Tryz.ntmps269
  go_wp2
  go_loop [12, 13, 101] (fun vu vn vi => ∃ (k acc : Nat) (a : Int), vu = .bool false ∧ vn = .int .u64 a ∧ vi = .int .i64 k ∧ k ≤ t.size ∧ Hid (a = (acc : Int) ∧ acc ≤ 4294967295 ∧ RS.pu 4294967295 0 bs = RS.pu 4294967295 acc (bs.drop k)))
    (fun _ _ vi => t.size - (intOf vi).toNat)
  case atStart => exact ⟨0, 0, 0, rfl, rfl, rfl, by omega, rfl, by omega, rfl⟩
  case round =>
    obtain ⟨k, acc, a, rfl, rfl, rfl, hk, hh⟩ := hrel
    obtain ⟨ha, hacc, hdec⟩ := hh.out
    clear hh
    have a0 : 0 ≤ a := by omega
    have a1 : a ≤ 4294967295 := by omega
    by_cases hkn : k < t.size
    · obtain ⟨hc, hc256⟩ := hB'.out k (by omega)
      have hdrop : bs.drop k = bs[k]'(by omega) :: bs.drop (k + 1) := List.drop_eq_getElem_cons (by omega)
      rw [hdrop] at hdec
      generalize bs[k]'(by omega) = c at hc hdec hc256
      have HD : Hid (RS.pu 4294967295 0 bs = RS.pu 4294967295 acc (c :: bs.drop (k + 1))) := hdec
      clear hdrop hdec
      by_cases hdig : 48 ≤ c ∧ c ≤ 57
      · obtain ⟨hd0, hd1⟩ := hdig
        have hw : RS.worth c = some (c - 48) := by unfold RS.worth; rw [if_pos ⟨hd0, hd1⟩]
        by_cases hov : 4294967295 < acc * 16 + (c - 48)
        · have hF := HD.out.trans (pu_great (l := bs.drop (k + 1)) hw (by omega) hov)
          have HE : Hid (RS.pu 4294967295 0 bs = .great) := hF
          have iov : 4294967295 < a * 16 + ((c : Int) - 48) := by omega
          clear hacc hF hov ha hw
          go_wp2
          go_ret2
          exact ⟨by rw [HE.out]; rfl, rfl⟩
        · have hF := HD.out.trans (pu_next (l := bs.drop (k + 1)) hw (by omega) (by omega))
          have HN : Hid (a * 16 + ((c : Int) - 48) = ((acc * 16 + (c - 48) : Nat) : Int) ∧ acc * 16 + (c - 48) ≤ 4294967295 ∧ RS.pu 4294967295 0 bs = RS.pu 4294967295 (acc * 16 + (c - 48)) (bs.drop (k + 1))) := Lib.hid ⟨by omega, by omega, hF⟩
          have iov : a * 16 + ((c : Int) - 48) ≤ 4294967295 := by omega
          clear hacc hF hov ha hw
          go_wp2
          refine ⟨⟨k + 1, acc * 16 + (c - 48), a * 16 + ((c : Int) - 48), rfl, (by first | rfl | (congr 1; omega)), (by first | rfl | (congr 1; omega)), by omega, HN⟩, by simp [intOf]; omega⟩
      · have hlo : c ||| 32 < 256 := Nat.or_lt_two_pow (n := 8) hc256 (by omega)
        have hlow := fun W => lower_any c hc256 W
        have hor := Nat.right_le_or (n := c) (m := 32)
        obtain ⟨d, hdd⟩ : ∃ d, d = c ||| 32 := ⟨_, rfl⟩
        rw [← hdd] at hlow hlo hor
        have hnd : ¬ (48 ≤ (c : Int) ∧ (c : Int) ≤ 57) := by omega
        by_cases hlet : 97 ≤ d ∧ d ≤ 122
        · obtain ⟨hl0, hl1⟩ := hlet
          have hn95 : c ≠ 95 := by
            rintro rfl
            rw [show (95 ||| 32 : Nat) = 127 from rfl] at hdd
            omega
          have h95 : ((c : Int) == 95) = false := by simp; omega
          clear hn95
          have hw : RS.worth c = some (d - 87) := by unfold RS.worth; rw [if_neg hdig, ← hdd, if_pos ⟨hl0, hl1⟩]
          by_cases h16 : 103 ≤ d
          · have HE : Hid (RS.pu 4294967295 0 bs = .bad) := HD.out.trans (pu_bad (.inr ⟨_, hw, by omega⟩))
            clear hacc ha hw hdd hdig
            go_wp2_with (go_at_call 274; refine (hlow _).mono ?_; rintro e w' ⟨rfl, rfl⟩)
            all_goals go_ret2
            all_goals exact ⟨by rw [HE.out]; rfl, rfl⟩
          · by_cases hov : 4294967295 < acc * 16 + (d - 87)
            · have HE : Hid (RS.pu 4294967295 0 bs = .great) := HD.out.trans (pu_great (l := bs.drop (k + 1)) hw (by omega) hov)
              have iov : 4294967295 < a * 16 + ((d : Int) - 97 + 10) := by omega
              clear hacc hov ha hw hdd hdig
              go_wp2_with (go_at_call 274; refine (hlow _).mono ?_; rintro e w' ⟨rfl, rfl⟩)
              all_goals go_ret2
              all_goals exact ⟨by rw [HE.out]; rfl, rfl⟩
            · have hF := HD.out.trans (pu_next (l := bs.drop (k + 1)) hw (by omega) (by omega))
              have HN : Hid (a * 16 + ((d : Int) - 97 + 10) = ((acc * 16 + (d - 87) : Nat) : Int) ∧ acc * 16 + (d - 87) ≤ 4294967295 ∧ RS.pu 4294967295 0 bs = RS.pu 4294967295 (acc * 16 + (d - 87)) (bs.drop (k + 1))) := Lib.hid ⟨by omega, by omega, hF⟩
              have iov : a * 16 + ((d : Int) - 97 + 10) ≤ 4294967295 := by omega
              clear hacc hF hov ha hw hdd hdig
              go_wp2_with (go_at_call 274; refine (hlow _).mono ?_; rintro e w' ⟨rfl, rfl⟩)
              all_goals refine ⟨⟨k + 1, acc * 16 + (d - 87), a * 16 + ((d : Int) - 97 + 10), rfl, (by first | rfl | (congr 1; omega)), (by first | rfl | (congr 1; omega)), by omega, HN⟩, by simp [intOf]; omega⟩
        · have hw : RS.worth c = none := by unfold RS.worth; rw [if_neg hdig, ← hdd, if_neg hlet]
          have HE : Hid (RS.pu 4294967295 0 bs = .bad) := HD.out.trans (pu_bad (.inl hw))
          by_cases hn95 : c = 95
          · subst hn95
            have hlow' := fun W => lower_any 95 (by omega) W
            clear hacc ha hw hdd hdig hlow hnd hlet hor hlo HD
            have hc' : W1.cell? ⟨w.heap.size, k, none⟩ = some (.int .u8 95) := hc
            clear hc
            change ∀ W, Calls Tryz.prog 274 #[.int .u8 95] W (fun e w' => e = .returned (.int .u8 127) ∧ w' = W) at hlow'
            go_wp2_with (go_at_call 274; refine (hlow' _).mono ?_; rintro e w' ⟨rfl, rfl⟩)
            all_goals go_ret2
            all_goals exact ⟨by rw [HE.out]; rfl, rfl⟩
          · have h95 : ((c : Int) == 95) = false := by simp; omega
            clear hacc ha hw hdd hdig hn95
            go_wp2_with (go_at_call 274; refine (hlow _).mono ?_; rintro e w' ⟨rfl, rfl⟩)
            all_goals go_ret2
            all_goals exact ⟨by rw [HE.out]; rfl, rfl⟩
    · have hkk : k = t.size := by omega
      have hF : RS.pu 4294967295 acc (bs.drop k) = .good acc := by rw [List.drop_eq_nil_of_le (by omega)]; rfl
      rw [hF] at hdec
      have HE : Hid (RS.pu 4294967295 0 bs = .good acc) := hdec
      subst ha
      clear hacc hF a0 a1 hdec
      go_wp2
      go_ret2
      exact ⟨by rw [HE.out]; rfl, rfl⟩

end Go.Proofs.YtjbdlihlcoldlaaGreatDoor
