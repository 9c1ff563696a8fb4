/- The contracts of rule.past and rule.skip. -/
import Derived.Test.YtjbmdnkpfkelmaaGreatDoorRows
import Derived.Test.YtjbmdnkpfkelmaaGreatDoorPlain
import Derived.WalkKit
import Derived.WalkSpells
import Derived.WalkLawsBesides
import Derived.BigQuiet
import Derived.Laws.Rows
import Derived.Shelf.Abstract
namespace Go.Proofs.YtjbmdnkpfkelmaaGreatDoor.Q
open Go.RowKit Go.Shelf

theorem ret_int {k : IntKind} {a b : Int} (h : a = b) : Ending.returned (.int k a) = .returned (.int k b) := by rw [h]
theorem ret_bool {a b : Bool} (h : a = b) : Ending.returned (.bool a) = .returned (.bool b) := by rw [h]

theorem drop_byte (s : ByteArray) (k : Nat) (h : k < s.size) : s.data.toList.drop k = s[k] :: s.data.toList.drop (k + 1) := by
  rw [List.drop_eq_getElem_cons (by simpa using h)]
  rfl

/-- A function value tells p of each byte, here and now, and turns nothing. -/
def Such (g : Nat) (lb : Array Value) (p : UInt8 → Bool) (w : World) : Prop :=
  ∀ c : UInt8, Calls Tryz.prog g (#[.int .u8 c.toNat] ++ lb) w fun e w' => e = .returned (.bool (p c)) ∧ w' = w

set_option maxHeartbeats 1000000 in
set_option maxRecDepth 100000 in
theorem past_any (g : Nat) (lb : Array Value) (eg : ∀ args w, (callFunc g args).run Tryz.prog w = .ok (.enter g args) w) (p : UInt8 → Bool) (s : ByteArray) (n : Nat) (hs : s.size ≤ 1000000) (hn : n ≤ s.size) (w : World) (hS : Such g lb p w) :
    Calls Tryz.prog 31 #[.string s, .int .i64 n, .func (.func g) #[] lb] w fun e w' => (∃ k : Nat, e = .returned (.int .i64 k) ∧ n ≤ k ∧ k ≤ s.size ∧ s.data.toList.drop k = (s.data.toList.drop n).dropWhile p ∧ k = n + ((s.data.toList.drop n).takeWhile p).length) ∧ w' = w := by
  have HS : Hid (Such g lb p w) := hS
  clear hS
  go_enter Tryz.func31, Tryz.ntmps31
  go_wp2
  go_loop [1] (fun i => ∃ k : Nat, n ≤ k ∧ k ≤ s.size ∧ i = .int .i64 k ∧ (s.data.toList.drop n).dropWhile p = (s.data.toList.drop k).dropWhile p ∧ n + ((s.data.toList.drop n).takeWhile p).length = k + ((s.data.toList.drop k).takeWhile p).length) (fun i => s.size - (intOf i).toNat)
  case atStart => exact ⟨n, Nat.le_refl _, hn, rfl, rfl, rfl⟩
  case round =>
    obtain ⟨k, hk1, hk2, rfl, hdw, htw⟩ := hrel
    have HD : Hid ((s.data.toList.drop n).dropWhile p = (s.data.toList.drop k).dropWhile p) := hdw
    have HW : Hid (n + ((s.data.toList.drop n).takeWhile p).length = k + ((s.data.toList.drop k).takeWhile p).length) := htw
    clear hdw htw
    by_cases hlt : k < s.size
    · have hdc := drop_byte s k hlt
      have HC : Hid (s.data.toList.drop k = s[k] :: s.data.toList.drop (k + 1)) := hdc
      clear hdc
      have hcl := HS.out s[k]
      cases hpc : p s[k] with
      | true =>
        rw [hpc] at hcl
        have HPC : Hid (p s[k] = true) := hpc
        clear hpc
        go_wp2_with (refine hcl.mono ?_; rintro e w' ⟨rfl, rfl⟩)
        go_round
        case rel => exact ⟨k + 1, by omega, by omega, by go_num, by rw [HD.out, HC.out, List.dropWhile_cons, if_pos HPC.out], by rw [HW.out, HC.out, List.takeWhile_cons, if_pos HPC.out, List.length_cons]; omega⟩
        case measure => simp [intOf]; omega
      | false =>
        rw [hpc] at hcl
        have HPC : Hid (p s[k] = false) := hpc
        clear hpc
        go_wp2_with (refine hcl.mono ?_; rintro e w' ⟨rfl, rfl⟩)
        go_ret
        refine ⟨⟨k, rfl, hk1, hk2, ?_, ?_⟩, rfl⟩
        · rw [HD.out, HC.out, List.dropWhile_cons, if_neg (by rw [HPC.out]; simp)]
        · rw [HW.out, HC.out, List.takeWhile_cons, if_neg (by rw [HPC.out]; simp)]; rfl
    · go_wp2_with fail
      go_ret
      have hnil : s.data.toList.drop k = [] := List.drop_of_length_le (by show s.data.toList.length ≤ k; rw [Array.length_toList]; show s.size ≤ k; omega)
      refine ⟨⟨k, rfl, hk1, hk2, ?_, ?_⟩, rfl⟩
      · rw [HD.out, hnil]; rfl
      · rw [HW.out, hnil]; rfl

theorem eg29 : ∀ args w, (callFunc 29 args).run Tryz.prog w = .ok (.enter 29 args) w := enters_of Tryz.func29 (by kernel_rfl) rfl
theorem eg30 : ∀ args w, (callFunc 30 args).run Tryz.prog w = .ok (.enter 30 args) w := enters_of Tryz.func30 (by kernel_rfl) rfl
theorem eg32 : ∀ args w, (callFunc 32 args).run Tryz.prog w = .ok (.enter 32 args) w := enters_of Tryz.func32 (by kernel_rfl) rfl
theorem eg33 : ∀ args w, (callFunc 33 args).run Tryz.prog w = .ok (.enter 33 args) w := enters_of Tryz.func33 (by kernel_rfl) rfl
theorem eg34 : ∀ args w, (callFunc 34 args).run Tryz.prog w = .ok (.enter 34 args) w := enters_of Tryz.func34 (by kernel_rfl) rfl
theorem eg35 : ∀ args w, (callFunc 35 args).run Tryz.prog w = .ok (.enter 35 args) w := enters_of Tryz.func35 (by kernel_rfl) rfl

theorem u8_eq (c : UInt8) (n : Nat) (hn : n < 256) : (c == UInt8.ofNat n) = ((c.toNat : Int) == (n : Int)) := by
  rw [Bool.eq_iff_iff]
  simp only [beq_iff_eq]
  constructor
  · rintro rfl; rw [UInt8.toNat_ofNat']; omega
  · intro h; apply UInt8.toNat_inj.1; rw [UInt8.toNat_ofNat']; omega

set_option maxHeartbeats 1000000 in
set_option maxRecDepth 100000 in
theorem blank_any (w : World) : Such 29 #[] RP.blank w := by
  intro c
  have e : RP.blank c = (((c.toNat : Int) == 32) || ((c.toNat : Int) == 10)) := by
    unfold RP.blank
    rw [show (32 : UInt8) = UInt8.ofNat 32 from rfl, show (10 : UInt8) = UInt8.ofNat 10 from rfl, u8_eq c 32 (by omega), u8_eq c 10 (by omega)]
    rfl
  rw [e]
  generalize (c.toNat : Int) = z
  by_cases h : z = 32
  · subst h
    go_enter Tryz.func29, Tryz.ntmps29
    go_wp2_with fail
    go_ret
    exact ⟨rfl, rfl⟩
  · have h' : (z == 32) = false := by simpa using h
    go_enter Tryz.func29, Tryz.ntmps29
    go_wp2_with fail
    go_ret
    exact ⟨ret_bool (by simp [h]), rfl⟩

set_option maxHeartbeats 1000000 in
set_option maxRecDepth 100000 in
theorem ofLine_any (w : World) : Such 30 #[] RP.ofLine w := by
  intro c
  have e : RP.ofLine c = !((c.toNat : Int) == 10) := by
    unfold RP.ofLine
    show (!(c == 10)) = _
    rw [show (10 : UInt8) = UInt8.ofNat 10 from rfl, u8_eq c 10 (by omega)]
    rfl
  rw [e]
  generalize (c.toNat : Int) = z
  go_enter Tryz.func30, Tryz.ntmps30
  go_wp2_with fail
  go_ret
  exact ⟨ret_bool (by simp [bne]), rfl⟩

theorem head_byte (s : ByteArray) (k : Nat) (h : k < s.size) : (s.data.toList.drop k).head? = some s[k] := by rw [drop_byte s k h]; rfl
theorem head_none (s : ByteArray) (k : Nat) (h : ¬ k < s.size) : s.data.toList.drop k = [] := List.drop_of_length_le (by rw [Array.length_toList]; show s.size ≤ k; omega)

set_option maxHeartbeats 1000000 in
set_option maxRecDepth 100000 in
theorem skip_any (s : ByteArray) (n : Nat) (hs : s.size ≤ 1000000) (hn : n ≤ s.size) (w : World) :
    Calls Tryz.prog 14 #[.string s, .int .i64 n] w fun e w' => (∃ k : Nat, e = .returned (.int .i64 k) ∧ n ≤ k ∧ k ≤ s.size ∧ s.data.toList.drop k = RP.skipL (s.data.toList.drop n)) ∧ w' = w := by
  have hB := fun (m : Nat) (hm : m ≤ s.size) => past_any 29 #[] eg29 RP.blank s m hs hm w (blank_any w)
  have hL := fun (m : Nat) (hm : m ≤ s.size) => past_any 30 #[] eg30 RP.ofLine s m hs hm w (ofLine_any w)
  go_enter Tryz.func14, Tryz.ntmps14
  go_wp2_with fail
  refine (hB n hn).mono ?_
  rintro e w' ⟨⟨k0, rfl, hk01, hk02, hd0, -⟩, rfl⟩
  have HD0 : Hid (s.data.toList.drop k0 = (s.data.toList.drop n).dropWhile RP.blank) := hd0
  clear hd0
  go_wp2_with fail
  go_loop [1] (fun i => ∃ k : Nat, n ≤ k ∧ k ≤ s.size ∧ i = .int .i64 k ∧ RP.skipL (s.data.toList.drop n) = RP.tailL (s.data.toList.drop k)) (fun i => s.size - (intOf i).toNat)
  case atStart => exact ⟨k0, hk01, hk02, rfl, by rw [RP.skipL_eq, HD0.out]⟩
  case round =>
    obtain ⟨k, hk1, hk2, rfl, ht⟩ := hrel
    have HT : Hid (RP.skipL (s.data.toList.drop n) = RP.tailL (s.data.toList.drop k)) := ht
    clear ht
    by_cases hlt : k < s.size
    · have hh := head_byte s k hlt
      by_cases h35 : s[k] = 35
      · have HH : Hid ((s.data.toList.drop k).head? = some 35) := by show _ = _; rw [hh, h35]
        have hz : ((s[k].toNat : Int) == 35) = true := by rw [h35]; rfl
        clear hh h35
        go_wp2_with fail
        refine (hL k hk2).mono ?_
        rintro e w' ⟨⟨k1, rfl, hk11, hk12, hd1, -⟩, rfl⟩
        have HD1 : Hid (s.data.toList.drop k1 = (s.data.toList.drop k).dropWhile RP.ofLine) := hd1
        clear hd1
        go_wp2_with fail
        refine (hB k1 hk12).mono ?_
        rintro e w' ⟨⟨k2, rfl, hk21, hk22, hd2, -⟩, rfl⟩
        have HD2 : Hid (s.data.toList.drop k2 = (s.data.toList.drop k1).dropWhile RP.blank) := hd2
        clear hd2
        have hlt2 : k < k2 := by
          have h1 := RP.remark_lt _ HH.out
          rw [← HD1.out, ← HD2.out, List.length_drop, List.length_drop] at h1
          omega
        go_wp2_with fail
        go_round
        case rel => exact ⟨k2, by omega, hk22, rfl, by rw [HT.out, RP.tailL_remark HH.out, HD2.out, HD1.out]⟩
        case measure => simp [intOf]; omega
      · have HH : Hid ((s.data.toList.drop k).head? ≠ some 35) := by show _ ≠ _; rw [hh]; intro e; exact h35 (Option.some.inj e)
        have hz : ((s[k].toNat : Int) == 35) = false := by
          have := u8_eq s[k] 35 (by omega)
          rw [show ((35 : Nat) : Int) = 35 from rfl] at this
          rw [← this]
          simpa using h35
        clear hh h35
        go_wp2_with fail
        go_ret
        exact ⟨⟨k, rfl, hk1, hk2, by rw [HT.out, RP.tailL_stop HH.out]⟩, rfl⟩
    · have hn0 := head_none s k hlt
      have HN : Hid (s.data.toList.drop k = []) := hn0
      clear hn0
      go_wp2_with fail
      go_ret
      exact ⟨⟨k, rfl, hk1, hk2, by rw [HT.out, RP.tailL_stop (by rw [HN.out]; simp)]⟩, rfl⟩

end Go.Proofs.YtjbmdnkpfkelmaaGreatDoor.Q
