/- internal/strconv.ParseInt and strconv.ParseInt at base 16 and 32 bits, at every text. -/
import Derived.Test.YtjbdlihlcoldlaaGreatDoorG16
import Derived.Test.YtjbdlihlcoldlaaGreatDoorG18
import Derived.Lib.IfaceNeq
import Derived.Lib.IfaceEq
namespace Go.Proofs.YtjbdlihlcoldlaaGreatDoor
open Go.RowKit

theorem below_bytes (w : World) (t : ByteArray) : Below w.heap.size w (Lib.bytesWorld w 5 t) :=
  ⟨rfl, rfl, rfl, by rw [Lib.bytesWorld_size]; omega, fun k hk => Lib.bytesWorld_at_old w 5 t k hk⟩

set_option maxHeartbeats 1000000 in
set_option maxRecDepth 100000 in
theorem pu32_empty (w : World) : Calls Tryz.prog 269 #[.string ⟨#[]⟩, .int .i64 16, .int .i64 32] w fun e w' => e = .returned (puTuple 4294967295 .bad) ∧ w' = w := by
  go_enter Tryz.func269, Tryz.ntmps269
  go_wp2
  go_ret2
  exact ⟨rfl, rfl⟩

theorem comp166 : (Tryz.prog.info? 344).map (·.comparable) = some true := by kernel_rfl
theorem neq21 (W : World) : (binOp .neq 31 (.iface 344 (.int .i64 2)) (.iface 344 (.int .i64 1))).run Tryz.prog W = .ok (.bool true) W := Lib.run_neq_iface_int W 2 1 Tryz.underlying31 comp166 Tryz.underlying344
theorem neq11 (W : World) : (binOp .neq 31 (.iface 344 (.int .i64 1)) (.iface 344 (.int .i64 1))).run Tryz.prog W = .ok (.bool false) W := Lib.run_neq_iface_int W 1 1 Tryz.underlying31 comp166 Tryz.underlying344

/-- What reading a text without its sign comes to. -/
def puOf (t : ByteArray) : RS.PU := if t.size = 0 then .bad else RS.pu 4294967295 0 (nums t)

theorem pu32_all (t : ByteArray) (hmax : t.size ≤ 1000000) (w : World) :
    Calls Tryz.prog 269 #[.string t, .int .i64 16, .int .i64 32] w fun e w' => e = .returned (puTuple 4294967295 (puOf t)) ∧ Below w.heap.size w w' := by
  by_cases h0 : t.size = 0
  · have e : t = ⟨#[]⟩ := by
      have : t.data = #[] := Array.eq_empty_of_size_eq_zero h0
      cases t; simp_all
    rw [puOf, if_pos h0, e]
    refine (pu32_empty w).mono ?_
    rintro e w' ⟨rfl, rfl⟩
    exact ⟨rfl, Below.refl _ _⟩
  · rw [puOf, if_neg h0]
    refine (pu32_any t h0 hmax w).mono ?_
    rintro e w' ⟨rfl, rfl⟩
    exact ⟨rfl, below_bytes w t⟩

/-- What ParseInt hands back: a number and no error; or an error. -/
def piOk (e : Ending) (g : Bool) (n : Int) : Prop :=
  (g = true ∧ e = .returned (.tuple #[.int .i64 n, .nilIface])) ∨ (g = false ∧ ∃ m x : Int, (x = 1 ∨ x = 2) ∧ e = .returned (.tuple #[.int .i64 m, .iface 344 (.int .i64 x)]))

set_option maxHeartbeats 4000000 in
set_option maxRecDepth 100000 in
/-- A text without a sign. -/
theorem piI_plain (s : ByteArray) (hmax : s.size ≤ 1000000) (h0 : 0 < s.size) (h1 : (s[0]'h0).toNat ≠ 43) (h2 : (s[0]'h0).toNat ≠ 45) (w : World) :
    Calls Tryz.prog 266 #[.string s, .int .i64 16, .int .i64 32] w fun e w' => (∃ g n, piOk e g n ∧ -2147483648 ≤ n ∧ n ≤ 2147483647 ∧ (∀ u, puOf s = .good u → u ≤ 2147483647 → g = true ∧ n = u)) ∧ Below w.heap.size w w' := by
  have hcall := fun W => pu32_all s hmax W
  have hemp : s.toList.isEmpty = false := by
    rw [← decide_eq_emptyBytes]
    exact decide_eq_false (fun h => by rw [h] at h0; exact absurd h0 (by decide))
  have k1 : (((s[0]'h0).toNat : Int) == 43) = false := by simp; omega
  have k2 : (((s[0]'h0).toNat : Int) == 45) = false := by simp; omega
  have hq2 := neq21
  have hq1 := neq11
  obtain ⟨r, hr⟩ : ∃ r, r = puOf s := ⟨_, rfl⟩
  rw [← hr] at hcall ⊢
  clear hr h1 h2
  have hsz : (0 : Int) < (s.size : Int) := by omega
  cases r with
  | bad =>
    have hcall' : ∀ W, Calls Tryz.prog 269 #[.string s, .int .i64 16, .int .i64 32] W fun e w' => e = .returned (.tuple #[.int .u64 0, .iface 344 (.int .i64 2)]) ∧ Below W.heap.size W w' := hcall
    clear hcall
    go_enter Tryz.func266, Tryz.ntmps266
    go_wp2_with (go_at_call 269; refine (hcall' _).mono ?_; rintro e w' ⟨rfl, hb⟩)
    go_ret2
    exact ⟨⟨false, 0, .inr ⟨rfl, _, 2, .inr rfl, rfl⟩, by omega, by omega, fun u hu _ => by cases hu⟩, hb⟩
  | great =>
    have hcall' : ∀ W, Calls Tryz.prog 269 #[.string s, .int .i64 16, .int .i64 32] W fun e w' => e = .returned (.tuple #[.int .u64 4294967295, .iface 344 (.int .i64 1)]) ∧ Below W.heap.size W w' := hcall
    clear hcall
    go_enter Tryz.func266, Tryz.ntmps266
    go_wp2_with (go_at_call 269; refine (hcall' _).mono ?_; rintro e w' ⟨rfl, hb⟩)
    go_ret2
    exact ⟨⟨false, 0, .inr ⟨rfl, _, 1, .inl rfl, rfl⟩, by omega, by omega, fun u hu _ => by cases hu⟩, hb⟩
  | good u =>
    have hcall' : ∀ W, Calls Tryz.prog 269 #[.string s, .int .i64 16, .int .i64 32] W fun e w' => e = .returned (.tuple #[.int .u64 u, .nilIface]) ∧ Below W.heap.size W w' := hcall
    clear hcall
    obtain ⟨x, hx⟩ : ∃ x : Int, x = (u : Int) := ⟨_, rfl⟩
    rw [← hx] at hcall'
    have HX : Hid (x = (u : Int)) := hx
    have hx0 : 0 ≤ x := by omega
    clear hx
    by_cases hu : x ≤ 2147483647
    · have hwu : IntKind.i64.wrap x = x := by simp [IntKind.wrap, IntKind.bits, IntKind.signed]; omega
      go_enter Tryz.func266, Tryz.ntmps266
      go_wp2_with (go_at_call 269; refine (hcall' _).mono ?_; rintro e w' ⟨rfl, hb⟩)
      go_ret2
      exact ⟨⟨true, _, .inl ⟨rfl, rfl⟩, by omega, by omega, fun v hv _ => by cases hv; exact ⟨rfl, HX.out⟩⟩, hb⟩
    · have hu2 : (2147483648 : Int) ≤ x := by omega
      go_enter Tryz.func266, Tryz.ntmps266
      go_wp2_with (go_at_call 269; refine (hcall' _).mono ?_; rintro e w' ⟨rfl, hb⟩)
      go_ret2
      exact ⟨⟨false, 0, .inr ⟨rfl, _, 1, .inl rfl, rfl⟩, by omega, by omega, fun v hv hv2 => by cases hv; have := HX.out; omega⟩, hb⟩

set_option maxHeartbeats 4000000 in
set_option maxRecDepth 100000 in
/-- A text with + ahead. -/
theorem piI_plus (s : ByteArray) (hmax : s.size ≤ 1000000) (h0 : 0 < s.size) (h1 : (s[0]'h0).toNat = 43) (w : World) :
    Calls Tryz.prog 266 #[.string s, .int .i64 16, .int .i64 32] w fun e w' => (∃ g n, piOk e g n ∧ -2147483648 ≤ n ∧ n ≤ 2147483647) ∧ Below w.heap.size w w' := by
  have hcall := fun W => pu32_all (s.extract 1 s.size) (by simp; omega) W
  have hemp : s.toList.isEmpty = false := by
    rw [← decide_eq_emptyBytes]
    exact decide_eq_false (fun h => by rw [h] at h0; exact absurd h0 (by decide))
  have k1 : (((s[0]'h0).toNat : Int) == 43) = true := by simp; omega
  have k2 : (((s[0]'h0).toNat : Int) == 45) = false := by simp; omega
  have hq2 := neq21
  have hq1 := neq11
  obtain ⟨r, hr⟩ : ∃ r, r = puOf (s.extract 1 s.size) := ⟨_, rfl⟩
  rw [← hr] at hcall
  clear hr h1
  have hsz : (0 : Int) < (s.size : Int) := by omega
  cases r with
  | bad =>
    have hcall' : ∀ W, Calls Tryz.prog 269 #[.string (s.extract 1 s.size), .int .i64 16, .int .i64 32] W fun e w' => e = .returned (.tuple #[.int .u64 0, .iface 344 (.int .i64 2)]) ∧ Below W.heap.size W w' := hcall
    clear hcall
    go_enter Tryz.func266, Tryz.ntmps266
    go_wp2_with (go_at_call 269; refine (hcall' _).mono ?_; rintro e w' ⟨rfl, hb⟩)
    go_ret2
    exact ⟨⟨false, 0, .inr ⟨rfl, _, 2, .inr rfl, rfl⟩, by omega, by omega⟩, hb⟩
  | great =>
    have hcall' : ∀ W, Calls Tryz.prog 269 #[.string (s.extract 1 s.size), .int .i64 16, .int .i64 32] W fun e w' => e = .returned (.tuple #[.int .u64 4294967295, .iface 344 (.int .i64 1)]) ∧ Below W.heap.size W w' := hcall
    clear hcall
    go_enter Tryz.func266, Tryz.ntmps266
    go_wp2_with (go_at_call 269; refine (hcall' _).mono ?_; rintro e w' ⟨rfl, hb⟩)
    go_ret2
    exact ⟨⟨false, 0, .inr ⟨rfl, _, 1, .inl rfl, rfl⟩, by omega, by omega⟩, hb⟩
  | good u =>
    have hcall' : ∀ W, Calls Tryz.prog 269 #[.string (s.extract 1 s.size), .int .i64 16, .int .i64 32] W fun e w' => e = .returned (.tuple #[.int .u64 u, .nilIface]) ∧ Below W.heap.size W w' := hcall
    clear hcall
    obtain ⟨x, hx⟩ : ∃ x : Int, x = (u : Int) := ⟨_, rfl⟩
    rw [← hx] at hcall'
    have hx0 : 0 ≤ x := by omega
    clear hx
    by_cases hu : x ≤ 2147483647
    · have hwu : IntKind.i64.wrap x = x := by simp [IntKind.wrap, IntKind.bits, IntKind.signed]; omega
      go_enter Tryz.func266, Tryz.ntmps266
      go_wp2_with (go_at_call 269; refine (hcall' _).mono ?_; rintro e w' ⟨rfl, hb⟩)
      go_ret2
      exact ⟨⟨true, _, .inl ⟨rfl, rfl⟩, by omega, by omega⟩, hb⟩
    · have hu2 : (2147483648 : Int) ≤ x := by omega
      go_enter Tryz.func266, Tryz.ntmps266
      go_wp2_with (go_at_call 269; refine (hcall' _).mono ?_; rintro e w' ⟨rfl, hb⟩)
      go_ret2
      exact ⟨⟨false, 0, .inr ⟨rfl, _, 1, .inl rfl, rfl⟩, by omega, by omega⟩, hb⟩

set_option maxHeartbeats 4000000 in
set_option maxRecDepth 100000 in
/-- A text with - ahead. -/
theorem piI_minus (s : ByteArray) (hmax : s.size ≤ 1000000) (h0 : 0 < s.size) (h1 : (s[0]'h0).toNat = 45) (w : World) :
    Calls Tryz.prog 266 #[.string s, .int .i64 16, .int .i64 32] w fun e w' => (∃ g n, piOk e g n ∧ -2147483648 ≤ n ∧ n ≤ 2147483647) ∧ Below w.heap.size w w' := by
  have hcall := fun W => pu32_all (s.extract 1 s.size) (by simp; omega) W
  have hemp : s.toList.isEmpty = false := by
    rw [← decide_eq_emptyBytes]
    exact decide_eq_false (fun h => by rw [h] at h0; exact absurd h0 (by decide))
  have k1 : (((s[0]'h0).toNat : Int) == 43) = false := by simp; omega
  have k2 : (((s[0]'h0).toNat : Int) == 45) = true := by simp; omega
  have hq2 := neq21
  have hq1 := neq11
  obtain ⟨r, hr⟩ : ∃ r, r = puOf (s.extract 1 s.size) := ⟨_, rfl⟩
  rw [← hr] at hcall
  clear hr h1
  have hsz : (0 : Int) < (s.size : Int) := by omega
  cases r with
  | bad =>
    have hcall' : ∀ W, Calls Tryz.prog 269 #[.string (s.extract 1 s.size), .int .i64 16, .int .i64 32] W fun e w' => e = .returned (.tuple #[.int .u64 0, .iface 344 (.int .i64 2)]) ∧ Below W.heap.size W w' := hcall
    clear hcall
    go_enter Tryz.func266, Tryz.ntmps266
    go_wp2_with (go_at_call 269; refine (hcall' _).mono ?_; rintro e w' ⟨rfl, hb⟩)
    go_ret2
    exact ⟨⟨false, 0, .inr ⟨rfl, _, 2, .inr rfl, rfl⟩, by omega, by omega⟩, hb⟩
  | great =>
    have hcall' : ∀ W, Calls Tryz.prog 269 #[.string (s.extract 1 s.size), .int .i64 16, .int .i64 32] W fun e w' => e = .returned (.tuple #[.int .u64 4294967295, .iface 344 (.int .i64 1)]) ∧ Below W.heap.size W w' := hcall
    clear hcall
    go_enter Tryz.func266, Tryz.ntmps266
    go_wp2_with (go_at_call 269; refine (hcall' _).mono ?_; rintro e w' ⟨rfl, hb⟩)
    go_ret2
    exact ⟨⟨false, 0, .inr ⟨rfl, _, 1, .inl rfl, rfl⟩, by omega, by omega⟩, hb⟩
  | good u =>
    have hcall' : ∀ W, Calls Tryz.prog 269 #[.string (s.extract 1 s.size), .int .i64 16, .int .i64 32] W fun e w' => e = .returned (.tuple #[.int .u64 u, .nilIface]) ∧ Below W.heap.size W w' := hcall
    clear hcall
    obtain ⟨x, hx⟩ : ∃ x : Int, x = (u : Int) := ⟨_, rfl⟩
    rw [← hx] at hcall'
    have hx0 : 0 ≤ x := by omega
    clear hx
    by_cases hu : x ≤ 2147483648
    · have hwu : IntKind.i64.wrap x = x := by simp [IntKind.wrap, IntKind.bits, IntKind.signed]; omega
      have hwn : IntKind.i64.wrap (-x) = -x := by simp [IntKind.wrap, IntKind.bits, IntKind.signed]; omega
      go_enter Tryz.func266, Tryz.ntmps266
      go_wp2_with (go_at_call 269; refine (hcall' _).mono ?_; rintro e w' ⟨rfl, hb⟩)
      go_ret2
      exact ⟨⟨true, _, .inl ⟨rfl, rfl⟩, by omega, by omega⟩, hb⟩
    · have hu2 : (2147483648 : Int) < x := by omega
      go_enter Tryz.func266, Tryz.ntmps266
      go_wp2_with (go_at_call 269; refine (hcall' _).mono ?_; rintro e w' ⟨rfl, hb⟩)
      go_ret2
      exact ⟨⟨false, 0, .inr ⟨rfl, _, 1, .inl rfl, rfl⟩, by omega, by omega⟩, hb⟩

end Go.Proofs.YtjbdlihlcoldlaaGreatDoor
