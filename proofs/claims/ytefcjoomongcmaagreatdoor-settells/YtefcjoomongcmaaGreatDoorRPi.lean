/- internal/strconv.ParseInt and strconv.ParseInt at base 16 and 40 bits, at every text. -/
import Derived.Test.YtefcjoomongcmaaGreatDoorRPu
namespace Go.Proofs.YtefcjoomongcmaaGreatDoor
open Go.RowKit

set_option maxHeartbeats 1000000 in
set_option maxRecDepth 100000 in
theorem pu40_empty (w : World) : Calls Tryz.prog 94 #[.string ⟨#[]⟩, .int .i64 16, .int .i64 40] w fun e w' => e = .returned (puTuple 1099511627775 .bad) ∧ w' = w := by
  go_enter Tryz.func94, Tryz.ntmps94
  go_wp2
  go_ret2
  exact ⟨rfl, rfl⟩

/-- What reading a text without its sign comes to. -/
def quOf (t : ByteArray) : RS.PU := if t.size = 0 then .bad else RS.pu 1099511627775 0 (nums t)

theorem pu40_all (t : ByteArray) (hmax : t.size ≤ 1000000) (w : World) :
    Calls Tryz.prog 94 #[.string t, .int .i64 16, .int .i64 40] w fun e w' => e = .returned (puTuple 1099511627775 (quOf t)) ∧ Below w.heap.size w w' := by
  by_cases h0 : t.size = 0
  · have e : t = ⟨#[]⟩ := by
      have : t.data = #[] := Array.eq_empty_of_size_eq_zero h0
      cases t; simp_all
    rw [quOf, if_pos h0, e]
    refine (pu40_empty w).mono ?_
    rintro e w' ⟨rfl, rfl⟩
    exact ⟨rfl, Below.refl _ _⟩
  · rw [quOf, if_neg h0]
    refine (pu40_any t h0 hmax w).mono ?_
    rintro e w' ⟨rfl, rfl⟩
    exact ⟨rfl, below_bytes w t⟩

set_option maxHeartbeats 4000000 in
set_option maxRecDepth 100000 in
/-- A text without a sign. -/
theorem qiI_plain (s : ByteArray) (hmax : s.size ≤ 1000000) (h0 : 0 < s.size) (h1 : (s[0]'h0).toNat ≠ 43) (h2 : (s[0]'h0).toNat ≠ 45) (w : World) :
    Calls Tryz.prog 65 #[.string s, .int .i64 16, .int .i64 40] w fun e w' => (∃ g n, piOk e g n ∧ -549755813888 ≤ n ∧ n ≤ 549755813887 ∧ (∀ u, quOf s = .good u → u ≤ 549755813887 → g = true ∧ n = u)) ∧ Below w.heap.size w w' := by
  have hcall := fun W => pu40_all s hmax W
  have hemp : s.toList.isEmpty = false := by
    rw [← decide_eq_emptyBytes]
    exact decide_eq_false (fun h => by rw [h] at h0; exact absurd h0 (by decide))
  have k1 : (((s[0]'h0).toNat : Int) == 43) = false := by simp; omega
  have k2 : (((s[0]'h0).toNat : Int) == 45) = false := by simp; omega
  have hq2 := neq21
  have hq1 := neq11
  obtain ⟨r, hr⟩ : ∃ r, r = quOf s := ⟨_, rfl⟩
  rw [← hr] at hcall ⊢
  clear hr h1 h2
  have hsz : (0 : Int) < (s.size : Int) := by omega
  cases r with
  | bad =>
    have hcall' : ∀ W, Calls Tryz.prog 94 #[.string s, .int .i64 16, .int .i64 40] W fun e w' => e = .returned (.tuple #[.int .u64 0, .iface 119 (.int .i64 2)]) ∧ Below W.heap.size W w' := hcall
    clear hcall
    go_enter Tryz.func65, Tryz.ntmps65
    go_wp2_with (go_at_call 94; refine (hcall' _).mono ?_; rintro e w' ⟨rfl, hb⟩)
    go_ret2
    exact ⟨⟨false, 0, .inr ⟨rfl, _, 2, .inr rfl, rfl⟩, by omega, by omega, fun u hu _ => by cases hu⟩, hb⟩
  | great =>
    have hcall' : ∀ W, Calls Tryz.prog 94 #[.string s, .int .i64 16, .int .i64 40] W fun e w' => e = .returned (.tuple #[.int .u64 1099511627775, .iface 119 (.int .i64 1)]) ∧ Below W.heap.size W w' := hcall
    clear hcall
    go_enter Tryz.func65, Tryz.ntmps65
    go_wp2_with (go_at_call 94; refine (hcall' _).mono ?_; rintro e w' ⟨rfl, hb⟩)
    go_ret2
    exact ⟨⟨false, 0, .inr ⟨rfl, _, 1, .inl rfl, rfl⟩, by omega, by omega, fun u hu _ => by cases hu⟩, hb⟩
  | good u =>
    have hcall' : ∀ W, Calls Tryz.prog 94 #[.string s, .int .i64 16, .int .i64 40] W fun e w' => e = .returned (.tuple #[.int .u64 u, .nilIface]) ∧ Below W.heap.size W w' := hcall
    clear hcall
    obtain ⟨x, hx⟩ : ∃ x : Int, x = (u : Int) := ⟨_, rfl⟩
    rw [← hx] at hcall'
    have HX : Hid (x = (u : Int)) := hx
    have hx0 : 0 ≤ x := by omega
    clear hx
    by_cases hu : x ≤ 549755813887
    · have hwu : IntKind.i64.wrap x = x := by simp [IntKind.wrap, IntKind.bits, IntKind.signed]; omega
      go_enter Tryz.func65, Tryz.ntmps65
      go_wp2_with (go_at_call 94; refine (hcall' _).mono ?_; rintro e w' ⟨rfl, hb⟩)
      go_ret2
      exact ⟨⟨true, _, .inl ⟨rfl, rfl⟩, by omega, by omega, fun v hv _ => by cases hv; exact ⟨rfl, HX.out⟩⟩, hb⟩
    · have hu2 : (549755813888 : Int) ≤ x := by omega
      go_enter Tryz.func65, Tryz.ntmps65
      go_wp2_with (go_at_call 94; refine (hcall' _).mono ?_; rintro e w' ⟨rfl, hb⟩)
      go_ret2
      exact ⟨⟨false, 0, .inr ⟨rfl, _, 1, .inl rfl, rfl⟩, by omega, by omega, fun v hv hv2 => by cases hv; have := HX.out; omega⟩, hb⟩

set_option maxHeartbeats 4000000 in
set_option maxRecDepth 100000 in
/-- A text with + ahead. -/
theorem qiI_plus (s : ByteArray) (hmax : s.size ≤ 1000000) (h0 : 0 < s.size) (h1 : (s[0]'h0).toNat = 43) (w : World) :
    Calls Tryz.prog 65 #[.string s, .int .i64 16, .int .i64 40] w fun e w' => (∃ g n, piOk e g n ∧ -549755813888 ≤ n ∧ n ≤ 549755813887) ∧ Below w.heap.size w w' := by
  have hcall := fun W => pu40_all (s.extract 1 s.size) (by simp; omega) W
  have hemp : s.toList.isEmpty = false := by
    rw [← decide_eq_emptyBytes]
    exact decide_eq_false (fun h => by rw [h] at h0; exact absurd h0 (by decide))
  have k1 : (((s[0]'h0).toNat : Int) == 43) = true := by simp; omega
  have k2 : (((s[0]'h0).toNat : Int) == 45) = false := by simp; omega
  have hq2 := neq21
  have hq1 := neq11
  obtain ⟨r, hr⟩ : ∃ r, r = quOf (s.extract 1 s.size) := ⟨_, rfl⟩
  rw [← hr] at hcall
  clear hr h1
  have hsz : (0 : Int) < (s.size : Int) := by omega
  cases r with
  | bad =>
    have hcall' : ∀ W, Calls Tryz.prog 94 #[.string (s.extract 1 s.size), .int .i64 16, .int .i64 40] W fun e w' => e = .returned (.tuple #[.int .u64 0, .iface 119 (.int .i64 2)]) ∧ Below W.heap.size W w' := hcall
    clear hcall
    go_enter Tryz.func65, Tryz.ntmps65
    go_wp2_with (go_at_call 94; refine (hcall' _).mono ?_; rintro e w' ⟨rfl, hb⟩)
    go_ret2
    exact ⟨⟨false, 0, .inr ⟨rfl, _, 2, .inr rfl, rfl⟩, by omega, by omega⟩, hb⟩
  | great =>
    have hcall' : ∀ W, Calls Tryz.prog 94 #[.string (s.extract 1 s.size), .int .i64 16, .int .i64 40] W fun e w' => e = .returned (.tuple #[.int .u64 1099511627775, .iface 119 (.int .i64 1)]) ∧ Below W.heap.size W w' := hcall
    clear hcall
    go_enter Tryz.func65, Tryz.ntmps65
    go_wp2_with (go_at_call 94; refine (hcall' _).mono ?_; rintro e w' ⟨rfl, hb⟩)
    go_ret2
    exact ⟨⟨false, 0, .inr ⟨rfl, _, 1, .inl rfl, rfl⟩, by omega, by omega⟩, hb⟩
  | good u =>
    have hcall' : ∀ W, Calls Tryz.prog 94 #[.string (s.extract 1 s.size), .int .i64 16, .int .i64 40] W fun e w' => e = .returned (.tuple #[.int .u64 u, .nilIface]) ∧ Below W.heap.size W w' := hcall
    clear hcall
    obtain ⟨x, hx⟩ : ∃ x : Int, x = (u : Int) := ⟨_, rfl⟩
    rw [← hx] at hcall'
    have hx0 : 0 ≤ x := by omega
    clear hx
    by_cases hu : x ≤ 549755813887
    · have hwu : IntKind.i64.wrap x = x := by simp [IntKind.wrap, IntKind.bits, IntKind.signed]; omega
      go_enter Tryz.func65, Tryz.ntmps65
      go_wp2_with (go_at_call 94; refine (hcall' _).mono ?_; rintro e w' ⟨rfl, hb⟩)
      go_ret2
      exact ⟨⟨true, _, .inl ⟨rfl, rfl⟩, by omega, by omega⟩, hb⟩
    · have hu2 : (549755813888 : Int) ≤ x := by omega
      go_enter Tryz.func65, Tryz.ntmps65
      go_wp2_with (go_at_call 94; refine (hcall' _).mono ?_; rintro e w' ⟨rfl, hb⟩)
      go_ret2
      exact ⟨⟨false, 0, .inr ⟨rfl, _, 1, .inl rfl, rfl⟩, by omega, by omega⟩, hb⟩

set_option maxHeartbeats 4000000 in
set_option maxRecDepth 100000 in
/-- A text with - ahead. -/
theorem qiI_minus (s : ByteArray) (hmax : s.size ≤ 1000000) (h0 : 0 < s.size) (h1 : (s[0]'h0).toNat = 45) (w : World) :
    Calls Tryz.prog 65 #[.string s, .int .i64 16, .int .i64 40] w fun e w' => (∃ g n, piOk e g n ∧ -549755813888 ≤ n ∧ n ≤ 549755813887) ∧ Below w.heap.size w w' := by
  have hcall := fun W => pu40_all (s.extract 1 s.size) (by simp; omega) W
  have hemp : s.toList.isEmpty = false := by
    rw [← decide_eq_emptyBytes]
    exact decide_eq_false (fun h => by rw [h] at h0; exact absurd h0 (by decide))
  have k1 : (((s[0]'h0).toNat : Int) == 43) = false := by simp; omega
  have k2 : (((s[0]'h0).toNat : Int) == 45) = true := by simp; omega
  have hq2 := neq21
  have hq1 := neq11
  obtain ⟨r, hr⟩ : ∃ r, r = quOf (s.extract 1 s.size) := ⟨_, rfl⟩
  rw [← hr] at hcall
  clear hr h1
  have hsz : (0 : Int) < (s.size : Int) := by omega
  cases r with
  | bad =>
    have hcall' : ∀ W, Calls Tryz.prog 94 #[.string (s.extract 1 s.size), .int .i64 16, .int .i64 40] W fun e w' => e = .returned (.tuple #[.int .u64 0, .iface 119 (.int .i64 2)]) ∧ Below W.heap.size W w' := hcall
    clear hcall
    go_enter Tryz.func65, Tryz.ntmps65
    go_wp2_with (go_at_call 94; refine (hcall' _).mono ?_; rintro e w' ⟨rfl, hb⟩)
    go_ret2
    exact ⟨⟨false, 0, .inr ⟨rfl, _, 2, .inr rfl, rfl⟩, by omega, by omega⟩, hb⟩
  | great =>
    have hcall' : ∀ W, Calls Tryz.prog 94 #[.string (s.extract 1 s.size), .int .i64 16, .int .i64 40] W fun e w' => e = .returned (.tuple #[.int .u64 1099511627775, .iface 119 (.int .i64 1)]) ∧ Below W.heap.size W w' := hcall
    clear hcall
    go_enter Tryz.func65, Tryz.ntmps65
    go_wp2_with (go_at_call 94; refine (hcall' _).mono ?_; rintro e w' ⟨rfl, hb⟩)
    go_ret2
    exact ⟨⟨false, 0, .inr ⟨rfl, _, 1, .inl rfl, rfl⟩, by omega, by omega⟩, hb⟩
  | good u =>
    have hcall' : ∀ W, Calls Tryz.prog 94 #[.string (s.extract 1 s.size), .int .i64 16, .int .i64 40] W fun e w' => e = .returned (.tuple #[.int .u64 u, .nilIface]) ∧ Below W.heap.size W w' := hcall
    clear hcall
    obtain ⟨x, hx⟩ : ∃ x : Int, x = (u : Int) := ⟨_, rfl⟩
    rw [← hx] at hcall'
    have hx0 : 0 ≤ x := by omega
    clear hx
    by_cases hu : x ≤ 549755813888
    · have hwu : IntKind.i64.wrap x = x := by simp [IntKind.wrap, IntKind.bits, IntKind.signed]; omega
      have hwn : IntKind.i64.wrap (-x) = -x := by simp [IntKind.wrap, IntKind.bits, IntKind.signed]; omega
      go_enter Tryz.func65, Tryz.ntmps65
      go_wp2_with (go_at_call 94; refine (hcall' _).mono ?_; rintro e w' ⟨rfl, hb⟩)
      go_ret2
      exact ⟨⟨true, _, .inl ⟨rfl, rfl⟩, by omega, by omega⟩, hb⟩
    · have hu2 : (549755813888 : Int) < x := by omega
      go_enter Tryz.func65, Tryz.ntmps65
      go_wp2_with (go_at_call 94; refine (hcall' _).mono ?_; rintro e w' ⟨rfl, hb⟩)
      go_ret2
      exact ⟨⟨false, 0, .inr ⟨rfl, _, 1, .inl rfl, rfl⟩, by omega, by omega⟩, hb⟩

end Go.Proofs.YtefcjoomongcmaaGreatDoor
