/- strconv.ParseInt at base 16 and 32 bits, at every text. -/
import Derived.Test.YtjbmdnkpfkelmaaGreatDoorSPi
import Derived.Test.YtjbmdnkpfkelmaaGreatDoorShelfC
namespace Go.Proofs.YtjbmdnkpfkelmaaGreatDoor
open Go.RowKit

set_option maxHeartbeats 1000000 in
set_option maxRecDepth 100000 in
theorem piI_empty (w : World) : Calls Tryz.prog 90 #[.string ⟨#[]⟩, .int .i64 16, .int .i64 32] w fun e w' => piOk e false 0 ∧ w' = w := by
  go_enter Tryz.func90, Tryz.ntmps90
  go_wp2
  go_ret2
  exact ⟨.inr ⟨rfl, _, 2, .inr rfl, rfl⟩, rfl⟩

/-- Whatever the text is: a number within 32 bits, or an error. -/
theorem piI_all (s : ByteArray) (hmax : s.size ≤ 1000000) (w : World) :
    Calls Tryz.prog 90 #[.string s, .int .i64 16, .int .i64 32] w fun e w' => (∃ g n, piOk e g n ∧ -2147483648 ≤ n ∧ n ≤ 2147483647) ∧ Below w.heap.size w w' := by
  by_cases h0 : 0 < s.size
  · by_cases h1 : (s[0]'h0).toNat = 43
    · exact piI_plus s hmax h0 h1 w
    · by_cases h2 : (s[0]'h0).toNat = 45
      · exact piI_minus s hmax h0 h2 w
      · refine (piI_plain s hmax h0 h1 h2 w).mono ?_
        rintro e w' ⟨⟨g, n, h, h3, h4, _⟩, hb⟩
        exact ⟨⟨g, n, h, h3, h4⟩, hb⟩
  · have e : s = ⟨#[]⟩ := by
      have : s.data = #[] := Array.eq_empty_of_size_eq_zero (by show s.size = 0; omega)
      cases s; simp_all
    rw [e]
    refine (piI_empty w).mono ?_
    rintro e w' ⟨h, rfl⟩
    exact ⟨⟨false, 0, h, by omega, by omega⟩, Below.refl _ _⟩

theorem nums_bytesOf (l : List Nat) (h : ∀ b ∈ l, b < 256) : nums (bytesOf l) = l := by
  unfold nums bytesOf
  simp
  conv => rhs; rw [← List.map_id l]
  refine List.map_congr_left fun b hb => ?_
  have := h b hb
  simp [UInt8.toNat_ofNat']
  omega

theorem hex_lt (u : Nat) : ∀ b ∈ RS.hex u, b < 256 := fun b hb => by have := RS.hexF_lt 16 u b hb; omega

/-- A digit stands first, no sign. -/
theorem hexF_head : ∀ f u, ∃ d l, RS.hexF f u = RS.dig d :: l ∧ d < 16 := by
  intro f
  induction f with
  | zero => intro u; exact ⟨u % 16, [], rfl, Nat.mod_lt _ (by omega)⟩
  | succ f ih =>
    intro u
    by_cases h : u < 16
    · exact ⟨u, [], RS.hexF_small _ u h, h⟩
    · obtain ⟨d, l, e, hd⟩ := ih (u / 16)
      exact ⟨d, l ++ [RS.dig (u % 16)], by rw [RS.hexF_step f u h, e]; rfl, hd⟩

theorem bytesOf_size (l : List Nat) : (bytesOf l).size = l.length := by
  show (l.map UInt8.ofNat).toArray.size = _
  simp

/-- A number that was written is read. -/
theorem piI_hex (u : Nat) (hu : u ≤ 2147483647) (w : World) :
    Calls Tryz.prog 90 #[.string (bytesOf (RS.hex u)), .int .i64 16, .int .i64 32] w fun e w' => e = .returned (.tuple #[.int .i64 u, .nilIface]) ∧ Below w.heap.size w w' := by
  have hl := RS.hexF_length 16 u
  have hsz := bytesOf_size (RS.hex u)
  obtain ⟨d, l, e, hd⟩ := hexF_head 16 u
  have h0 : 0 < (bytesOf (RS.hex u)).size := by rw [hsz]; exact hl.1
  have hc : ((bytesOf (RS.hex u))[0]'h0).toNat = RS.dig d := by
    have e2 : RS.hex u = RS.dig d :: l := e
    have : (bytesOf (RS.hex u))[0]'h0 = UInt8.ofNat (RS.dig d) := by
      show (bytesOf (RS.hex u)).data[0]'_ = _
      simp [bytesOf, e2]
    rw [this, UInt8.toNat_ofNat']
    have := RS.dig_lt d hd
    omega
  have hdd : RS.dig d ≠ 43 ∧ RS.dig d ≠ 45 := by unfold RS.dig; split <;> omega
  refine (piI_plain (bytesOf (RS.hex u)) (by rw [hsz]; show (RS.hexF 16 u).length ≤ _; omega) h0 (by rw [hc]; exact hdd.1) (by rw [hc]; exact hdd.2) w).mono ?_
  rintro e w' ⟨⟨g, n, hok, _, _, hg⟩, hb⟩
  have hpu : puOf (bytesOf (RS.hex u)) = .good u := by
    unfold puOf
    rw [if_neg (by omega), nums_bytesOf _ (hex_lt u)]
    exact RS.pu_hex (by omega) (by omega)
  obtain ⟨rfl, rfl⟩ := hg u hpu hu
  rcases hok with ⟨_, rfl⟩ | ⟨h, _⟩
  · exact ⟨rfl, hb⟩
  · cases h

/-- The two errors of strconv are some values. -/
def EV (w : World) : Prop := (∃ t p, w.cell? ⟨4, 0, none⟩ = some (.iface t p)) ∧ ∃ t p, w.cell? ⟨5, 0, none⟩ = some (.iface t p)
theorem EV.below {w w' : World} {B : Nat} (h : EV w) (hb : Below B w w') (hB : 5 < B) : EV w' := by
  obtain ⟨⟨t, p, h1⟩, t', p', h2⟩ := h
  exact ⟨⟨t, p, (hb.cell (by show 4 < B; omega)).trans h1⟩, t', p', (hb.cell (by show 5 < B; omega)).trans h2⟩

theorem toError_any (fn s : ByteArray) (x : Int) (hx : x = 1 ∨ x = 2) (hmax : s.size ≤ 1000000) (w : World) (hE : EV w) :
    Calls Tryz.prog 91 #[.string fn, .string s, .int .i64 16, .int .i64 32, .iface 133 (.int .i64 x)] w fun e w' => (∃ t p, e = .returned (.iface t p)) ∧ Below w.heap.size w w' := by
  obtain ⟨⟨t5, p5, h5⟩, t6, p6, h6⟩ := hE
  rcases hx with rfl | rfl
  · refine (Any.strconv_toError_range Tryz.toErrL fn s 16 32 _ w (by omega) h6 (.inr ⟨_, _, rfl⟩)).mono ?_
    rintro e w' ⟨N, rfl, _, _, hb⟩
    exact ⟨⟨_, _, rfl⟩, hb⟩
  · refine (Any.strconv_toError_syntax Tryz.toErrL fn s 16 32 _ w (by omega) h5 (.inr ⟨_, _, rfl⟩)).mono ?_
    rintro e w' ⟨N, rfl, _, _, hb⟩
    exact ⟨⟨_, _, rfl⟩, hb⟩

/-- What strconv.ParseInt hands back: a number and no error; or an error. -/
def pjOk (e : Ending) (g : Bool) (n : Int) : Prop :=
  (g = true ∧ e = .returned (.tuple #[.int .i64 n, .nilIface])) ∨ (g = false ∧ ∃ (m : Int) (t : TypeId) (p : Value), e = .returned (.tuple #[.int .i64 m, .iface t p]))

set_option maxHeartbeats 1000000 in
set_option maxRecDepth 100000 in
theorem pj_all (s : ByteArray) (hmax : s.size ≤ 1000000) (w : World) (hE : EV w) (hw8 : 5 < w.heap.size) :
    Calls Tryz.prog 87 #[.string s, .int .i64 16, .int .i64 32] w fun e w' => (∃ g n, pjOk e g n ∧ -2147483648 ≤ n ∧ n ≤ 2147483647) ∧ Below w.heap.size w w' := by
  go_enter Tryz.func87, Tryz.ntmps87
  go_wp2_with fail
  refine (piI_all s hmax _).mono ?_
  rintro e w1 ⟨⟨g, n, hok, hn1, hn2⟩, hb⟩
  rcases hok with ⟨rfl, rfl⟩ | ⟨rfl, m, x, hx, rfl⟩
  · go_wp2_with fail
    go_ret2
    exact ⟨⟨true, n, .inl ⟨rfl, rfl⟩, hn1, hn2⟩, hb⟩
  · have HX : Hid (x = 1 ∨ x = 2) := hx
    clear hx
    go_wp2_with fail
    refine (toError_any _ s x HX.out hmax _ (hE.below hb hw8)).mono ?_
    rintro e w2 ⟨⟨t, p, rfl⟩, hb2⟩
    have hb3 := hb.trans (hb2.mono hb.size)
    go_wp2_with fail
    go_ret2
    exact ⟨⟨false, 0, .inr ⟨rfl, _, _, _, rfl⟩, by omega, by omega⟩, hb3⟩

set_option maxHeartbeats 1000000 in
set_option maxRecDepth 100000 in
theorem pj_hex (u : Nat) (hu : u ≤ 2147483647) (w : World) :
    Calls Tryz.prog 87 #[.string (bytesOf (RS.hex u)), .int .i64 16, .int .i64 32] w fun e w' => e = .returned (.tuple #[.int .i64 u, .nilIface]) ∧ Below w.heap.size w w' := by
  go_enter Tryz.func87, Tryz.ntmps87
  go_wp2_with fail
  refine (piI_hex u hu _).mono ?_
  rintro e w1 ⟨rfl, hb⟩
  go_wp2_with fail
  go_ret2
  exact ⟨rfl, hb⟩

end Go.Proofs.YtjbmdnkpfkelmaaGreatDoor
