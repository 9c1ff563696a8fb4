/- strconv.ParseInt at base 16 and 32 bits, at every text. -/
import Derived.Test.YtjbdlihlcoldlaaGreatDoorG19
import Derived.Test.YtjbdlihlcoldlaaGreatDoorG21
import Derived.Laws.ResultCell
namespace Go.Proofs.YtjbdlihlcoldlaaGreatDoor
open Go.RowKit

set_option maxHeartbeats 1000000 in
set_option maxRecDepth 100000 in
theorem piI_empty (w : World) : Calls Tryz.prog 266 #[.string ⟨#[]⟩, .int .i64 16, .int .i64 32] w fun e w' => piOk e false 0 ∧ w' = w := by
  go_enter Tryz.func266, Tryz.ntmps266
  go_wp2
  go_ret2
  exact ⟨.inr ⟨rfl, _, 2, .inr rfl, rfl⟩, rfl⟩

/-- Whatever the text is: a number within 32 bits, or an error. -/
theorem piI_all (s : ByteArray) (hmax : s.size ≤ 1000000) (w : World) :
    Calls Tryz.prog 266 #[.string s, .int .i64 16, .int .i64 32] w fun e w' => (∃ g n, piOk e g n ∧ -2147483648 ≤ n ∧ n ≤ 2147483647) ∧ Below w.heap.size w w' := by
  by_cases h0 : 0 < s.size
  · by_cases h1 : (s[0]'h0).toNat = 43
    · exact piI_plus s hmax h0 h1 w
    · by_cases h2 : (s[0]'h0).toNat = 45
      · exact piI_minus s hmax h0 h2 w
      · refine (piI_plain s hmax h0 h1 h2 w).mono ?_
        rintro e w' ⟨⟨g, n, h, h3, h4, _⟩, hb⟩
        exact ⟨⟨g, n, h, h3, h4⟩, hb⟩
  · have e : s = ⟨#[]⟩ := by
      have : s.data = #[] := Array.eq_empty_of_size_eq_zero (by show s.size = 0; omega)
      cases s; simp_all
    rw [e]
    refine (piI_empty w).mono ?_
    rintro e w' ⟨h, rfl⟩
    exact ⟨⟨false, 0, h, by omega, by omega⟩, Below.refl _ _⟩

theorem nums_bytesOf (l : List Nat) (h : ∀ b ∈ l, b < 256) : nums (bytesOf l) = l := by
  unfold nums bytesOf
  simp
  conv => rhs; rw [← List.map_id l]
  refine List.map_congr_left fun b hb => ?_
  have := h b hb
  simp [UInt8.toNat_ofNat']
  omega

theorem hex_lt (u : Nat) : ∀ b ∈ RS.hex u, b < 256 := fun b hb => by have := RS.hexF_lt 16 u b hb; omega

/-- A digit stands first, no sign. -/
theorem hexF_head : ∀ f u, ∃ d l, RS.hexF f u = RS.dig d :: l ∧ d < 16 := by
  intro f
  induction f with
  | zero => intro u; exact ⟨u % 16, [], rfl, Nat.mod_lt _ (by omega)⟩
  | succ f ih =>
    intro u
    by_cases h : u < 16
    · exact ⟨u, [], RS.hexF_small _ u h, h⟩
    · obtain ⟨d, l, e, hd⟩ := ih (u / 16)
      exact ⟨d, l ++ [RS.dig (u % 16)], by rw [RS.hexF_step f u h, e]; rfl, hd⟩

theorem bytesOf_size (l : List Nat) : (bytesOf l).size = l.length := by
  show (l.map UInt8.ofNat).toArray.size = _
  simp

/-- A number that was written is read. -/
theorem piI_hex (u : Nat) (hu : u ≤ 2147483647) (w : World) :
    Calls Tryz.prog 266 #[.string (bytesOf (RS.hex u)), .int .i64 16, .int .i64 32] w fun e w' => e = .returned (.tuple #[.int .i64 u, .nilIface]) ∧ Below w.heap.size w w' := by
  have hl := RS.hexF_length 16 u
  have hsz := bytesOf_size (RS.hex u)
  obtain ⟨d, l, e, hd⟩ := hexF_head 16 u
  have h0 : 0 < (bytesOf (RS.hex u)).size := by rw [hsz]; exact hl.1
  have hc : ((bytesOf (RS.hex u))[0]'h0).toNat = RS.dig d := by
    have e2 : RS.hex u = RS.dig d :: l := e
    have : (bytesOf (RS.hex u))[0]'h0 = UInt8.ofNat (RS.dig d) := by
      show (bytesOf (RS.hex u)).data[0]'_ = _
      simp [bytesOf, e2]
    rw [this, UInt8.toNat_ofNat']
    have := RS.dig_lt d hd
    omega
  have hdd : RS.dig d ≠ 43 ∧ RS.dig d ≠ 45 := by unfold RS.dig; split <;> omega
  refine (piI_plain (bytesOf (RS.hex u)) (by rw [hsz]; show (RS.hexF 16 u).length ≤ _; omega) h0 (by rw [hc]; exact hdd.1) (by rw [hc]; exact hdd.2) w).mono ?_
  rintro e w' ⟨⟨g, n, hok, _, _, hg⟩, hb⟩
  have hpu : puOf (bytesOf (RS.hex u)) = .good u := by
    unfold puOf
    rw [if_neg (by omega), nums_bytesOf _ (hex_lt u)]
    exact RS.pu_hex (by omega) (by omega)
  obtain ⟨rfl, rfl⟩ := hg u hpu hu
  rcases hok with ⟨_, rfl⟩ | ⟨h, _⟩
  · exact ⟨rfl, hb⟩
  · cases h

/-- The two errors of strconv are some values. -/
def EV (w : World) : Prop := (∃ t p, w.cell? ⟨6, 0, none⟩ = some (.iface t p)) ∧ ∃ t p, w.cell? ⟨7, 0, none⟩ = some (.iface t p)
theorem EV.below {w w' : World} {B : Nat} (h : EV w) (hb : Below B w w') (hB : 7 < B) : EV w' := by
  obtain ⟨⟨t, p, h1⟩, t', p', h2⟩ := h
  exact ⟨⟨t, p, (hb.cell (by show 6 < B; omega)).trans h1⟩, t', p', (hb.cell (by show 7 < B; omega)).trans h2⟩

theorem toError_any (fn s : ByteArray) (x : Int) (hx : x = 1 ∨ x = 2) (hmax : s.size ≤ 1000000) (w : World) (hE : EV w) :
    Calls Tryz.prog 267 #[.string fn, .string s, .int .i64 16, .int .i64 32, .iface 344 (.int .i64 x)] w fun e w' => (∃ t p, e = .returned (.iface t p)) ∧ Below w.heap.size w w' := by
  obtain ⟨⟨t5, p5, h5⟩, t6, p6, h6⟩ := hE
  rcases hx with rfl | rfl
  · refine (Any.strconv_toError_range Tryz.toErrL fn s 16 32 _ w (by omega) h6 (.inr ⟨_, _, rfl⟩)).mono ?_
    rintro e w' ⟨N, rfl, _, _, hb⟩
    exact ⟨⟨_, _, rfl⟩, hb⟩
  · refine (Any.strconv_toError_syntax Tryz.toErrL fn s 16 32 _ w (by omega) h5 (.inr ⟨_, _, rfl⟩)).mono ?_
    rintro e w' ⟨N, rfl, _, _, hb⟩
    exact ⟨⟨_, _, rfl⟩, hb⟩

/-- What strconv.ParseInt hands back: a number and no error; or an error. -/
def pjOk (e : Ending) (g : Bool) (n : Int) : Prop :=
  (g = true ∧ e = .returned (.tuple #[.int .i64 n, .nilIface])) ∨ (g = false ∧ ∃ (m : Int) (t : TypeId) (p : Value), e = .returned (.tuple #[.int .i64 m, .iface t p]))

set_option maxHeartbeats 1000000 in
set_option maxRecDepth 100000 in
theorem pj_all (s : ByteArray) (hmax : s.size ≤ 1000000) (w : World) (hE : EV w) (hw8 : 7 < w.heap.size) :
    Calls Tryz.prog 262 #[.string s, .int .i64 16, .int .i64 32] w fun e w' => (∃ g n, pjOk e g n ∧ -2147483648 ≤ n ∧ n ≤ 2147483647) ∧ Below w.heap.size w w' := by
  go_enter Tryz.func262, Tryz.ntmps262
  go_wp2_with fail
  refine (piI_all s hmax _).mono ?_
  rintro e w1 ⟨⟨g, n, hok, hn1, hn2⟩, hb⟩
  rcases hok with ⟨rfl, rfl⟩ | ⟨rfl, m, x, hx, rfl⟩
  · go_wp2_with fail
    go_ret2
    exact ⟨⟨true, n, .inl ⟨rfl, rfl⟩, hn1, hn2⟩, hb⟩
  · have HX : Hid (x = 1 ∨ x = 2) := hx
    clear hx
    go_wp2_with fail
    refine (toError_any _ s x HX.out hmax _ (hE.below hb hw8)).mono ?_
    rintro e w2 ⟨⟨t, p, rfl⟩, hb2⟩
    have hb3 := hb.trans (hb2.mono hb.size)
    go_wp2_with fail
    go_ret2
    exact ⟨⟨false, 0, .inr ⟨rfl, _, _, _, rfl⟩, by omega, by omega⟩, hb3⟩

set_option maxHeartbeats 1000000 in
set_option maxRecDepth 100000 in
theorem pj_hex (u : Nat) (hu : u ≤ 2147483647) (w : World) :
    Calls Tryz.prog 262 #[.string (bytesOf (RS.hex u)), .int .i64 16, .int .i64 32] w fun e w' => e = .returned (.tuple #[.int .i64 u, .nilIface]) ∧ Below w.heap.size w w' := by
  go_enter Tryz.func262, Tryz.ntmps262
  go_wp2_with fail
  refine (piI_hex u hu _).mono ?_
  rintro e w1 ⟨rfl, hb⟩
  go_wp2_with fail
  go_ret2
  exact ⟨rfl, hb⟩

end Go.Proofs.YtjbdlihlcoldlaaGreatDoor

namespace Go.Proofs.YtjbdlihlcoldlaaGreatDoor
open Go.RowKit

theorem ib_none (c : UInt8) : ∀ l : List UInt8, c ∉ l → Lib.indexByte l c = -1 := by
  intro l
  induction l with
  | nil => intro _; rfl
  | cons b l ih =>
    intro h
    have h1 : b ≠ c := fun e => h (by rw [e]; exact List.mem_cons_self ..)
    have h2 := ih (fun e => h (List.mem_cons_of_mem _ e))
    unfold Lib.indexByte
    simp [h1, h2]

theorem ib_at (c : UInt8) (v : List UInt8) : ∀ u : List UInt8, c ∉ u → Lib.indexByte (u ++ c :: v) c = (u.length : Nat) := by
  intro u
  induction u with
  | nil => intro _; unfold Lib.indexByte; simp
  | cons b u ih =>
    intro h
    have h1 : b ≠ c := fun e => h (by rw [e]; exact List.mem_cons_self ..)
    have h2 := ih (fun e => h (List.mem_cons_of_mem _ e))
    rw [List.cons_append]
    unfold Lib.indexByte
    rw [h2]
    simp [h1]

theorem cut_one (c : UInt8) (u v : List UInt8) (h : c ∉ u) : Lib.cut (u ++ c :: v) [c] = (u, v, true) := by
  unfold Lib.cut
  rw [Lib.index_one, ib_at c v u h, if_pos (by omega)]
  simp

theorem cut_none (c : UInt8) (u : List UInt8) (h : c ∉ u) : Lib.cut u [c] = (u, [], false) := by
  unfold Lib.cut
  rw [Lib.index_one, ib_none c u h, if_neg (by omega)]

theorem split_at (c : UInt8) : ∀ s : List UInt8, c ∉ s ∨ ∃ u v, s = u ++ c :: v ∧ c ∉ u := by
  intro s
  induction s with
  | nil => exact .inl (by simp)
  | cons b s ih =>
    by_cases h : b = c
    · exact .inr ⟨[], s, by rw [h]; rfl, by simp⟩
    · rcases ih with ih | ⟨u, v, rfl, hu⟩
      · exact .inl (by simp; exact ⟨fun e => h e.symm, ih⟩)
      · exact .inr ⟨b :: u, v, rfl, by simp; exact ⟨fun e => h e.symm, hu⟩⟩

theorem cut_len (c : UInt8) (s : List UInt8) : (Lib.cut s [c]).1.length ≤ s.length ∧ (Lib.cut s [c]).2.1.length ≤ s.length ∧ (s ≠ [] → (Lib.cut s [c]).2.1.length < s.length) := by
  rcases split_at c s with h | ⟨u, v, rfl, hu⟩
  · rw [cut_none c s h]
    refine ⟨by simp, by simp, fun h => ?_⟩
    cases s with
    | nil => exact absurd rfl h
    | cons b s => simp
  · rw [cut_one c u v hu]
    refine ⟨by simp, by simp; omega, fun _ => by simp; omega⟩

/-- bytealg.MaxLen is some number (Cut looks at it, whatever it is). -/
def ML (w : World) : Prop := ∃ m : Int, w.cell? ⟨2, 0, none⟩ = some (.int .i64 m)
theorem ML.below {w w' : World} {B : Nat} (h : ML w) (hb : Below B w w') (hB : 7 < B) : ML w' := by
  obtain ⟨m, h⟩ := h
  exact ⟨m, (hb.cell (by show 2 < B; omega)).trans h⟩

/-- What Cut hands back, at one byte. -/
theorem cut_any (s : ByteArray) (c : UInt8) (hs : s.size ≤ 1000000) (w : World) (hm : ML w) :
    Calls Tryz.prog 255 #[.string s, .string ⟨#[c]⟩] w fun e w' => e = .returned (.tuple #[.string ⟨(Lib.cut s.data.toList [c]).1.toArray⟩, .string ⟨(Lib.cut s.data.toList [c]).2.1.toArray⟩, .bool (Lib.cut s.data.toList [c]).2.2]) ∧ Below w.heap.size w w' ∧ w'.heap = w.heap := by
  obtain ⟨m, hm⟩ := hm
  refine (Any.strings_Cut Tryz.cutL s ⟨#[c]⟩ m w (by omega) hm).mono ?_
  rintro e w' ⟨rfl, n, rfl⟩
  exact ⟨rfl, below_drewN (Below.refl _ _) n, rfl⟩

abbrev RX := RS.Rg × Bool
def rxV (x : RX) : Value := .tuple #[.agg #[.int .i64 x.1.1, .int .i64 x.1.2], .bool x.2]

theorem rx_res {fn : Func} (hf : fn.results = #[.cell 2 46, .tmp 3]) (tmps : Array Value) (w : World) (b : Nat) (t : Bool) (x y : Int) (h2 : tmps.getD 2 undef = .pointer (some ⟨b, 0, none⟩)) (h3 : tmps.getD 3 undef = .bool t)
    (hb : w.heap[b]? = some (.cells #[.int .i64 x, .int .i64 y] 46)) : (results fn tmps).run Tryz.prog w = .ok (rxV ((x, y), t)) w := by
  rw [results_cell_tmp hf, h2, h3]
  have e1 : (asAddr (.pointer (some ⟨b, 0, none⟩))).run Tryz.prog w = .ok ⟨b, 0, none⟩ w := by simp [asAddr, go_sem]
  rw [e1]
  simp only [Result.andThen]
  rw [run_loadVar_row w b 46 46 #[.int .i64 x, .int .i64 y] _ _ hb Tryz.underlying46 rfl size53]
  rfl

theorem row2 {w : World} {b : Nat} {x y : Int} (h : w.heap[b]? = some (.cells #[.int .i64 x, .int .i64 y] 46)) :
    w.cell? ⟨b, 0, none⟩ = some (.int .i64 x) ∧ w.cell? ⟨b, 1, none⟩ = some (.int .i64 y) ∧ w.frozen? ⟨b, 0, none⟩ = false ∧ w.frozen? ⟨b, 1, none⟩ = false :=
  ⟨cell_of_row w b 0 _ _ _ h, cell_of_row w b 1 _ _ _ h, frozen_of_row w b 0 _ _ h, frozen_of_row w b 1 _ _ h⟩

theorem row2_set {w : World} {b : Nat} {x y : Int} (h : w.heap[b]? = some (.cells #[.int .i64 x, .int .i64 y] 46)) (u v : Int) :
    ((w.setCell ⟨b, 0, none⟩ (.int .i64 u)).setCell ⟨b, 1, none⟩ (.int .i64 v)).heap[b]? = some (.cells #[.int .i64 u, .int .i64 v] 46) := by
  have h1 := heap_setCell_same w b 0 _ 46 (.int .i64 u) h
  have h2 := heap_setCell_same _ b 1 _ 46 (.int .i64 v) h1
  exact h2

theorem cut_at (word f s : ByteArray) (t : Bool) (c : UInt8) (hw : word.size ≤ 1000000) (hcut : Lib.cut word.data.toList [c] = (f.data.toList, s.data.toList, t)) (w : World) (hm : ML w) :
    Calls Tryz.prog 255 #[.string word, .string ⟨#[c]⟩] w fun e w' => e = .returned (.tuple #[.string f, .string s, .bool t]) ∧ Below w.heap.size w w' := by
  refine (cut_any word c hw w hm).mono ?_
  rintro e w' ⟨rfl, hb, _⟩
  rw [hcut]
  exact ⟨rfl, hb⟩

set_option maxHeartbeats 1000000 in
set_option maxRecDepth 100000 in
/-- oneRange, out of what the two numbers come to. -/
theorem one_core (word f s : ByteArray) (t : Bool) (hw : word.size ≤ 1000000) (hcut : Lib.cut word.data.toList [45] = (f.data.toList, s.data.toList, t)) (Q1 Q2 : Bool → Int → Prop) (G : RX → Prop)
    (h1 : ∀ w, EV w → 7 < w.heap.size → Calls Tryz.prog 262 #[.string f, .int .i64 16, .int .i64 32] w fun e w' => (∃ g n, pjOk e g n ∧ Q1 g n) ∧ Below w.heap.size w w')
    (h2 : ∀ w, EV w → 7 < w.heap.size → Calls Tryz.prog 262 #[.string (if t then s else f), .int .i64 16, .int .i64 32] w fun e w' => (∃ g n, pjOk e g n ∧ Q2 g n) ∧ Below w.heap.size w w')
    (g1 : ∀ n, Q1 false n → G ((0, 0), false)) (g2 : ∀ n, Q2 false n → G ((0, 0), false)) (g3 : ∀ n m, Q1 true n → Q2 true m → G ((n, m), true))
    (w : World) (hE : EV w) (hM : ML w) (hw8 : 7 < w.heap.size) :
    Calls Tryz.prog 256 #[.string word] w fun e w' => (∃ x, G x ∧ e = .returned (rxV x)) ∧ Below w.heap.size w w' := by
  obtain ⟨W, HW⟩ : ∃ W, Hid (W = w.alloc (.cells #[.int .i64 0, .int .i64 0] 46)) := ⟨_, rfl⟩
  have hbW : Below w.heap.size w W := by rw [HW.out]; exact (Below.refl _ w).alloc (Nat.le_refl _) _
  have HS : Hid (w.heap.size + 1 ≤ W.heap.size) := by show _ ≤ _; rw [HW.out]; simp
  have HR : Hid (W.heap[w.heap.size]? = some (.cells #[.int .i64 0, .int .i64 0] 46)) := by show _ = _; rw [HW.out]; exact heap_alloc_new w _
  have HCt := cut_at word f s t 45 hw hcut W (hM.below hbW hw8)
  clear hcut
  have hfin : ∀ (X : World) (tmps : Array Value) (x y : Int) (tt : Bool), Below w.heap.size w X → X.heap[w.heap.size]? = some (.cells #[.int .i64 0, .int .i64 0] 46) → G ((x, y), tt) → tmps.getD 2 undef = .pointer (some ⟨w.heap.size, 0, none⟩) → tmps.getD 3 undef = .bool tt →
      bodyPost Tryz.prog Tryz.f256 (fun e w' => (∃ x, G x ∧ e = .returned (rxV x)) ∧ Below w.heap.size w w') .ret { tmps := tmps, defers := [] } ((X.setCell ⟨w.heap.size, 0, none⟩ (.int .i64 x)).setCell ⟨w.heap.size, 1, none⟩ (.int .i64 y)) := by
    intro X tmps x y tt hb hh hg e2 e3
    refine bodyPost_ret (rx_res rfl tmps _ w.heap.size tt x y e2 e3 (row2_set hh x y)) rfl ?_
    exact ⟨⟨_, hg, rfl⟩, (hb.setCell (p := ⟨w.heap.size, 0, none⟩) (Nat.le_refl _) _).setCell (p := ⟨w.heap.size, 1, none⟩) (Nat.le_refl _) _⟩
  have HF : Hid _ := hfin
  clear hfin
  go_enter Tryz.func256, Tryz.ntmps256
  go_wp2_with fail
  rw [← HW.out]
  refine HCt.mono ?_
  rintro e W1 ⟨rfl, hb1⟩
  clear HCt
  have hE1 : EV W1 := (hE.below hbW hw8).below hb1 (by have := hbW.size; omega)
  have HB1 : Below w.heap.size w W1 := hbW.trans (hb1.mono hbW.size)
  have HR1 : Hid (W1.heap[w.heap.size]? = some (.cells #[.int .i64 0, .int .i64 0] 46)) := (hb1.block _ (by have := HS.out; omega)).trans HR.out
  have HS1 : Hid (w.heap.size + 1 ≤ W1.heap.size) := Nat.le_trans HS.out hb1.size
  clear hb1 HR HS HW hbW W
  cases t
  all_goals
    simp only [if_true, Bool.false_eq_true, if_false] at h2
    go_wp2_with fail
    refine (h1 W1 hE1 (by have := HB1.size; omega)).mono ?_
    rintro e W2 ⟨⟨g, n, hok, hq⟩, hb2⟩
    have hE2 : EV W2 := hE1.below hb2 (by have := HB1.size; omega)
    have HB2 : Below w.heap.size w W2 := HB1.trans (hb2.mono HB1.size)
    have HR2 : Hid (W2.heap[w.heap.size]? = some (.cells #[.int .i64 0, .int .i64 0] 46)) := (hb2.block _ (by have := HS1.out; omega)).trans HR1.out
    have HS2 : Hid (w.heap.size + 1 ≤ W2.heap.size) := Nat.le_trans HS1.out hb2.size
    rcases hok with ⟨rfl, rfl⟩ | ⟨rfl, m', t', p', rfl⟩
    · go_wp2_with fail
      refine (h2 W2 hE2 (by have := HB2.size; omega)).mono ?_
      rintro e W3 ⟨⟨g', n', hok', hq'⟩, hb3⟩
      have HB3 : Below w.heap.size w W3 := HB2.trans (hb3.mono HB2.size)
      have HR3 : Hid (W3.heap[w.heap.size]? = some (.cells #[.int .i64 0, .int .i64 0] 46)) := (hb3.block _ (by have := HS2.out; omega)).trans HR2.out
      obtain ⟨y0, y1, y2, y3⟩ := row2 HR3.out
      rcases hok' with ⟨rfl, rfl⟩ | ⟨rfl, m', t', p', rfl⟩
      · go_wp2_with fail
        exact HF.out W3 _ _ _ true HB3 HR3.out (g3 _ _ hq hq') rfl rfl
      · go_wp2_with fail
        exact HF.out W3 _ _ _ false HB3 HR3.out (g2 _ hq') rfl rfl
    · obtain ⟨y0, y1, y2, y3⟩ := row2 HR2.out
      go_wp2_with fail
      exact HF.out W2 _ _ _ false HB2 HR2.out (g1 _ hq) rfl rfl

def inRg (n : Int) : Prop := -2147483648 ≤ n ∧ n ≤ 2147483647

/-- Whatever the word is. -/
theorem one_all (word : ByteArray) (hw : word.size ≤ 1000000) (w : World) (hE : EV w) (hM : ML w) (hw8 : 7 < w.heap.size) :
    Calls Tryz.prog 256 #[.string word] w fun e w' => (∃ x : RX, (inRg x.1.1 ∧ inRg x.1.2) ∧ e = .returned (rxV x)) ∧ Below w.heap.size w w' := by
  obtain ⟨h1, h2, _⟩ := cut_len 45 word.data.toList
  have hsz : word.data.toList.length = word.size := by simp
  refine one_core word ⟨(Lib.cut word.data.toList [45]).1.toArray⟩ ⟨(Lib.cut word.data.toList [45]).2.1.toArray⟩ (Lib.cut word.data.toList [45]).2.2 hw rfl (fun _ n => inRg n) (fun _ n => inRg n) (fun x => inRg x.1.1 ∧ inRg x.1.2)
    (fun W he h8 => (pj_all _ ?_ W he h8).mono fun e w' ⟨⟨g, n, a, b, c⟩, d⟩ => ⟨⟨g, n, a, b, c⟩, d⟩) (fun W he h8 => (pj_all _ ?_ W he h8).mono fun e w' ⟨⟨g, n, a, b, c⟩, d⟩ => ⟨⟨g, n, a, b, c⟩, d⟩)
    (fun _ _ => ⟨⟨by decide, by decide⟩, ⟨by decide, by decide⟩⟩) (fun _ _ => ⟨⟨by decide, by decide⟩, ⟨by decide, by decide⟩⟩) (fun n m a b => ⟨a, b⟩) w hE hM hw8
  · show (Lib.cut word.data.toList [45]).1.toArray.size ≤ _
    simp; omega
  · split
    · show (Lib.cut word.data.toList [45]).2.1.toArray.size ≤ _
      simp; omega
    · show (Lib.cut word.data.toList [45]).1.toArray.size ≤ _
      simp; omega

theorem hexF_ge : ∀ f u, ∀ b ∈ RS.hexF f u, 48 ≤ b := by
  intro f
  induction f with
  | zero => intro u b hb; simp [RS.hexF] at hb; subst hb; unfold RS.dig; split <;> omega
  | succ f ih =>
    intro u b hb
    rw [RS.hexF] at hb
    split at hb
    · simp at hb; subst hb; unfold RS.dig; split <;> omega
    · rcases List.mem_append.1 hb with hb | hb
      · exact ih _ b hb
      · simp at hb; subst hb; unfold RS.dig; split <;> omega

theorem not_mem_u8 (c : Nat) (hc : c < 256) (l : List Nat) (hl : ∀ b ∈ l, b < 256 ∧ b ≠ c) : UInt8.ofNat c ∉ l.map UInt8.ofNat := by
  intro h
  obtain ⟨b, hb, e⟩ := List.mem_map.1 h
  have h1 := hl b hb
  have h2 := congrArg UInt8.toNat e
  simp [UInt8.toNat_ofNat'] at h2
  rw [Nat.mod_eq_of_lt h1.1, Nat.mod_eq_of_lt hc] at h2
  exact h1.2 h2

theorem hex_not (c : Nat) (hc : c < 48) (u : Nat) : UInt8.ofNat c ∉ (RS.hex u).map UInt8.ofNat :=
  not_mem_u8 c (by omega) _ fun b hb => ⟨hex_lt u b hb, by have := hexF_ge 16 u b hb; omega⟩

theorem bytesOf_toList (l : List Nat) : (bytesOf l).data.toList = l.map UInt8.ofNat := by simp [bytesOf]

/-- A range that was written is read. -/
theorem one_text (l h : Nat) (hl : l ≤ 2147483647) (hh : h ≤ 2147483647) (w : World) (hE : EV w) (hM : ML w) (hw8 : 7 < w.heap.size) :
    Calls Tryz.prog 256 #[.string (bytesOf (RS.rgText ((l : Int), (h : Int))))] w fun e w' => (∃ x : RX, x = (((l : Int), (h : Int)), true) ∧ e = .returned (rxV x)) ∧ Below w.heap.size w w' := by
  have hlen := RS.rgText_length ((l : Int), (h : Int))
  have hsz := bytesOf_size (RS.rgText ((l : Int), (h : Int)))
  by_cases e : (h : Int) = l
  · have et : RS.rgText ((l : Int), (h : Int)) = RS.hex l := by unfold RS.rgText; simp [e]
    have e' : h = l := by omega
    rw [et] at hlen hsz ⊢
    subst e'
    refine one_core _ (bytesOf (RS.hex h)) ⟨#[]⟩ false (by omega) ?_ (fun g n => g = true ∧ n = h) (fun g n => g = true ∧ n = h) _ (fun W _ _ => (pj_hex h hh W).mono ?_) (fun W _ _ => (pj_hex h hh W).mono ?_) ?_ ?_ ?_ w hE hM hw8
    · rw [bytesOf_toList]
      exact cut_none 45 _ (hex_not 45 (by omega) h)
    · rintro e w' ⟨rfl, hb⟩
      exact ⟨⟨true, _, .inl ⟨rfl, rfl⟩, rfl, rfl⟩, hb⟩
    · rintro e w' ⟨rfl, hb⟩
      exact ⟨⟨true, _, .inl ⟨rfl, rfl⟩, rfl, rfl⟩, hb⟩
    · rintro n ⟨h, _⟩; cases h
    · rintro n ⟨h, _⟩; cases h
    · rintro n m ⟨_, rfl⟩ ⟨_, rfl⟩; rfl
  · have et : RS.rgText ((l : Int), (h : Int)) = RS.hex l ++ 45 :: RS.hex h := by unfold RS.rgText; simp [e]
    rw [et] at hlen hsz ⊢
    refine one_core _ (bytesOf (RS.hex l)) (bytesOf (RS.hex h)) true (by omega) ?_ (fun g n => g = true ∧ n = l) (fun g n => g = true ∧ n = h) _ (fun W _ _ => (pj_hex l hl W).mono ?_) (fun W _ _ => (pj_hex h hh W).mono ?_) ?_ ?_ ?_ w hE hM hw8
    · rw [bytesOf_toList, bytesOf_toList, bytesOf_toList, List.map_append, List.map_cons]
      exact cut_one 45 _ _ (hex_not 45 (by omega) l)
    · rintro e w' ⟨rfl, hb⟩
      exact ⟨⟨true, _, .inl ⟨rfl, rfl⟩, rfl, rfl⟩, hb⟩
    · rintro e w' ⟨rfl, hb⟩
      exact ⟨⟨true, _, .inl ⟨rfl, rfl⟩, rfl, rfl⟩, hb⟩
    · rintro n ⟨h, _⟩; cases h
    · rintro n ⟨h, _⟩; cases h
    · rintro n m ⟨_, rfl⟩ ⟨_, rfl⟩; rfl

end Go.Proofs.YtjbdlihlcoldlaaGreatDoor
