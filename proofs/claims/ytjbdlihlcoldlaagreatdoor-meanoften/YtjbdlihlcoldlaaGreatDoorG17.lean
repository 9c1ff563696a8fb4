/- strconv.AppendInt at base 16, of numbers that are not below 0, onto a row of the call's own. -/
import Derived.Test.YtjbdlihlcoldlaaGreatDoorG07
import Derived.Test.YtjbdlihlcoldlaaGreatDoorG00
namespace Go.Proofs.YtjbdlihlcoldlaaGreatDoor
open Go.RowKit

/-- What is asked of the table of trailing zeros. -/
def TZ (w : World) : Prop := w.cell? ⟨3, 15, none⟩ = some (.int .u8 4)
theorem TZ.below {w w' : World} {B : Nat} (h : TZ w) (hb : Below B w w') (hB : 7 < B) : TZ w' := (hb.cell (by show 3 < B; omega)).trans h

set_option maxHeartbeats 1000000 in
set_option maxRecDepth 100000 in
theorem tz_16 (w : World) (h : TZ w) : Calls Tryz.prog 241 #[.int .u64 16] w fun e w' => e = .returned (.int .i64 4) ∧ w' = w := by
  unfold TZ at h
  have e1 : IntKind.u64.wrap (bits BinOp.and IntKind.u64 16 (IntKind.u64.wrap (-16)) * 285870213051353865) / 288230376151711744 = 15 := by kernel_rfl
  go_enter Tryz.func241, Tryz.ntmps241
  go_wp2
  go_ret
  exact ⟨rfl, rfl⟩

set_option maxHeartbeats 1000000 in
set_option maxRecDepth 100000 in
theorem pow2_16 (w : World) : Calls Tryz.prog 240 #[.int .i64 16] w fun e w' => e = .returned (.bool true) ∧ w' = w := by
  have e1 : bits BinOp.and IntKind.i64 16 15 = 0 := by kernel_rfl
  go_enter Tryz.func240, Tryz.ntmps240
  go_wp2
  go_ret
  exact ⟨rfl, rfl⟩

theorem ofInt_u64 (a : Nat) (h : a < 18446744073709551616) : (BitVec.ofInt 64 (a : Int)).toNat = a := by
  rw [BitVec.toNat_ofInt]
  omega

theorem u64_and15 (a : Nat) (h : a ≤ 4294967295) : bits .and .u64 (a : Int) 15 = ((a % 16 : Nat) : Int) := by
  have e : (15 : Int) = ((15 : Nat) : Int) := rfl
  rw [e]
  show IntKind.u64.wrap ((BitVec.ofInt 64 (a : Int) &&& BitVec.ofInt 64 ((15 : Nat) : Int)).toNat : Int) = _
  rw [BitVec.toNat_and, ofInt_u64 a (by omega), ofInt_u64 15 (by omega)]
  have hm : a &&& 15 = a % 16 := Nat.and_two_pow_sub_one_eq_mod a 4
  rw [hm]
  simp [IntKind.wrap, IntKind.bits, IntKind.signed]
  omega

def digStr : ByteArray := ⟨#[48, 49, 50, 51, 52, 53, 54, 55, 56, 57, 97, 98, 99, 100, 101, 102, 103, 104, 105, 106, 107, 108, 109, 110, 111, 112, 113, 114, 115, 116, 117, 118, 119, 120, 121, 122]⟩

theorem dig_str : ∀ r : Fin 16, ((digStr[r.val]?).getD 0).toNat = RS.dig r.val := by decide

theorem dig_at (r : Nat) (hr : r < 16) (h : r < digStr.size) : (digStr[r]'h).toNat = RS.dig r := by
  have := dig_str ⟨r, hr⟩
  rw [← this]
  simp [h]

theorem lim_next {uu d : Nat} (h16 : 16 ≤ uu) (h : uu ≤ 4294967295 / 16 ^ d) : d ≤ 7 ∧ uu / 16 ≤ 4294967295 / 16 ^ (d + 1) := by
  constructor
  · rcases Nat.lt_or_ge d 8 with h1 | h1
    · omega
    · exfalso
      have h2 : 16 ^ 7 ≤ 16 ^ d := Nat.pow_le_pow_right (by omega) (by omega)
      have h3 : 4294967295 / 16 ^ d ≤ 4294967295 / 16 ^ 7 := Nat.div_le_div_left h2 (by decide)
      have h4 : 4294967295 / 16 ^ 7 = 15 := by decide
      omega
  · rw [Nat.pow_succ, ← Nat.div_div_eq_div_mul]
    exact Nat.div_le_div_right h

theorem drop_set (cur : Array Value) (i : Nat) (x : Value) (h : i < cur.size) : (cur.setIfInBounds i x).toList.drop i = x :: cur.toList.drop (i + 1) := by
  rw [Array.toList_setIfInBounds, List.drop_eq_getElem_cons (by simpa using h)]
  congr 1
  · simp
  · rw [List.drop_set_of_lt (by omega)]

theorem info5 : (Tryz.prog.info? 5).map (fun i => (i.zero, i.size, i.bytes)) = some (some (.int .u8 0), 1, 1) := by kernel_rfl

theorem slice65 (g i : Nat) (hi : i ≤ 64) (W : World) : Sem.run Tryz.prog (Instr.sliceAt 319 (.pointer (some ⟨g, 0, none⟩)) (some (.int .i64 (i : Int))) none none) W = .ok (.slice (some ⟨g, i, none⟩) (65 - i) (65 - i)) W := by
  have hu : Tryz.prog.underlying 319 = some (.array 65 5) := Tryz.underlying319
  have e1 : Tryz.prog.arrayLen 319 = 65 := by kernel_rfl
  have e2 : Tryz.prog.elem 319 = 5 := by kernel_rfl
  have h := run_sliceAt_array_l (P := Tryz.prog) W 319 ⟨g, 0, none⟩ (by rw [e1, e2]; exact hu) .i64 (i : Int) (by omega) (by rw [e1]; omega)
  rw [h, e1, e2, Tryz.sizeOf5]
  simp only [Result.andThen, slicedAt]
  rw [if_neg (by omega)]
  simp [Addr.add_lit]

theorem cells_of_block {W : World} {g i : Nat} {c : Array Value} {t : TypeId} {L : List Value} (h : W.heap[g]? = some (.cells c t)) (hd : c.toList.drop i = L) : ∀ j u, L[j]? = some u → W.cell? ((⟨g, i, none⟩ : Addr).add j) = some u := by
  intro j u hj
  rw [Addr.add_lit]
  rw [← hd, List.getElem?_drop, Array.getElem?_toList] at hj
  simp [World.cell?, h, hj]

theorem grown_of_below {w W w' : World} {row : Option Nat} (h : Below w.heap.size w W) (hg : W.grownBy w' row) : w.grownBy w' row :=
  ⟨hg.os.trans h.os, hg.tape.trans h.tape, hg.output.trans h.output, Nat.le_trans h.size hg.size, fun k hk hne => (hg.block k (Nat.lt_of_lt_of_le hk h.size) hne).trans (h.block k hk)⟩

def byteV (b : Nat) : Value := .int .u8 (b : Int)

set_option maxHeartbeats 1000000 in
set_option maxRecDepth 100000 in
theorem bits_any (B : Nat) (v : Value) (n : Nat) (xs : List Value) (u : Nat) (hu : u ≤ 4294967295) (hn : n ≤ 1000000) (w : World) (hTZ : TZ w) (hw8 : 7 < w.heap.size) (hB : B ≤ w.heap.size) (hown : w.ownsRow B 5 1 v n xs) :
    Calls Tryz.prog 222 #[v, .int .u64 u, .int .i64 16, .bool false, .bool true] w fun e w' => ∃ v', e = .returned (.tuple #[v', .string ⟨#[]⟩]) ∧ w'.ownsRow B 5 1 v' (n + (RS.hex u).length) (xs ++ (RS.hex u).map byteV) ∧ w.grownBy w' v.ownBlock := by
  obtain ⟨i5, hi5, hz0, hz1, hz2⟩ := info_parts info5
  have hz : Tryz.zeroCells319.size = 65 := by kernel_rfl
  obtain ⟨W0, hW0⟩ : ∃ W0, W0 = w.alloc (Obj.cells Tryz.zeroCells319 319) := ⟨_, rfl⟩
  have hblk : W0.heap[w.heap.size]? = some (.cells Tryz.zeroCells319 319) := by rw [hW0]; exact heap_alloc_new _ _
  have hb0 : Below w.heap.size w W0 := by rw [hW0]; exact (Below.refl _ w).alloc (Nat.le_refl _) _
  have hT0 : TZ W0 := hTZ.below hb0 hw8
  have HW0 : Hid (W0 = w.alloc (Obj.cells Tryz.zeroCells319 319)) := hW0
  clear hW0
  go_enter Tryz.func222, Tryz.ntmps222
  go_wp2_with fail
  rw [← HW0.out]
  refine (pow2_16 _).mono ?_
  rintro e w' ⟨rfl, rfl⟩
  go_wp2_with fail
  refine (tz_16 _ hT0).mono ?_
  rintro e w2 ⟨rfl, rfl⟩
  go_wp2_with fail
  go_loopw [1, 13] (fun x i wr => ∃ (uu d : Nat) (cur : Array Value) (ds : List Nat), x = .int .u64 uu ∧ i = .int .i64 ((65 - d : Nat) : Int) ∧ ds.length = d ∧ d ≤ 8 ∧ uu ≤ 4294967295 / 16 ^ d ∧ RS.hexF (16 - d) uu ++ ds = RS.hex u ∧ wr.heap[w.heap.size]? = some (.cells cur 319) ∧ cur.size = 65 ∧ cur.toList.drop (65 - d) = ds.map byteV ∧ Below w.heap.size w wr) (fun x _ _ => (intOf x).toNat)
  case atStart => exact ⟨u, 0, _, [], rfl, rfl, rfl, by omega, by simpa using hu, by simp [RS.hex], hblk, hz, by simp [hz], hb0⟩
  case round =>
    obtain ⟨uu, d, cur, ds, rfl, rfl, hdl, hd8, hlim, hhex, hcb, hcs, hcd, hnx⟩ := hrel
    have HHEX : Hid (RS.hexF (16 - d) uu ++ ds = RS.hex u) := hhex
    have HCD : Hid (cur.toList.drop (65 - d) = ds.map byteV) := hcd
    have HCB : Hid (wr.heap[w.heap.size]? = some (.cells cur 319)) := hcb
    clear hhex hcd hcb
    obtain ⟨i, hi⟩ : ∃ i, i + 1 = 65 - d := ⟨64 - d, by omega⟩
    rw [← hi]
    have hi1 : 56 ≤ i := by omega
    have hi2 : i ≤ 64 := by omega
    have HI : Hid (i + 1 = 65 - d) := hi
    have hc0 : wr.cell? ⟨w.heap.size, i, none⟩ = some cur[i] := by simp [World.cell?, HCB.out, show i < cur.size by omega]
    have hf0 : wr.frozen? ⟨w.heap.size, i, none⟩ = false := by simp [World.frozen?, HCB.out]
    generalize cur[i] = old at hc0
    clear hi
    by_cases h16 : 16 ≤ uu
    · have hand : bits .and .u64 (uu : Int) 15 = ((uu % 16 : Nat) : Int) := u64_and15 uu (by have := Nat.div_le_self 4294967295 (16 ^ d); omega)
      obtain ⟨r, hr⟩ : ∃ r, r = uu % 16 := ⟨_, rfl⟩
      rw [← hr] at hand
      have hr1 : r < 16 := by omega
      have HRR : Hid (r = uu % 16) := hr
      clear hr
      have hdg := dig_at r hr1 (by show r < 36; omega)
      have HDG : Hid ((digStr[r]'(by show r < 36; omega)).toNat = RS.dig r) := hdg
      clear hdg
      have hlim2 := lim_next h16 hlim
      go_wp2
      case roundEnd =>
        refine ⟨⟨uu / 16, d + 1, _, RS.dig r :: ds, by go_num, by have := HI.out; congr 2; omega, by simp [hdl], by omega, hlim2.2, ?_, heap_setCell_same wr w.heap.size i cur 319 _ HCB.out, by simpa using hcs, ?_, hnx.setCell (p := ⟨w.heap.size, i, none⟩) (Nat.le_refl _) _⟩, by simp [intOf]; omega⟩
        · rw [← HHEX.out, show 16 - d = (16 - (d + 1)) + 1 by omega, RS.hexF_step _ _ (by omega), HRR.out, List.append_assoc]
          rfl
        · have e : 65 - (d + 1) = i := by have := HI.out; omega
          rw [e, drop_set _ _ _ (by omega), HI.out, HCD.out, List.map_cons]
          congr 2
          exact congrArg Int.ofNat HDG.out
    · have hdg := dig_at uu (by omega) (by show uu < 36; omega)
      have HDG : Hid ((digStr[uu]'(by show uu < 36; omega)).toNat = RS.dig uu) := hdg
      clear hdg
      have hu36 : (uu : Int) < 36 := by omega
      have hown1 := owns_later hown hnx
      have hne : v.ownBlock ≠ some w.heap.size := fun e => by have := (hown.lt _ e).2; omega
      have hb1 := fun x => hnx.setCell (p := ⟨w.heap.size, i, none⟩) (Nat.le_refl _) x
      have hown2 := fun x => ownsRow_setCell_other hown1 (a := ⟨w.heap.size, i, none⟩) hne x
      have hcur := fun x => heap_setCell_same wr w.heap.size i cur 319 x HCB.out
      have hlen2 : ds.length + 1 ≤ 9 := by omega
      have hsl := slice65 w.heap.size i (by omega)
      have e65 : 65 - i = ds.length + 1 := by have := HI.out; omega
      rw [e65] at hsl
      obtain ⟨k, hk⟩ : ∃ k, k = ds.length + 1 := ⟨_, rfl⟩
      rw [← hk] at hsl
      have HK : Hid (k = ds.length + 1) := hk
      have hk9 : k ≤ 9 := by omega
      clear hk e65 hdl
      go_wp2_with (at_builtin; refine wpList_append_own _ rfl _ _ 219 rfl B 5 i5 (.int .u8 0) 1 1 Tryz.underlying219 hi5 hz0 hz1 hz2 rfl (by decide) _ _ _ rfl (hown2 _) ⟨w.heap.size, i, none⟩ k k ((RS.dig uu :: ds).map byteV) rfl ?_ ?_ ?_ ?_ ?_ ?_ ?_)
      · have := HK.out; simp; omega
      · refine cells_of_block (hcur _) ?_
        rw [drop_set _ _ _ (by omega), HI.out, HCD.out, List.map_cons]
        congr 2
        exact congrArg Int.ofNat HDG.out
      · intro u' hu'
        obtain ⟨b, _, rfl⟩ := List.mem_map.1 hu'
        rfl
      · unfold maxLen; omega
      · omega
      · have := (hb1 (.int .u8 0)).size; simp at this ⊢; omega
      · intro v' w' hown' hgrow _
        have e : RS.hex u = RS.dig uu :: ds := by
          rw [← HHEX.out, RS.hexF_small _ _ (by omega)]; rfl
        have hbb := grown_of_below (hb1 _) hgrow
        have R : Hid (w'.ownsRow B 5 1 v' (n + (RS.hex u).length) (xs ++ (RS.hex u).map byteV)) := by
          show World.ownsRow _ _ _ _ _ _ _
          rw [e, List.length_cons, ← HK.out]
          exact hown'
        clear hown' hgrow hown hown1 hown2 hb1 hcur hsl e
        go_wp2_with fail
        go_ret2
        exact ⟨_, rfl, R.out, hbb⟩

set_option maxHeartbeats 1000000 in
set_option maxRecDepth 100000 in
theorem appendUint_any (B : Nat) (v : Value) (n : Nat) (xs : List Value) (u : Nat) (hu : u ≤ 4294967295) (hn : n ≤ 1000000) (w : World) (hTZ : TZ w) (hw8 : 7 < w.heap.size) (hB : B ≤ w.heap.size) (hown : w.ownsRow B 5 1 v n xs) :
    Calls Tryz.prog 207 #[v, .int .u64 u, .int .i64 16] w fun e w' => ∃ v', e = .returned v' ∧ w'.ownsRow B 5 1 v' (n + (RS.hex u).length) (xs ++ (RS.hex u).map byteV) ∧ w.grownBy w' v.ownBlock := by
  have HO : Hid (w.ownsRow B 5 1 v n xs) := hown
  clear hown
  go_enter Tryz.func207, Tryz.ntmps207
  go_wp2_with fail
  refine (bits_any B v n xs u hu hn _ hTZ hw8 hB HO.out).mono ?_
  rintro e w' ⟨v', rfl, hown', hg⟩
  have R : Hid (w'.ownsRow B 5 1 v' (n + (RS.hex u).length) (xs ++ (RS.hex u).map byteV) ∧ w.grownBy w' v.ownBlock) := ⟨hown', hg⟩
  clear hown' hg
  go_wp2_with fail
  go_ret
  exact ⟨_, rfl, R.out.1, R.out.2⟩

set_option maxHeartbeats 1000000 in
set_option maxRecDepth 100000 in
theorem appendIntI_any (B : Nat) (v : Value) (n : Nat) (xs : List Value) (u : Nat) (hu : u ≤ 4294967295) (hn : n ≤ 1000000) (w : World) (hTZ : TZ w) (hw8 : 7 < w.heap.size) (hB : B ≤ w.heap.size) (hown : w.ownsRow B 5 1 v n xs) :
    Calls Tryz.prog 179 #[v, .int .i64 u, .int .i64 16] w fun e w' => ∃ v', e = .returned v' ∧ w'.ownsRow B 5 1 v' (n + (RS.hex u).length) (xs ++ (RS.hex u).map byteV) ∧ w.grownBy w' v.ownBlock := by
  have HO : Hid (w.ownsRow B 5 1 v n xs) := hown
  have hwr : IntKind.u64.wrap (u : Int) = u := by simp [IntKind.wrap, IntKind.bits, IntKind.signed]; omega
  clear hown
  go_enter Tryz.func179, Tryz.ntmps179
  go_wp2_with fail
  refine (appendUint_any B v n xs u hu hn _ hTZ hw8 hB HO.out).mono ?_
  rintro e w' ⟨v', rfl, hown', hg⟩
  have R : Hid (w'.ownsRow B 5 1 v' (n + (RS.hex u).length) (xs ++ (RS.hex u).map byteV) ∧ w.grownBy w' v.ownBlock) := ⟨hown', hg⟩
  clear hown' hg
  go_wp2_with fail
  go_ret
  exact ⟨_, rfl, R.out.1, R.out.2⟩

set_option maxHeartbeats 1000000 in
set_option maxRecDepth 100000 in
theorem appendInt_any (B : Nat) (v : Value) (n : Nat) (xs : List Value) (u : Nat) (hu : u ≤ 4294967295) (hn : n ≤ 1000000) (w : World) (hTZ : TZ w) (hw8 : 7 < w.heap.size) (hB : B ≤ w.heap.size) (hown : w.ownsRow B 5 1 v n xs) :
    Calls Tryz.prog 126 #[v, .int .i64 u, .int .i64 16] w fun e w' => ∃ v', e = .returned v' ∧ w'.ownsRow B 5 1 v' (n + (RS.hex u).length) (xs ++ (RS.hex u).map byteV) ∧ w.grownBy w' v.ownBlock := by
  have HO : Hid (w.ownsRow B 5 1 v n xs) := hown
  clear hown
  go_enter Tryz.func126, Tryz.ntmps126
  go_wp2_with fail
  refine (appendIntI_any B v n xs u hu hn _ hTZ hw8 hB HO.out).mono ?_
  rintro e w' ⟨v', rfl, hown', hg⟩
  have R : Hid (w'.ownsRow B 5 1 v' (n + (RS.hex u).length) (xs ++ (RS.hex u).map byteV) ∧ w.grownBy w' v.ownBlock) := ⟨hown', hg⟩
  clear hown' hg
  go_wp2_with fail
  go_ret
  exact ⟨_, rfl, R.out.1, R.out.2⟩

end Go.Proofs.YtjbdlihlcoldlaaGreatDoor
