/- strconv.FormatInt at base 16, of numbers that are not below 0. -/
import Derived.Test.YtefcjoomongcmaaGreatDoorSPrint
namespace Go.Proofs.YtefcjoomongcmaaGreatDoor
open Go.RowKit

theorem ret_sl {a b : ByteArray} (h : a = b) : Ending.returned (.tuple #[.slice none 0 0, .string a]) = .returned (.tuple #[.slice none 0 0, .string b]) := by rw [h]

theorem conv_at {w : World} {g i : Nat} {l : List Nat} (cap : Nat) (hl : ∀ b ∈ l, b < 256) (h : ∀ j u, (l.map byteV)[j]? = some u → w.cell? ((⟨g, i, none⟩ : Addr).add j) = some u) :
    (convert 66 9 (.slice (some ⟨g, i, none⟩) l.length cap)).run Tryz.prog w = .ok (.string (bytesOf l)) w := by
  rw [byteV_U l hl] at h
  have e : l.length = (l.map UInt8.ofNat).length := by simp
  rw [e]
  refine run_convert_bytes_back (P := Tryz.prog) w 66 9 5 ⟨g, i, none⟩ cap (l.map UInt8.ofNat) Tryz.underlying66 Tryz.underlying5 Tryz.underlying9 fun j hj => ?_
  have := h j (byteU (l.map UInt8.ofNat)[j]) (by rw [List.getElem?_map, List.getElem?_eq_getElem hj]; rfl)
  exact this

set_option maxHeartbeats 1000000 in
set_option maxRecDepth 100000 in
theorem bitsS_any (u : Nat) (hu : u ≤ 4294967295) (w : World) (hTZ : TZ w) (hw8 : 11 < w.heap.size) :
    Calls Tryz.prog 107 #[.slice none 0 0, .int .u64 u, .int .i64 16, .bool false, .bool false] w fun e w' => e = .returned (.tuple #[.slice none 0 0, .string (bytesOf (RS.hex u))]) ∧ Below w.heap.size w w' := by
  have hz : Tryz.zeroCells171.size = 65 := by kernel_rfl
  obtain ⟨W0, hW0⟩ : ∃ W0, W0 = w.alloc (Obj.cells Tryz.zeroCells171 171) := ⟨_, rfl⟩
  have hblk : W0.heap[w.heap.size]? = some (.cells Tryz.zeroCells171 171) := by rw [hW0]; exact heap_alloc_new _ _
  have hb0 : Below w.heap.size w W0 := by rw [hW0]; exact (Below.refl _ w).alloc (Nat.le_refl _) _
  have hT0 : TZ W0 := hTZ.below hb0 hw8
  have HW0 : Hid (W0 = w.alloc (Obj.cells Tryz.zeroCells171 171)) := hW0
  clear hW0
  go_enter Tryz.func107, Tryz.ntmps107
  go_wp2_with fail
  rw [← HW0.out]
  refine (pow2_16 _).mono ?_
  rintro e w' ⟨rfl, rfl⟩
  go_wp2_with fail
  refine (tz_16 _ hT0).mono ?_
  rintro e w2 ⟨rfl, rfl⟩
  go_wp2_with fail
  go_loopw [1, 13] (fun x i wr => ∃ (uu d : Nat) (cur : Array Value) (ds : List Nat), x = .int .u64 uu ∧ i = .int .i64 ((65 - d : Nat) : Int) ∧ ds.length = d ∧ d ≤ 8 ∧ uu ≤ 4294967295 / 16 ^ d ∧ RS.hexF (16 - d) uu ++ ds = RS.hex u ∧ wr.heap[w.heap.size]? = some (.cells cur 171) ∧ cur.size = 65 ∧ cur.toList.drop (65 - d) = ds.map byteV ∧ Below w.heap.size w wr) (fun x _ _ => (intOf x).toNat)
  case atStart => exact ⟨u, 0, _, [], rfl, rfl, rfl, by omega, by simpa using hu, by simp [RS.hex], hblk, hz, by simp [hz], hb0⟩
  case round =>
    obtain ⟨uu, d, cur, ds, rfl, rfl, hdl, hd8, hlim, hhex, hcb, hcs, hcd, hnx⟩ := hrel
    have HHEX : Hid (RS.hexF (16 - d) uu ++ ds = RS.hex u) := hhex
    have HCD : Hid (cur.toList.drop (65 - d) = ds.map byteV) := hcd
    have HCB : Hid (wr.heap[w.heap.size]? = some (.cells cur 171)) := hcb
    clear hhex hcd hcb
    obtain ⟨i, hi⟩ : ∃ i, i + 1 = 65 - d := ⟨64 - d, by omega⟩
    rw [← hi]
    have hi1 : 56 ≤ i := by omega
    have hi2 : i ≤ 64 := by omega
    have HI : Hid (i + 1 = 65 - d) := hi
    have hc0 : wr.cell? ⟨w.heap.size, i, none⟩ = some cur[i] := by simp [World.cell?, HCB.out, show i < cur.size by omega]
    have hf0 : wr.frozen? ⟨w.heap.size, i, none⟩ = false := by simp [World.frozen?, HCB.out]
    generalize cur[i] = old at hc0
    clear hi
    by_cases h16 : 16 ≤ uu
    · have hand : bits .and .u64 (uu : Int) 15 = ((uu % 16 : Nat) : Int) := u64_and15 uu (by have := Nat.div_le_self 4294967295 (16 ^ d); omega)
      obtain ⟨r, hr⟩ : ∃ r, r = uu % 16 := ⟨_, rfl⟩
      rw [← hr] at hand
      have hr1 : r < 16 := by omega
      have HRR : Hid (r = uu % 16) := hr
      clear hr
      have hdg := dig_at r hr1 (by show r < 36; omega)
      have HDG : Hid ((digStr[r]'(by show r < 36; omega)).toNat = RS.dig r) := hdg
      clear hdg
      have hlim2 := lim_next h16 hlim
      go_wp2
      case roundEnd =>
        refine ⟨⟨uu / 16, d + 1, _, RS.dig r :: ds, by go_num, by have := HI.out; congr 2; omega, by simp [hdl], by omega, hlim2.2, ?_, heap_setCell_same wr w.heap.size i cur 171 _ HCB.out, by simpa using hcs, ?_, hnx.setCell (p := ⟨w.heap.size, i, none⟩) (Nat.le_refl _) _⟩, by simp [intOf]; omega⟩
        · rw [← HHEX.out, show 16 - d = (16 - (d + 1)) + 1 by omega, RS.hexF_step _ _ (by omega), HRR.out, List.append_assoc]
          rfl
        · have e : 65 - (d + 1) = i := by have := HI.out; omega
          rw [e, drop_set _ _ _ (by omega), HI.out, HCD.out, List.map_cons]
          congr 2
          exact congrArg Int.ofNat HDG.out
    · have hdg := dig_at uu (by omega) (by show uu < 36; omega)
      have HDG : Hid ((digStr[uu]'(by show uu < 36; omega)).toNat = RS.dig uu) := hdg
      have hdgi : ((digStr[uu]'(by show uu < 36; omega)).toNat : Int) = (RS.dig uu : Int) := by rw [hdg]
      clear hdg
      have hu36 : (uu : Int) < 36 := by omega
      have hb1 := fun x => hnx.setCell (p := ⟨w.heap.size, i, none⟩) (Nat.le_refl _) x
      have hcur := fun x => heap_setCell_same wr w.heap.size i cur 171 x HCB.out
      have hsl := slice65 w.heap.size i (by omega)
      have e65 : 65 - i = (RS.dig uu :: ds).length := by have := HI.out; simp; omega
      rw [e65] at hsl
      have e : RS.hex u = RS.dig uu :: ds := by
        rw [← HHEX.out, RS.hexF_small _ _ (by omega)]; rfl
      have hcv : ∀ x, x = byteV (RS.dig uu) → (convert 66 9 (.slice (some ⟨w.heap.size, i, none⟩) (RS.dig uu :: ds).length (RS.dig uu :: ds).length)).run Tryz.prog (wr.setCell ⟨w.heap.size, i, none⟩ x) = .ok (.string (bytesOf (RS.dig uu :: ds))) (wr.setCell ⟨w.heap.size, i, none⟩ x) := by
        rintro x rfl
        refine conv_at _ (fun b hb => ?_) ?_
        · have := RS.hexF_lt 16 u b (by show b ∈ RS.hex u; rw [e]; exact hb)
          omega
        · refine cells_of_block (hcur _) ?_
          rw [drop_set _ _ _ (by omega), HI.out, HCD.out, List.map_cons]
      rw [← e] at hsl hcv
      obtain ⟨k, hk⟩ : ∃ k, k = (RS.hex u).length := ⟨_, rfl⟩
      obtain ⟨S, hS⟩ : ∃ S, S = bytesOf (RS.hex u) := ⟨_, rfl⟩
      have HSS : Hid (S = bytesOf (RS.hex u)) := hS
      rw [← hk] at hsl hcv
      rw [← hS] at hcv
      have hcv' := hcv _ (show Value.int .u8 ((digStr[uu]'(by show uu < 36; omega)).toNat : Int) = byteV (RS.dig uu) from by rw [hdgi]; rfl)
      clear hk e65 hdl e hS hcv hdgi
      go_wp2_with fail
      erw [hcv']
      go_wp2_with fail
      go_ret2
      exact ⟨ret_sl HSS.out, hb1 _⟩

set_option maxHeartbeats 1000000 in
set_option maxRecDepth 100000 in
theorem formatIntI_any (u : Nat) (hu : u ≤ 4294967295) (w : World) (hTZ : TZ w) (hw8 : 11 < w.heap.size) :
    Calls Tryz.prog 74 #[.int .i64 u, .int .i64 16] w fun e w' => e = .returned (.string (bytesOf (RS.hex u))) ∧ Below w.heap.size w w' := by
  have hwr : IntKind.u64.wrap (u : Int) = u := by simp [IntKind.wrap, IntKind.bits, IntKind.signed]; omega
  go_enter Tryz.func74, Tryz.ntmps74
  go_wp2_with fail
  refine (bitsS_any u hu _ hTZ hw8).mono ?_
  rintro e w' ⟨rfl, hb⟩
  go_wp2_with fail
  go_ret
  exact ⟨rfl, hb⟩

set_option maxHeartbeats 1000000 in
set_option maxRecDepth 100000 in
theorem formatInt_any (u : Nat) (hu : u ≤ 4294967295) (w : World) (hTZ : TZ w) (hw8 : 11 < w.heap.size) :
    Calls Tryz.prog 49 #[.int .i64 u, .int .i64 16] w fun e w' => e = .returned (.string (bytesOf (RS.hex u))) ∧ Below w.heap.size w w' := by
  go_enter Tryz.func49, Tryz.ntmps49
  go_wp2_with fail
  refine (formatIntI_any u hu _ hTZ hw8).mono ?_
  rintro e w' ⟨rfl, hb⟩
  go_wp2_with fail
  go_ret
  exact ⟨rfl, hb⟩

end Go.Proofs.YtefcjoomongcmaaGreatDoor
