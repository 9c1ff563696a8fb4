/- The contracts of the document's own answer: bytesOf whole, Encode. -/
import Derived.Test.YtneemepjpeohbaaDoorRefB
namespace Go.Proofs.YtneemepjpeohbaaDoor
open Go.RowKit

/-- What the document's own answer writes a number as. -/
def refB (p : Int) : ByteArray := if U8.isPt p then ⟨(U8.enc p.toNat).toArray⟩ else ⟨#[]⟩

theorem refB_pt {p : Nat} (h : U8.isPt p = true) : refB p = ⟨(U8.enc p).toArray⟩ := by simp [refB, h]
theorem refB_no {p : Int} (h : U8.isPt p = false) : refB p = ⟨#[]⟩ := by simp [refB, h]

theorem bytesOf_any (p : Int) (w : World) :
    Calls Tryd.prog 19 #[.int .i64 p] w fun e w' => e = .returned (.string (refB p)) ∧ Below w.heap.size w w' := by
  cases hp : U8.isPt p with
  | false =>
    rw [refB_no hp]
    have h : ¬ (0 ≤ p ∧ p ≤ 1114111 ∧ (p < 55296 ∨ 57343 < p)) := by rw [← U8.isPt_iff, hp]; simp
    by_cases h1 : p < 0 ∨ 1114111 < p
    · exact bytes_none1 p h1 w
    · exact bytes_none2 p (by omega) (by omega) w
  | true =>
    have h := (U8.isPt_iff p).1 hp
    obtain ⟨q, rfl⟩ := Int.eq_ofNat_of_zero_le h.1
    have hin : (decide (55296 ≤ (q : Int)) && decide ((q : Int) ≤ 57343)) = false := by simp; omega
    rw [refB_pt hp]
    by_cases g1 : q < 128
    · have e : (U8.enc q).toArray = #[UInt8.ofNat q] := by simp [U8.enc, g1]
      rw [e]
      exact bytes_1 q (by omega) (by omega) hin w _ (byteV_of _ (by omega))
    by_cases g2 : q < 2048
    · have e : (U8.enc q).toArray = #[UInt8.ofNat (192 + q / 64), UInt8.ofNat (128 + q % 64)] := by simp [U8.enc, g1, g2]
      rw [e]
      exact bytes_2 q (by omega) (by omega) hin w _ _ ((byteV_of _ (by omega)).trans (by simp)) ((byteV_of _ (by omega)).trans (by simp))
    by_cases g3 : q < 65536
    · have e : (U8.enc q).toArray = #[UInt8.ofNat (224 + q / 4096), UInt8.ofNat (128 + q / 64 % 64), UInt8.ofNat (128 + q % 64)] := by simp [U8.enc, g1, g2, g3]
      rw [e]
      exact bytes_3 q (by omega) (by omega) hin w _ _ _ ((byteV_of _ (by omega)).trans (by simp)) ((byteV_of _ (by omega)).trans (by simp)) ((byteV_of _ (by omega)).trans (by simp))
    · have e : (U8.enc q).toArray = #[UInt8.ofNat (240 + q / 262144), UInt8.ofNat (128 + q / 4096 % 64), UInt8.ofNat (128 + q / 64 % 64), UInt8.ofNat (128 + q % 64)] := by simp [U8.enc, g1, g2, g3]
      rw [e]
      exact bytes_4 q (by omega) (by omega) hin w _ _ _ _ ((byteV_of _ (by omega)).trans (by simp)) ((byteV_of _ (by omega)).trans (by simp)) ((byteV_of _ (by omega)).trans (by simp)) ((byteV_of _ (by omega)).trans (by simp))

theorem cat_arr (a b : List UInt8) : ((⟨a.toArray⟩ : ByteArray) ++ (⟨b.toArray⟩ : ByteArray)) = ⟨(a ++ b).toArray⟩ := by
  apply ByteArray.ext
  simp [ByteArray.data_append]

/-- The document's answer's own value of no fault. -/
def FI (w : World) : Prop := w.cell? ⟨0, 0, none⟩ = some (.int .i64 0) ∧ w.cell? ⟨0, 1, none⟩ = some (.int .i64 (-1))
theorem FI.below {w w' : World} {B : Nat} (h : FI w) (hb : Below B w w') (hB : 0 < B) : FI w' := ⟨(hb.cell (by exact hB)).trans h.1, (hb.cell (by exact hB)).trans h.2⟩

set_option maxHeartbeats 1000000 in
set_option maxRecDepth 100000 in
theorem refEnc_some (b off cap : Nat) (zs : List Nat) (hpt : ∀ p ∈ zs, U8.isPt (p : Nat) = true) (hlen : zs.length ≤ 2000) (w : World) (hF : FI w) (hB : 1 < w.heap.size) (hb : b < w.heap.size)
    (hc : ∀ j (h : j < zs.length), w.cell? ⟨b, off + j, none⟩ = some (.int .i64 (zs[j] : Nat))) :
    Calls Tryd.prog 8 #[.slice (some ⟨b, off, none⟩) zs.length cap] w fun e w' => e = .returned (.tuple #[.string ⟨(U8.encs zs).toArray⟩, .agg #[.int .i64 0, .int .i64 (-1)]]) ∧ Below w.heap.size w w' := by
  have HPT : Hid (∀ p ∈ zs, U8.isPt (p : Nat) = true) := hpt
  clear hpt
  have HC : Hid (∀ j (h : j < zs.length), w.cell? ⟨b, off + j, none⟩ = some (.int .i64 (zs[j] : Nat))) := hc
  clear hc
  have hb0 : Below w.heap.size w (w.alloc (.cells #[.int .i64 0, .int .i64 0] 29)) := (Below.refl _ _).alloc (Nat.le_refl _) _
  have HB0 : Hid _ := hb0
  clear hb0
  go_enter Tryd.func8, Tryd.ntmps8
  go_wp2
  go_loopw [4, 10] (fun v i wr => ∃ k : Nat, k ≤ zs.length ∧ i = .int .i64 k ∧ v = .string ⟨(U8.encs (zs.take k)).toArray⟩ ∧ Below (w.heap.size + 1) (w.alloc (.cells #[.int .i64 0, .int .i64 0] 29)) wr)
    (fun _ i _ => zs.length - (intOf i).toNat)
  case atStart => exact ⟨0, Nat.zero_le _, rfl, rfl, Below.refl _ _⟩
  case round =>
    obtain ⟨k, hk, rfl, rfl, hnx⟩ := hrel
    have hnx' : Below w.heap.size w wr := HB0.out.trans (hnx.mono (by omega))
    by_cases hlt : k < zs.length
    · obtain ⟨p, hp⟩ : ∃ p, p = zs[k] := ⟨_, rfl⟩
      have hcx : wr.cell? ⟨b, off + k, none⟩ = some (.int .i64 p) := by rw [hp]; exact (hnx'.cell (by exact hb)).trans (HC.out k hlt)
      have HP : Hid (p = zs[k]) := hp
      have hip : U8.isPt p = true := by rw [hp]; exact HPT.out _ (List.getElem_mem hlt)
      clear hp
      have hne : (U8.enc p).isEmpty = false := by have := U8.enc_ne p; simpa using this
      have hel := encs_le (zs.take k)
      have htl : (zs.take k).length ≤ k := List.length_take_le _ _
      have hen : (U8.enc p).length ≤ 4 := by rw [U8.enc_length]; exact (U8.lenOf_pos p).2
      go_wp2_with fail
      refine (bytesOf_any _ _).mono ?_
      rintro e w1 ⟨rfl, hb1⟩
      rw [refB_pt hip]
      have hb2 : Below (w.heap.size + 1) (w.alloc (.cells #[.int .i64 0, .int .i64 0] 29)) w1 := hnx.trans (hb1.mono (by have := hnx.size; simpa using this))
      clear hb1 hnx hnx'
      go_wp2_with fail
      go_roundw
      case rel => refine ⟨k + 1, by omega, by go_num, ?_, hb2⟩; rw [encs_snoc zs k hlt, ← HP.out, cat_arr]
      case measure => simp [intOf]; omega
    · obtain rfl : k = zs.length := by omega
      have hF2 := hF.below hnx' (by omega)
      obtain ⟨f0, f1⟩ := hF2
      have r0 : wr.cell? ⟨w.heap.size, 0, none⟩ = some (.int .i64 0) := by rw [hnx.cell (by simp)]; simp
      have r1 : wr.cell? ⟨w.heap.size, 1, none⟩ = some (.int .i64 0) := by rw [hnx.cell (by simp)]; simp
      have z0 : wr.frozen? ⟨w.heap.size, 0, none⟩ = false := by rw [hnx.frozen (by simp)]; simp
      have z1 : wr.frozen? ⟨w.heap.size, 1, none⟩ = false := by rw [hnx.frozen (by simp)]; simp
      go_wp2_with fail
      go_region
      all_goals go_wp2
      rw [List.take_length]
      refine bodyPost_ret (v := .tuple #[.string ⟨(U8.encs zs).toArray⟩, .agg #[.int .i64 0, .int .i64 (-1)]]) (by simp [results, Tryd.results8, go_sem, r0, r1]) rfl ⟨rfl, ?_⟩
      exact ((hnx'.drew).setCell (Nat.le_refl _) _).setCell (Nat.le_refl _) _

set_option maxHeartbeats 1000000 in
set_option maxRecDepth 100000 in
theorem refEnc_nil (ao : Option Addr) (cap : Nat) (w : World) (hF : FI w) (hB : 1 < w.heap.size) :
    Calls Tryd.prog 8 #[.slice ao 0 cap] w fun e w' => e = .returned (.tuple #[.string ⟨#[]⟩, .agg #[.int .i64 0, .int .i64 (-1)]]) ∧ Below w.heap.size w w' := by
  have hb0 : Below w.heap.size w (w.alloc (.cells #[.int .i64 0, .int .i64 0] 29)) := (Below.refl _ _).alloc (Nat.le_refl _) _
  have hF2 := hF.below hb0 (by omega)
  obtain ⟨f0, f1⟩ := hF2
  have HB0 : Hid _ := hb0
  clear hb0
  go_enter Tryd.func8, Tryd.ntmps8
  go_wp2_with fail
  refine wp_loop_rounds 1 ?_
  rw [rounds_succ]
  go_wp2_with fail
  go_region
  all_goals go_wp2
  refine bodyPost_ret (v := .tuple #[.string ⟨#[]⟩, .agg #[.int .i64 0, .int .i64 (-1)]]) (by simp [results, Tryd.results8, go_sem]) rfl ⟨rfl, ?_⟩
  exact ((Below.refl _ _).alloc (Nat.le_refl _) _).drew

set_option maxHeartbeats 1000000 in
set_option maxRecDepth 100000 in
theorem refEnc_bad (b off cap : Nat) (zs : List Int) (n : Nat) (hn : n < zs.length) (hbad : U8.isPt zs[n] = false) (hgood : ∀ j (h : j < n), U8.isPt (zs[j]'(by omega)) = true) (hlen : zs.length ≤ 2000) (w : World) (_hB : 1 < w.heap.size) (hb : b < w.heap.size)
    (hc : ∀ j (h : j < zs.length), w.cell? ⟨b, off + j, none⟩ = some (.int .i64 zs[j])) :
    Calls Tryd.prog 8 #[.slice (some ⟨b, off, none⟩) zs.length cap] w fun e w' => e = .returned (.tuple #[.string ⟨#[]⟩, .agg #[.int .i64 1, .int .i64 n]]) ∧ Below w.heap.size w w' := by
  have HBAD : Hid (U8.isPt zs[n] = false) := hbad
  have HGOOD : Hid (∀ j (h : j < n), U8.isPt (zs[j]'(by omega)) = true) := hgood
  have HC : Hid (∀ j (h : j < zs.length), w.cell? ⟨b, off + j, none⟩ = some (.int .i64 zs[j])) := hc
  clear hc hbad hgood
  have hb0 : Below w.heap.size w (w.alloc (.cells #[.int .i64 0, .int .i64 0] 29)) := (Below.refl _ _).alloc (Nat.le_refl _) _
  have HB0 : Hid _ := hb0
  clear hb0
  go_enter Tryd.func8, Tryd.ntmps8
  go_wp2
  go_loopw [4, 10] (fun v i wr => ∃ (k : Nat) (t : List UInt8), k ≤ n ∧ i = .int .i64 k ∧ v = .string ⟨t.toArray⟩ ∧ t.length ≤ 4 * k ∧ Below (w.heap.size + 1) (w.alloc (.cells #[.int .i64 0, .int .i64 0] 29)) wr)
    (fun _ i _ => zs.length - (intOf i).toNat)
  case atStart => exact ⟨0, [], Nat.zero_le _, rfl, rfl, Nat.zero_le _, Below.refl _ _⟩
  case round =>
    obtain ⟨k, t, hk, rfl, rfl, ht, hnx⟩ := hrel
    have hnx' : Below w.heap.size w wr := HB0.out.trans (hnx.mono (by omega))
    have hkl : k < zs.length := by omega
    obtain ⟨p, hp⟩ : ∃ p, p = zs[k] := ⟨_, rfl⟩
    have hcx : wr.cell? ⟨b, off + k, none⟩ = some (.int .i64 p) := by rw [hp]; exact (hnx'.cell (by exact hb)).trans (HC.out k hkl)
    have HP : Hid (p = zs[k]) := hp
    clear hp
    by_cases hlt : k < n
    · have hip : U8.isPt p = true := by rw [HP.out]; exact HGOOD.out k hlt
      obtain ⟨q, rfl⟩ := Int.eq_ofNat_of_zero_le ((U8.isPt_iff p).1 hip).1
      have hne : (U8.enc q).isEmpty = false := by have := U8.enc_ne q; simpa using this
      have hen : (U8.enc q).length ≤ 4 := by rw [U8.enc_length]; exact (U8.lenOf_pos q).2
      go_wp2_with fail
      refine (bytesOf_any _ _).mono ?_
      rintro e w1 ⟨rfl, hb1⟩
      rw [refB_pt hip]
      have hb2 : Below (w.heap.size + 1) (w.alloc (.cells #[.int .i64 0, .int .i64 0] 29)) w1 := hnx.trans (hb1.mono (by have := hnx.size; simpa using this))
      clear hb1 hnx hnx'
      go_wp2_with fail
      go_roundw
      case rel => exact ⟨k + 1, t ++ U8.enc q, by omega, by go_num, by rw [cat_arr], by rw [List.length_append]; omega, hb2⟩
      case measure => simp [intOf]; omega
    · obtain rfl : k = n := by omega
      have hip : U8.isPt p = false := by rw [HP.out]; exact HBAD.out
      go_wp2_with fail
      refine (bytesOf_any _ _).mono ?_
      rintro e w1 ⟨rfl, hb1⟩
      rw [refB_no hip]
      have hb2 : Below (w.heap.size + 1) (w.alloc (.cells #[.int .i64 0, .int .i64 0] 29)) w1 := hnx.trans (hb1.mono (by have := hnx.size; simpa using this))
      have hb3 : Below w.heap.size w w1 := HB0.out.trans (hb2.mono (by omega))
      have r0 : w1.cell? ⟨w.heap.size, 0, none⟩ = some (.int .i64 0) := by rw [hb2.cell (by simp)]; simp
      have r1 : w1.cell? ⟨w.heap.size, 1, none⟩ = some (.int .i64 0) := by rw [hb2.cell (by simp)]; simp
      have z0 : w1.frozen? ⟨w.heap.size, 0, none⟩ = false := by rw [hb2.frozen (by simp)]; simp
      have z1 : w1.frozen? ⟨w.heap.size, 1, none⟩ = false := by rw [hb2.frozen (by simp)]; simp
      clear hb1 hnx hnx' hb2
      go_wp2_with fail
      refine bodyPost_ret (v := .tuple #[.string ⟨#[]⟩, .agg #[.int .i64 1, .int .i64 k]]) (by simp [results, Tryd.results8, go_sem, r0, r1]) rfl ⟨rfl, ?_⟩
      exact (hb3.setCell (Nat.le_refl _) _).setCell (Nat.le_refl _) _

end Go.Proofs.YtneemepjpeohbaaDoor
