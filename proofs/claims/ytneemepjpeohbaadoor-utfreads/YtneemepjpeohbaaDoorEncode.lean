/- The contract of utf.Encode: the bytes of code points, where all are such. -/
import Derived.Test.YtneemepjpeohbaaDoorEnc
namespace Go.Proofs.YtneemepjpeohbaaDoor
open Go.RowKit

/-- A slice value holds these integers, in memory below B. -/
def IntsAt (B : Nat) (w : World) (v : Value) (zs : List Int) : Prop :=
  ∃ ao cap, v = .slice ao zs.length cap ∧ (zs ≠ [] → ∃ b off, ao = some ⟨b, off, none⟩ ∧ b < B ∧ ∀ j (h : j < zs.length), w.cell? ⟨b, off + j, none⟩ = some (.int .i64 zs[j]))

theorem conv_own {w : World} {B : Nat} {v : Value} {l : List UInt8} (h : w.ownsRow B 5 1 v l.length (l.map byteV)) :
    (convert 51 9 v).run Tryd.prog w = .ok (.string ⟨l.toArray⟩) w := by
  obtain ⟨h1, h2 | ⟨g, cap, cur, rfl, hg, hh, hn, hc, hs, ht⟩⟩ := h
  · obtain ⟨rfl, h0⟩ := h2
    obtain rfl : l = [] := List.length_eq_zero_iff.1 h0
    rw [run_convert_bytes_string w 51 9 5 none 0 0 Tryd.underlying51 Tryd.underlying5 Tryd.underlying9]
    rfl
  · refine run_convert_bytes_back (P := Tryd.prog) w 51 9 5 ⟨g, 0, none⟩ cap l Tryd.underlying51 Tryd.underlying5 Tryd.underlying9 fun j hj => ?_
    have := World.ownsRow.cells (w := w) (base := B) (e := 5) (size := 1) (v := .slice (some ⟨g, 0, none⟩) l.length cap) (n := l.length) (xs := l.map byteV) ⟨h1, Or.inr ⟨g, cap, cur, rfl, hg, hh, hn, hc, hs, ht⟩⟩ (g := g) rfl j (byteV l[j]) (by simp [hj])
    exact this

set_option maxHeartbeats 1000000 in
set_option maxRecDepth 100000 in
theorem encode_nil (ao : Option Addr) (cap : Nat) (w : World) :
    Calls Tryd.prog 9 #[.slice ao 0 cap] w fun e w' => e = .returned (.tuple #[.string ⟨#[]⟩, .nilIface]) ∧ w' = w := by
  have hcv : (convert 51 9 (.slice none 0 0)).run Tryd.prog w = .ok (.string ⟨#[]⟩) w := conv_own (l := []) (World.ownsRow_nil w 0 5 1)
  go_enter Tryd.func9, Tryd.ntmps9
  go_wp2_with fail
  refine wp_loop_rounds 1 ?_
  rw [rounds_succ]
  go_wp2_with fail
  go_ret2
  exact ⟨rfl, rfl⟩

theorem encs_snoc (zs : List Nat) (k : Nat) (h : k < zs.length) : U8.encs (zs.take (k + 1)) = U8.encs (zs.take k) ++ U8.enc zs[k] := by
  unfold U8.encs
  rw [List.take_succ_eq_append_getElem h, List.flatMap_append, List.flatMap_singleton]
theorem encs_le (zs : List Nat) : (U8.encs zs).length ≤ 4 * zs.length := by
  induction zs with
  | nil => simp [U8.encs]
  | cons p ps ih =>
    have e : U8.encs (p :: ps) = U8.enc p ++ U8.encs ps := rfl
    have := U8.lenOf_pos p
    rw [e, List.length_append, U8.enc_length, List.length_cons]
    omega

set_option maxHeartbeats 1000000 in
set_option maxRecDepth 100000 in
theorem encode_some (b off cap : Nat) (zs : List Nat) (hpt : ∀ p ∈ zs, U8.isPt (p : Nat) = true) (hlen : zs.length ≤ 2000) (w : World) (hL : LE w) (hB : 1 < w.heap.size) (hb : b < w.heap.size)
    (hc : ∀ j (h : j < zs.length), w.cell? ⟨b, off + j, none⟩ = some (.int .i64 (zs[j] : Nat))) :
    Calls Tryd.prog 9 #[.slice (some ⟨b, off, none⟩) zs.length cap] w fun e w' => e = .returned (.tuple #[.string ⟨(U8.encs zs).toArray⟩, .nilIface]) ∧ Below w.heap.size w w' := by
  have HPT : Hid (∀ p ∈ zs, U8.isPt (p : Nat) = true) := hpt
  clear hpt
  have HC : Hid (∀ j (h : j < zs.length), w.cell? ⟨b, off + j, none⟩ = some (.int .i64 (zs[j] : Nat))) := hc
  clear hc
  go_enter Tryd.func9, Tryd.ntmps9
  go_wp2
  go_loopw [4, 9] (fun v i wr => ∃ k : Nat, k ≤ zs.length ∧ i = .int .i64 k ∧ wr.ownsRow w.heap.size 5 1 v (U8.encs (zs.take k)).length ((U8.encs (zs.take k)).map byteV) ∧ Below w.heap.size w wr)
    (fun _ i _ => zs.length - (intOf i).toNat)
  case atStart => exact ⟨0, Nat.zero_le _, rfl, World.ownsRow_nil _ _ _ _, Below.refl _ _⟩
  case round =>
    obtain ⟨k, hk, rfl, hown, hnx⟩ := hrel
    by_cases hlt : k < zs.length
    · obtain ⟨p, hp⟩ : ∃ p, p = zs[k] := ⟨_, rfl⟩
      have hcx : wr.cell? ⟨b, off + k, none⟩ = some (.int .i64 p) := by rw [hp]; exact (hnx.cell (by exact hb)).trans (HC.out k hlt)
      have HP : Hid (p = zs[k]) := hp
      have hip : U8.isPt p = true := by rw [hp]; exact HPT.out _ (List.getElem_mem hlt)
      clear hp
      have hel := encs_le (zs.take k)
      have htl : (zs.take k).length ≤ k := List.length_take_le _ _
      go_wp2_with fail
      refine (isPoint_any _ _).mono ?_
      rintro e w' ⟨rfl, rfl⟩
      rw [hip]
      go_wp2_with fail
      refine (appendPoint_any w.heap.size _ _ _ p hip _ (hL.below hnx hB) hnx.size hown (by omega)).mono ?_
      rintro e w1 ⟨v', rfl, hown', hb1⟩
      have R : Hid (w1.ownsRow w.heap.size 5 1 v' (U8.encs (zs.take (k + 1))).length ((U8.encs (zs.take (k + 1))).map byteV)) := by
        show World.ownsRow _ _ _ _ _ _ _
        rw [encs_snoc zs k hlt, ← HP.out, List.length_append, U8.enc_length, List.map_append]
        exact hown'
      have hb2 : Below w.heap.size w w1 := hnx.trans hb1
      clear hown' hb1 hown
      go_wp2
      go_roundw
      case rel => exact ⟨k + 1, by omega, by go_num, R.out, hb2⟩
      case measure => simp [intOf]; omega
    · have hkl : k = zs.length := by omega
      subst hkl
      rw [List.take_length] at hown
      have hcv := conv_own hown
      go_wp2
      go_ret2
      exact ⟨rfl, hnx⟩

theorem encode_any (v : Value) (zs : List Nat) (hpt : ∀ p ∈ zs, U8.isPt (p : Nat) = true) (hlen : zs.length ≤ 2000) (w : World) (hL : LE w) (hB : 1 < w.heap.size)
    (hv : IntsAt w.heap.size w v (zs.map fun p : Nat => (p : Int))) :
    Calls Tryd.prog 9 #[v] w fun e w' => e = .returned (.tuple #[.string ⟨(U8.encs zs).toArray⟩, .nilIface]) ∧ Below w.heap.size w w' := by
  obtain ⟨ao, cap, rfl, h⟩ := hv
  have hlm : (zs.map fun p : Nat => (p : Int)).length = zs.length := List.length_map _
  rw [hlm]
  by_cases hz : zs = []
  · subst hz
    refine (encode_nil ao cap w).mono ?_
    rintro e w' ⟨rfl, rfl⟩
    exact ⟨rfl, Below.refl _ _⟩
  · obtain ⟨b, off, rfl, hb, hc⟩ := h (by simpa using hz)
    exact encode_some b off cap zs hpt hlen w hL hB hb (fun j hj => by have := hc j (by rw [hlm]; exact hj); simpa using this)

end Go.Proofs.YtneemepjpeohbaaDoor
