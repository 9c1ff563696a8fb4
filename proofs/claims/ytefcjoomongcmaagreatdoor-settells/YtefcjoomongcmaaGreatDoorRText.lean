/- The document's SetText, at whatever right set. -/
import Derived.Test.YtefcjoomongcmaaGreatDoorRFmt
import Derived.Test.YtefcjoomongcmaaGreatDoorSHas
namespace Go.Proofs.YtefcjoomongcmaaGreatDoor
open Go.RowKit

theorem bytesOf_app (a b : List Nat) : bytesOf (a ++ b) = bytesOf a ++ bytesOf b := by
  apply ByteArray.ext
  simp [bytesOf, ByteArray.data_append]

theorem bytesOf_len (a : List Nat) : (bytesOf a).size = a.length := by simp [bytesOf, ByteArray.size]

theorem mid_step (s : List RS.Rg) (k : Nat) (h : k < s.length) : RS.midText 0 (s.take (k + 1)) = RS.midText 0 (s.take k) ++ (if 0 < k then [32] else []) ++ RS.rgText s[k] :=
  ((List.cons.inj (show 91 :: (RS.midText 0 (s.take k) ++ (if 0 < k then [32] else []) ++ RS.rgText s[k]) = 91 :: RS.midText 0 (s.take (k + 1)) from text_step s k h)).2).symm

theorem fmt_at (u : Nat) (hu : u ≤ 4294967295) (w : World) (hTZ : TZ w) (hw8 : 11 < w.heap.size) : ∃ X : ByteArray, X.size ≤ 17 ∧ X = bytesOf (RS.hex u) ∧
    Calls Tryz.prog 49 #[.int .i64 u, .int .i64 16] w fun e w' => e = .returned (.string X) ∧ Below w.heap.size w w' :=
  ⟨_, by rw [bytesOf_len]; exact (RS.hexF_length 16 u).2, rfl, formatInt_any u hu w hTZ hw8⟩

theorem ret_string {a b : ByteArray} (h : a = b) : Ending.returned (.string a) = .returned (.string b) := by rw [h]

theorem sz32 : (⟨#[32]⟩ : ByteArray).size = 1 := rfl
theorem sz45 : (⟨#[45]⟩ : ByteArray).size = 1 := rfl

theorem rgText_diff {p q : Nat} (h : ¬ q = p) : RS.rgText ((p : Int), (q : Int)) = RS.hex p ++ 45 :: RS.hex q := by
  unfold RS.rgText
  dsimp only
  rw [if_neg (by omega)]
  rfl

theorem tail1 (A : List Nat) (u : Nat) : bytesOf A ++ bytesOf (RS.hex u) = bytesOf (A ++ [] ++ RS.hex u) := by rw [List.append_nil, bytesOf_app]
theorem tail2 (A : List Nat) (u v : Nat) : bytesOf A ++ bytesOf (RS.hex u) ++ ((⟨#[45]⟩ : ByteArray) ++ bytesOf (RS.hex v)) = bytesOf (A ++ [] ++ (RS.hex u ++ 45 :: RS.hex v)) := by
  rw [List.append_nil, bytesOf_app, bytesOf_app, show bytesOf (45 :: RS.hex v) = bytesOf ([45] ++ RS.hex v) from rfl, bytesOf_app, ByteArray.append_assoc]; rfl
theorem tail3 (A : List Nat) (u : Nat) : bytesOf A ++ (⟨#[32]⟩ : ByteArray) ++ bytesOf (RS.hex u) = bytesOf (A ++ [32] ++ RS.hex u) := by rw [bytesOf_app, bytesOf_app]; rfl
theorem tail4 (A : List Nat) (u v : Nat) : bytesOf A ++ (⟨#[32]⟩ : ByteArray) ++ bytesOf (RS.hex u) ++ ((⟨#[45]⟩ : ByteArray) ++ bytesOf (RS.hex v)) = bytesOf (A ++ [32] ++ (RS.hex u ++ 45 :: RS.hex v)) := by
  rw [bytesOf_app, bytesOf_app, bytesOf_app, show bytesOf (45 :: RS.hex v) = bytesOf ([45] ++ RS.hex v) from rfl, bytesOf_app, ByteArray.append_assoc]; rfl

set_option maxHeartbeats 2000000 in
set_option maxRecDepth 100000 in
theorem rtext_any (v : Value) (s : List RS.Rg) (hlen : s.length ≤ 10000) (hr : RS.right s = true) (w : World) (hTZ : TZ w) (hw8 : 11 < w.heap.size) (hv : RgAt w.heap.size w v s) :
    Calls Tryz.prog 23 #[v] w fun e w' => e = .returned (.string (bytesOf (RS.setText s))) ∧ Below w.heap.size w w' := by
  obtain ⟨ao, cap, hve, _, hc⟩ := hv
  subst hve
  have HC : Hid (s ≠ [] → ∃ b off, ao = some ⟨b, off, none⟩ ∧ b < w.heap.size ∧ ∀ k (h : k < s.length), w.cell? ⟨b, off + k * 2, none⟩ = some (.int .i64 s[k].1) ∧ w.cell? ⟨b, off + k * 2 + 1, none⟩ = some (.int .i64 s[k].2)) := hc
  have HG : Hid (∀ k (h : k < s.length), 0 ≤ s[k].1 ∧ s[k].1 ≤ s[k].2 ∧ s[k].2 ≤ 1114111) := fun k h => by have := right_get (a := -2) hr k h; omega
  clear hc hr
  go_enter Tryz.func23, Tryz.ntmps23
  go_wp2
  go_loopw [3, 8] (fun t i wr => ∃ (k : Nat) (T : ByteArray), k ≤ s.length ∧ i = .int .i64 k ∧ t = .string T ∧ T.size ≤ 41 * k ∧ T = bytesOf (RS.midText 0 (s.take k)) ∧ Below w.heap.size w wr) (fun _ i _ => s.length - (intOf i).toNat)
  case atStart => exact ⟨0, _, Nat.zero_le _, rfl, rfl, Nat.le_refl _, rfl, Below.refl _ _⟩
  case round =>
    obtain ⟨k, T, hk, rfl, rfl, hTs, hTe, hnx⟩ := hrel
    have HTE : Hid (T = bytesOf (RS.midText 0 (s.take k))) := hTe
    clear hTe
    by_cases hlt : k < s.length
    · obtain ⟨b, off, hao, hb, hcc⟩ := HC.out (by rintro rfl; simp at hlt)
      subst hao
      obtain ⟨x0, x1⟩ := hcc k hlt
      replace x0 := (hnx.cell (p := ⟨b, off + k * 2, none⟩) (by exact hb)).trans x0
      replace x1 := (hnx.cell (p := ⟨b, off + k * 2 + 1, none⟩) (by exact hb)).trans x1
      have hgd := HG.out k hlt
      have hst := mid_step s k hlt
      clear hcc
      generalize s[k] = r at x0 x1 hgd hst
      obtain ⟨lo, hi⟩ := r
      dsimp only at x0 x1 hgd
      obtain ⟨p, rfl⟩ := Int.eq_ofNat_of_zero_le hgd.1
      obtain ⟨q, rfl⟩ := Int.eq_ofNat_of_zero_le (show 0 ≤ hi by omega)
      have hpq : p ≤ q ∧ q ≤ 1114111 := by omega
      have HST : Hid (RS.midText 0 (s.take (k + 1)) = RS.midText 0 (s.take k) ++ (if 0 < k then [32] else []) ++ RS.rgText ((p : Int), (q : Int))) := hst
      clear hgd hst
      have HB := hnx.alloc hnx.size (Obj.cells #[Value.int IntKind.i64 (p : Int), Value.int IntKind.i64 (q : Int)] 42)
      have hsz := hnx.size
      obtain ⟨X, hXs, hXe, hX⟩ := fmt_at p (by omega) _ (hTZ.below HB hw8) (by have := HB.size; omega)
      have HXE : Hid (X = bytesOf (RS.hex p)) := hXe
      clear hXe
      by_cases hk0 : 0 < k
      all_goals
        go_wp2_with fail
        refine hX.mono ?_
        rintro e w2 ⟨rfl, hb2⟩
        have c0 : w2.cell? ⟨wr.heap.size, 0, none⟩ = some (.int .i64 (p : Int)) := (hb2.cell (p := ⟨wr.heap.size, 0, none⟩) (by simp)).trans (by simp)
        have c1 : w2.cell? ⟨wr.heap.size, 1, none⟩ = some (.int .i64 (q : Int)) := (hb2.cell (p := ⟨wr.heap.size, 1, none⟩) (by simp)).trans (by simp)
        have HB2 : Below w.heap.size w w2 := HB.trans (hb2.mono (by simp; omega))
        clear hb2 hX x0 x1
        by_cases he : q = p
        · subst he
          go_wp2_with fail
          refine ⟨⟨k + 1, _, by omega, by go_num, rfl, ?_, ?_, HB2⟩, by simp [intOf]; omega⟩
          · simp [ByteArray.size_append, sz32]; omega
          · rw [HST.out, HTE.out, HXE.out]
            first
              | (rw [if_pos hk0, tail3]; simp [RS.rgText])
              | (rw [if_neg hk0, tail1]; simp [RS.rgText])
        · obtain ⟨Y, hYs, hYe, hY⟩ := fmt_at q (by omega) w2 (hTZ.below HB2 hw8) (by have := HB2.size; omega)
          have HYE : Hid (Y = bytesOf (RS.hex q)) := hYe
          clear hYe
          have hne : ((q : Int) == (p : Int)) = false := by simp; omega
          go_wp2_with fail
          refine hY.mono ?_
          rintro e w3 ⟨rfl, hb3⟩
          have HB3 : Below w.heap.size w w3 := HB2.trans (hb3.mono HB2.size)
          clear hb3 hY c0 c1
          go_wp2_with fail
          refine ⟨⟨k + 1, _, by omega, by go_num, rfl, ?_, ?_, HB3⟩, by simp [intOf]; omega⟩
          · simp [ByteArray.size_append, sz32, sz45]; omega
          · rw [HST.out, HTE.out, HXE.out, HYE.out]
            first
              | rw [if_pos hk0, tail4, rgText_diff he]
              | rw [if_neg hk0, tail2, rgText_diff he]
    · obtain rfl : k = s.length := by omega
      go_wp2_with fail
      go_ret
      refine ⟨ret_string ?_, hnx⟩
      rw [HTE.out, List.take_length]
      show bytesOf [91] ++ bytesOf (RS.midText 0 s) ++ bytesOf [93] = _
      rw [← bytesOf_app, ← bytesOf_app]
      rfl

end Go.Proofs.YtefcjoomongcmaaGreatDoor
