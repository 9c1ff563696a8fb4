/- The contracts of tokenAt's closures, and of rule.wrong. -/
import Derived.Test.YtjbdlihlcoldlaaGreatDoorG12
import Derived.Test.YtjbdlihlcoldlaaGreatDoorG13
import Derived.Laws.EntriesVeiled
import Derived.Laws.OwnMore
import Derived.Deep.QuietTactic
import Derived.Outline
namespace Go.Proofs.YtjbdlihlcoldlaaGreatDoor.Q
open Go.RowKit Go.Shelf

set_option maxHeartbeats 1000000 in
set_option maxRecDepth 100000 in
theorem letter_any (w : World) : Such 163 #[] RP.letter w := by
  intro c
  have e : RP.letter c = (decide (97 ≤ (c.toNat : Int)) && decide ((c.toNat : Int) ≤ 122)) := by
    unfold RP.letter
    congr 1 <;> (rw [decide_eq_decide]; omega)
  rw [e]
  generalize (c.toNat : Int) = z
  by_cases h : 97 ≤ z
  · go_enter Tryz.func163, Tryz.ntmps163
    go_wp2_with fail
    go_ret
    exact ⟨ret_bool (by simp [h]), rfl⟩
  · go_enter Tryz.func163, Tryz.ntmps163
    go_wp2_with fail
    go_ret
    exact ⟨ret_bool (by simp; omega), rfl⟩

set_option maxHeartbeats 1000000 in
set_option maxRecDepth 100000 in
theorem digit_any (w : World) : Such 164 #[] RP.digit w := by
  intro c
  have e : RP.digit c = (decide (48 ≤ (c.toNat : Int)) && decide ((c.toNat : Int) ≤ 57)) := by
    unfold RP.digit
    congr 1 <;> (rw [decide_eq_decide]; omega)
  rw [e]
  generalize (c.toNat : Int) = z
  by_cases h : 48 ≤ z
  · go_enter Tryz.func164, Tryz.ntmps164
    go_wp2_with fail
    go_ret
    exact ⟨ret_bool (by simp [h]), rfl⟩
  · go_enter Tryz.func164, Tryz.ntmps164
    go_wp2_with fail
    go_ret
    exact ⟨ret_bool (by simp; omega), rfl⟩

set_option maxHeartbeats 1000000 in
set_option maxRecDepth 100000 in
theorem either_any (w : World) (b5 b6 : Nat) (h5 : w.cell? ⟨b5, 0, none⟩ = some (.func (.func 163) #[] #[])) (h6 : w.cell? ⟨b6, 0, none⟩ = some (.func (.func 164) #[] #[])) :
    Such 165 #[.pointer (some ⟨b5, 0, none⟩), .pointer (some ⟨b6, 0, none⟩)] RP.either w := by
  intro c
  have e32 := eg32
  have e33 := eg33
  have hl := letter_any w c
  have hd := digit_any w c
  unfold RP.either
  cases hh : RP.letter c with
  | true =>
    rw [hh] at hl
    have HH : Hid (RP.letter c = true) := hh
    clear hh
    go_enter Tryz.func165, Tryz.ntmps165
    go_wp2_with fail
    refine hl.mono ?_
    rintro e w' ⟨rfl, rfl⟩
    go_wp2_with fail
    go_ret
    exact ⟨ret_bool (by simp), rfl⟩
  | false =>
    rw [hh] at hl
    generalize RP.digit c = dg at hd ⊢
    clear hh
    go_enter Tryz.func165, Tryz.ntmps165
    go_wp2_with fail
    refine hl.mono ?_
    rintro e w' ⟨rfl, rfl⟩
    go_wp2_with fail
    refine hd.mono ?_
    rintro e w' ⟨rfl, rfl⟩
    go_wp2_with fail
    go_ret
    exact ⟨ret_bool (by simp), rfl⟩

/-- A token as a value. -/
def tokV (k n : Nat) (x : ByteArray) : Value := .agg #[.int .i64 k, .int .i64 n, .string x]

set_option maxHeartbeats 1000000 in
set_option maxRecDepth 100000 in
theorem cut_any (k n m : Nat) (s : ByteArray) (bs ba : Nat) (W : World) (hbs : bs < W.heap.size) (hba : ba < W.heap.size) (_hs : s.size ≤ 1000000) (h1 : n ≤ m) (h2 : m ≤ s.size) (cs : W.cell? ⟨bs, 0, none⟩ = some (.string s)) (ca : W.cell? ⟨ba, 0, none⟩ = some (.int .i64 n)) :
    Calls Tryz.prog 166 (#[.int .i64 k, .int .i64 m] ++ #[.pointer (some ⟨ba, 0, none⟩), .pointer (some ⟨bs, 0, none⟩)]) W fun e w' => e = .returned (tokV k n (s.extract n m)) ∧ Below W.heap.size W w' := by
  have cs' := fun o => (World.cell?_of_block (w := W) (w' := W.alloc o) (a := ⟨bs, 0, none⟩) (heap_alloc_old W o hbs)).trans cs
  have ca' := fun o => (World.cell?_of_block (w := W) (w' := W.alloc o) (a := ⟨ba, 0, none⟩) (heap_alloc_old W o hba)).trans ca
  have hn0 : (0 : Int) ≤ (n : Int) := by omega
  have hnm : (n : Int) ≤ (m : Int) := by omega
  have hms : (m : Int) ≤ (s.size : Int) := by omega
  clear cs ca
  go_enter Tryz.func166, Tryz.ntmps166
  go_wp2
  go_region
  all_goals go_wp2
  all_goals
    refine bodyPost_ret (v := tokV k n (s.extract n m)) (by simp [results, Tryz.results166, go_sem, tokV]) rfl ⟨rfl, ?_⟩
    exact ((Below.refl _ W).alloc (Nat.le_refl _) _).drew

set_option maxHeartbeats 1000000 in
set_option maxRecDepth 100000 in
theorem wrong_any (e n : Int) (w : World) : Calls Tryz.prog 108 #[.int .i64 e, .int .i64 n] w fun r w' => r = .returned (.pointer (some ⟨w.heap.size, 0, none⟩)) ∧ w' = w.alloc (.cells #[.int .i64 e, .int .i64 n] 98) := by
  go_enter Tryz.func108, Tryz.ntmps108
  go_wp2_with fail
  go_ret
  exact ⟨rfl, rfl⟩

end Go.Proofs.YtjbdlihlcoldlaaGreatDoor.Q
