/- The contracts of isNumber, rightInst, all and Right. -/
import Derived.Test.YtddjppkpgflbjaaVmI
namespace Go.Proofs.Ytddjppkpgflbjaa
open Go.RowKit Go.Shelf

theorem num_any (x : Int) (n : Nat) (w : World) : Calls Try.prog 21 #[.int .i64 x, .int .i64 (n : Nat)] w fun e w' => e = .returned (.bool (VM.isNum x n)) ∧ w' = w := by
  have HN : Hid (VM.isNum x n = (decide (0 ≤ x) && decide (x < n))) := rfl
  go_enter Try.func21, Try.ntmps21
  go_wp2_with fail
  all_goals go_ret
  all_goals refine ⟨ret_bool ?_, rfl⟩
  all_goals rw [HN.out, Bool.eq_iff_iff]
  all_goals simp
  all_goals omega

set_option maxHeartbeats 2000000 in
set_option maxRecDepth 100000 in
theorem rightInst_any (x : VM.In) (n m : Nat) (w : World) :
    Calls Try.prog 15 #[.agg #[.int .i64 x.op, .int .i64 x.a, .int .i64 x.b], .int .i64 (n : Nat), .int .i64 (m : Nat)] w fun e w' => e = .returned (.bool (VM.rightIn n m x)) ∧ Below w.heap.size w w' := by
  obtain ⟨o, a, b⟩ := x
  dsimp only
  have HB : Hid (Below w.heap.size w (w.alloc (.cells #[.int .i64 o, .int .i64 a, .int .i64 b] 31))) := (Below.refl _ w).alloc (Nat.le_refl _) _
  by_cases h1 : o = 1
  · subst h1
    have C := num_any a m (w.alloc (.cells #[.int .i64 1, .int .i64 a, .int .i64 b] 31))
    have HR : Hid (VM.rightIn n m ⟨1, a, b⟩ = (VM.isNum a m && decide (b = 0))) := rfl
    generalize VM.isNum a m = q at C HR
    go_enter Try.func15, Try.ntmps15
    go_wp2_with fail
    refine C.mono ?_
    rintro e w' ⟨rfl, rfl⟩
    clear C
    cases q
    all_goals go_wp2_with fail
    all_goals go_ret
    all_goals refine ⟨ret_bool ?_, HB.out⟩
    all_goals rw [HR.out, Bool.eq_iff_iff]
    all_goals simp
  by_cases h2 : o = 2
  · subst h2
    have C := num_any a n (w.alloc (.cells #[.int .i64 2, .int .i64 a, .int .i64 b] 31))
    have C2 := num_any b n (w.alloc (.cells #[.int .i64 2, .int .i64 a, .int .i64 b] 31))
    have HR : Hid (VM.rightIn n m ⟨2, a, b⟩ = (VM.isNum a n && VM.isNum b n)) := rfl
    generalize VM.isNum a n = q at C HR
    generalize VM.isNum b n = q2 at C2 HR
    go_enter Try.func15, Try.ntmps15
    go_wp2_with fail
    refine C.mono ?_
    rintro e w' ⟨rfl, rfl⟩
    clear C
    cases q
    · clear C2
      go_wp2_with fail
      go_ret
      exact ⟨ret_bool (by rw [HR.out]; rfl), HB.out⟩
    · go_wp2_with fail
      refine C2.mono ?_
      rintro e w' ⟨rfl, rfl⟩
      clear C2
      go_wp2_with fail
      go_ret
      exact ⟨ret_bool (by rw [HR.out]; rfl), HB.out⟩
  by_cases h3 : o = 3
  · subst h3
    have C := num_any a n (w.alloc (.cells #[.int .i64 3, .int .i64 a, .int .i64 b] 31))
    have HR : Hid (VM.rightIn n m ⟨3, a, b⟩ = (VM.isNum a n && decide (b = 0))) := rfl
    generalize VM.isNum a n = q at C HR
    go_enter Try.func15, Try.ntmps15
    go_wp2_with fail
    refine C.mono ?_
    rintro e w' ⟨rfl, rfl⟩
    clear C
    cases q
    all_goals go_wp2_with fail
    all_goals go_ret
    all_goals refine ⟨ret_bool ?_, HB.out⟩
    all_goals rw [HR.out, Bool.eq_iff_iff]
    all_goals simp
  by_cases h4 : o = 4
  · subst h4
    have HR : Hid (VM.rightIn n m ⟨4, a, b⟩ = (decide (a = 0) && decide (b = 0))) := rfl
    by_cases ha : a = 0
    · subst ha
      go_enter Try.func15, Try.ntmps15
      go_wp2_with fail
      go_ret
      refine ⟨ret_bool ?_, HB.out⟩
      rw [HR.out, Bool.eq_iff_iff]
      simp
    · have ha' : (a == 0) = false := by simp [ha]
      go_enter Try.func15, Try.ntmps15
      go_wp2_with fail
      go_ret
      refine ⟨ret_bool ?_, HB.out⟩
      rw [HR.out]
      simp [ha]
  by_cases h5 : o = 5
  · subst h5
    have HR : Hid (VM.rightIn n m ⟨5, a, b⟩ = (decide (a = 0) && decide (b = 0))) := rfl
    by_cases ha : a = 0
    · subst ha
      go_enter Try.func15, Try.ntmps15
      go_wp2_with fail
      go_ret
      refine ⟨ret_bool ?_, HB.out⟩
      rw [HR.out, Bool.eq_iff_iff]
      simp
    · have ha' : (a == 0) = false := by simp [ha]
      go_enter Try.func15, Try.ntmps15
      go_wp2_with fail
      go_ret
      refine ⟨ret_bool ?_, HB.out⟩
      rw [HR.out]
      simp [ha]
  · have HR : Hid (VM.rightIn n m ⟨o, a, b⟩ = false) := by show VM.rightIn n m ⟨o, a, b⟩ = false; unfold VM.rightIn; simp [h1, h2, h3, h4, h5]
    have e1 : (o == 1) = false := by simp [h1]
    have e2 : (o == 2) = false := by simp [h2]
    have e3 : (o == 3) = false := by simp [h3]
    have e4 : (o == 4) = false := by simp [h4]
    have e5 : (o == 5) = false := by simp [h5]
    go_enter Try.func15, Try.ntmps15
    go_wp2_with fail
    go_ret
    refine ⟨ret_bool ?_, HB.out⟩
    rw [HR.out]

theorem enters12 : Enters 12 := enters_of Try.func12 (by kernel_rfl) rfl
theorem enters14 : Enters 14 := enters_of Try.func14 (by kernel_rfl) rfl
theorem enters18 : Enters 18 := enters_of Try.func18 (by kernel_rfl) rfl
theorem enters20 : Enters 20 := enters_of Try.func20 (by kernel_rfl) rfl
theorem enters10 : Enters 10 := enters_of Try.func10 (by kernel_rfl) rfl

set_option maxHeartbeats 2000000 in
set_option maxRecDepth 100000 in
theorem not_set (g : FuncId) (lb : Array Value) (eg : Enters g) (b : Nat) (u : Value) (q : Bool) (w : World) (hc : w.cell? ⟨b, 0, none⟩ = some (.func (.func g) #[] lb))
    (C : Calls Try.prog g (#[u] ++ lb) w fun e W' => e = .returned (.bool q) ∧ Below w.heap.size w W') :
    Calls Try.prog 18 (#[u] ++ #[.pointer (some ⟨b, 0, none⟩)]) w fun e w' => e = .returned (.bool (!q)) ∧ Below w.heap.size w w' := by
  have eg' : ∀ args w, (callFunc g args).run Try.prog w = .ok (.enter g args) w := eg
  clear eg
  go_enter Try.func18, Try.ntmps18
  go_wp2_with fail
  refine C.mono ?_
  rintro e w1 ⟨rfl, hb⟩
  have HB : Hid (Below w.heap.size w w1) := hb
  clear C hb
  go_wp2_with fail
  go_ret
  exact ⟨rfl, HB.out⟩

set_option maxHeartbeats 2000000 in
set_option maxRecDepth 100000 in
theorem not_in (g : FuncId) (lb : Array Value) (eg : Enters g) (b : Nat) (o a c : Int) (q : Bool) (w : World) (hc : w.cell? ⟨b, 0, none⟩ = some (.func (.func g) #[] lb)) (hb : b < w.heap.size)
    (C : ∀ W, Below w.heap.size w W → Calls Try.prog g (#[.agg #[.int .i64 o, .int .i64 a, .int .i64 c]] ++ lb) W fun e W' => e = .returned (.bool q) ∧ Below W.heap.size W W') :
    Calls Try.prog 20 (#[.agg #[.int .i64 o, .int .i64 a, .int .i64 c]] ++ #[.pointer (some ⟨b, 0, none⟩)]) w fun e w' => e = .returned (.bool (!q)) ∧ Below w.heap.size w w' := by
  have eg' : ∀ args w, (callFunc g args).run Try.prog w = .ok (.enter g args) w := eg
  have hb0 : Below w.heap.size w (w.alloc (.cells #[.int .i64 o, .int .i64 a, .int .i64 c] 31)) := (Below.refl _ w).alloc (Nat.le_refl _) _
  have C1 := C _ hb0
  have hc1 := (hb0.cell (p := ⟨b, 0, none⟩) (by exact hb)).trans hc
  have HB0 : Hid (Below w.heap.size w (w.alloc (.cells #[.int .i64 o, .int .i64 a, .int .i64 c] 31))) := hb0
  clear eg C hb0
  go_enter Try.func20, Try.ntmps20
  go_wp2_with fail
  refine C1.mono ?_
  rintro e w1 ⟨rfl, hb⟩
  have HB : Hid (Below w.heap.size w w1) := HB0.out.trans (hb.mono HB0.out.size)
  clear C1 hb
  go_wp2_with fail
  go_ret
  exact ⟨rfl, HB.out⟩

theorem all_not {α : Type} (l : List α) (p : α → Bool) : (!l.any fun x => !p x) = l.all p := by
  induction l with
  | nil => rfl
  | cons x l ih =>
    simp only [List.any_cons, List.all_cons, Bool.not_or, Bool.not_not, ih]

set_option maxHeartbeats 2000000 in
set_option maxRecDepth 100000 in
theorem all_sets (g : FuncId) (lb : Array Value) (eg : Enters g) (v : Value) (ss : List (List RS.Rg)) (p : List RS.Rg → Bool) (w : World) (hS : SetsAt w.heap.size w v ss) (hn : ss.length ≤ 100000)
    (hf : ∀ (k : Nat) (h : k < ss.length) (u : Value) (W : World), Below w.heap.size w W → RgAt W.heap.size W u ss[k] → Calls Try.prog g (#[u] ++ lb) W fun e W' => e = .returned (.bool (p ss[k])) ∧ Below W.heap.size W W') :
    Calls Try.prog 11 #[v, .func (.func g) #[] lb] w fun e w' => e = .returned (.bool (ss.all p)) ∧ Below w.heap.size w w' := by
  have hb0 : Below w.heap.size w (w.alloc (.cells #[.func (.func g) #[] lb] 40)) := (Below.refl _ w).alloc (Nat.le_refl _) _
  have C := contains_sets 18 #[.pointer (some ⟨w.heap.size, 0, none⟩)] enters18 v ss (fun x => !p x) (w.alloc (.cells #[.func (.func g) #[] lb] 40)) (hS.below hb0 _ hb0.size) hn (fun k hk u W hW hu => by
    have hlt : w.heap.size < (w.alloc (.cells #[.func (.func g) #[] lb] 40)).heap.size := by simp
    exact not_set g lb eg w.heap.size u (p ss[k]) W ((hW.cell (p := ⟨w.heap.size, 0, none⟩) hlt).trans (by simp)) (hf k hk u W (hb0.trans (hW.mono hb0.size)) hu))
  have HA : Hid ((!ss.any fun x => !p x) = ss.all p) := all_not ss p
  generalize (ss.any fun x => !p x) = q at C HA
  have HB0 : Hid (Below w.heap.size w (w.alloc (.cells #[.func (.func g) #[] lb] 40))) := hb0
  clear hf hS hb0
  go_enter Try.func11, Try.ntmps11
  go_wp2_with fail
  refine C.mono ?_
  rintro e w1 ⟨rfl, hb⟩
  have HB : Hid (Below w.heap.size w w1) := HB0.out.trans (hb.mono HB0.out.size)
  clear C hb
  go_wp2_with fail
  go_ret
  exact ⟨ret_bool HA.out, HB.out⟩

set_option maxHeartbeats 2000000 in
set_option maxRecDepth 100000 in
theorem all_ins (g : FuncId) (lb : Array Value) (eg : Enters g) (v : Value) (ss : List VM.In) (p : VM.In → Bool) (w : World) (hS : InsAt w.heap.size w v ss) (hn : ss.length ≤ 100000)
    (hf : ∀ (k : Nat) (h : k < ss.length) (W : World), Below w.heap.size w W → Calls Try.prog g (#[.agg #[.int .i64 ss[k].op, .int .i64 ss[k].a, .int .i64 ss[k].b]] ++ lb) W fun e W' => e = .returned (.bool (p ss[k])) ∧ Below W.heap.size W W') :
    Calls Try.prog 13 #[v, .func (.func g) #[] lb] w fun e w' => e = .returned (.bool (ss.all p)) ∧ Below w.heap.size w w' := by
  have hb0 : Below w.heap.size w (w.alloc (.cells #[.func (.func g) #[] lb] 45)) := (Below.refl _ w).alloc (Nat.le_refl _) _
  have C := contains_ins 20 #[.pointer (some ⟨w.heap.size, 0, none⟩)] enters20 v ss (fun x => !p x) (w.alloc (.cells #[.func (.func g) #[] lb] 45)) (hS.below hb0 _ hb0.size) hn (fun k hk W hW => by
    have hlt : w.heap.size < (w.alloc (.cells #[.func (.func g) #[] lb] 45)).heap.size := by simp
    exact not_in g lb eg w.heap.size _ _ _ (p ss[k]) W ((hW.cell (p := ⟨w.heap.size, 0, none⟩) hlt).trans (by simp)) (by have := hW.size; omega) (fun W' hW' => hf k hk W' ((hb0.trans (hW.mono hb0.size)).trans (hW'.mono (by have := hW.size; omega)))))
  have HA : Hid ((!ss.any fun x => !p x) = ss.all p) := all_not ss p
  generalize (ss.any fun x => !p x) = q at C HA
  have HB0 : Hid (Below w.heap.size w (w.alloc (.cells #[.func (.func g) #[] lb] 45))) := hb0
  clear hf hS hb0
  go_enter Try.func13, Try.ntmps13
  go_wp2_with fail
  refine C.mono ?_
  rintro e w1 ⟨rfl, hb⟩
  have HB : Hid (Below w.heap.size w w1) := HB0.out.trans (hb.mono HB0.out.size)
  clear C hb
  go_wp2_with fail
  go_ret
  exact ⟨ret_bool HA.out, HB.out⟩

set_option maxHeartbeats 2000000 in
set_option maxRecDepth 100000 in
/-- Right's closure: an instruction may be, in code that lies at c. -/
theorem right_in (c : Nat) (sv iv : Value) (sao iao : Option Addr) (n m scap icap : Nat) (x : VM.In) (w : World) (h0 : w.cell? ⟨c, 0, none⟩ = some sv) (h1 : w.cell? ⟨c, 1, none⟩ = some iv) (hs : sv = .slice sao m scap) (hi : iv = .slice iao n icap) (hc : c < w.heap.size) :
    Calls Try.prog 14 (#[.agg #[.int .i64 x.op, .int .i64 x.a, .int .i64 x.b]] ++ #[.pointer (some ⟨c, 0, none⟩)]) w fun e w' => e = .returned (.bool (VM.rightIn n m x)) ∧ Below w.heap.size w w' := by
  subst hs hi
  have C := rightInst_any x n m (w.alloc (.cells #[.int .i64 x.op, .int .i64 x.a, .int .i64 x.b] 31))
  have hb0 : Below w.heap.size w (w.alloc (.cells #[.int .i64 x.op, .int .i64 x.a, .int .i64 x.b] 31)) := (Below.refl _ w).alloc (Nat.le_refl _) _
  have h0' := (hb0.cell (p := ⟨c, 0, none⟩) (by exact hc)).trans h0
  have h1' := (hb0.cell (p := ⟨c, 1, none⟩) (by exact hc)).trans h1
  have HB0 : Hid (Below w.heap.size w (w.alloc (.cells #[.int .i64 x.op, .int .i64 x.a, .int .i64 x.b] 31))) := hb0
  clear h0 h1 hb0
  generalize VM.rightIn n m x = q at C ⊢
  obtain ⟨o, a, b⟩ := x
  dsimp only at C h0' h1' HB0 ⊢
  go_enter Try.func14, Try.ntmps14
  go_wp2_with fail
  refine C.mono ?_
  rintro e w1 ⟨rfl, hb⟩
  have HB : Hid (Below w.heap.size w w1) := HB0.out.trans (hb.mono HB0.out.size)
  clear C hb
  go_wp2_with fail
  go_ret
  exact ⟨rfl, HB.out⟩

end Go.Proofs.Ytddjppkpgflbjaa
