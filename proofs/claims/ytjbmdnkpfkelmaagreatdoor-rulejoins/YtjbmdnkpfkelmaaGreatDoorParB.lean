/- The contracts of accept, mark and take, where the token is another one; and take. -/
import Derived.Test.YtjbmdnkpfkelmaaGreatDoorParA
namespace Go.Proofs.YtjbmdnkpfkelmaaGreatDoor.Q
open Go.RowKit Go.Shelf

set_option maxHeartbeats 1000000 in
set_option maxRecDepth 100000 in
theorem accept_no (pb : Nat) (t : RP.Tok) (r : List RP.Tok) (c : Nat) (x : ByteArray) (hx : (⟨t.text.toArray⟩ : ByteArray) ≠ x) (w : World) (h : PS pb (t :: r) c w) :
    Calls Tryz.prog 40 #[.pointer (some ⟨pb, 0, none⟩), .string x] w fun e w' => e = .returned (.bool false) ∧ w' = w := by
  obtain ⟨tb, off, cap, c0, c1, f0, f1, hc, hcm, t0, t1, t2, -, -, -⟩ := h.open
  clear h
  have hs := toList_ne hx
  generalize (⟨t.text.toArray⟩ : ByteArray) = y at t2 hs
  clear hx
  go_enter Tryz.func40, Tryz.ntmps40
  go_wp2_with fail
  go_ret
  exact ⟨rfl, rfl⟩

set_option maxHeartbeats 1000000 in
set_option maxRecDepth 100000 in
theorem mark_yes (pb : Nat) (t : RP.Tok) (r : List RP.Tok) (c : Nat) (x : ByteArray) (hx : (⟨t.text.toArray⟩ : ByteArray) = x) (w : World) (h : PS pb (t :: r) c w) :
    Calls Tryz.prog 23 #[.pointer (some ⟨pb, 0, none⟩), .string x] w fun e w' => e = .returned (.tuple #[]) ∧ PS pb r c w' ∧ w.grownBy w' (some pb) := by
  have hA := accept_yes pb t r c x hx w h
  clear h hx
  go_enter Tryz.func23, Tryz.ntmps23
  go_wp2_with fail
  refine hA.mono ?_
  rintro e w1 ⟨rfl, h1, h2⟩
  have HP : Hid (PS pb r c w1) := h1
  clear h1 hA
  go_wp2_with fail
  first | go_end0 | refine bodyPost_ret (results_none rfl _ _ _) rfl ?_
  exact ⟨rfl, HP.out, h2⟩

set_option maxHeartbeats 1000000 in
set_option maxRecDepth 100000 in
theorem mark_no (pb : Nat) (t : RP.Tok) (r : List RP.Tok) (c : Nat) (x : ByteArray) (hx : (⟨t.text.toArray⟩ : ByteArray) ≠ x) (w : World) (h : PS pb (t :: r) c w) :
    Calls Tryz.prog 23 #[.pointer (some ⟨pb, 0, none⟩), .string x] w fun e w' => Throws w (refuseE 3 t c : Nat) t.at_ e w' ∧ Below w.heap.size w w' := by
  have hA := accept_no pb t r c x hx w h
  have hR := refuse_any 3 pb t r c w h
  clear h hx
  go_enter Tryz.func23, Tryz.ntmps23
  go_wp2_with fail
  refine hA.mono ?_
  rintro e w1 ⟨rfl, hw⟩
  obtain rfl := hw.symm
  clear hA
  go_wp2_with fail
  refine hR.mono ?_
  rintro e w2 ⟨⟨b, rfl, h1, h2, h3⟩, hb⟩
  go_wp2_with fail
  exact ⟨rfl, ⟨b, rfl, h1, h2, h3⟩, hb⟩

theorem cell_alloc_old (w : World) (o : Obj) (b k : Nat) (h : b < w.heap.size) : (w.alloc o).cell? ⟨b, k, none⟩ = w.cell? ⟨b, k, none⟩ :=
  World.cell?_of_block (w := w) (w' := w.alloc o) (a := ⟨b, k, none⟩) (heap_alloc_old w o h)
theorem frozen_alloc_old (w : World) (o : Obj) (b k : Nat) (h : b < w.heap.size) : (w.alloc o).frozen? ⟨b, k, none⟩ = w.frozen? ⟨b, k, none⟩ :=
  World.frozen?_of_block (w := w) (w' := w.alloc o) (a := ⟨b, k, none⟩) (heap_alloc_old w o h)

theorem grown_alloc {w W : World} {row : Option Nat} (h : w.grownBy W row) (o : Obj) : w.grownBy (W.alloc o) row :=
  h.trans (World.grownBy_alloc W o row)

theorem heap2_new (w : World) (pb : Nat) (v : Value) (A B : Obj) : (((w.setCell ⟨pb, 0, none⟩ v).alloc A).alloc B).heap[w.heap.size]? = some A := by
  rw [heap_alloc_old _ _ (by simp)]
  have := heap_alloc_new (w.setCell ⟨pb, 0, none⟩ v) A
  simpa using this
theorem heap2_other (w : World) (pb : Nat) (v : Value) (A B : Obj) (j : Nat) (hj : j ≠ pb) (hl : j < w.heap.size) : (((w.setCell ⟨pb, 0, none⟩ v).alloc A).alloc B).heap[j]? = w.heap[j]? := by
  rw [heap_alloc_old _ _ (by simp; omega), heap_alloc_old _ _ (by simp; omega)]
  exact heap_setCell_other w ⟨pb, 0, none⟩ j v hj
theorem heap2_same (w : World) (pb : Nat) (v : Value) (A B : Obj) (hl : pb < w.heap.size) {x y : Value} (h : w.heap[pb]? = some (.cells #[x, y] 38)) : (((w.setCell ⟨pb, 0, none⟩ v).alloc A).alloc B).heap[pb]? = some (.cells #[v, y] 38) := by
  rw [heap_alloc_old _ _ (by simp; omega), heap_alloc_old _ _ (by simp; omega)]
  exact heap_setCell_same w pb 0 _ 38 v h

set_option maxHeartbeats 1000000 in
set_option maxRecDepth 100000 in
theorem take_yes (pb : Nat) (t : RP.Tok) (r : List RP.Tok) (c k : Nat) (hk : t.kind = k) (w : World) (h : PS pb (t :: r) c w) :
    Calls Tryz.prog 21 #[.pointer (some ⟨pb, 0, none⟩), .int .i64 k] w fun e w' => e = .returned (tokV t.kind t.at_ ⟨t.text.toArray⟩) ∧ PS pb r c w' ∧ w.grownBy w' (some pb) := by
  have hl := h.lt
  have hh := h
  obtain ⟨_, _, _, hpb, _⟩ := hh
  obtain ⟨tb, off, cap, c0, c1, f0, f1, hc, hcm, t0, t1, t2, htl, htp, hnext⟩ := h.open
  have HN : Hid _ := hnext
  have HPB : Hid _ := hpb
  clear h hnext hpb
  have a0 := fun o => (cell_alloc_old w o pb 0 hl).trans c0
  have b0 := fun o o' => (cell_alloc_old (w.alloc o) o' pb 0 (by simp; omega)).trans (a0 o)
  have s0 := fun o o' => (frozen_alloc_old (w.alloc o) o' pb 0 (by simp; omega)).trans ((frozen_alloc_old w o pb 0 hl).trans f0)
  have u0 := fun o => (cell_alloc_old w o tb off htl).trans t0
  have u1 := fun o => (cell_alloc_old w o tb (off + 1) htl).trans t1
  have u2 := fun o => (cell_alloc_old w o tb (off + 2) htl).trans t2
  have h1c : (1 : Int) ≤ (cap : Int) := by omega
  have h1r : (1 : Int) ≤ (r.length : Int) + 1 := by omega
  obtain ⟨kk, hkk⟩ : ∃ kk, kk = t.kind := ⟨_, rfl⟩
  rw [← hkk] at u0 hk ⊢
  subst hk
  clear hkk c0 c1 t0 t1 t2 f0 f1
  go_enter Tryz.func21, Tryz.ntmps21
  go_wp2_with fail
  · refine bodyPost_ret (results_cell_row rfl _ _ w.heap.size 53 #[_, _, _] _ _ rfl (heap2_new w pb _ _ _) Tryz.underlying53 rfl size53) rfl ?_
    exact ⟨rfl, HN.out _ _ (fun j hj hjl => heap2_other w pb _ _ _ j hj hjl) (heap2_same w pb _ _ _ hl HPB.out) ⟨off, 0, rfl, by omega, by omega⟩, grown_alloc (grown_alloc (grown_set _) _) _⟩
  · refine bodyPost_ret (results_cell_row rfl _ _ w.heap.size 53 #[_, _, _] _ _ rfl (heap2_new w pb _ _ _) Tryz.underlying53 rfl size53) rfl ?_
    exact ⟨rfl, HN.out _ _ (fun j hj hjl => heap2_other w pb _ _ _ j hj hjl) (heap2_same w pb _ _ _ hl HPB.out) ⟨off + 3, cap - 1, rfl, rfl, .inl rfl⟩, grown_alloc (grown_alloc (grown_set _) _) _⟩

set_option maxHeartbeats 1000000 in
set_option maxRecDepth 100000 in
theorem take_no (pb : Nat) (t : RP.Tok) (r : List RP.Tok) (c k : Nat) (hk : t.kind ≠ k) (w : World) (h : PS pb (t :: r) c w) :
    Calls Tryz.prog 21 #[.pointer (some ⟨pb, 0, none⟩), .int .i64 k] w fun e w' => Throws w (refuseE 3 t c : Nat) t.at_ e w' ∧ Below w.heap.size w w' := by
  have hl := h.lt
  have hB := fun o o' => ((Below.refl w.heap.size w).alloc (Nat.le_refl w.heap.size) o).alloc (by simp) o'
  have hR := fun o o' => refuse_any 3 pb t r c ((w.alloc o).alloc o') (h.below (hB o o'))
  obtain ⟨tb, off, cap, c0, c1, f0, f1, hc, hcm, t0, t1, t2, htl, htp, -⟩ := h.open
  have HB : Hid _ := hB
  have HR : Hid (∀ o o', Calls Tryz.prog 19 #[.pointer (some ⟨pb, 0, none⟩), .int .i64 (3 : Nat)] ((w.alloc o).alloc o') fun e w' => Throws ((w.alloc o).alloc o') (refuseE 3 t c : Nat) t.at_ e w' ∧ Below ((w.alloc o).alloc o').heap.size ((w.alloc o).alloc o') w') := hR
  clear h hB hR
  have a0 := fun o => (cell_alloc_old w o pb 0 hl).trans c0
  have u0 := fun o => (cell_alloc_old w o tb off htl).trans t0
  have u1 := fun o => (cell_alloc_old w o tb (off + 1) htl).trans t1
  have u2 := fun o => (cell_alloc_old w o tb (off + 2) htl).trans t2
  have hne : ((t.kind : Int) == (k : Int)) = false := by simp; omega
  obtain ⟨kk, hkk⟩ : ∃ kk, kk = t.kind := ⟨_, rfl⟩
  rw [← hkk] at u0 hne
  clear hkk c0 c1 t0 t1 t2 f0 f1 hk
  go_enter Tryz.func21, Tryz.ntmps21
  go_wp2_with fail
  refine (HR.out _ _).mono ?_
  rintro e w2 ⟨⟨b, rfl, h1, h2, h3⟩, hb⟩
  go_wp2_with fail
  exact ⟨rfl, ⟨b, rfl, h1, by simp at h2; omega, h3⟩, (HB.out _ _).trans (hb.mono (by simp; omega))⟩

end Go.Proofs.YtjbmdnkpfkelmaaGreatDoor.Q
