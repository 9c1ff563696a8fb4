/- A buffer of bytes that grows; the contracts of markOf, appendOneKind, appendKind. -/
import Derived.Test.YtjbmdnkpfkelmaaGreatDoorParU
import Derived.Test.YtjbmdnkpfkelmaaGreatDoorPlain
import Derived.Lib.AppendStr
import Derived.Lib.BufferKept
import Derived.Lib.AppendIntMem
namespace Go.Proofs.YtjbmdnkpfkelmaaGreatDoor.Q
open Go.RowKit Go.Shelf

/-- A buffer that was begun in W0, and holds these bytes. -/
def Buf (W0 : World) (v : Value) (xs : List UInt8) (w : World) : Prop :=
  w.ownsRow W0.heap.size 5 1 v xs.length (Lib.byteCells xs) ∧ Below W0.heap.size W0 w ∧ Lib.OthersKept 5 none W0 w

/-- What a function that writes leaves. -/
def Out (W0 : World) (xs text : List UInt8) (w : World) (e : Ending) (w' : World) : Prop :=
  ∃ v', e = .returned v' ∧ Buf W0 v' (xs ++ text) w' ∧ Lib.OthersKept 5 none w w'

def PT (w : World) : Prop := KT w ∧ Lib.TabIs Tryz.prog w "internal/strconv.uint64pow10" .u64 Lib.pow10Tab

theorem Buf.alloc {W0 : World} {v : Value} {xs : List UInt8} {w : World} (h : Buf W0 v xs w) (o : Obj) : Buf W0 v xs (w.alloc o) :=
  ⟨h.1.alloc o, h.2.1.alloc h.2.1.size o, h.2.2.alloc o⟩

theorem Buf.drewN {W0 : World} {v : Value} {xs : List UInt8} {w : World} (h : Buf W0 v xs w) (n : Nat) : Buf W0 v xs (w.drewN n) :=
  ⟨h.1, ⟨h.2.1.os, h.2.1.tape, h.2.1.output, h.2.1.size, h.2.1.block⟩, h.2.2⟩

theorem own_rows {w : World} {B : Nat} {v : Value} {n : Nat} {xs : List Value} (h : w.ownsRow B 5 1 v n xs) : ∀ g, v.ownBlock = some g → ∃ c fz, w.heap[g]? = some (.cells c 5 fz) := by
  obtain ⟨h1, h2 | ⟨g', cap, cur, rfl, hgl, hh, rest⟩⟩ := h
  · obtain ⟨rfl, _⟩ := h2
    intro g hg; simp [Value.ownBlock] at hg
  · intro g hg
    have : g' = g := by simpa [Value.ownBlock] using hg
    subst this
    exact ⟨_, _, hh⟩

theorem Buf.grown {W0 : World} {v v' : Value} {xs ys : List UInt8} {w w' : World} (h : Buf W0 v xs w) (ho : w'.ownsRow W0.heap.size 5 1 v' ys.length (Lib.byteCells ys)) (hg : w.grownBy w' v.ownBlock) : Buf W0 v' ys w' ∧ Lib.OthersKept 5 none w w' :=
  ⟨⟨ho, h.2.1.grown hg h.2.1.size (fun k hk => (h.1.lt k hk).1), h.2.2.grown hg (own_rows h.1)⟩, (Lib.OthersKept.refl 5 none w).grown hg (own_rows h.1)⟩

theorem Buf.str {W0 : World} {v : Value} {xs : List UInt8} {w : World} (ty : TypeId) (s : ByteArray) (h : Buf W0 v xs w) (hl : xs.length + s.data.toList.length ≤ 2000000) :
    ∃ v' w', (Builtin.append_ #[41, 9] ty #[v, .string s]).run Tryz.prog w = .ok v' w' ∧ Buf W0 v' (xs ++ s.data.toList) w' ∧ Lib.OthersKept 5 none w w' := by
  obtain ⟨i5, hi5, hz0, hz1, hz2⟩ := info_parts info5
  have hs : s.size = s.data.toList.length := by simp
  obtain ⟨v', w', hr, h2, h3, _⟩ := Lib.run_append_own_string (P := Tryz.prog) w W0.heap.size 41 9 ty 5 i5 Tryz.underlying41 Tryz.underlying9 hi5 hz0 hz1 hz2 v xs.length (Lib.byteCells xs) h.1 s (by unfold maxLen; omega) (by omega) h.2.1.size
  refine ⟨v', w', hr, h.grown ?_ h3⟩
  rw [Lib.byteCells_append, List.length_append, ← hs]
  exact h2

theorem Buf.byte {W0 : World} {v : Value} {xs : List UInt8} {w : World} (ty : TypeId) (c : UInt8) (h : Buf W0 v xs w) (hl : xs.length + 1 ≤ 2000000) :
    ∃ v' w', (Builtin.append_ #[41, 41] ty #[v, .slice (some ⟨w.heap.size, 0, none⟩) 1 1]).run Tryz.prog (w.alloc (.cells #[.int .u8 (c.toNat : Int)] 5)) = .ok v' w' ∧ Buf W0 v' (xs ++ [c]) w' ∧ Lib.OthersKept 5 none w w' := by
  obtain ⟨i5, hi5, hz0, hz1, hz2⟩ := info_parts info5
  have h' := h.alloc (.cells #[.int .u8 (c.toNat : Int)] 5)
  obtain ⟨v', w', hr, h2, h3, h4⟩ := append_where (P := Tryz.prog) (w.alloc (.cells #[.int .u8 (c.toNat : Int)] 5)) W0.heap.size 41 ty 5 i5 (.int .u8 0) 1 Tryz.underlying41 hi5 hz0 hz1 hz2 rfl v xs.length (Lib.byteCells xs) h'.1 ⟨w.heap.size, 0, none⟩ 1 (.int .u8 (c.toNat : Int)) (by simp) rfl (by unfold maxLen; omega) (by omega) h'.2.1.size
  have h5 := h'.grown (ys := xs ++ [c]) (by rw [Lib.byteCells_append, List.length_append]; exact h2) h3
  exact ⟨v', w', hr, h5.1, ((Lib.OthersKept.refl 5 none w).alloc _).trans h5.2⟩

theorem Buf.slice {W0 : World} {v : Value} {xs : List UInt8} {w : World} (h : Buf W0 v xs w) : ∃ ao n cp, v = .slice ao n cp ∧ Hid (n = xs.length) := by
  obtain ⟨ao, cp, rfl⟩ := own_slice h.1
  exact ⟨ao, _, cp, rfl, rfl⟩

theorem Keeps.of {W0 w : World} (h : Below W0.heap.size W0 w) : Keeps (fun _ => True) W0 w := fun b _ hl => h.block b hl

theorem Buf.kind {W0 : World} {v : Value} {xs : List UInt8} {w : World} (h : Buf W0 v xs w) {kv : Value} {k : RP.K} (hk : KAt (fun _ => True) W0 kv k) : KAt (fun _ => True) w kv k := hk.keep (Keeps.of h.2.1)
theorem Buf.pat {W0 : World} {v : Value} {xs : List UInt8} {w : World} (h : Buf W0 v xs w) {vs : List Value} {p : RP.Pt} (hk : PAt (fun _ => True) W0 vs p) : PAt (fun _ => True) w vs p := hk.keep (Keeps.of h.2.1)

set_option maxHeartbeats 1000000 in
set_option maxRecDepth 100000 in
theorem markOf_any (c : Nat) (w : World) : Calls Tryz.prog 27 #[.int .i64 c] w fun e w' => e = .returned (.string ⟨(RP.markT c).toArray⟩) ∧ w' = w := by
  unfold RP.markT
  by_cases h3 : c = 3
  · subst h3
    go_enter Tryz.func27, Tryz.ntmps27
    go_wp2_with fail
    go_ret
    exact ⟨rfl, rfl⟩
  by_cases h4 : c = 4
  · subst h4
    go_enter Tryz.func27, Tryz.ntmps27
    go_wp2_with fail
    go_ret
    exact ⟨rfl, rfl⟩
  by_cases h5 : c = 5
  · subst h5
    go_enter Tryz.func27, Tryz.ntmps27
    go_wp2_with fail
    go_ret
    exact ⟨rfl, rfl⟩
  rw [if_neg h3, if_neg h4, if_neg h5]
  have e3 : ((c : Int) == 3) = false := by simp; omega
  have e4 : ((c : Int) == 4) = false := by simp; omega
  have e5 : ((c : Int) == 5) = false := by simp; omega
  have e3' : ¬ (c : Int) = 3 := by omega
  have e4' : ¬ (c : Int) = 4 := by omega
  have e5' : ¬ (c : Int) = 5 := by omega
  clear h3 h4 h5
  go_enter Tryz.func27, Tryz.ntmps27
  go_wp2_with fail
  go_ret
  exact ⟨rfl, rfl⟩

/-- appendKind at this kind. -/
def KC (k : RP.K) : Prop := ∀ (W0 : World) (v kv : Value) (xs : List UInt8) (w : World), PT W0 → Buf W0 v xs w → KAt (fun _ => True) W0 kv k → k.Ok → xs.length + k.text.length ≤ 1000000 →
  Calls Tryz.prog 12 #[v, kv] w (Out W0 xs k.text w)

/-- appendOneKind at this kind. -/
def OC (k : RP.K) : Prop := ∀ (W0 : World) (v kv : Value) (xs : List UInt8) (w : World), PT W0 → Buf W0 v xs w → KAt (fun _ => True) W0 kv k → k.Ok → xs.length + (RP.oneT k.code k.text).length ≤ 1000000 →
  Calls Tryz.prog 26 #[v, kv] w (Out W0 xs (RP.oneT k.code k.text) w)

theorem KAt.code {ok : Nat → Prop} {w : World} {v : Value} {k : RP.K} (h : KAt ok w v k) : ∃ b, v = .pointer (some ⟨b, 0, none⟩) ∧ w.cell? ⟨b, 0, none⟩ = some (.int .i64 k.code) := by
  cases k with
  | lit a X => obtain ⟨b, sv, rfl, _, h2, _⟩ := h; exact ⟨b, rfl, loc_cell (k := 0) h2 rfl⟩
  | ref a x => obtain ⟨b, rfl, _, h2⟩ := h; exact ⟨b, rfl, loc_cell (k := 0) h2 rfl⟩
  | bin code a l r => obtain ⟨b, lv, rv, rfl, _, h2, _⟩ := h; exact ⟨b, rfl, loc_cell (k := 0) h2 rfl⟩
  | neg a k => obtain ⟨b, lv, rfl, _, h2, _⟩ := h; exact ⟨b, rfl, loc_cell (k := 0) h2 rfl⟩

set_option maxHeartbeats 1000000 in
set_option maxRecDepth 100000 in
theorem one_of {k : RP.K} (hK : KC k) : OC k := by
  intro W0 v kv xs w hP hB hk hO hl
  obtain ⟨b, rfl, hc⟩ := (hB.kind hk).code
  have hM := markOf_any k.code w
  obtain ⟨ao, n, cp, rfl, -⟩ := hB.slice
  unfold RP.oneT at hl ⊢
  by_cases hm : RP.markT k.code = []
  · rw [if_pos hm] at hl ⊢
    rw [hm] at hM
    have hC := hK W0 _ (.pointer (some ⟨b, 0, none⟩)) xs w hP hB hk hO hl
    clear hm hK hP hB hk hO hl
    generalize k.text = T at hC ⊢
    go_enter Tryz.func26, Tryz.ntmps26
    go_wp2_with fail
    refine hM.mono ?_
    rintro e w' ⟨rfl, hw⟩
    obtain rfl := hw.symm
    clear hM
    go_wp2_with fail
    refine hC.mono ?_
    rintro e w2 ⟨v2, rfl, hB2, hO2⟩
    obtain ⟨ao2, n2, cp2, rfl, -⟩ := hB2.slice
    have HB2 : Hid (Buf W0 (.slice ao2 n2 cp2) (xs ++ T) w2 ∧ Lib.OthersKept 5 none w w2) := ⟨hB2, hO2⟩
    clear hB2 hO2 hC
    go_wp2_with fail
    go_ret
    exact ⟨_, rfl, HB2.out⟩
  · rw [if_neg hm] at hl ⊢
    have hne : ((⟨(RP.markT k.code).toArray⟩ : ByteArray).toList == []) = false := by rw [Lib.toList_data]; simpa using hm
    simp only [List.length_cons, List.length_append, List.length_nil] at hl
    obtain ⟨v1, w1, hr1, hB1, hO1⟩ := hB.byte 41 40 (by omega)
    obtain ⟨ao1, n1, cp1, rfl, -⟩ := hB1.slice
    have hC := hK W0 _ (.pointer (some ⟨b, 0, none⟩)) _ w1 hP hB1 hk hO (by simp; omega)
    have HR1 : Hid ((Builtin.append_ #[41, 41] 41 #[.slice ao n cp, .slice (some ⟨w.heap.size, 0, none⟩) 1 1]).run Tryz.prog (w.alloc (.cells #[.int .u8 40] 5)) = .ok (.slice ao1 n1 cp1) w1) := hr1
    have hTl : (xs ++ [40] ++ k.text).length ≤ 1000001 := by simp; omega
    have HTl : Hid ((xs ++ [40] ++ k.text).length ≤ 1000001) := hTl
    generalize (⟨(RP.markT k.code).toArray⟩ : ByteArray) = M at hM hne
    clear hm hr1 hB1 hB hK hP hk hO hl hTl
    generalize k.text = T at hC HTl ⊢
    go_enter Tryz.func26, Tryz.ntmps26
    go_wp2_with fail
    refine hM.mono ?_
    rintro e w' ⟨rfl, hw⟩
    obtain rfl := hw.symm
    clear hM
    go_wp2_with (at_builtin; refine Lib.wpList_append_run _ rfl _ _ _ _ rfl _ _ rfl rfl _ _ HR1.out ?_)
    clear HR1
    go_wp2_with fail
    refine hC.mono ?_
    rintro e w2 ⟨v2, rfl, hB2, hO2⟩
    obtain ⟨v3, w3, hr3, hB3, hO3⟩ := hB2.byte 41 41 (by have := HTl.out; omega)
    obtain ⟨ao2, n2, cp2, rfl, -⟩ := hB2.slice
    obtain ⟨ao3, n3, cp3, rfl, -⟩ := hB3.slice
    have HR3 : Hid ((Builtin.append_ #[41, 41] 41 #[.slice ao2 n2 cp2, .slice (some ⟨w2.heap.size, 0, none⟩) 1 1]).run Tryz.prog (w2.alloc (.cells #[.int .u8 41] 5)) = .ok (.slice ao3 n3 cp3) w3) := hr3
    have HB3 : Hid (Buf W0 (.slice ao3 n3 cp3) (xs ++ 40 :: (T ++ [41])) w3 ∧ Lib.OthersKept 5 none w w3) := by
      have e : xs ++ 40 :: (T ++ [41]) = xs ++ [40] ++ T ++ [41] := by simp
      rw [e]
      exact ⟨hB3, (hO1.trans hO2).trans hO3⟩
    clear hB2 hO2 hC hr3 hB3 hO3 hO1
    go_wp2_with (at_builtin; refine Lib.wpList_append_run _ rfl _ _ _ _ rfl _ _ rfl rfl _ _ HR3.out ?_)
    clear HR3
    go_wp2_with fail
    go_ret
    exact ⟨_, rfl, HB3.out⟩

end Go.Proofs.YtjbmdnkpfkelmaaGreatDoor.Q

namespace Go.Proofs.YtjbmdnkpfkelmaaGreatDoor.Q
open Go.RowKit Go.Shelf

theorem Buf.drew {W0 : World} {v : Value} {xs : List UInt8} {w : World} (h : Buf W0 v xs w) : Buf W0 v xs w.drew :=
  ⟨h.1, ⟨h.2.1.os, h.2.1.tape, h.2.1.output, h.2.1.size, h.2.1.block⟩, h.2.2⟩

theorem Buf.below {W0 : World} {v : Value} {xs : List UInt8} {w w' : World} (h : Buf W0 v xs w) (hb : Below w.heap.size w w') : Buf W0 v xs w' ∧ Lib.OthersKept 5 none w w' := by
  refine ⟨⟨?_, h.2.1.trans (hb.mono h.2.1.size), h.2.2.below hb⟩, (Lib.OthersKept.refl 5 none w).below hb⟩
  obtain ⟨h1, h2 | ⟨g, cap, cur, rfl, hgl, hh, rest⟩⟩ := h.1
  · exact ⟨h1, Or.inl h2⟩
  · exact ⟨h1, Or.inr ⟨g, cap, cur, rfl, hgl, (hb.block g (lt_of_block hh)).trans hh, rest⟩⟩

theorem kept_block {w w' : World} (h : Lib.OthersKept 5 none w w') {b : Nat} {cs : Array Value} {t : TypeId} (hb : w.heap[b]? = some (.cells cs t)) (ht : t ≠ 5) : w'.heap[b]? = some (.cells cs t) :=
  h b _ hb (by simp) (fun c fz e => ht (by cases e; rfl))

theorem PT.below {W0 w : World} (h : PT W0) (hb : Below W0.heap.size W0 w) : KT w := h.1.below hb

set_option maxHeartbeats 1000000 in
set_option maxRecDepth 100000 in
theorem kind_lit (a : Nat) (X : List RS.Rg) : KC (.lit a X) := by
  intro W0 v kv xs w hP hB hk hO hl
  obtain ⟨b, sv, rfl, -, h2, h3, h4⟩ := hB.kind hk
  obtain ⟨ao, n, cp, rfl, -⟩ := hB.slice
  have c0 := loc_cell (k := 0) h2 rfl
  have c2 := loc_cell (k := 2) h2 rfl
  have hKT := hP.below hB.2.1
  have hPr := print_any sv X hO h4 w hKT.1 hKT.2.2.2 (rg_of_own h3.1)
  obtain ⟨so, sn, sc, rfl⟩ : ∃ so sn sc, sv = .slice so sn sc := by obtain ⟨so, sc, rfl⟩ := own_slice h3.1; exact ⟨so, _, sc, rfl⟩
  have HB : Hid (Buf W0 (.slice ao n cp) xs w) := hB
  have HL : Hid (xs.length + (RP.setT X).length ≤ 1000000) := hl
  clear hP hB hk hO hl h2 h3 h4 hKT
  go_enter Tryz.func12, Tryz.ntmps12
  go_wp2_with fail
  refine hPr.mono ?_
  rintro e w1 ⟨rfl, hb1⟩
  obtain ⟨hB1, hO1⟩ := HB.out.below hb1
  obtain ⟨v2, w2, hr2, hB2, hO2⟩ := hB1.str 41 (bytesOf (RS.setText X)) (by have := HL.out; show xs.length + (RP.setT X).length ≤ _; omega)
  obtain ⟨ao2, n2, cp2, rfl, -⟩ := hB2.slice
  have HR2 : Hid ((Builtin.append_ #[41, 9] 41 #[.slice ao n cp, .string (bytesOf (RS.setText X))]).run Tryz.prog w1 = .ok (.slice ao2 n2 cp2) w2) := hr2
  have HB2 : Hid (Buf W0 (.slice ao2 n2 cp2) (xs ++ RP.setT X) w2 ∧ Lib.OthersKept 5 none w w2) := ⟨hB2, hO1.trans hO2⟩
  clear hr2 hB2 hO2 hB1 hO1 hPr hb1 HB HL c0 c2
  generalize bytesOf (RS.setText X) = y at HR2 ⊢
  go_wp2_with (at_builtin; refine Lib.wpList_append_run _ rfl _ _ _ _ rfl _ _ rfl rfl _ _ HR2.out ?_)
  clear HR2
  go_wp2_with fail
  go_ret
  exact ⟨_, rfl, HB2.out⟩

set_option maxHeartbeats 1000000 in
set_option maxRecDepth 100000 in
theorem kind_ref (a : Nat) (x : List UInt8) : KC (.ref a x) := by
  intro W0 v kv xs w hP hB hk hO hl
  obtain ⟨b, rfl, -, h2⟩ := hB.kind hk
  obtain ⟨ao, n, cp, rfl, -⟩ := hB.slice
  have c0 := loc_cell (k := 0) h2 rfl
  have c3 := loc_cell (k := 3) h2 rfl
  obtain ⟨v2, w2, hr2, hB2, hO2⟩ := hB.str 41 ⟨x.toArray⟩ (by have : xs.length + x.length ≤ 1000000 := hl; simp; omega)
  obtain ⟨ao2, n2, cp2, rfl, -⟩ := hB2.slice
  have HR2 : Hid ((Builtin.append_ #[41, 9] 41 #[.slice ao n cp, .string ⟨x.toArray⟩]).run Tryz.prog w = .ok (.slice ao2 n2 cp2) w2) := hr2
  have HB2 : Hid (Buf W0 (.slice ao2 n2 cp2) (xs ++ x) w2 ∧ Lib.OthersKept 5 none w w2) := ⟨hB2, hO2⟩
  clear hP hB hk hO hl h2 hr2 hB2 hO2
  show Calls _ _ _ _ (Out W0 xs x w)
  generalize (⟨x.toArray⟩ : ByteArray) = y at HR2 c3
  go_enter Tryz.func12, Tryz.ntmps12
  go_wp2_with (at_builtin; refine Lib.wpList_append_run _ rfl _ _ _ _ rfl _ _ rfl rfl _ _ HR2.out ?_)
  clear HR2
  go_wp2_with fail
  go_ret
  exact ⟨_, rfl, HB2.out⟩

set_option maxHeartbeats 2000000 in
set_option maxRecDepth 100000 in
theorem kind_bin (code a : Nat) (l r : RP.K) (hL : KC l) (hR : OC r) : KC (.bin code a l r) := by
  intro W0 v kv xs w hP hB hk hO hl
  obtain ⟨b, lv, rv, rfl, -, h2, h3, h4⟩ := hB.kind hk
  have hkW := hk
  obtain ⟨b', lv', rv', e1, -, g2, g3, g4⟩ := hkW
  have hbb : b' = b := by cases e1; rfl
  subst hbb
  have hsame := (hB.2.1.block b' (lt_of_block g2)).trans g2
  rw [h2] at hsame
  have hlv : lv = lv' := by cases hsame; rfl
  have hrv : rv = rv' := by cases hsame; rfl
  subst hlv hrv
  obtain ⟨ao, n, cp, rfl, -⟩ := hB.slice
  have c0 := loc_cell (k := 0) h2 rfl
  have c4 := loc_cell (k := 4) h2 rfl
  have c5 := loc_cell (k := 5) h2 rfl
  have hlen : xs.length + (l.text.length + (RP.markT code).length + (RP.oneT r.code r.text).length) ≤ 1000000 := by
    have : xs.length + (l.text ++ RP.markT code ++ RP.oneT r.code r.text).length ≤ 1000000 := hl
    simp only [List.length_append] at this
    omega
  have hC := hL W0 _ lv xs w hP hB g3 hO.2.1 (by omega)
  have HD : Hid (∀ v xs w, Buf W0 v xs w → xs.length + (RP.oneT r.code r.text).length ≤ 1000000 → Calls Tryz.prog 26 #[v, rv] w (Out W0 xs (RP.oneT r.code r.text) w)) := fun v xs w h hl => hR W0 v rv xs w hP h g4 hO.2.2 hl
  have e1 : ((code : Int) == 1) = false := by have := hO.1; simp; omega
  have e2 : ((code : Int) == 2) = false := by have := hO.1; simp; omega
  have e6 : ((code : Int) == 6) = false := by have := hO.1; simp; omega
  have e1' : ¬ (code : Int) = 1 := by have := hO.1; omega
  have e2' : ¬ (code : Int) = 2 := by have := hO.1; omega
  have e6' : ¬ (code : Int) = 6 := by have := hO.1; omega
  have HB : Hid (w.heap[b']? = some (.cells #[.int .i64 code, .int .i64 a, .slice none 0 0, .string ⟨#[]⟩, lv, rv] 68)) := h2
  obtain ⟨lb, rfl⟩ := h3.ptr
  obtain ⟨rb, rfl⟩ := h4.ptr
  have HL : Hid (xs.length + (l.text.length + (RP.markT code).length + (RP.oneT r.code r.text).length) ≤ 1000000) := hlen
  clear hP hB hk hO hl h2 h3 h4 g2 g3 g4 hL hR hsame e1 hlen
  have e1 : ((code : Int) == 1) = false := by simp; omega
  show Calls _ _ _ _ (Out W0 xs (l.text ++ RP.markT code ++ RP.oneT r.code r.text) w)
  generalize l.text = TL at hC HL ⊢
  generalize RP.oneT r.code r.text = TR at HD HL ⊢
  have HMk : Hid (∀ w, Calls Tryz.prog 27 #[.int .i64 code] w fun e w' => e = .returned (.string ⟨(RP.markT code).toArray⟩) ∧ w' = w) := markOf_any code
  generalize RP.markT code = TM at HMk HL ⊢
  go_enter Tryz.func12, Tryz.ntmps12
  go_wp2_with fail
  refine hC.mono ?_
  rintro e w1 ⟨v1, rfl, hB1, hO1⟩
  obtain ⟨ao1, n1, cp1, rfl, -⟩ := hB1.slice
  have h2 := kept_block hO1 HB.out (by decide)
  have d0 := loc_cell (k := 0) h2 rfl
  have d5 := loc_cell (k := 5) h2 rfl
  have hM := HMk.out w1
  obtain ⟨v2, w2, hr2, hB2, hO2⟩ := hB1.str 41 ⟨TM.toArray⟩ (by have := HL.out; simp; omega)
  obtain ⟨ao2, n2, cp2, rfl, -⟩ := hB2.slice
  have HR2 : Hid ((Builtin.append_ #[41, 9] 41 #[.slice ao1 n1 cp1,   .string ⟨TM.toArray⟩]).run Tryz.prog w1 = .ok (.slice ao2 n2 cp2) w2) := hr2
  have h22 := kept_block hO2 h2 (by decide)
  have f5 := loc_cell (k := 5) h22 rfl
  have hD := HD.out _ _ w2 hB2 (by have := HL.out; simp; omega)
  have HO : Hid (Lib.OthersKept 5 none w w2) := hO1.trans hO2
  clear hB1 hO1 hB2 hO2 hr2 h2 h22 HB HL HD hC c0 c4 c5 HMk
  go_wp2_with fail
  refine hM.mono ?_
  rintro e w' ⟨rfl, hw⟩
  obtain rfl := hw.symm
  clear hM
  generalize (⟨TM.toArray⟩ : ByteArray) = y at HR2 ⊢
  go_wp2_with (at_builtin; refine Lib.wpList_append_run _ rfl _ _ _ _ rfl _ _ rfl rfl _ _ HR2.out ?_)
  clear HR2
  go_wp2_with fail
  refine hD.mono ?_
  rintro e w3 ⟨v3, rfl, hB3, hO3⟩
  obtain ⟨ao3, n3, cp3, rfl, -⟩ := hB3.slice
  have HB3 : Hid (Buf W0 (.slice ao3 n3 cp3) (xs ++ (TL ++ TM ++ TR)) w3 ∧ Lib.OthersKept 5 none w w3) := by
    have e : xs ++ (TL ++ TM ++ TR) = xs ++ TL ++ TM ++ TR := by simp
    rw [e]
    exact ⟨hB3, HO.out.trans hO3⟩
  clear hB3 hO3 HO hD
  go_wp2_with fail
  go_ret
  exact ⟨_, rfl, HB3.out⟩

/-- The same, where two arguments are handed over. -/
theorem step_call2 {P : Program} {ops : Array Oper} {o : Oper} {a : Act} {w : World} {K : Act → World → Prop} {Q : Exit → Act → World → Prop} {E : Prop} {R : Ending → World → Prop}
    (hg : o.guard = none) (f : FuncId) (x y : Operand) (tys : Array TypeId) (hop : o.op = Op.call { callee := Callee.value (Operand.func f), args := #[x, y], argTypes := tys })
    (v u : Value) (hx : a.eval x = v) (hy : a.eval y = u) (hf : a.eval (Operand.func f) = .func (.func f) #[] #[]) (he : (callFunc f #[v, u]).run P w = .ok (.enter f #[v, u]) w) (hC : Calls P f #[v, u] w R)
    (hR : ∀ e w', R e w' → ∃ r, e = .returned r ∧ K (a.put o.dst r) w') :
    if Region.wanted o (yielded ops a.tmps) = true then Oper.wp P o a w K Q else E := by
  have hw : Region.wanted o (yielded ops a.tmps) = true := by simp [Region.wanted, hg]
  rw [if_pos hw]
  unfold Oper.wp
  simp [execOp, hop, resolve, invoke, hx, hy, hf, he, Oper.upon, Deferred.ofValue]
  refine hC.mono fun e w' h => ?_
  obtain ⟨r, rfl, hr⟩ := hR e w' h
  exact hr

theorem enter26 (args : Array Value) (w : World) : (callFunc 26 args).run Tryz.prog w = .ok (.enter 26 args) w := by kernel_rfl

theorem cell_kept {w w' : World} (h : Lib.OthersKept 5 none w w') {b k : Nat} {cs : Array Value} {t : TypeId} {u : Value} (hb : w.heap[b]? = some (.cells cs t)) (ht : t ≠ 5) (hk : cs[k]? = some u) : w'.cell? ⟨b, k, none⟩ = some u := by
  have := kept_block h hb ht
  simp [World.cell?, this, hk]

set_option maxHeartbeats 2000000 in
set_option maxRecDepth 100000 in
theorem kind_neg (a : Nat) (k : RP.K) (hK : OC k) : KC (.neg a k) := by
  intro W0 v kv xs w hP hB hk hO hl
  obtain ⟨b, lv, rfl, -, h2, h3⟩ := hB.kind hk
  have hkW := hk
  obtain ⟨b', lv', e1, -, g2, g3⟩ := hkW
  have hbb : b' = b := by cases e1; rfl
  subst hbb
  have hsame := (hB.2.1.block b' (lt_of_block g2)).trans g2
  rw [h2] at hsame
  have hlv : lv = lv' := by cases hsame; rfl
  subst hlv
  obtain ⟨ao, n, cp, rfl, -⟩ := hB.slice
  have hlen : xs.length + (1 + (RP.oneT k.code k.text).length) ≤ 1000000 := by
    have : xs.length + (126 :: RP.oneT k.code k.text).length ≤ 1000000 := hl
    simp only [List.length_cons] at this
    omega
  have c0 := loc_cell (k := 0) h2 rfl
  have c4 := loc_cell (k := 4) h2 rfl
  obtain ⟨lb, rfl⟩ := h3.ptr
  have hlt := lt_of_block h2
  obtain ⟨v1, w1, hr1, hB1, hO1⟩ := hB.drew.byte 41 126 (by omega)
  obtain ⟨ao1, n1, cp1, rfl, -⟩ := hB1.slice
  have HR1 : Hid ((Builtin.append_ #[41, 41] 41 #[.slice ao n cp, .slice (some ⟨w.heap.size, 0, none⟩) 1 1]).run Tryz.prog (w.drew.alloc (.cells #[.int .u8 126] 5)) = .ok (.slice ao1 n1 cp1) w1) := hr1
  have hC := hK W0 _ (.pointer (some ⟨lb, 0, none⟩)) _ w1 hP hB1 g3 hO (by simp; omega)
  have hO1' : Lib.OthersKept 5 none w w1 := hO1
  have d4 : w1.cell? ⟨b', 4, none⟩ = some (.pointer (some ⟨lb, 0, none⟩)) := cell_kept hO1' h2 (by decide) rfl
  have a4 : (w.drew.alloc (.cells #[.int .u8 126] 5)).cell? ⟨b', 4, none⟩ = some (.pointer (some ⟨lb, 0, none⟩)) := (cell_alloc_old w.drew _ b' 4 hlt).trans c4
  have HB1 : Hid (w1.heap[b']? = some (.cells #[.int .i64 6, .int .i64 a, .slice none 0 0, .string ⟨#[]⟩, .pointer (some ⟨lb, 0, none⟩), .pointer none] 68)) := kept_block hO1' h2 (by decide)
  have HO1 : Hid (Lib.OthersKept 5 none w w1) := hO1'
  clear hP hB hk hO hl h2 h3 g2 g3 hsame e1 hlen hK hr1 hB1 hO1 hO1'
  show Calls _ _ _ _ (Out W0 xs (126 :: RP.oneT k.code k.text) w)
  generalize RP.oneT k.code k.text = T at hC ⊢
  go_enter Tryz.func12, Tryz.ntmps12
  go_wp2_with fail
  go_region_held3 (fun W => W.cell? ⟨b', 4, none⟩ = some (.pointer (some ⟨lb, 0, none⟩))) (first | exact c4 | exact a4 | exact d4 | exact cell_kept (by assumption) HB1.out (by decide) rfl)
    (first | (refine step_append_run (by rfl) _ _ 41 (by rfl) _ _ _ _ (by rfl) (by rfl) HR1.out ?_) | (go_at_call 26; refine hC.mono ?_; rintro e w2 ⟨v2, rfl, hB2, hO2⟩))
  obtain ⟨ao2, n2, cp2, rfl, -⟩ := hB2.slice
  have HB3 : Hid (Buf W0 (.slice ao2 n2 cp2) (xs ++ 126 :: T) w2 ∧ Lib.OthersKept 5 none w w2) := by
    have e : xs ++ 126 :: T = xs ++ [126] ++ T := by simp
    rw [e]
    exact ⟨hB2, HO1.out.trans hO2⟩
  clear hB2 hO2 HO1 hC
  go_wp2_with fail
  go_ret
  exact ⟨_, rfl, HB3.out⟩

theorem akind_any : ∀ k : RP.K, KC k
  | .lit a X => kind_lit a X
  | .ref a x => kind_ref a x
  | .bin c a l r => kind_bin c a l r (akind_any l) (one_of (akind_any r))
  | .neg a k => kind_neg a k (one_of (akind_any k))

end Go.Proofs.YtjbmdnkpfkelmaaGreatDoor.Q
