/- The tables, the arguments, and the call's contract (SetTells). -/
import Derived.Test.YtefcjoomongcmaaGreatDoorRTop
import Derived.ProofKit
import Derived.OpenShut
import Derived.Deep.DeepHandedRow
import Derived.Deep.SlicePairs
import Derived.Lib.LaidTab
import Derived.Lib.LaidU8
import Derived.LaidHandle
namespace Go.Proofs.YtefcjoomongcmaaGreatDoor
open Go.ChangeShapes Go.WideShapes Go.ChangeAt Go.RowKit Go.Shelf

namespace Tells
def t32 : List Int := [0, 1, 28, 2, 29, 14, 24, 3, 30, 22, 20, 15, 25, 17, 4, 8, 31, 27, 13, 23, 21, 19, 16, 7, 26, 12, 18, 6, 11, 5, 10, 9]
def t64 : List Int := [0, 1, 56, 2, 57, 49, 28, 3, 61, 58, 42, 50, 38, 29, 17, 4, 62, 47, 59, 36, 45, 43, 51, 22, 53, 39, 33, 30, 24, 18, 12, 5, 63, 55, 48, 27, 60, 41, 37, 16, 46, 35, 44, 21, 52, 32, 23, 11, 54, 26, 40, 15, 34, 20, 31, 10, 25, 14, 19, 9, 13, 8, 7, 6]
def tp10 : List Int := [1, 10, 100, 1000, 10000, 100000, 1000000, 10000000, 100000000, 1000000000, 10000000000, 100000000000, 1000000000000, 10000000000000, 100000000000000, 1000000000000000, 10000000000000000, 100000000000000000, 1000000000000000000, 10000000000000000000]

/-- The variables' names. -/
def nameAt (k : Nat) : String := Rows.setTellsRow.named.getD k ""

theorem own : ownKnob Tryz.prog.godebug = none := by kernel_rfl
theorem laidOut : laidOutB Tryz.prog = true := by kernel_rfl
theorem g64 : Tryz.prog.globalNamed (nameAt 9) = some 10 := by kernel_rfl
theorem g64Type : (Tryz.prog.globals[10]?).map (·.type) = some 220 := by kernel_rfl
theorem cells220 : Tryz.prog.cellsOf 220 = 64 := by kernel_rfl
theorem cells77 : Tryz.prog.cellsOf 77 = 256 := by kernel_rfl
theorem cells5' : Tryz.prog.cellsOf 5 = 1 := by kernel_rfl
theorem cells3' : Tryz.prog.cellsOf 3 = 1 := by kernel_rfl
theorem cells42' : Tryz.prog.cellsOf 42 = 2 := by kernel_rfl
theorem gSpaceType : (Tryz.prog.globals[0]?).map (·.type) = some 77 := by kernel_rfl
theorem gS : Tryz.prog.globalNamed (nameAt 5) = some 2 := by kernel_rfl
theorem gR : Tryz.prog.globalNamed (nameAt 6) = some 3 := by kernel_rfl
theorem gSType : (Tryz.prog.globals[2]?).map (·.type) = some 35 := by kernel_rfl
theorem gRType : (Tryz.prog.globals[3]?).map (·.type) = some 35 := by kernel_rfl
theorem gE : Tryz.prog.globalNamed (nameAt 10) = some 8 := by kernel_rfl
theorem oneRow : ((List.range 249).filter fun t => Tryz.prog.rowNamed t [101, 114, 114, 111, 114]) = [35] := by kernel_rfl
theorem nTypes : Tryz.prog.types.size = 249 := by kernel_rfl
theorem spaceData : (Rows.laid_strings_asciiSpace : DataW Unit) = Lib.tabData .u8 Lib.asciiSpaceTab := by kernel_rfl
theorem whiteIs : (Rows.laid_unicode_White_Space : DataW Unit) = Lib.whiteData := by kernel_rfl
theorem data64 : (Rows.laid_math_bits_deBruijn64tab : DataW Unit) = Lib.tabData .u8 t64 := by kernel_rfl

/-- The list but for the handle. -/
def rest : List (String × DataW Unit) := [(nameAt 8, Rows.laid_math_bits_deBruijn32tab), (nameAt 9, Rows.laid_math_bits_deBruijn64tab), (nameAt 7, Rows.laid_internal_strconv_uint64pow10), (nameAt 1, Rows.laid_unicode_utf8_acceptRanges), (nameAt 6, Rows.laid_strconv_ErrRange), (nameAt 5, Rows.laid_strconv_ErrSyntax), (nameAt 3, Rows.laid_unicode_White_Space), (nameAt 2, Rows.laid_strings_asciiSpace), (nameAt 0, Rows.laid_unicode_utf8_first)]

theorem split {W : World} (h : laidMetH Tryz.prog Rows.setTellsRow.laid W) : laidMet Tryz.prog rest W ∧ handlesMet Tryz.prog [(nameAt 10, Rows.laid_errors_errorType)] W := h

set_option maxRecDepth 100000 in
theorem handle {W : World} (h : laidMetH Tryz.prog Rows.setTellsRow.laid W) : ET W := by
  obtain ⟨name, u, ty, e1, e2, e3, e4, e5⟩ := (split h).2 _ (List.mem_singleton.2 rfl)
  have en : name = [101, 114, 114, 111, 114] := (Option.some.inj e1).symm
  subst en
  obtain rfl := Option.some.inj (Eq.trans (Eq.symm (b := some 208) (by kernel_rfl)) e2)
  have hm : ty ∈ (List.range 249).filter fun t => Tryz.prog.rowNamed t [101, 114, 114, 111, 114] := List.mem_filter.2 ⟨List.mem_range.2 (by rw [← nTypes]; exact e3), e4⟩
  rw [oneRow] at hm
  obtain rfl := List.mem_singleton.1 hm
  have hh : typeHandle Tryz.prog 35 = .pointer (some ⟨12, 35, none⟩) := by kernel_rfl
  rw [hh] at e5
  simpa [ET] using World.var?_cell gE e5 0

/-- A table of bytes on the list. -/
theorem tab_of {W : World} (h : laidMet Tryz.prog rest W) {n : String} {g : Nat} {t : TypeId} {k : Nat} {zs : List Int} {d : DataW Unit} (hm : (n, d) ∈ rest) (hd : d = Lib.tabData .u8 zs)
    (hg : Tryz.prog.globalNamed n = some g) (ht : (Tryz.prog.globals[g]?).map (·.type) = some t) (hu : Tryz.prog.underlying t = some (.array k 5)) (hc : Tryz.prog.cellsOf t = k) : Lib.TabIs Tryz.prog W n .u8 zs := by
  obtain ⟨g', t', cs, fuel, p, e1, e2, e3, e4⟩ := Lib.laidMet.reads h hm
  rw [hd] at e4
  obtain rfl := Option.some.inj (hg.symm.trans e1)
  obtain rfl := Option.some.inj (ht.symm.trans e2)
  have hcs := Lib.cells_of_tab (k := .u8) (zs := zs) hu Tryz.underlying5 cells5' hc e4
  unfold Lib.TabIs
  rw [e3, ← hcs]

theorem iface_at {W : World} (h : laidMet Tryz.prog rest W) {n : String} {g : Nat} {nm : String} {d D : DataW Unit} (hm : (n, D) ∈ rest) (hD : D = .iface nm d)
    (hg : Tryz.prog.globalNamed n = some g) (ht : (Tryz.prog.globals[g]?).map (·.type) = some 35) : ∃ t p, W.cell? ⟨g, 0, none⟩ = some (.iface t p) := by
  obtain ⟨g', t, cs, fuel, p, e1, e2, e3, e4⟩ := Lib.laidMet.reads h (n := n) (d := D) hm
  rw [hD] at e4
  obtain rfl := Option.some.inj (hg.symm.trans e1)
  obtain rfl := Option.some.inj (ht.symm.trans e2)
  obtain ⟨_, u, v, hcs, _, _⟩ := iface_of_trod Tryz.underlying35 e4
  have hc := World.var?_cell hg e3 0
  have hk : cs[0]? = some (.iface u v) := by
    rw [← Array.getElem?_toList, hcs]
    rfl
  exact ⟨u, v, hc.trans hk⟩

set_option maxRecDepth 100000 in
/-- bytealg.MaxLen holds some number, whatever the world is. -/
theorem ml_of_shape {W : World} (h : W.ShapedOpen Tryz.prog) : ML W := by
  obtain ⟨cs, hh, hs, hr⟩ := h.1 7 #[.int .i64 0] 3 (of_decide_eq_true (by kernel_rfl)) (by kernel_rfl)
  obtain ⟨ts, hts, _, hall⟩ := hr (by kernel_rfl)
  obtain rfl := Option.some.inj ((show Tryz.prog.cellTypes Tryz.prog.depth 3 = some [3] by kernel_rfl).symm.trans hts)
  have h1 : 0 < cs.size := by rw [hs]; decide
  obtain ⟨u, hu, hok⟩ := hall 0 cs[0] (by simp [h1])
  obtain rfl : 3 = u := by simpa using hu
  have hcell : W.cell? ⟨7, 0, none⟩ = some cs[0] := by simp [World.cell?, hh, h1]
  unfold ML
  rw [hcell]
  unfold Cell.ok at hok
  rw [Tryz.underlying3] at hok
  cases hv : cs[0] <;> rw [hv] at hok <;> simp at hok
  rename_i k n
  obtain ⟨rfl, _⟩ := hok
  exact ⟨n, rfl⟩

set_option maxRecDepth 100000 in
theorem shape_size {W : World} (h : W.ShapedOpen Tryz.prog) : 11 < W.heap.size := by
  obtain ⟨cs, hh, _, _⟩ := h.1 11 #[.pointer none] 112 (of_decide_eq_true (by kernel_rfl)) (by kernel_rfl)
  exact lt_of_block hh

theorem tables {W : World} (h : laidMetH Tryz.prog Rows.setTellsRow.laid W) (hsh : W.ShapedOpen Tryz.prog) : KT W := by
  have h' := (split h).1
  have hz := tab_of h' (n := nameAt 9) (zs := t64) (by simp [rest]) data64 g64 g64Type Tryz.underlying220 cells220
  have hsp := tab_of h' (n := nameAt 2) (zs := Lib.asciiSpaceTab) (by simp [rest]) spaceData gSpace gSpaceType Tryz.underlying77 cells77
  have hw := Lib.laidMet.reads h' (n := nameAt 3) (d := Rows.laid_unicode_White_Space) (by simp [rest])
  rw [whiteIs] at hw
  refine ⟨?_, ⟨iface_at h' (n := nameAt 5) (D := Rows.laid_strconv_ErrSyntax) (by simp [rest]) rfl gS gSType, iface_at h' (n := nameAt 6) (D := Rows.laid_strconv_ErrRange) (by simp [rest]) rfl gR gRType⟩, ml_of_shape hsh,
    ⟨hsp, whiteTab_of_reads (ρ := Tryz.fieldsL_ren) { Tryz.fieldsL with } ⟨by kernel_rfl, by kernel_rfl, by kernel_rfl, by kernel_rfl, by kernel_rfl, by kernel_rfl, by kernel_rfl, by kernel_rfl⟩ hw⟩, handle h, shape_size hsh⟩
  exact hz.cell g64 15 (by decide)

/-- The number in a value. -/
def numOf : Value → Int
  | .int _ n => n
  | _ => 0

set_option maxRecDepth 100000 in
theorem open_rg {H : Type} {enc : TypeId × Value → H} {W : World} {base : Nat} {v : Value} {d : DataW H} {ps : List MemPlace}
    (hval : Value.okWide Tryz.prog W .any base 22 v) (h : DataW.Trod enc Tryz.prog W 0 (fun _ => true) true 22 v d ps) (hlt : ∀ x ∈ ps, x.block < W.heap.size) :
    ∃ (ao : Option Addr) (cap : Nat) (s : List RS.Rg), v = .slice ao s.length cap ∧ s.length ≤ maxLen ∧ RgAt W.heap.size W v s := by
  obtain ⟨a0, len, cap, rfl⟩ := okWide_slice Tryz.underlying22 hval
  obtain ⟨fuel, hf⟩ := h
  rcases Deep.open_slice_pairs Tryz.underlying22 Tryz.underlying42 cells42' rfl rfl cells3' cells3' hf with ⟨hcs, hx⟩ | ⟨a, len', cap', m, n, V0, V1, D0, D1, P0, P1, hcs, _, hl, hm, hmm, hx, hcell⟩
  · simp [Value.cells] at hcs
    obtain ⟨rfl, rfl, rfl⟩ := hcs
    exact ⟨none, 0, [], rfl, Nat.zero_le _, ⟨none, 0, rfl, ⟨Nat.le_refl _, fun _ => rfl⟩, fun h => absurd rfl h⟩⟩
  · simp [Value.cells] at hcs
    obtain ⟨rfl, rfl, rfl⟩ := hcs
    simp only [Prod.mk.injEq] at hx
    obtain ⟨rfl, rfl⟩ := hx
    simp only [if_true] at hmm
    subst hmm
    have hlen : ((List.range len).map fun i => (numOf (V0 i), numOf (V1 i))).length = len := by simp
    refine ⟨some a, m, (List.range len).map fun i => (numOf (V0 i), numOf (V1 i)), by rw [hlen], by rw [hlen]; exact Nat.le_trans hl hm, some a, m, by rw [hlen], ⟨by rw [hlen]; exact hl, fun h => by cases h⟩, fun hne => ?_⟩
    have h0 : 0 < len := by rw [← hlen]; exact List.length_pos_iff.2 hne
    obtain ⟨b, off, spot⟩ := a
    have hspot : spot = none := by simpa [Addr.add] using World.cell?_spot (hcell 0 (by omega)).1
    subst hspot
    refine ⟨b, off, rfl, hlt (.cell b off) (List.mem_append.2 (.inl (MemPlace.mem_row.2 ⟨0, by omega, by simp⟩))), fun k hk => ?_⟩
    have hk' : k < len := by rw [hlen] at hk; exact hk
    obtain ⟨c0, c1, t0, t1⟩ := hcell k (by omega)
    obtain ⟨n0, e0, _, _⟩ := DataW.trod_int Tryz.underlying3 t0
    obtain ⟨n1, e1, _, _⟩ := DataW.trod_int Tryz.underlying3 t1
    simp at e0 e1
    rw [e0, add_plain] at c0
    rw [e1, add_plain] at c1
    rw [← Nat.add_assoc] at c1
    simp only [List.getElem_map, List.getElem_range, e0, e1, numOf]
    exact ⟨c0, c1⟩

set_option maxHeartbeats 1000000 in
set_option maxRecDepth 100000 in
theorem early (ao bo : Option Addr) (m n c d : Nat) (p : Int) (s : ByteArray) (h : 30 < m ∨ 30 < n ∨ 300 < s.size) (w : World) :
    Calls Tryz.prog 3 #[.slice ao m c, .slice bo n d, .int .i64 p, .string s] w fun e w' => e = .returned (.bool true) ∧ Below w.heap.size w w' := by
  have HH : Hid (30 < m ∨ 30 < n ∨ 300 < s.size) := h
  clear h
  by_cases h1 : 30 < m
  · have h1' : (30 : Int) < (m : Int) := by omega
    clear h1
    go_enter Tryz.func3, Tryz.ntmps3
    go_wp2_with fail
    go_ret
    exact ⟨rfl, Below.refl _ _⟩
  · have h1' : (m : Int) ≤ 30 := by omega
    by_cases h2 : 30 < n
    · have h2' : (30 : Int) < (n : Int) := by omega
      clear h1 h2
      go_enter Tryz.func3, Tryz.ntmps3
      go_wp2_with fail
      go_ret
      exact ⟨rfl, Below.refl _ _⟩
    · have h2' : (n : Int) ≤ 30 := by omega
      have h3' : (300 : Int) < (s.size : Int) := by have := HH.out; omega
      clear h1 h2
      go_enter Tryz.func3, Tryz.ntmps3
      go_wp2_with fail
      go_ret
      exact ⟨rfl, Below.refl _ _⟩

theorem all (ao bo : Option Addr) (c d : Nat) (A B : List RS.Rg) (p : Int) (s : ByteArray) (w : World) (hK : KT w) (ha : RgAt w.heap.size w (.slice ao A.length c) A) (hb : RgAt w.heap.size w (.slice bo B.length d) B) :
    Calls Tryz.prog 3 #[.slice ao A.length c, .slice bo B.length d, .int .i64 p, .string s] w fun e w' => e = .returned (.bool true) ∧ Below w.heap.size w w' := by
  by_cases h : 30 < A.length ∨ 30 < B.length ∨ 300 < s.size
  · exact early ao bo _ _ c d p s h w
  · exact tells_main ao bo c d A B p s (by omega) (by omega) (by omega) w hK ha hb

set_option maxRecDepth 100000 in
theorem contract (H : Type) (enc : TypeId × Value → H) (W : World) (base : Nat) (args : Array Value) (ds gs : List (DataW H)) (before : List MemPlace)
    (hval : ∀ (j : Nat) t v, Tryz.f3.params[j]? = some t → args[j]? = some v → Value.okWide Tryz.prog W .any base t v)
    (hW : DataW.Whole enc Tryz.prog Tryz.f3.params.toList Rows.setTellsSpec.vars false W args.toList ds gs before) (hL : laidMetH Tryz.prog Rows.setTellsRow.laid W) (hsh : W.ShapedOpen Tryz.prog) :
    Calls Tryz.prog 3 args W fun e W' => ∃ v, e = .returned v ∧ Rows.setTellsSpec.post enc Tryz.prog Tryz.f3 false true false false W args v W' := by
  have hW' := hW
  obtain ⟨p, q, hA0, hV, rfl, hfz, hnd⟩ := hW
  have hA : DataW.TrodAll enc Tryz.prog W 0 (fun _ => true) true Tryz.f3.params.toList args.toList ds p := hA0
  rw [Tryz.params3] at hA hval
  obtain ⟨v0, vs0, d0, ds0, p0, q0, hargs, rfl, rfl, h0, r0⟩ := trodAll_cons hA
  obtain ⟨v1, vs1, d1, ds1, p1, q1, rfl, rfl, rfl, h1, r1⟩ := trodAll_cons r0
  obtain ⟨v2, vs2, d2, ds2, p2, q2, rfl, rfl, rfl, h2, r2⟩ := trodAll_cons r1
  obtain ⟨v3, vs3, d3, ds3, p3, q3, rfl, rfl, rfl, h3, r3⟩ := trodAll_cons r2
  obtain ⟨rfl, rfl, rfl⟩ := trodAll_nil r3
  obtain rfl : args = #[v0, v1, v2, v3] := by cases args; simp_all
  obtain ⟨rfl, rfl⟩ := trodVars_none hV
  obtain ⟨s, rfl, rfl, rfl, hs⟩ := Go.ChangeMaps.open_string Tryz.underlying9 (hval 3 9 v3 rfl rfl) h3
  obtain ⟨fuel2, hf2⟩ := h2
  have h2k : DataW.Trod enc Tryz.prog W 0 (fun _ => true) true 3 v2 d2 p2 := ⟨fuel2, hf2⟩
  clear hA0
  simp only [List.append_nil] at hW'
  have hlt0 : ∀ y ∈ p0, y.block < W.heap.size := fun y hy => hW'.lt y (by simp [hy])
  have hlt1 : ∀ y ∈ p1, y.block < W.heap.size := fun y hy => hW'.lt y (by simp [hy])
  have hlt2 : ∀ y ∈ p2, y.block < W.heap.size := fun y hy => hW'.lt y (by simp [hy])
  obtain ⟨ao0, c0, A, rfl, hl0, hr0⟩ := open_rg (hval 0 22 v0 rfl rfl) h0 hlt0
  obtain ⟨ao1, c1, B, rfl, hl1, hr1⟩ := open_rg (hval 1 22 v1 rfl rfl) h1 hlt1
  obtain ⟨z, rfl⟩ : ∃ z, v2 = .int .i64 z := okWide_int Tryz.underlying3 (hval 2 3 v2 rfl rfl)
  have hK := tables hL hsh
  refine (all ao0 ao1 c0 c1 A B z s W hK hr0 hr1).mono fun e W' ⟨he, hb⟩ => ?_
  subst he
  exact ⟨_, rfl, _, _, _, [], _, [], hW', trodAll_cons_mk (shut_bool Tryz.underlying4 _) trodAll_mk0,
    trodAll_cons_mk (Below.trod laidOut (by kernel_rfl) (of_decide_eq_true (by kernel_rfl)) h0 hb hlt0) (trodAll_cons_mk (Below.trod laidOut (by kernel_rfl) (of_decide_eq_true (by kernel_rfl)) h1 hb hlt1) (trodAll_cons_mk (Below.trod laidOut (by kernel_rfl) (of_decide_eq_true (by kernel_rfl)) h2k hb hlt2) (trodAll_cons_mk (Go.ChangeMaps.shut_string Tryz.underlying9 hs) trodAll_mk0))), rfl, hb.frame _, fun h => by cases h⟩

end Tells
end Go.Proofs.YtefcjoomongcmaaGreatDoor
