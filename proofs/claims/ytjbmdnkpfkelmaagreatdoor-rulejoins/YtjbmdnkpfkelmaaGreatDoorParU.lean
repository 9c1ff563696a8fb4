/- The contract of Parse. -/
import Derived.Test.YtjbmdnkpfkelmaaGreatDoorParT
import Derived.Test.YtjbmdnkpfkelmaaGreatDoorPlain
namespace RP

/-- The file that a text is, or what is wrong with it. -/
def parseP (S : List UInt8 → Option (List RS.Rg)) (s : List UInt8) : Except Bad Fi :=
  match toks s with
  | .error b => .error b
  | .ok ts => match fileP S ts with
    | .error b => .error b
    | .ok (f, _) => .ok f

end RP
namespace Go.Proofs.YtjbmdnkpfkelmaaGreatDoor.Q
open Go.RowKit Go.Shelf

/-- A file in memory, in such blocks. -/
def FAt (ok : Nat → Prop) (w : World) (v : Value) (f : RP.Fi) : Prop :=
  ∃ cv rv vs us, v = .agg #[cv, rv, .bool f.els] ∧ Row ok w 44 3 cv f.classes.length vs ∧ Row ok w 48 4 rv f.rules.length us ∧ CsAt ok w vs f.classes ∧ RsAt ok w us f.rules

/-- What Parse hands back. -/
def Parsed (w : World) (r : Except RP.Bad RP.Fi) (e : Ending) (w' : World) : Prop :=
  match r with
  | .error b => ∃ g, e = .returned (.tuple #[.agg #[.slice none 0 0, .slice none 0 0, .bool false], .iface 33 (.pointer (some ⟨g, 0, none⟩))]) ∧ w'.heap[g]? = some (.cells #[.int .i64 b.err, .int .i64 b.place] 77) ∧ w.heap.size ≤ g
  | .ok f => ∃ v, e = .returned (.tuple #[v, .nilIface]) ∧ FAt (New w) w' v f

theorem flat3_get : ∀ (ts : List RP.Tok) (k j : Nat) (hk : k < ts.length) (_ : j < 3), (flat3 ts)[k * 3 + j]? = (cells3 ts[k])[j]?
  | [], k, _, hk, _ => by simp at hk
  | t :: ts, 0, j, _, hj => by
    rw [flat3, List.flatMap_cons, List.getElem?_append_left (by simp [cells3]; omega)]
    simp
  | t :: ts, k + 1, j, hk, hj => by
    rw [flat3, List.flatMap_cons, List.getElem?_append_right (by simp [cells3]; omega)]
    have e : (k + 1) * 3 + j - (cells3 t).length = k * 3 + j := by simp [cells3]; omega
    rw [e]
    exact flat3_get ts k j (by simpa using hk) hj

/-- The tokens lie in the parser's hands. -/
theorem PS.make {w : World} {B : Nat} {v : Value} {ts : List RP.Tok} (h : w.ownsRow B 53 3 v ts.length (flat3 ts)) (hne : ts ≠ []) (hl : ts.length ≤ 501) :
    PS w.heap.size ts 0 (w.alloc (.cells #[v, .int .i64 0] 38)) := by
  obtain ⟨h1, h2 | ⟨g, cap, cur, rfl, hgl, hh, hnc, hcm, hcs, ht⟩⟩ := h
  · exact absurd (List.length_eq_zero_iff.1 h2.2) hne
  · have hlt := lt_of_block hh
    refine ⟨g, 0, cap, heap_alloc_new _ _, hlt, hnc, ⟨by omega, by unfold maxLen at hcm; omega⟩, fun k hk => ?_⟩
    have hg : ∀ j, (w.alloc (.cells #[.slice (some ⟨g, 0, none⟩) ts.length cap, .int .i64 0] 38)).cell? ⟨g, j, none⟩ = cur[j]? := by
      intro j
      rw [cell_alloc_old _ _ _ _ hlt]
      simp [World.cell?, hh]
    have hc : ∀ j, j < 3 → cur[k * 3 + j]? = (cells3 ts[k])[j]? := by
      intro j hj
      have h3 : k * 3 + j < ts.length * 3 := by omega
      have h4 : cur[k * 3 + j]? = (flat3 ts)[k * 3 + j]? := by
        rw [← ht, List.getElem?_take_of_lt h3, Array.getElem?_toList]
      rw [h4]
      exact flat3_get ts k j hk hj
    simp only [Nat.zero_add]
    refine ⟨?_, ?_, ?_⟩
    · rw [hg]; exact hc 0 (by omega)
    · rw [hg]; exact hc 1 (by omega)
    · rw [hg]; exact hc 2 (by omega)

theorem toks_ne {ts : List RP.Tok} (hf : RP.Fine ts) : ts ≠ [] := by
  obtain ⟨t, r, rfl⟩ := hf.cons
  simp

theorem load28 {w : World} {k : Nat} {v : Value} (h : w.cell? ⟨k, 0, none⟩ = some v) : (loadVar 28 ⟨k, 0, none⟩).run Tryz.prog w = .ok v w := by
  simp [loadVar, Sem.run_bind, Tryz.isAgg28, go_sem, h, Result.andThen]

/-- What Parse's frame hands back, out of its two variables. -/
theorem results5 (tmps : Array Value) (w : World) (n : Nat) (a b c y : Value) (h2 : tmps.getD 2 undef = .pointer (some ⟨n, 0, none⟩)) (h3 : tmps.getD 3 undef = .pointer (some ⟨n + 1, 0, none⟩))
    (h0 : w.heap[n]? = some (.cells #[a, b, c] 26)) (h1 : w.heap[n + 1]? = some (.cells #[y] 28)) : (results Tryz.f5 tmps).run Tryz.prog w = .ok (.tuple #[.agg #[a, b, c], y]) w :=
  results_cells2 rfl tmps Tryz.prog w ⟨n, 0, none⟩ ⟨n + 1, 0, none⟩ _ _ h2 h3 (run_loadVar_row w n 26 26 #[a, b, c] _ _ h0 Tryz.underlying26 rfl size26) (load28 (loc_cell (k := 0) h1 rfl))

theorem FAt.of {w w3 w4 w5 : World} {cv rv : Value} {f : RP.Fi} {vs us : List Value} (h1 : w4.ownsRow w3.heap.size 44 3 cv f.classes.length vs) (h2 : w4.ownsRow w3.heap.size 48 4 rv f.rules.length us) (h3 : CsAt (New w3) w4 vs f.classes) (h4 : RsAt (New w3) w4 us f.rules)
    (hs : w.heap.size ≤ w3.heap.size) (hk : Keeps (New w3) w4 w5) : FAt (New w) w5 (.agg #[cv, rv, .bool f.els]) f :=
  ⟨cv, rv, vs, us, rfl, ((Row.new h1).keep hk).mono (New.mono hs), ((Row.new h2).keep hk).mono (New.mono hs), (h3.keep hk).mono (New.mono hs), (h4.keep hk).mono (New.mono hs)⟩

set_option maxHeartbeats 4000000 in
set_option maxRecDepth 100000 in
theorem parse_any (s : ByteArray) (hs : s.size ≤ 5000) (w : World) (hK : KT w) :
    Calls Tryz.prog 5 #[.string s] w fun e w' => Parsed w (RP.parseP setOf s.data.toList) e w' ∧ Below w.heap.size w w' := by
  have hmf : ∀ (fn : Fn) (first cap : Array Value) (w : World), (Instr.makeFunc fn first cap).run Tryz.prog w = .ok (.func fn first cap) w := fun _ _ _ _ => rfl
  have hT := tokens_any s (by omega) ((w.alloc (.cells #[.slice none 0 0, .slice none 0 0, .bool false] 26)).alloc (.cells #[.nilIface] 28))
  have hgA : w.grownBy ((w.alloc (.cells #[.slice none 0 0, .slice none 0 0, .bool false] 26)).alloc (.cells #[.nilIface] 28)) none := (World.grownBy_alloc _ _ _).trans (World.grownBy_alloc _ _ _)
  have hA0 : ((w.alloc (.cells #[.slice none 0 0, .slice none 0 0, .bool false] 26)).alloc (.cells #[.nilIface] 28)).heap[w.heap.size]? = some (.cells #[.slice none 0 0, .slice none 0 0, .bool false] 26) := (heap_alloc_old _ _ (by simp)).trans (heap_alloc_new _ _)
  have hA1 : ((w.alloc (.cells #[.slice none 0 0, .slice none 0 0, .bool false] 26)).alloc (.cells #[.nilIface] 28)).heap[w.heap.size + 1]? = some (.cells #[.nilIface] 28) := by
    have := heap_alloc_new (w.alloc (.cells #[.slice none 0 0, .slice none 0 0, .bool false] 26)) (.cells #[.nilIface] 28)
    simpa using this
  go_enter_defers Tryz.func5, Tryz.ntmps5
  go_wp2_with fail
  generalize hW : (w.alloc (.cells #[.slice none 0 0, .slice none 0 0, .bool false] 26)).alloc (.cells #[.nilIface] 28) = W at hT hgA hA0 hA1 ⊢
  clear hW
  have hB0 : Hid (Below w.heap.size w W) := ⟨hgA.os, hgA.tape, hgA.output, hgA.size, fun k hk => hgA.block k hk (by simp)⟩
  have HK : Hid (KT w) := hK
  clear hK
  cases ht : RP.toks s.data.toList with
  | error b =>
    rw [ht] at hT
    have HR : Hid (RP.parseP setOf s.data.toList = .error b) := by show _ = _; rw [RP.parseP, ht]
    clear ht
    refine hT.mono ?_
    rintro e w2 ⟨⟨g, rfl, k1, k2, k3⟩, hb2⟩
    clear hT
    go_wp2_with fail
    refine leaves_cons (f := 8) (args := #[.pointer (some ⟨w.heap.size + 1, 0, none⟩)]) (by simp) (by simp [go_sem]) ?_
    have n0 := (hb2.block _ (lt_of_block hA0)).trans hA0
    have n1 := (hb2.block _ (lt_of_block hA1)).trans hA1
    refine (catch_thrown ⟨w.heap.size + 1, 0, none⟩ .nilIface g _ (loc_cell (k := 0) n1 rfl) (loc_free (k := 0) n1)).mono ?_
    rintro e u' w'' ⟨rfl, rfl, rfl⟩
    have hgS : w2.grownBy (w2.setCell ⟨w.heap.size + 1, 0, none⟩ (.iface 33 (.pointer (some ⟨g, 0, none⟩)))) (some (w.heap.size + 1)) := grown_set _
    have m0 := (hgS.block _ (lt_of_block n0) (fun e => by have := Option.some.inj e; omega)).trans n0
    have m1 := heap_setCell_same w2 _ 0 _ 28 (.iface 33 (.pointer (some ⟨g, 0, none⟩))) n1
    have hlA := lt_of_block hA1
    refine (show ∃ v, (results Tryz.f5 _).run Tryz.prog _ = .ok v _ ∧ _ from ⟨_, results5 _ _ w.heap.size _ _ _ _ rfl rfl m0 m1, ?_, ?_⟩)
    · rw [HR.out]
      exact ⟨g, rfl, (hgS.block _ k3 (fun e => by have := Option.some.inj e; omega)).trans k1, by omega⟩
    · exact ((hB0.out).trans (hb2.mono hB0.out.size)).setCell (p := ⟨w.heap.size + 1, 0, none⟩) (by show _ ≤ w.heap.size + 1; omega) _
  | ok ts =>
    rw [ht] at hT
    obtain ⟨hf, hl501⟩ := RP.toks_fine (by have : s.data.toList.length = s.size := by simp
                                           omega) ht
    have HR : Hid (RP.parseP setOf s.data.toList = match RP.fileP setOf ts with
        | .error b => .error b
        | .ok (f, _) => .ok f) := by show _ = _; rw [RP.parseP, ht]
    clear ht
    refine hT.mono ?_
    rintro e w2 ⟨⟨v, rfl, hown⟩, hb2⟩
    clear hT
    have hP := PS.make hown (toks_ne hf) hl501
    obtain ⟨ao, cp, rfl⟩ := own_slice hown
    have n0 := (hb2.block _ (lt_of_block hA0)).trans hA0
    have n1 := (hb2.block _ (lt_of_block hA1)).trans hA1
    have hl0 := lt_of_block hA0
    have hl1 := lt_of_block hA1
    have hs2 := hb2.size
    have hB3 : Below w.heap.size w (w2.alloc (.cells #[.slice ao ts.length cp, .int .i64 0] 38)) := (hB0.out.trans (hb2.mono hB0.out.size)).alloc (by omega) _
    have h5w := HK.out.2.2.2
    have hF := file_any w2.heap.size ts _ hf (by omega) (HK.out.below hB3) hP
    have HN0 : Hid (w2.heap[w.heap.size]? = some (.cells #[.slice none 0 0, .slice none 0 0, .bool false] 26)) := n0
    have HN1 : Hid (w2.heap[w.heap.size + 1]? = some (.cells #[.nilIface] 28)) := n1
    clear hP hown n0 n1 hA0 hA1 hgA
    go_wp2_with fail
    have hN0 := (heap_alloc_old w2 (.cells #[.slice ao ts.length cp, .int .i64 0] 38) (lt_of_block HN0.out)).trans HN0.out
    have hN1 := (heap_alloc_old w2 (.cells #[.slice ao ts.length cp, .int .i64 0] 38) (lt_of_block HN1.out)).trans HN1.out
    have hs3 : (w2.alloc (.cells #[.slice ao ts.length cp, .int .i64 0] 38)).heap.size = w2.heap.size + 1 := by simp
    generalize hW3 : w2.alloc (.cells #[.slice ao ts.length cp, .int .i64 0] 38) = W3 at hB3 hF hN0 hN1 hs3 ⊢
    clear hW3
    cases hfp : RP.fileP setOf ts with
    | error b =>
      rw [hfp] at hF
      have HR2 : Hid (RP.parseP setOf s.data.toList = .error b) := by show _ = _; rw [HR.out, hfp]
      clear hfp HR
      refine hF.mono ?_
      rintro e w4 ⟨hg4, g, rfl, k1, k2, k3⟩
      clear hF
      go_wp2_with fail
      refine leaves_cons (f := 8) (args := #[.pointer (some ⟨w.heap.size + 1, 0, none⟩)]) (by simp) (by simp [go_sem]) ?_
      have n0 := (hg4.block _ (lt_of_block hN0) (fun e => by have := Option.some.inj e; omega)).trans hN0
      have n1 := (hg4.block _ (lt_of_block hN1) (fun e => by have := Option.some.inj e; omega)).trans hN1
      refine (catch_thrown ⟨w.heap.size + 1, 0, none⟩ .nilIface g _ (loc_cell (k := 0) n1 rfl) (loc_free (k := 0) n1)).mono ?_
      rintro e u' w'' ⟨rfl, rfl, rfl⟩
      have hgS : w4.grownBy (w4.setCell ⟨w.heap.size + 1, 0, none⟩ (.iface 33 (.pointer (some ⟨g, 0, none⟩)))) (some (w.heap.size + 1)) := grown_set _
      have m0 := (hgS.block _ (lt_of_block n0) (fun e => by have := Option.some.inj e; omega)).trans n0
      have m1 := heap_setCell_same w4 _ 0 _ 28 (.iface 33 (.pointer (some ⟨g, 0, none⟩))) n1
      refine (show ∃ v, (results Tryz.f5 _).run Tryz.prog _ = .ok v _ ∧ _ from ⟨_, results5 _ _ w.heap.size _ _ _ _ rfl rfl m0 m1, ?_, ?_⟩)
      · rw [HR2.out]
        exact ⟨g, rfl, (hgS.block _ k3 (fun e => by have := Option.some.inj e; omega)).trans k1, by omega⟩
      · exact (hB3.grown hg4 (by omega) (fun j hj => by have := Option.some.inj hj; omega)).setCell (p := ⟨w.heap.size + 1, 0, none⟩) (by show _ ≤ w.heap.size + 1; omega) _
    | ok y =>
      obtain ⟨f, q⟩ := y
      rw [hfp] at hF
      have HR2 : Hid (RP.parseP setOf s.data.toList = .ok f) := by show _ = _; rw [HR.out, hfp]
      clear hfp HR
      refine hF.mono ?_
      rintro e w4 ⟨hg4, cv, rv, vs, us, rfl, o1, o2, o3, o4⟩
      clear hF
      obtain ⟨co, cc, rfl⟩ := own_slice o1
      obtain ⟨ro, rc, rfl⟩ := own_slice o2
      have n0 := (hg4.block _ (lt_of_block hN0) (fun e => by have := Option.some.inj e; omega)).trans hN0
      have n1 := (hg4.block _ (lt_of_block hN1) (fun e => by have := Option.some.inj e; omega)).trans hN1
      have b0 := loc_cell (k := 0) n0 rfl
      have b1 := loc_cell (k := 1) n0 rfl
      have b2 := loc_cell (k := 2) n0 rfl
      have z0 := loc_free (k := 0) n0
      have z1 := loc_free (k := 1) n0
      have z2 := loc_free (k := 2) n0
      have c0 := loc_cell (k := 0) n1 rfl
      have y0 := loc_free (k := 0) n1
      have HM0 : Hid (w4.heap[w.heap.size]? = some (.cells #[.slice none 0 0, .slice none 0 0, .bool false] 26)) := n0
      have HM1 : Hid (w4.heap[w.heap.size + 1]? = some (.cells #[.nilIface] 28)) := n1
      have HO : Hid (w4.ownsRow W3.heap.size 44 3 (.slice co f.classes.length cc) f.classes.length vs ∧ w4.ownsRow W3.heap.size 48 4 (.slice ro f.rules.length rc) f.rules.length us ∧ CsAt (New W3) w4 vs f.classes ∧ RsAt (New W3) w4 us f.rules) := ⟨o1, o2, o3, o4⟩
      have HG4 : Hid (W3.grownBy w4 (some w2.heap.size)) := hg4
      clear n0 n1 hN0 hN1 o1 o2 o3 o4 hg4
      go_wp2_with fail
      refine leaves_cons (f := 8) (args := #[.pointer (some ⟨w.heap.size + 1, 0, none⟩)]) (by simp) (by simp [go_sem]) ?_
      refine (catch_idle ⟨w.heap.size + 1, 0, none⟩ _).mono ?_
      rintro e u' w'' ⟨rfl, rfl, rfl⟩
      have hL := row3_set HM0.out (.slice co f.classes.length cc) (.slice ro f.rules.length rc) (.bool f.els)
      have hgF := grown_set3 w4 w.heap.size (.slice co f.classes.length cc) (.slice ro f.rules.length rc) (.bool f.els)
      have hL1 := (hgF.block _ (lt_of_block HM1.out) (fun e => by have := Option.some.inj e; omega)).trans HM1.out
      have hBF := (hB3.grown HG4.out (by omega) (fun j hj => by have := Option.some.inj hj; omega)).grown hgF (by have := HG4.out.size; omega) (fun j hj => by have := Option.some.inj hj; omega)
      generalize hWF : ((w4.setCell ⟨w.heap.size, 0, none⟩ (.slice co f.classes.length cc)).setCell ⟨w.heap.size, 1, none⟩ (.slice ro f.rules.length rc)).setCell ⟨w.heap.size, 2, none⟩ (.bool f.els) = WF at hL hgF hL1 hBF ⊢
      clear hWF
      have hgS : WF.grownBy (WF.setCell ⟨w.heap.size + 1, 0, none⟩ .nilIface) (some (w.heap.size + 1)) := grown_set _
      have m0 := (hgS.block _ (lt_of_block hL) (fun e => by have := Option.some.inj e; omega)).trans hL
      have m1 := heap_setCell_same WF _ 0 _ 28 .nilIface hL1
      refine (show ∃ v, (results Tryz.f5 _).run Tryz.prog _ = .ok v _ ∧ _ from ⟨_, results5 _ _ w.heap.size _ _ _ _ rfl rfl m0 m1, ?_, ?_⟩)
      · rw [HR2.out]
        refine ⟨_, rfl, FAt.of HO.out.1 HO.out.2.1 HO.out.2.2.1 HO.out.2.2.2 (by omega) ?_⟩
        intro b hb hbl
        have hb : W3.heap.size ≤ b := hb
        have h1 := hgF.block b hbl (fun e => by have := Option.some.inj e; omega)
        exact (hgS.block b (Nat.lt_of_lt_of_le hbl hgF.size) (fun e => by have := Option.some.inj e; omega)).trans h1
      · exact hBF.setCell (p := ⟨w.heap.size + 1, 0, none⟩) (by show _ ≤ w.heap.size + 1; omega) _

end Go.Proofs.YtjbmdnkpfkelmaaGreatDoor.Q
