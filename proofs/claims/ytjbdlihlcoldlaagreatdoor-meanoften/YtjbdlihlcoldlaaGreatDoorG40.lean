/- right: a file of which nothing is found. -/
import Derived.Test.YtjbdlihlcoldlaaGreatDoorG38
import Derived.Test.YtjbdlihlcoldlaaGreatDoorG39
namespace Go.Proofs.YtjbdlihlcoldlaaGreatDoor.M
open Go.RowKit Go.Shelf Go.Proofs.YtjbdlihlcoldlaaGreatDoor.Q

theorem FAt.agg {ok : Nat → Prop} {w : World} {v : Value} {f : RP.Fi} (h : FAt ok w v f) : ∃ co cn cc ro rn rc, v = .agg #[.slice co cn cc, .slice ro rn rc, .bool f.els] ∧ Hid (cn = f.classes.length ∧ rn = f.rules.length) := by
  obtain ⟨cv, rv, vs, us, rfl, h1, h2, h3, h4⟩ := h
  obtain ⟨co, cc, rfl⟩ := own_slice h1.1
  obtain ⟨ro, rc, rfl⟩ := own_slice h2.1
  exact ⟨co, _, cc, ro, _, rc, rfl, rfl, rfl⟩

theorem FAt.all {ok : Nat → Prop} {w w' : World} {v : Value} {f : RP.Fi} (h : FAt ok w v f) (hb : Below w.heap.size w w') : FAt (fun _ => True) w' v f := by
  have hk : Keeps (fun _ => True) w w' := fun b _ hl => hb.block b hl
  obtain ⟨cv, rv, vs, us, rfl, h1, h2, h3, h4⟩ := h
  have hm : ∀ b, b < w.heap.size → ok b → True := fun _ _ _ => trivial
  exact ⟨cv, rv, vs, us, rfl, (h1.mono hm).keep hk, (h2.mono hm).keep hk, (CsAt.mono hm h3).keep hk, (RsAt.mono hm h4).keep hk⟩

theorem FAt.move {ok ok' : Nat → Prop} {w w' : World} {v : Value} {f : RP.Fi} (hm : ∀ b, b < w.heap.size → ok b → ok' b) (hk : Keeps ok' w w') (h : FAt ok w v f) : FAt ok' w' v f := by
  obtain ⟨cv, rv, vs, us, rfl, h1, h2, h3, h4⟩ := h
  exact ⟨cv, rv, vs, us, rfl, (h1.mono hm).keep hk, (h2.mono hm).keep hk, (CsAt.mono hm h3).keep hk, (RsAt.mono hm h4).keep hk⟩

/-- A file that is right: what is known of it. -/
def RightF (f : RP.Fi) : Prop := CK.FitF f ∧ ShortF f ∧ CK.checkF 9 7 f = none

/-- What right answers. -/
def RightSay (w : World) (s : List UInt8) (e : Ending) (w' : World) : Prop :=
  ((∃ co cn cc ro rn rc el, e = .returned (.tuple #[.agg #[.slice co cn cc, .slice ro rn rc, .bool el], .bool false])) ∨
    ∃ v f, e = .returned (.tuple #[v, .bool true]) ∧ FAt (fun _ => True) w' v f ∧ RightF f ∧ RP.parseP setOf s = .ok f ∧ s.length ≤ 500) ∧ Below w.heap.size w w'

theorem bytes_len (b : ByteArray) : b.data.toList.length = b.size := by simp

theorem enter37 (args : Array Value) (w : World) : (callFunc 37 args).run Tryz.prog w = .ok (.enter 37 args) w := by kernel_rfl

/-- A guarded call whose contract is known, as a step of a region that draws. -/
theorem step_callg {P : Program} {ops : Array Oper} {o : Oper} {a : Act} {w : World} {K : Act → World → Prop} {Q : Exit → Act → World → Prop} {E : Prop} {R : Ending → World → Prop}
    (hw : Region.wanted o (yielded ops a.tmps) = true) (f : FuncId) (x : Operand) (tys : Array TypeId) (hop : o.op = Op.call { callee := Callee.value (Operand.func f), args := #[x], argTypes := tys })
    (v : Value) (hx : a.eval x = v) (hf : a.eval (Operand.func f) = .func (.func f) #[] #[]) (he : (callFunc f #[v]).run P w = .ok (.enter f #[v]) w) (hC : Calls P f #[v] w R)
    (hR : ∀ e w', R e w' → ∃ u, e = .returned u ∧ K (a.put o.dst u) w') :
    if Region.wanted o (yielded ops a.tmps) = true then Oper.wp P o a w K Q else E := by
  rw [if_pos hw]
  unfold Oper.wp
  simp [execOp, hop, resolve, invoke, hx, hf, he, Oper.upon, Deferred.ofValue]
  refine hC.mono fun e w' h => ?_
  obtain ⟨u, rfl, hu⟩ := hR e w' h
  exact hu

/-- The result's variable and the file's box. -/
def TwoAt (w : World) (g h : Nat) (x y z : Value) (W : World) : Prop :=
  W.heap[g]? = some (.cells #[.slice none 0 0, .slice none 0 0, .bool false] 26 (0, 0)) ∧ W.heap[h]? = some (.cells #[x, y, z] 26 (0, 0)) ∧ Below w.heap.size w W ∧ w.heap.size ≤ g

theorem TwoAt.on {w : World} {g h : Nat} {x y z : Value} {W W' : World} (k : TwoAt w g h x y z W) (hb : Below W.heap.size W W') : TwoAt w g h x y z W' := by
  obtain ⟨h1, h2, h3, h4⟩ := k
  exact ⟨(hb.block g (lt_of_block h1)).trans h1, (hb.block h (lt_of_block h2)).trans h2, h3.trans (hb.mono h3.size), h4⟩

theorem TwoAt.facts {w : World} {g h : Nat} {x y z : Value} {W : World} (k : TwoAt w g h x y z W) : (W.cell? ⟨g, 0, none⟩ = some (.slice none 0 0) ∧ W.cell? ⟨g, 1, none⟩ = some (.slice none 0 0) ∧ W.cell? ⟨g, 2, none⟩ = some (.bool false)) ∧ (W.frozen? ⟨g, 0, none⟩ = false ∧ W.frozen? ⟨g, 1, none⟩ = false ∧ W.frozen? ⟨g, 2, none⟩ = false) ∧ (W.cell? ⟨h, 0, none⟩ = some x ∧ W.cell? ⟨h, 1, none⟩ = some y ∧ W.cell? ⟨h, 2, none⟩ = some z) :=
  ⟨⟨cell_of_row W g 0 _ _ _ k.1, cell_of_row W g 1 _ _ _ k.1, cell_of_row W g 2 _ _ _ k.1⟩, ⟨frozen_of_row W g 0 _ _ k.1, frozen_of_row W g 1 _ _ k.1, frozen_of_row W g 2 _ _ k.1⟩, cell_of_row W h 0 _ _ _ k.2.1, cell_of_row W h 1 _ _ _ k.2.1, cell_of_row W h 2 _ _ _ k.2.1⟩

theorem results_cell_tmp {P : Program} {fn : Func} {p t : Tmp} {ty : TypeId} (h : fn.results = #[.cell p ty, .tmp t]) (tmps : Array Value) (w : World) (g : Nat) (t' : TypeId) (cs : Array Value) (fr : Nat × Nat) (d : TypeDesc)
    (hp : tmps.getD p undef = .pointer (some ⟨g, 0, none⟩)) (hg : w.heap[g]? = some (.cells cs t' fr))
    (hu : P.underlying ty = some d) (hd : (match d with | .struct _ | .array _ _ => true | _ => false) = true) (hi : (P.info? ty).map (·.size) = some cs.size) :
    (results fn tmps).run P w = .ok (.tuple #[.agg cs, tmps.getD t undef]) w := by
  have hp' : tmps[p]?.getD undef = .pointer (some ⟨g, 0, none⟩) := by simpa using hp
  simp [results, h, hp', asAddr, run_loadVar_row w g t' ty cs fr d hg hu hd hi]

theorem set3 {W : World} {g : Nat} {a b c x y z : Value} (h : W.heap[g]? = some (.cells #[a, b, c] 26 (0, 0))) : (((W.setCell ⟨g, 0, none⟩ x).setCell ⟨g, 1, none⟩ y).setCell ⟨g, 2, none⟩ z).heap[g]? = some (.cells #[x, y, z] 26 (0, 0)) := by
  have h1 := heap_setCell_same W g 0 _ 26 x h
  have h2 := heap_setCell_same _ g 1 _ 26 y h1
  have h3 := heap_setCell_same _ g 2 _ 26 z h2
  exact h3

theorem three_below {w : World} {g h : Nat} {x y z : Value} {W : World} (k : TwoAt w g h x y z W) (x' y' z' : Value) : Below w.heap.size w (((W.setCell ⟨g, 0, none⟩ x').setCell ⟨g, 1, none⟩ y').setCell ⟨g, 2, none⟩ z').drew :=
  below_drewN' (((k.2.2.1.setCell (p := ⟨g, 0, none⟩) k.2.2.2 _).setCell (p := ⟨g, 1, none⟩) k.2.2.2 _).setCell (p := ⟨g, 2, none⟩) k.2.2.2 _) 1

theorem three_below' {w : World} {g h : Nat} {x y z : Value} {W : World} (k : TwoAt w g h x y z W) (x' y' z' : Value) : Below w.heap.size w (((W.setCell ⟨g, 0, none⟩ x').setCell ⟨g, 1, none⟩ y').setCell ⟨g, 2, none⟩ z') :=
  (((k.2.2.1.setCell (p := ⟨g, 0, none⟩) k.2.2.2 _).setCell (p := ⟨g, 1, none⟩) k.2.2.2 _).setCell (p := ⟨g, 2, none⟩) k.2.2.2 _)

theorem three_keeps (W : World) (g : Nat) (x y z : Value) : Keeps (fun b => b ≠ g) W (((W.setCell ⟨g, 0, none⟩ x).setCell ⟨g, 1, none⟩ y).setCell ⟨g, 2, none⟩ z) := fun b hb _ =>
  (heap_setCell_other _ ⟨g, 2, none⟩ b z hb).trans ((heap_setCell_other _ ⟨g, 1, none⟩ b y hb).trans (heap_setCell_other _ ⟨g, 0, none⟩ b x hb))

set_option maxHeartbeats 4000000 in
set_option maxRecDepth 100000 in
theorem right_any (s : ByteArray) (w : World) (hK : KT w) : Calls Tryz.prog 11 #[.string s] w (RightSay w s.data.toList) := by
  by_cases hs : s.size ≤ 500
  · have hsi : ¬ ((500 : Int) < (s.size : Int)) := by omega
    have hb0 := below_alloc1 w (.cells #[.slice none 0 0, .slice none 0 0, .bool false] 26)
    have C := parse_any s (by omega) (w.alloc (.cells #[.slice none 0 0, .slice none 0 0, .bool false] 26)) (hK.below hb0)
    have HB0 : Hid (Below w.heap.size w (w.alloc (.cells #[.slice none 0 0, .slice none 0 0, .bool false] 26))) := hb0
    have HX : Hid ((w.alloc (.cells #[.slice none 0 0, .slice none 0 0, .bool false] 26)).heap[w.heap.size]? = some (.cells #[.slice none 0 0, .slice none 0 0, .bool false] 26 (0, 0))) := heap_alloc_new _ _
    have HL : Hid (s.data.toList.length ≤ 500) := by show _ ≤ _; rw [bytes_len]; exact hs
    obtain ⟨sl, hsl⟩ : ∃ l, l = s.data.toList := ⟨_, rfl⟩
    rw [← hsl] at C HL ⊢
    clear hb0 hK hsl
    cases hp : RP.parseP setOf sl with
    | error b =>
      rw [hp] at C
      clear hp
      go_enter Tryz.func11, Tryz.ntmps11
      go_wp2_with fail
      generalize hw0 : w.alloc (.cells #[.slice none 0 0, .slice none 0 0, .bool false] 26) = w0 at C HB0 HX ⊢
      refine C.mono ?_
      rintro e w1 ⟨⟨g, rfl, k1, k2⟩, hb1⟩
      have hr1 := (hb1.block w.heap.size (by exact lt_of_block HX.out)).trans HX.out
      have ht : TwoAt w w.heap.size w1.heap.size (.slice none 0 0) (.slice none 0 0) (.bool false) (w1.alloc (.cells #[.slice none 0 0, .slice none 0 0, .bool false] 26)) :=
        ⟨((below_alloc1 w1 _).block _ (lt_of_block hr1)).trans hr1, heap_alloc_new _ _, (HB0.out.trans (hb1.mono HB0.out.size)).alloc (HB0.out.trans (hb1.mono HB0.out.size)).size _, Nat.le_refl _⟩
      have HT : Hid (TwoAt w w.heap.size w1.heap.size (.slice none 0 0) (.slice none 0 0) (.bool false) (w1.alloc (.cells #[.slice none 0 0, .slice none 0 0, .bool false] 26))) := ht
      clear C k1 k2 ht hb1 hr1
      go_upto_region 4 with fail
      generalize w1.alloc (.cells #[.slice none 0 0, .slice none 0 0, .bool false] 26) = wa at HT ⊢
      obtain ⟨⟨c0, c1, c2⟩, ⟨f0, f1, f2⟩, d0, d1, d2⟩ := HT.out.facts
      go_region_law (fail)
      all_goals
        go_wp2_with fail
        (try simp only [Exit.inBlock, Exit.then])
        refine bodyPost_ret (results_cell_tmp rfl _ _ w.heap.size 26 #[.slice none 0 0, .slice none 0 0, .bool false] _ _ rfl (by exact set3 HT.out.1) Tryz.underlying26 rfl size26) rfl ⟨.inl ⟨none, 0, 0, none, 0, 0, false, rfl⟩, ?_⟩
        exact three_below HT.out _ _ _
    | ok f =>
      rw [hp] at C
      have HP : Hid (RP.parseP setOf sl = .ok f) := hp
      have HFS : Hid (CK.FitF f ∧ ShortF f) := ⟨CK.parse_fit setOf_S (by have := HL.out; omega) (RP.parse_parts hp), parse_short setOf_S (by have := HL.out; omega) hp⟩
      clear hp
      go_enter Tryz.func11, Tryz.ntmps11
      go_wp2_with fail
      generalize hw0 : w.alloc (.cells #[.slice none 0 0, .slice none 0 0, .bool false] 26) = w0 at C HB0 HX ⊢
      refine C.mono ?_
      rintro e w1 ⟨⟨v, rfl, hF⟩, hb1⟩
      obtain ⟨co, cn, cc, ro, rn, rc, rfl, -⟩ := FAt.agg hF
      have hr1 := (hb1.block w.heap.size (by exact lt_of_block HX.out)).trans HX.out
      have ht : TwoAt w w.heap.size w1.heap.size (.slice co cn cc) (.slice ro rn rc) (.bool f.els) (w1.alloc (.cells #[.slice co cn cc, .slice ro rn rc, .bool f.els] 26)) :=
        ⟨((below_alloc1 w1 _).block _ (lt_of_block hr1)).trans hr1, heap_alloc_new _ _, (HB0.out.trans (hb1.mono HB0.out.size)).alloc (HB0.out.trans (hb1.mono HB0.out.size)).size _, Nat.le_refl _⟩
      have HFA : Hid (FAt (fun _ => True) (w1.alloc (.cells #[.slice co cn cc, .slice ro rn rc, .bool f.els] 26)) (.agg #[.slice co cn cc, .slice ro rn rc, .bool f.els]) f) := FAt.all hF (below_alloc1 w1 _)
      have HT : Hid (TwoAt w w.heap.size w1.heap.size (.slice co cn cc) (.slice ro rn rc) (.bool f.els) (w1.alloc (.cells #[.slice co cn cc, .slice ro rn rc, .bool f.els] 26))) := ht
      have HFN : Hid (FAt (fun b => b ≠ w.heap.size) (w1.alloc (.cells #[.slice co cn cc, .slice ro rn rc, .bool f.els] 26)) (.agg #[.slice co cn cc, .slice ro rn rc, .bool f.els]) f) :=
        FAt.move (fun b _ (h : w0.heap.size ≤ b) => by have := lt_of_block HX.out; omega) (fun b _ hl => (below_alloc1 w1 _).block b hl) hF
      clear C ht hb1 hr1 hF
      go_upto_region 4 with fail
      generalize w1.alloc (.cells #[.slice co cn cc, .slice ro rn rc, .bool f.els] 26) = wa at HT HFA HFN ⊢
      have D : ∀ W, Below wa.heap.size wa W → Calls Tryz.prog 37 #[.agg #[.slice co cn cc, .slice ro rn rc, .bool f.els]] W (CheckSay W (CK.checkF 9 7 f)) := fun W hW => check_any f _ W HFS.out.1 (FAt.all HFA.out hW)
      have HD : Hid (∀ W, Below wa.heap.size wa W → Calls Tryz.prog 37 #[.agg #[.slice co cn cc, .slice ro rn rc, .bool f.els]] W (CheckSay W (CK.checkF 9 7 f))) := D
      clear D
      have HEL : Hid (∃ b, b = f.els) := ⟨_, rfl⟩
      obtain ⟨⟨c0, c1, c2⟩, ⟨f0, f1, f2⟩, d0, d1, d2⟩ := HT.out.facts
      cases hq : CK.checkF 9 7 f with
      | some b =>
        rw [hq] at HD
        go_region_law (refine step_callg (by rfl) 37 (.tmp 19) #[26] rfl (.agg #[.slice co cn cc, .slice ro rn rc, .bool f.els]) rfl rfl (enter37 _ _) (HD.out _ (below_drewN (Below.refl _ _) 1)) ?_; rintro e w2 ⟨hb2, g2, rfl, -, -⟩; refine ⟨_, rfl, ?_⟩; have HT2 := HT.out.on ((below_drewN (Below.refl _ _) 1).trans hb2); obtain ⟨⟨c0, c1, c2⟩, ⟨f0, f1, f2⟩, d0, d1, d2⟩ := HT2.facts)
        all_goals
          go_wp2_with fail
          (try simp only [Exit.inBlock, Exit.then])
          refine bodyPost_ret (results_cell_tmp rfl _ _ w.heap.size 26 #[.slice co cn cc, .slice ro rn rc, .bool f.els] _ _ rfl (by exact set3 HT2.1) Tryz.underlying26 rfl size26) rfl ⟨.inl ⟨co, cn, cc, ro, rn, rc, f.els, rfl⟩, ?_⟩
          exact three_below' HT2 _ _ _
      | none =>
        rw [hq] at HD
        have HRF : Hid (RightF f) := ⟨HFS.out.1, HFS.out.2, hq⟩
        clear hq
        go_region_law (refine step_callg (by rfl) 37 (.tmp 19) #[26] rfl (.agg #[.slice co cn cc, .slice ro rn rc, .bool f.els]) rfl rfl (enter37 _ _) (HD.out _ (below_drewN (Below.refl _ _) 1)) ?_; rintro e w2 ⟨hb2, rfl⟩; refine ⟨_, rfl, ?_⟩; have hb3 := (below_drewN (Below.refl wa.heap.size wa) 1).trans hb2; have HT2 := HT.out.on hb3; have HF2 : Hid (FAt (fun b => b ≠ w.heap.size) w2 (.agg #[.slice co cn cc, .slice ro rn rc, .bool f.els]) f) := FAt.move (fun _ _ h => h) (fun b _ hl => hb3.block b hl) HFN.out; obtain ⟨⟨c0, c1, c2⟩, ⟨f0, f1, f2⟩, d0, d1, d2⟩ := HT2.facts)
        all_goals
          go_wp2_with fail
          (try simp only [Exit.inBlock, Exit.then])
          refine bodyPost_ret (results_cell_tmp rfl _ _ w.heap.size 26 #[.slice co cn cc, .slice ro rn rc, .bool f.els] _ _ rfl (by exact set3 HT2.1) Tryz.underlying26 rfl size26) rfl ⟨.inr ⟨_, f, rfl, ?_, HRF.out, HP.out, HL.out⟩, ?_⟩
          · exact FAt.move (fun _ _ _ => trivial) (fun b _ hl => rfl) (FAt.move (fun b _ h => h) (three_keeps w2 w.heap.size _ _ _) HF2.out)
          · exact three_below' HT2 _ _ _
  · have hsi : (500 : Int) < (s.size : Int) := by omega
    clear hs hK
    have hb0 := below_alloc1 w (.cells #[.slice none 0 0, .slice none 0 0, .bool false] 26)
    have hr0 := heap_alloc_new w (.cells #[.slice none 0 0, .slice none 0 0, .bool false] 26)
    go_enter Tryz.func11, Tryz.ntmps11
    go_wp2_with fail
    (try simp only [Exit.inBlock, Exit.then])
    refine bodyPost_ret (results_cell_tmp rfl _ _ w.heap.size 26 #[.slice none 0 0, .slice none 0 0, .bool false] _ _ rfl hr0 Tryz.underlying26 rfl size26) rfl ⟨.inl ⟨none, 0, 0, none, 0, 0, false, rfl⟩, hb0⟩

end Go.Proofs.YtjbdlihlcoldlaaGreatDoor.M
