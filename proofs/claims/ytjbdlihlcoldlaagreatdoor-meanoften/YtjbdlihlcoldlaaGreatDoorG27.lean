/- The contract of file. -/
import Derived.Test.YtjbdlihlcoldlaaGreatDoorG26
import Derived.Deep.RegionHeld3
import Derived.Deep.RegionLaw
import Derived.Recover
import Derived.Test.YtjbdlihlcoldlaaGreatDoorG00
namespace RP

def afterRules (cs : List Cl) : Res (List Ru) → Res Fi
  | .error b => .error b
  | .ok (rs, r2) =>
    match elseP cs.length r2 with
    | .error b => .error b
    | .ok (k, r3) =>
      match takeP cs.length 0 r3 with
      | .error b => .error b
      | .ok (_, r4) => .ok (⟨cs, rs, k⟩, r4)

def afterCls (S : List UInt8 → Option (List RS.Rg)) : Res (List Cl) → Res Fi
  | .error b => .error b
  | .ok (cs, r) => afterRules cs (rulesL S cs.length r.length [] r)

theorem fileP_eq (S : List UInt8 → Option (List RS.Rg)) (ts : List Tok) : fileP S ts = afterCls S (clsL S ts.length [] ts) := rfl

end RP
namespace Go.Proofs.YtjbdlihlcoldlaaGreatDoor.Q
open Go.RowKit Go.Shelf

theorem owns_low {w : World} {B B' : Nat} {e : TypeId} {size : Nat} {v : Value} {n : Nat} {xs : List Value} (h : w.ownsRow B e size v n xs) (hB : B' ≤ B) : w.ownsRow B' e size v n xs := by
  obtain ⟨h1, h2 | ⟨g', cap, cur, rfl, hgl, rest⟩⟩ := h
  · exact ⟨h1, Or.inl h2⟩
  · exact ⟨h1, Or.inr ⟨g', cap, cur, rfl, by omega, rest⟩⟩

/-- What file leaves. -/
def FileRes (pb : Nat) (w : World) (res : RP.Res RP.Fi) (e : Ending) (w' : World) : Prop :=
  w.grownBy w' (some pb) ∧ match res with
    | .error b => Throws w b.err b.place e w'
    | .ok (f, _) => ∃ cv rv vs us, e = .returned (.agg #[cv, rv, .bool f.els]) ∧ w'.ownsRow w.heap.size 94 3 cv f.classes.length vs ∧ w'.ownsRow w.heap.size 50 4 rv f.rules.length us ∧ CsAt (New w) w' vs f.classes ∧ RsAt (New w) w' us f.rules

theorem FileRes.bad {pb : Nat} {w W : World} {b : RP.Bad} {e : Ending} {w' : World} {res : RP.Res RP.Fi} (hr : res = .error b) (hg : w.grownBy W (some pb)) (hg2 : W.grownBy w' (some pb)) (h : Throws W b.err b.place e w') : FileRes pb w res e w' := by
  subst hr
  exact ⟨hg.trans hg2, h.later hg.size⟩

theorem FL.els {w0 w : World} {cs : List RP.Cl} {rs : List RP.Ru} {k : Bool} (k' : Bool) (h : FL w0 w cs rs k) : FL w0 (w.setCell ⟨w0.heap.size + 1, 2, none⟩ (.bool k')) cs rs k' := by
  obtain ⟨cv, rv, vs, us, h0, h1, h2, h3, h4, h5, h6⟩ := h
  have hS : w.grownBy (w.setCell ⟨w0.heap.size + 1, 2, none⟩ (.bool k')) (some (w0.heap.size + 1)) := grown_set _
  refine ⟨cv, rv, vs, us, (hS.block _ (lt_of_block h0) (fun e => by have := Option.some.inj e; omega)).trans h0, heap_setCell_same w _ 2 _ 26 _ h1, owns_grown h2 hS (fun b hb e => ?_), owns_grown h3 hS (fun b hb e => ?_), h4, h5.keep (Keeps.grown hS fun b hb e => ?_), h6.keep (Keeps.grown hS fun b hb e => ?_)⟩
  · cases e; have := (h2.lt _ hb).1; omega
  · cases e; have := (h3.lt _ hb).1; omega
  · cases e; have := hb.1; omega
  · cases e; have := hb.1; omega

theorem FL.size {w0 w : World} {cs : List RP.Cl} {rs : List RP.Ru} {k : Bool} (h : FL w0 w cs rs k) : w0.heap.size + 2 ≤ w.heap.size := by
  obtain ⟨cv, rv, vs, us, h0, h1, _⟩ := h
  have := lt_of_block h1
  omega

/-- A call whose contract is known, as a step of a region that draws. -/
theorem step_call {P : Program} {ops : Array Oper} {o : Oper} {a : Act} {w : World} {K : Act → World → Prop} {Q : Exit → Act → World → Prop} {E : Prop} {R : Ending → World → Prop}
    (hg : o.guard = none) (f : FuncId) (x : Operand) (tys : Array TypeId) (hop : o.op = Op.call { callee := Callee.value (Operand.func f), args := #[x], argTypes := tys })
    (v : Value) (hx : a.eval x = v) (hf : a.eval (Operand.func f) = .func (.func f) #[] #[]) (he : (callFunc f #[v]).run P w = .ok (.enter f #[v]) w) (hC : Calls P f #[v] w R)
    (hR : ∀ e w', R e w' → ∃ u, e = .returned u ∧ K (a.put o.dst u) w') :
    if Region.wanted o (yielded ops a.tmps) = true then Oper.wp P o a w K Q else E := by
  have hw : Region.wanted o (yielded ops a.tmps) = true := by simp [Region.wanted, hg]
  rw [if_pos hw]
  unfold Oper.wp
  simp [execOp, hop, resolve, invoke, hx, hf, he, Oper.upon, Deferred.ofValue]
  refine hC.mono fun e w' h => ?_
  obtain ⟨u, rfl, hu⟩ := hR e w' h
  exact hu

theorem enter18 (args : Array Value) (w : World) : (callFunc 110 args).run Tryz.prog w = .ok (.enter 110 args) w := by kernel_rfl
theorem enter20 (args : Array Value) (w : World) : (callFunc 112 args).run Tryz.prog w = .ok (.enter 112 args) w := by kernel_rfl

theorem grown_own {w a b : World} {pb : Nat} {g : Option Nat} (h1 : w.grownBy a (some pb)) (h2 : a.grownBy b g) (hn : ∀ j, g = some j → w.heap.size ≤ j) : w.grownBy b (some pb) :=
  ⟨h2.os.trans h1.os, h2.tape.trans h1.tape, h2.output.trans h1.output, Nat.le_trans h1.size h2.size, fun k hk hne => (h2.block k (Nat.lt_of_lt_of_le hk h1.size) (fun e => by have := hn k e.symm; omega)).trans (h1.block k hk hne)⟩

theorem size26 : (Tryz.prog.info? 26).map (·.size) = some 3 := by kernel_rfl

/-- The end: the file is handed back. -/
theorem FL.out {pb : Nat} {w0 w : World} {cs : List RP.Cl} {rs : List RP.Ru} {k : Bool} (h : FL w0 w cs rs k) (hg : w0.grownBy w (some pb)) :
    ∃ ao ac bo bc, w.heap[w0.heap.size]? = some (.cells #[.slice none 0 0, .slice none 0 0, .bool false] 26) ∧ w.heap[w0.heap.size + 1]? = some (.cells #[.slice ao cs.length ac, .slice bo rs.length bc, .bool k] 26) ∧
      ∀ w' r, w.grownBy w' (some w0.heap.size) → FileRes pb w0 (.ok (⟨cs, rs, k⟩, r)) (.returned (.agg #[.slice ao cs.length ac, .slice bo rs.length bc, .bool k])) w' := by
  obtain ⟨cv, rv, vs, us, h0, h1, h2, h3, h4, h5, h6⟩ := h
  obtain ⟨ao, ac, rfl⟩ := own_slice h2
  obtain ⟨bo, bc, rfl⟩ := own_slice h3
  refine ⟨ao, ac, bo, bc, h0, h1, fun w' r hw => ⟨grown_loc hg hw (Nat.le_refl _), _, _, vs, us, rfl, ?_, ?_, ?_, ?_⟩⟩
  · exact owns_low (owns_grown h2 hw (fun b hb e => by have := (h2.lt _ hb).1; have := Option.some.inj e; omega)) (by omega)
  · exact owns_low (owns_grown h3 hw (fun b hb e => by have := (h3.lt _ hb).1; have := Option.some.inj e; omega)) (by omega)
  · exact CsAt.mono (fun b _ hb => Nat.le_trans (by omega) hb.1) (h5.keep (Keeps.grown hw fun b hb e => by have := hb.1; have := Option.some.inj e; omega))
  · exact RsAt.mono (fun b _ hb => Nat.le_trans (by omega) hb.1) (h6.keep (Keeps.grown hw fun b hb e => by have := hb.1; have := Option.some.inj e; omega))

set_option maxHeartbeats 4000000 in
set_option maxRecDepth 100000 in
theorem file_any (pb : Nat) (ts : List RP.Tok) (w : World) (hf : RP.Fine ts) (h5 : 7 < pb) (hK : KT w) (h : PS pb ts 0 w) :
    Calls Tryz.prog 60 #[.pointer (some ⟨pb, 0, none⟩)] w (FileRes pb w (RP.fileP setOf ts)) := by
  have hl := h.lt
  have HPS : Hid (PS pb ts 0 w) := h
  have HK : Hid (KT w) := hK
  clear h hK
  go_enter Tryz.func60, Tryz.ntmps60
  go_wp2_with fail
  go_loopw [] (fun wr => ∃ (cs : List RP.Cl) (s : List RP.Tok), RP.Fine s ∧ PS pb s cs.length wr ∧ w.grownBy wr (some pb) ∧ cs.length ≤ 20 ∧ FL w wr cs [] true ∧ RP.fileP setOf ts = RP.afterCls setOf (RP.clsL setOf s.length cs s)) (fun wr => cnt pb wr)
  case atStart =>
    have hA : w.grownBy ((w.alloc (.cells #[.slice none 0 0, .slice none 0 0, .bool false] 26)).alloc (.cells #[.slice none 0 0, .slice none 0 0, .bool true] 26)) none := (World.grownBy_alloc _ _ _).trans (World.grownBy_alloc _ _ _)
    have a1 : ((w.alloc (.cells #[.slice none 0 0, .slice none 0 0, .bool false] 26)).alloc (.cells #[.slice none 0 0, .slice none 0 0, .bool true] 26)).heap[w.heap.size + 1]? = some (.cells #[.slice none 0 0, .slice none 0 0, .bool true] 26) := by
      have := heap_alloc_new (w.alloc (.cells #[.slice none 0 0, .slice none 0 0, .bool false] 26)) (.cells #[.slice none 0 0, .slice none 0 0, .bool true] 26)
      simpa using this
    refine ⟨[], ts, hf, HPS.out.grown hA, grown_none hA _, by simp, ⟨.slice none 0 0, .slice none 0 0, [], [], (heap_alloc_old _ _ (by simp)).trans (heap_alloc_new _ _), a1, World.ownsRow_nil _ _ _ _, World.ownsRow_nil _ _ _ _, fun b hb => (by cases hb), rfl, rfl⟩, RP.fileP_eq _ _⟩
  case round =>
    obtain ⟨cs, s, hfs, hp, hg, hc20, hFL, hR⟩ := hrel
    obtain ⟨u, s, rfl⟩ := hfs.cons
    have hI := is_any 5 pb u s cs.length wr hp
    have hcnt := hp.cnt
    have HR : Hid (RP.fileP setOf ts = RP.afterCls setOf (RP.clsL setOf (u :: s).length cs (u :: s))) := hR
    have HP : Hid (PS pb (u :: s) cs.length wr) := hp
    have HF : Hid (FL w wr cs [] true) := hFL
    clear hR hp
    by_cases hk : u.kind = 5
    · have e1 : decide (u.kind = 5) = true := by simpa using hk
      rw [e1] at hI
      have hC := class_any pb cs.length (u :: s) wr.drew hc20 hfs h5 (HK.out.grown (hg.trans (grown_drew _ _)) h5) (HP.out.grown (grown_drew _ _))
      cases hb : RP.classP setOf cs.length (u :: s) with
      | error b =>
        rw [hb] at hC
        have HRe : Hid (RP.fileP setOf ts = .error b) := by show _ = _; rw [HR.out, List.length_cons, RP.clsL, if_pos (by exact hk), hb]; rfl
        obtain ⟨cv, rv, vs, us, -, hb1, -⟩ := hFL
        have q0 : wr.drew.cell? ⟨w.heap.size + 1, 0, none⟩ = some cv := loc_cell (w := wr) (k := 0) hb1 rfl
        have hq3 : ∀ w3, wr.drew.grownBy w3 (some pb) → w3.cell? ⟨w.heap.size + 1, 0, none⟩ = some cv := fun w3 hg3 => loc_cell (w := w3) (k := 0) ((hg3.block _ (lt_of_block hb1) (fun e => by cases e; omega)).trans hb1) rfl
        have HQ3 : Hid (∀ w3, wr.drew.grownBy w3 (some pb) → w3.cell? ⟨w.heap.size + 1, 0, none⟩ = some cv) := hq3
        have HB1 : Hid _ := hb1
        clear hb hk e1 hq3 hb1
        go_wp2_with fail
        refine hI.mono ?_
        rintro e w' ⟨rfl, hw⟩
        obtain rfl := hw.symm
        clear hI
        go_wp2_with fail
        refine wp_region_held_drew (S := fun W => W.cell? ⟨w.heap.size + 1, 0, none⟩ = some cv) (by kernel_rfl) q0 (fun hHeld => ?_)
        refine wpAnyH_take (i := 0) (v := .pointer (some ⟨w.heap.size + 1, 0, none⟩)) rfl (by kernel_rfl) (by kernel_rfl) (by kernel_rfl) (fun _ _ _ h => h) (Or.inl ⟨by rfl, ?_⟩) hHeld ?_
        · intro w9 hSw
          go_simp
        try simp only [Act.put]
        refine wpAnyH_take (i := 1) (v := cv) rfl (by kernel_rfl) (by kernel_rfl) (by kernel_rfl) (fun _ _ _ h => h) (Or.inl ⟨by rfl, ?_⟩) hHeld ?_
        · intro w9 hSw
          go_simp
        try simp only [Act.put]
        refine wpAnyH_take (i := 2) (v := .pointer (some ⟨pb, 0, none⟩)) rfl (by kernel_rfl) (by kernel_rfl) (by kernel_rfl) (fun _ _ _ h => h) (Or.inl ⟨by rfl, ?_⟩) hHeld ?_
        · intro w9 hSw
          go_simp
        try simp only [Act.put]
        refine wpAnyH_ready (rs := [3]) (by kernel_rfl) (by simp) ?_
        refine AllReadyH.cons (o := { dst := some 10, op := Op.call { callee := Callee.value (Operand.func 110), args := #[Operand.tmp 9], argTypes := #[195] }, type := 94, pos := "parse.go:63", after := #[{ on := 2, ground := Ground.data }], guard := none }) rfl (fun K hK => ?_) AllReadyH.nil
        go_simp
        go_wp2_with fail
        refine hC.mono ?_
        rintro e w3 ⟨hg3, b', rfl, k1, k2, k3⟩
        go_wp2_with fail
        exact ⟨rfl, FileRes.bad HRe.out (hg.trans (grown_drew _ _)) hg3 ⟨b', rfl, k1, k2, k3⟩⟩
      | ok y =>
        obtain ⟨x, q⟩ := y
        rw [hb] at hC
        have he := RP.classP_fine _ _ _ hfs hb
        have HR2 : Hid (RP.fileP setOf ts = RP.afterCls setOf (RP.clsL setOf q.length (cs ++ [x]) q)) := by
          show _ = _
          rw [HR.out, List.length_cons, RP.clsL, if_pos (by exact hk), hb]
          exact congrArg _ (RP.clsL_fuel _ _ _ _ he.1 (by have := he.2; simp at this; omega) (Nat.le_refl _))
        have hlt20 : cs.length < 20 := by
          rcases Nat.lt_or_ge cs.length 20 with h | h
          · exact h
          · have h20 : cs.length = 20 := by omega
            unfold RP.classP at hb
            rw [if_pos h20] at hb
            cases hb
        obtain ⟨cv, rv, vs, us, -, hb1, -⟩ := hFL
        have q0 : wr.drew.cell? ⟨w.heap.size + 1, 0, none⟩ = some cv := loc_cell (w := wr) (k := 0) hb1 rfl
        have HQ3 : Hid (∀ w3, wr.drew.grownBy w3 (some pb) → w3.cell? ⟨w.heap.size + 1, 0, none⟩ = some cv ∧ w.heap.size + 1 < w3.heap.size) := fun w3 hg3 => ⟨loc_cell (w := w3) (k := 0) ((hg3.block _ (lt_of_block hb1) (fun e => by cases e; omega)).trans hb1) rfl, Nat.lt_of_lt_of_le (lt_of_block hb1) hg3.size⟩
        have hql := he.2
        have hqf := he.1
        have HFd : Hid (FL w wr.drew cs [] true) := HF.out.grown hl (grown_drew _ _)
        have HGd : Hid (w.grownBy wr.drew (some pb)) := hg.trans (grown_drew _ _)
        clear hb hk e1 hb1 he HR
        go_wp2_with fail
        refine hI.mono ?_
        rintro e w' ⟨rfl, hw⟩
        obtain rfl := hw.symm
        clear hI
        go_wp2_with fail
        go_region_law (first
          | (refine step_append_run rfl (.tmp 8) (.tmp 11) 23 rfl cv _ (.slice ao (cs.length + 1) cp) w4 rfl rfl HR4.out ?_)
          | (refine step_call rfl 110 (.tmp 9) #[195] rfl (.pointer (some ⟨pb, 0, none⟩)) rfl rfl (enter18 _ _) hC ?_
             rintro e w3 ⟨hg3, hp3, v3, rfl, kv, rfl, hkv⟩
             refine ⟨_, rfl, ?_⟩
             obtain ⟨kb, rfl⟩ := hkv.ptr
             obtain ⟨q3, hn3⟩ := HQ3.out w3 hg3
             have q4 : ∀ o, (w3.alloc o).cell? ⟨w.heap.size + 1, 0, none⟩ = some cv := fun o => (cell_alloc_old w3 o _ _ hn3).trans q3
             obtain ⟨cv1, cv', w4, hc1, hr4, hc4, hf4, hF4, hG4, hB4, ao, cp, hsl⟩ := HFd.out.cls 23 hl hg3 (by omega) hkv
             subst hsl
             obtain rfl : cv = cv1 := Option.some.inj (q0.symm.trans hc1)
             have HR4 : Hid _ := hr4
             have HF4 : Hid (FL w (w4.setCell ⟨w.heap.size + 1, 0, none⟩ (.slice ao (cs.length + 1) cp)) (cs ++ [x]) [] true) := hF4
             have HG4 : Hid (w3.grownBy w4 cv.ownBlock) := hG4
             have HB4 : Hid (∀ b, cv.ownBlock = some b → w.heap.size + 2 ≤ b) := hB4
             have HP3 : Hid (PS pb q (cs.length + 1) w3) := hp3
             have HG3 : Hid (wr.drew.grownBy w3 (some pb)) := hg3
             clear hr4 hF4 hG4 hB4 hp3 hg3 hkv hc1))
        all_goals
          have HP4 : Hid (PS pb q (cs ++ [x]).length (w4.setCell ⟨w.heap.size + 1, 0, none⟩ (.slice ao (cs.length + 1) cp))) := by
            show PS _ _ _ _
            rw [List.length_append]
            exact (HP3.out.other HG4.out fun j hj => by have := HB4.out j hj; omega).other (grown_set _) fun j hj => by have := Option.some.inj hj; omega
          have HG5 : Hid (w.grownBy (w4.setCell ⟨w.heap.size + 1, 0, none⟩ (.slice ao (cs.length + 1) cp)) (some pb)) :=
            grown_loc (grown_own (HGd.out.trans HG3.out) HG4.out fun j hj => by have := HB4.out j hj; omega) (grown_set _) (by omega)
          clear hC q0 q3 q4 hc4 hf4
          go_wp2_with fail
          refine ⟨⟨cs ++ [x], q, hqf, HP4.out, HG5.out, by rw [List.length_append]; simp; omega, HF4.out, HR2.out⟩, ?_⟩
          rw [HP4.out.cnt, hcnt]
          exact hql
    · have e1 : decide (u.kind = 5) = false := by simpa using hk
      rw [e1] at hI
      have HR1 : Hid (RP.fileP setOf ts = RP.afterRules cs (RP.rulesL setOf cs.length (u :: s).length [] (u :: s))) := by
        show _ = _
        rw [HR.out, List.length_cons, RP.clsL, if_neg (by exact hk)]
        rfl
      clear HR hk e1 hFL
      go_wp2_with fail
      refine hI.mono ?_
      rintro e w' ⟨rfl, hw⟩
      obtain rfl := hw.symm
      clear hI
      go_wp2_with fail
      go_loopw [] (fun wq => ∃ (rs : List RP.Ru) (s : List RP.Tok), RP.Fine s ∧ PS pb s cs.length wq ∧ w.grownBy wq (some pb) ∧ rs.length ≤ 20 ∧ FL w wq cs rs true ∧ RP.fileP setOf ts = RP.afterRules cs (RP.rulesL setOf cs.length s.length rs s)) (fun wq => cnt pb wq)
      case atStart => exact ⟨[], u :: s, hfs, HP.out, hg, by simp, HF.out, HR1.out⟩
      case round =>
        clear HP HF HR1 hcnt hfs hg
        obtain ⟨rs, s, hfs, hp, hg, hr20, hFL, hR⟩ := hrel
        obtain ⟨u, s, rfl⟩ := hfs.cons
        have hI6 := is_any 6 pb u s cs.length wr hp
        have hI7 := is_any 7 pb u s cs.length wr hp
        have hI8 := is_any 8 pb u s cs.length wr hp
        have hcnt := hp.cnt
        have HR : Hid (RP.fileP setOf ts = RP.afterRules cs (RP.rulesL setOf cs.length (u :: s).length rs (u :: s))) := hR
        have HP : Hid (PS pb (u :: s) cs.length wr) := hp
        have HF : Hid (FL w wr cs rs true) := hFL
        clear hR hp
        obtain ⟨cv, rv, vs, us, -, hb1, -, hor, -⟩ := hFL
        obtain ⟨so, sc, rfl⟩ := own_slice hor
        have r1 := loc_cell (k := 1) hb1 rfl
        by_cases hk : u.kind = 6 ∨ u.kind = 7
        · by_cases h20 : rs.length = 20
          · have hF := refuse_any 4 pb u s cs.length wr HP.out
            have HRb : Hid (RP.fileP setOf ts = .error ⟨refuseE 4 u cs.length, u.at_⟩) := by show _ = _; rw [HR.out, List.length_cons, RP.rulesL, if_pos (by exact hk), if_pos h20, refuse_eq]; rfl
            have hq : ((rs.length : Int) == 20) = true := by simp; omega
            clear hb1 hor
            rcases hk with hk | hk
            · have e6 : decide (u.kind = 6) = true := by simpa using hk
              rw [e6] at hI6
              clear e6 hk
              go_wp2_with fail
              refine hI6.mono ?_
              rintro e w' ⟨rfl, hw⟩
              obtain rfl := hw.symm
              clear hI6 hI7 hI8
              go_wp2_with fail
              refine hF.mono ?_
              rintro e w3 ⟨⟨b', rfl, k1, k2, k3⟩, hb3⟩
              clear hF
              go_wp2_with fail
              exact ⟨rfl, FileRes.bad HRb.out hg (grown_below hb3 _) ⟨b', rfl, k1, k2, k3⟩⟩
            · have e6 : decide (u.kind = 6) = false := by simp [hk]
              have e7 : decide (u.kind = 7) = true := by simpa using hk
              rw [e6] at hI6
              rw [e7] at hI7
              clear e6 e7 hk
              go_wp2_with fail
              refine hI6.mono ?_
              rintro e w' ⟨rfl, hw⟩
              obtain rfl := hw.symm
              clear hI6
              go_wp2_with fail
              refine hI7.mono ?_
              rintro e w' ⟨rfl, hw⟩
              obtain rfl := hw.symm
              clear hI7 hI8
              go_wp2_with fail
              refine hF.mono ?_
              rintro e w3 ⟨⟨b', rfl, k1, k2, k3⟩, hb3⟩
              clear hF
              go_wp2_with fail
              exact ⟨rfl, FileRes.bad HRb.out hg (grown_below hb3 _) ⟨b', rfl, k1, k2, k3⟩⟩
          · have hq : ((rs.length : Int) == 20) = false := by simp; omega
            have hq' : (rs.length : Int) ≠ 20 := by omega
            have hC := rule_any pb cs.length (u :: s) wr.drew hfs h5 (HK.out.grown (hg.trans (grown_drew _ _)) h5) (HP.out.grown (grown_drew _ _))
            have q0 : wr.drew.cell? ⟨w.heap.size + 1, 1, none⟩ = some (.slice so rs.length sc) := r1
            cases hb : RP.ruleP setOf cs.length (u :: s) with
            | error b =>
              rw [hb] at hC
              have HRe : Hid (RP.fileP setOf ts = .error b) := by show _ = _; rw [HR.out, List.length_cons, RP.rulesL, if_pos (by exact hk), if_neg h20, hb]; rfl
              clear hb h20 hb1 hor
              rcases hk with hk | hk
              · have e6 : decide (u.kind = 6) = true := by simpa using hk
                rw [e6] at hI6
                clear e6 hk
                go_wp2_with fail
                refine hI6.mono ?_
                rintro e w' ⟨rfl, hw⟩
                obtain rfl := hw.symm
                clear hI6 hI7 hI8
                go_wp2_with fail
                refine wp_region_held_drew (S := fun W => W.cell? ⟨w.heap.size + 1, 1, none⟩ = some (.slice so rs.length sc)) (by kernel_rfl) q0 (fun hHeld => ?_)
                refine wpAnyH_take (i := 0) (v := .pointer (some ⟨w.heap.size + 1, 1, none⟩)) rfl (by kernel_rfl) (by kernel_rfl) (by kernel_rfl) (fun _ _ _ h => h) (Or.inl ⟨by rfl, ?_⟩) hHeld ?_
                · intro w9 hSw
                  go_simp
                try simp only [Act.put]
                refine wpAnyH_take (i := 1) (v := .slice so rs.length sc) rfl (by kernel_rfl) (by kernel_rfl) (by kernel_rfl) (fun _ _ _ h => h) (Or.inl ⟨by rfl, ?_⟩) hHeld ?_
                · intro w9 hSw
                  go_simp
                try simp only [Act.put]
                refine wpAnyH_take (i := 2) (v := .pointer (some ⟨pb, 0, none⟩)) rfl (by kernel_rfl) (by kernel_rfl) (by kernel_rfl) (fun _ _ _ h => h) (Or.inl ⟨by rfl, ?_⟩) hHeld ?_
                · intro w9 hSw
                  go_simp
                try simp only [Act.put]
                refine wpAnyH_ready (rs := [3]) (by kernel_rfl) (by simp) ?_
                refine AllReadyH.cons (o := { dst := some 29, op := Op.call { callee := Callee.value (Operand.func 112), args := #[Operand.tmp 28], argTypes := #[195] }, type := 50, pos := "parse.go:69", after := #[{ on := 2, ground := Ground.data }], guard := none }) rfl (fun K hK => ?_) AllReadyH.nil
                go_simp
                go_wp2_with fail
                refine hC.mono ?_
                rintro e w3 ⟨hg3, b', rfl, k1, k2, k3⟩
                clear hC
                go_wp2_with fail
                exact ⟨rfl, FileRes.bad HRe.out (hg.trans (grown_drew _ _)) hg3 ⟨b', rfl, k1, k2, k3⟩⟩
              · have e6 : decide (u.kind = 6) = false := by simp [hk]
                have e7 : decide (u.kind = 7) = true := by simpa using hk
                rw [e6] at hI6
                rw [e7] at hI7
                clear e6 e7 hk
                go_wp2_with fail
                refine hI6.mono ?_
                rintro e w' ⟨rfl, hw⟩
                obtain rfl := hw.symm
                clear hI6
                go_wp2_with fail
                refine hI7.mono ?_
                rintro e w' ⟨rfl, hw⟩
                obtain rfl := hw.symm
                clear hI7 hI8
                go_wp2_with fail
                refine wp_region_held_drew (S := fun W => W.cell? ⟨w.heap.size + 1, 1, none⟩ = some (.slice so rs.length sc)) (by kernel_rfl) q0 (fun hHeld => ?_)
                refine wpAnyH_take (i := 0) (v := .pointer (some ⟨w.heap.size + 1, 1, none⟩)) rfl (by kernel_rfl) (by kernel_rfl) (by kernel_rfl) (fun _ _ _ h => h) (Or.inl ⟨by rfl, ?_⟩) hHeld ?_
                · intro w9 hSw
                  go_simp
                try simp only [Act.put]
                refine wpAnyH_take (i := 1) (v := .slice so rs.length sc) rfl (by kernel_rfl) (by kernel_rfl) (by kernel_rfl) (fun _ _ _ h => h) (Or.inl ⟨by rfl, ?_⟩) hHeld ?_
                · intro w9 hSw
                  go_simp
                try simp only [Act.put]
                refine wpAnyH_take (i := 2) (v := .pointer (some ⟨pb, 0, none⟩)) rfl (by kernel_rfl) (by kernel_rfl) (by kernel_rfl) (fun _ _ _ h => h) (Or.inl ⟨by rfl, ?_⟩) hHeld ?_
                · intro w9 hSw
                  go_simp
                try simp only [Act.put]
                refine wpAnyH_ready (rs := [3]) (by kernel_rfl) (by simp) ?_
                refine AllReadyH.cons (o := { dst := some 29, op := Op.call { callee := Callee.value (Operand.func 112), args := #[Operand.tmp 28], argTypes := #[195] }, type := 50, pos := "parse.go:69", after := #[{ on := 2, ground := Ground.data }], guard := none }) rfl (fun K hK => ?_) AllReadyH.nil
                go_simp
                go_wp2_with fail
                refine hC.mono ?_
                rintro e w3 ⟨hg3, b', rfl, k1, k2, k3⟩
                clear hC
                go_wp2_with fail
                exact ⟨rfl, FileRes.bad HRe.out (hg.trans (grown_drew _ _)) hg3 ⟨b', rfl, k1, k2, k3⟩⟩
            | ok y =>
              obtain ⟨x, q⟩ := y
              rw [hb] at hC
              have he := RP.ruleP_fine _ _ _ hfs hb
              have HR2 : Hid (RP.fileP setOf ts = RP.afterRules cs (RP.rulesL setOf cs.length q.length (rs ++ [x]) q)) := by
                show _ = _
                rw [HR.out, List.length_cons, RP.rulesL, if_pos (by exact hk), if_neg h20, hb]
                exact congrArg _ (RP.rulesL_fuel _ _ _ _ he.1 (by have := he.2; simp at this; omega) (Nat.le_refl _))
              have HQ3 : Hid (∀ w3, wr.drew.grownBy w3 (some pb) → w3.cell? ⟨w.heap.size + 1, 1, none⟩ = some (.slice so rs.length sc) ∧ w.heap.size + 1 < w3.heap.size) := fun w3 hg3 => ⟨loc_cell (w := w3) (k := 1) ((hg3.block _ (lt_of_block hb1) (fun e => by cases e; omega)).trans hb1) rfl, Nat.lt_of_lt_of_le (lt_of_block hb1) hg3.size⟩
              have hql := he.2
              have hqf := he.1
              have HFd : Hid (FL w wr.drew cs rs true) := HF.out.grown hl (grown_drew _ _)
              have HGd : Hid (w.grownBy wr.drew (some pb)) := hg.trans (grown_drew _ _)
              have hlt20 : rs.length < 20 := by omega
              clear hb hb1 he HR h20 hor
              rcases hk with hk | hk
              · have e6 : decide (u.kind = 6) = true := by simpa using hk
                rw [e6] at hI6
                clear e6 hk
                go_wp2_with fail
                refine hI6.mono ?_
                rintro e w' ⟨rfl, hw⟩
                obtain rfl := hw.symm
                clear hI6 hI7 hI8
                go_wp2_with fail
                go_region_law (first
                  | (refine step_append_run rfl (.tmp 27) (.tmp 30) 24 rfl (.slice so rs.length sc) _ (.slice ao (rs.length + 1) cp) w4 rfl rfl HR4.out ?_)
                  | (refine step_call rfl 112 (.tmp 28) #[195] rfl (.pointer (some ⟨pb, 0, none⟩)) rfl rfl (enter20 _ _) hC ?_
                     rintro e w3 ⟨hg3, hp3, v3, rfl, bv, av, rfl, ⟨bb, rfl⟩, hbv, ⟨ab, rfl⟩, hav⟩
                     refine ⟨_, rfl, ?_⟩
                     obtain ⟨q3, hn3⟩ := HQ3.out w3 hg3
                     have q4 : ∀ o, (w3.alloc o).cell? ⟨w.heap.size + 1, 1, none⟩ = some (.slice so rs.length sc) := fun o => (cell_alloc_old w3 o _ _ hn3).trans q3
                     obtain ⟨rv1, rv', w4, hc1, hr4, hc4, hf4, hF4, hG4, hB4, ao, cp, hsl⟩ := HFd.out.rul 24 hl hg3 (by omega) hbv hav
                     subst hsl
                     obtain rfl : Value.slice so rs.length sc = rv1 := Option.some.inj (q0.symm.trans hc1)
                     have HR4 : Hid _ := hr4
                     have HF4 : Hid (FL w (w4.setCell ⟨w.heap.size + 1, 1, none⟩ (.slice ao (rs.length + 1) cp)) cs (rs ++ [x]) true) := hF4
                     have HG4 : Hid (w3.grownBy w4 (Value.slice so rs.length sc).ownBlock) := hG4
                     have HB4 : Hid (∀ b, (Value.slice so rs.length sc).ownBlock = some b → w.heap.size + 2 ≤ b) := hB4
                     have HP3 : Hid (PS pb q cs.length w3) := hp3
                     have HG3 : Hid (wr.drew.grownBy w3 (some pb)) := hg3
                     clear hr4 hF4 hG4 hB4 hp3 hg3 hbv hav hc1))
                all_goals
                  have HP4 : Hid (PS pb q cs.length (w4.setCell ⟨w.heap.size + 1, 1, none⟩ (.slice ao (rs.length + 1) cp))) :=
                    (HP3.out.other HG4.out fun j hj => by have := HB4.out j hj; omega).other (grown_set _) fun j hj => by have := Option.some.inj hj; omega
                  have HG5 : Hid (w.grownBy (w4.setCell ⟨w.heap.size + 1, 1, none⟩ (.slice ao (rs.length + 1) cp)) (some pb)) :=
                    grown_loc (grown_own (HGd.out.trans HG3.out) HG4.out fun j hj => by have := HB4.out j hj; omega) (grown_set _) (by omega)
                  clear hC q0 q3 q4 hc4 hf4
                  go_wp2_with fail
                  refine ⟨⟨rs ++ [x], q, hqf, HP4.out, HG5.out, by rw [List.length_append]; simp; omega, HF4.out, HR2.out⟩, ?_⟩
                  rw [HP4.out.cnt, hcnt]
                  exact hql
              · have e6 : decide (u.kind = 6) = false := by simp [hk]
                have e7 : decide (u.kind = 7) = true := by simpa using hk
                rw [e6] at hI6
                rw [e7] at hI7
                clear e6 e7 hk
                go_wp2_with fail
                refine hI6.mono ?_
                rintro e w' ⟨rfl, hw⟩
                obtain rfl := hw.symm
                clear hI6
                go_wp2_with fail
                refine hI7.mono ?_
                rintro e w' ⟨rfl, hw⟩
                obtain rfl := hw.symm
                clear hI7 hI8
                go_wp2_with fail
                go_region_law (first
                  | (refine step_append_run rfl (.tmp 27) (.tmp 30) 24 rfl (.slice so rs.length sc) _ (.slice ao (rs.length + 1) cp) w4 rfl rfl HR4.out ?_)
                  | (refine step_call rfl 112 (.tmp 28) #[195] rfl (.pointer (some ⟨pb, 0, none⟩)) rfl rfl (enter20 _ _) hC ?_
                     rintro e w3 ⟨hg3, hp3, v3, rfl, bv, av, rfl, ⟨bb, rfl⟩, hbv, ⟨ab, rfl⟩, hav⟩
                     refine ⟨_, rfl, ?_⟩
                     obtain ⟨q3, hn3⟩ := HQ3.out w3 hg3
                     have q4 : ∀ o, (w3.alloc o).cell? ⟨w.heap.size + 1, 1, none⟩ = some (.slice so rs.length sc) := fun o => (cell_alloc_old w3 o _ _ hn3).trans q3
                     obtain ⟨rv1, rv', w4, hc1, hr4, hc4, hf4, hF4, hG4, hB4, ao, cp, hsl⟩ := HFd.out.rul 24 hl hg3 (by omega) hbv hav
                     subst hsl
                     obtain rfl : Value.slice so rs.length sc = rv1 := Option.some.inj (q0.symm.trans hc1)
                     have HR4 : Hid _ := hr4
                     have HF4 : Hid (FL w (w4.setCell ⟨w.heap.size + 1, 1, none⟩ (.slice ao (rs.length + 1) cp)) cs (rs ++ [x]) true) := hF4
                     have HG4 : Hid (w3.grownBy w4 (Value.slice so rs.length sc).ownBlock) := hG4
                     have HB4 : Hid (∀ b, (Value.slice so rs.length sc).ownBlock = some b → w.heap.size + 2 ≤ b) := hB4
                     have HP3 : Hid (PS pb q cs.length w3) := hp3
                     have HG3 : Hid (wr.drew.grownBy w3 (some pb)) := hg3
                     clear hr4 hF4 hG4 hB4 hp3 hg3 hbv hav hc1))
                all_goals
                  have HP4 : Hid (PS pb q cs.length (w4.setCell ⟨w.heap.size + 1, 1, none⟩ (.slice ao (rs.length + 1) cp))) :=
                    (HP3.out.other HG4.out fun j hj => by have := HB4.out j hj; omega).other (grown_set _) fun j hj => by have := Option.some.inj hj; omega
                  have HG5 : Hid (w.grownBy (w4.setCell ⟨w.heap.size + 1, 1, none⟩ (.slice ao (rs.length + 1) cp)) (some pb)) :=
                    grown_loc (grown_own (HGd.out.trans HG3.out) HG4.out fun j hj => by have := HB4.out j hj; omega) (grown_set _) (by omega)
                  clear hC q0 q3 q4 hc4 hf4
                  go_wp2_with fail
                  refine ⟨⟨rs ++ [x], q, hqf, HP4.out, HG5.out, by rw [List.length_append]; simp; omega, HF4.out, HR2.out⟩, ?_⟩
                  rw [HP4.out.cnt, hcnt]
                  exact hql
        · have hk6 : decide (u.kind = 6) = false := by simp; omega
          have hk7 : decide (u.kind = 7) = false := by simp; omega
          have HR2 : Hid (RP.fileP setOf ts = RP.afterRules cs (.ok (rs, u :: s))) := by
            show _ = _
            rw [HR.out, List.length_cons, RP.rulesL, if_neg (by exact hk)]
          rw [hk6] at hI6
          rw [hk7] at hI7
          clear hk hk6 hk7 HR hb1 hor r1
          go_wp2_with fail
          refine hI6.mono ?_
          rintro e w' ⟨rfl, hw⟩
          obtain rfl := hw.symm
          clear hI6
          go_wp2_with fail
          refine hI7.mono ?_
          rintro e w' ⟨rfl, hw⟩
          obtain rfl := hw.symm
          clear hI7
          go_wp2_with fail
          by_cases hk8 : u.kind = 8
          · have e8 : decide (u.kind = 8) = true := by simpa using hk8
            rw [e8] at hI8
            have hT := take_yes pb u s cs.length 8 hk8 wr HP.out
            have hqf : RP.Fine s := hfs.next (.inl (by omega))
            obtain ⟨t2, s2, rfl⟩ := hqf.cons
            have HR3 : Hid (RP.fileP setOf ts = match RP.breaksP cs.length (t2 :: s2) with
                | .error b => .error b
                | .ok (k, r) => match RP.markP cs.length [59] r with
                  | .error b => .error b
                  | .ok r3 => match RP.takeP cs.length 0 r3 with
                    | .error b => .error b
                    | .ok (_, r4) => .ok (⟨cs, rs, k⟩, r4)) := by
              show _ = _
              rw [HR2.out]
              unfold RP.afterRules
              dsimp only
              rw [RP.elseP, if_pos (by exact hk8)]
              dsimp only [List.tail_cons]
              cases RP.breaksP cs.length (t2 :: s2) with
              | error b => rfl
              | ok y =>
                obtain ⟨k, r⟩ := y
                dsimp only
                cases RP.markP cs.length [59] r <;> rfl
            clear hk8 e8 HR2
            refine hI8.mono ?_
            rintro e w' ⟨rfl, hw⟩
            obtain rfl := hw.symm
            clear hI8
            go_wp2_with fail
            refine hT.mono ?_
            rintro e w2 ⟨rfl, hp2, hg2⟩
            have hB := breaks_any pb t2 s2 cs.length w2 hp2
            have HF2 : Hid (FL w w2 cs rs true) := HF.out.grown hl hg2
            have HG2 : Hid (w.grownBy w2 (some pb)) := hg.trans hg2
            clear hT hp2 hg2 HF HP
            cases hb : RP.breaksP cs.length (t2 :: s2) with
            | error b =>
              rw [hb] at hB
              have HRe : Hid (RP.fileP setOf ts = .error b) := by show _ = _; rw [HR3.out, hb]
              clear hb
              go_wp2_with fail
              refine hB.mono ?_
              rintro e w3 ⟨hg3, b', rfl, k1, k2, k3⟩
              clear hB
              go_wp2_with fail
              exact ⟨rfl, FileRes.bad HRe.out HG2.out hg3 ⟨b', rfl, k1, k2, k3⟩⟩
            | ok y =>
              obtain ⟨k, q⟩ := y
              rw [hb] at hB
              have hqf3 := (RP.breaksP_fine _ _ _ hqf hb).1
              have HR4 : Hid (RP.breaksP cs.length (t2 :: s2) = .ok (k, q)) := hb
              clear hb
              go_wp2_with fail
              refine hB.mono ?_
              rintro e w3 ⟨hg3, hp3, v, rfl, rfl⟩
              have HF3 : Hid (FL w w3 cs rs true) := HF2.out.grown hl hg3
              have HG3 : Hid (w.grownBy w3 (some pb)) := HG2.out.trans hg3
              obtain ⟨cv3, rv3, -, -, -, d1, -⟩ := HF3.out
              have c2 := loc_cell (k := 2) d1 rfl
              have z2 := loc_free (k := 2) d1
              have HP3 : Hid (PS pb q cs.length w3) := hp3
              clear hp3 hg3 hB HF2 HG2 d1
              go_wp2_with fail
              have HF4 : Hid (FL w (w3.setCell ⟨w.heap.size + 1, 2, none⟩ (.bool k)) cs rs k) := HF3.out.els k
              have hgS : w3.grownBy (w3.setCell ⟨w.heap.size + 1, 2, none⟩ (.bool k)) (some (w.heap.size + 1)) := grown_set _
              have HP4 : Hid (PS pb q cs.length (w3.setCell ⟨w.heap.size + 1, 2, none⟩ (.bool k))) := HP3.out.other hgS fun j hj => by have := Option.some.inj hj; omega
              have HG4 : Hid (w.grownBy (w3.setCell ⟨w.heap.size + 1, 2, none⟩ (.bool k)) (some pb)) := grown_loc HG3.out hgS (by omega)
              generalize hW4 : w3.setCell ⟨w.heap.size + 1, 2, none⟩ (.bool k) = W4 at HF4 hgS HP4 HG4 ⊢
              clear hW4 hgS HP3 HG3 HF3 c2 z2
              obtain ⟨t4, q4, rfl⟩ := hqf3.cons
              by_cases h59 : t4.text = [59]
              · have hM := mark_yes pb t4 q4 cs.length ⟨#[59]⟩ (text_eq h59) W4 HP4.out
                have hqf4 : RP.Fine q4 := hqf3.next (.inr (by rw [h59]; simp))
                obtain ⟨t5, q5, rfl⟩ := hqf4.cons
                have HR5 : Hid (RP.fileP setOf ts = match RP.takeP cs.length 0 (t5 :: q5) with
                    | .error b => .error b
                    | .ok (_, r4) => .ok (⟨cs, rs, k⟩, r4)) := by
                  show _ = _
                  rw [HR3.out, HR4.out]; dsimp only; rw [RP.markP, if_pos h59]
                clear h59 HR3 HR4
                refine hM.mono ?_
                rintro e w5 ⟨rfl, hp5, hg5⟩
                have HF5 : Hid (FL w w5 cs rs k) := HF4.out.grown hl hg5
                have HG5 : Hid (w.grownBy w5 (some pb)) := HG4.out.trans hg5
                have HP5 : Hid (PS pb (t5 :: q5) cs.length w5) := hp5
                clear hM hp5 hg5 HF4 HG4 HP4
                go_wp2_with fail
                by_cases hk0 : t5.kind = 0
                · have hT := take_yes pb t5 q5 cs.length 0 hk0 w5 HP5.out
                  have HREnd : Hid (RP.fileP setOf ts = .ok (⟨cs, rs, k⟩, q5)) := by show _ = _; rw [HR5.out, RP.takeP, if_pos hk0]
                  refine hT.mono ?_
                  rintro e w9 ⟨rfl, -, hg9⟩
                  obtain ⟨ao, ac, bo, bc, hN0, hN1, dEnd⟩ := (HF5.out.grown hl hg9).out (HG5.out.trans hg9)
                  have HEnd : Hid (∀ w' r, w9.grownBy w' (some w.heap.size) → FileRes pb w (.ok (⟨cs, rs, k⟩, r)) (.returned (.agg #[.slice ao cs.length ac, .slice bo rs.length bc, .bool k])) w') := dEnd
                  have a0 := loc_cell (k := 0) hN1 rfl
                  have a1 := loc_cell (k := 1) hN1 rfl
                  have a2 := loc_cell (k := 2) hN1 rfl
                  have b0 := loc_cell (k := 0) hN0 rfl
                  have b1 := loc_cell (k := 1) hN0 rfl
                  have b2 := loc_cell (k := 2) hN0 rfl
                  have z0 := loc_free (k := 0) hN0
                  have z1 := loc_free (k := 1) hN0
                  have z2 := loc_free (k := 2) hN0
                  have HN0 : Hid (w9.heap[w.heap.size]? = some (.cells #[.slice none 0 0, .slice none 0 0, .bool false] 26)) := hN0
                  clear hT hk0 dEnd hN1 hN0 hg9
                  go_wp2_with fail
                  have hL := row3_set HN0.out (.slice ao cs.length ac) (.slice bo rs.length bc) (.bool k)
                  have hgF := grown_set3 w9 w.heap.size (.slice ao cs.length ac) (.slice bo rs.length bc) (.bool k)
                  refine bodyPost_ret (results_cell_row rfl _ _ w.heap.size 26 #[_, _, _] _ _ rfl hL Tryz.underlying26 rfl size26) rfl ?_
                  rw [HREnd.out]
                  exact HEnd.out _ _ hgF
                · have hT := take_no pb t5 q5 cs.length 0 hk0 w5 HP5.out
                  have HRb : Hid (RP.fileP setOf ts = .error ⟨refuseE 3 t5 cs.length, t5.at_⟩) := by show _ = _; rw [HR5.out, RP.takeP, if_neg hk0, refuse_eq]
                  refine hT.mono ?_
                  rintro e w9 ⟨⟨b', rfl, k1, k2, k3⟩, hb9⟩
                  clear hT hk0
                  go_wp2_with fail
                  exact ⟨rfl, FileRes.bad HRb.out HG5.out (grown_below hb9 _) ⟨b', rfl, k1, k2, k3⟩⟩
              · have hM := mark_no pb t4 q4 cs.length ⟨#[59]⟩ (text_ne h59) W4 HP4.out
                have HRe : Hid (RP.fileP setOf ts = .error ⟨refuseE 3 t4 cs.length, t4.at_⟩) := by
                  show _ = _
                  rw [HR3.out, HR4.out]; dsimp only; rw [RP.markP, if_neg h59, refuse_eq]
                clear h59
                refine hM.mono ?_
                rintro e w5 ⟨⟨b', rfl, k1, k2, k3⟩, hb5⟩
                clear hM
                go_wp2_with fail
                exact ⟨rfl, FileRes.bad HRe.out HG4.out (grown_below hb5 _) ⟨b', rfl, k1, k2, k3⟩⟩
          · have e8 : decide (u.kind = 8) = false := by simpa using hk8
            rw [e8] at hI8
            have HR3 : Hid (RP.fileP setOf ts = match RP.takeP cs.length 0 (u :: s) with
                | .error b => .error b
                | .ok (_, r4) => .ok (⟨cs, rs, true⟩, r4)) := by
              show _ = _
              rw [HR2.out]
              unfold RP.afterRules
              dsimp only
              rw [RP.elseP, if_neg (by exact hk8)]
            have HGr : Hid (w.grownBy wr (some pb)) := hg
            clear hk8 e8 HR2
            refine hI8.mono ?_
            rintro e w' ⟨rfl, hw⟩
            obtain rfl := hw.symm
            clear hI8
            go_wp2_with fail
            by_cases hk0 : u.kind = 0
            · have hT := take_yes pb u s cs.length 0 hk0 wr HP.out
              have HREnd : Hid (RP.fileP setOf ts = .ok (⟨cs, rs, true⟩, s)) := by show _ = _; rw [HR3.out, RP.takeP, if_pos hk0]
              refine hT.mono ?_
              rintro e w9 ⟨rfl, -, hg9⟩
              obtain ⟨ao, ac, bo, bc, hN0, hN1, dEnd⟩ := (HF.out.grown hl hg9).out (HGr.out.trans hg9)
              have HEnd : Hid (∀ w' r, w9.grownBy w' (some w.heap.size) → FileRes pb w (.ok (⟨cs, rs, true⟩, r)) (.returned (.agg #[.slice ao cs.length ac, .slice bo rs.length bc, .bool true])) w') := dEnd
              have a0 := loc_cell (k := 0) hN1 rfl
              have a1 := loc_cell (k := 1) hN1 rfl
              have a2 := loc_cell (k := 2) hN1 rfl
              have b0 := loc_cell (k := 0) hN0 rfl
              have b1 := loc_cell (k := 1) hN0 rfl
              have b2 := loc_cell (k := 2) hN0 rfl
              have z0 := loc_free (k := 0) hN0
              have z1 := loc_free (k := 1) hN0
              have z2 := loc_free (k := 2) hN0
              have HN0 : Hid (w9.heap[w.heap.size]? = some (.cells #[.slice none 0 0, .slice none 0 0, .bool false] 26)) := hN0
              clear hT hk0 dEnd hN1 hN0 hg9
              go_wp2_with fail
              have hL := row3_set HN0.out (.slice ao cs.length ac) (.slice bo rs.length bc) (.bool true)
              have hgF := grown_set3 w9 w.heap.size (.slice ao cs.length ac) (.slice bo rs.length bc) (.bool true)
              refine bodyPost_ret (results_cell_row rfl _ _ w.heap.size 26 #[_, _, _] _ _ rfl hL Tryz.underlying26 rfl size26) rfl ?_
              rw [HREnd.out]
              exact HEnd.out _ _ hgF
            · have hT := take_no pb u s cs.length 0 hk0 wr HP.out
              have HRb : Hid (RP.fileP setOf ts = .error ⟨refuseE 3 u cs.length, u.at_⟩) := by show _ = _; rw [HR3.out, RP.takeP, if_neg hk0, refuse_eq]
              refine hT.mono ?_
              rintro e w9 ⟨⟨b', rfl, k1, k2, k3⟩, hb9⟩
              clear hT hk0
              go_wp2_with fail
              exact ⟨rfl, FileRes.bad HRb.out HGr.out (grown_below hb9 _) ⟨b', rfl, k1, k2, k3⟩⟩

end Go.Proofs.YtjbdlihlcoldlaaGreatDoor.Q

namespace Go.Proofs.YtjbdlihlcoldlaaGreatDoor.Q
open Go.RowKit Go.Shelf

theorem is33 (v : Value) (w : World) : (Instr.typeAssert (.iface 96 v) 20 96 true).run Tryz.prog w = .ok (.tuple #[v, .bool true]) w := by kernel_rfl
theorem not33 (w : World) : (Instr.typeAssert .nilIface 20 96 true).run Tryz.prog w = .ok (.tuple #[.pointer none, .bool false]) w := by kernel_rfl

set_option maxRecDepth 100000 in
theorem catch_thrown (p : Addr) (x : Value) (b : Nat) (w : World) (hc : w.cell? p = some x) (hz : w.frozen? p = false) :
    CallsD Tryz.prog 58 #[.pointer (some p)] (.panicking [{ v := .iface 96 (.pointer (some ⟨b, 0, none⟩)), recovered := false }]) w fun e u' w' =>
      e = .returned (.tuple #[]) ∧ u' = .panicking [{ v := .iface 96 (.pointer (some ⟨b, 0, none⟩)), recovered := true }] ∧ w' = w.setCell p (.iface 96 (.pointer (some ⟨b, 0, none⟩))) := by
  have h33 := is33
  have n33 := not33
  refine callsD_of_wpS Tryz.func58 rfl fun c₀ cs hu => ?_
  apply wpS_seq
  apply wpS_region
  simp [wpOpsS, go_sem, recoverD, hu, Tryz.ntmps58, Exit.thenS, Array.replicate]
  refine wpS_of_wp ?_
  go_wp2
  exact ⟨rfl, _, rfl, .tuple #[], by simp [results, Tryz.results58, go_sem], rfl, rfl, rfl⟩

set_option maxRecDepth 100000 in
theorem catch_idle (p : Addr) (w : World) :
    CallsD Tryz.prog 58 #[.pointer (some p)] .returning w fun e u' w' => e = .returned (.tuple #[]) ∧ u' = .returning ∧ w' = w := by
  have h33 := is33
  have n33 := not33
  refine callsD_of_wpS Tryz.func58 rfl fun c₀ cs hu => ?_
  apply wpS_seq
  apply wpS_region
  simp [wpOpsS, go_sem, recoverD, hu, Tryz.ntmps58, Exit.thenS, Array.replicate]
  refine wpS_of_wp ?_
  go_wp2
  cases c₀
  simp_all [bodyPostS, results, Tryz.results58]

end Go.Proofs.YtjbdlihlcoldlaaGreatDoor.Q

namespace RP

/-- The file that a text is, or what is wrong with it. -/
def parseP (S : List UInt8 → Option (List RS.Rg)) (s : List UInt8) : Except Bad Fi :=
  match toks s with
  | .error b => .error b
  | .ok ts => match fileP S ts with
    | .error b => .error b
    | .ok (f, _) => .ok f

end RP
namespace Go.Proofs.YtjbdlihlcoldlaaGreatDoor.Q
open Go.RowKit Go.Shelf

/-- A file in memory, in such blocks. -/
def FAt (ok : Nat → Prop) (w : World) (v : Value) (f : RP.Fi) : Prop :=
  ∃ cv rv vs us, v = .agg #[cv, rv, .bool f.els] ∧ Row ok w 94 3 cv f.classes.length vs ∧ Row ok w 50 4 rv f.rules.length us ∧ CsAt ok w vs f.classes ∧ RsAt ok w us f.rules

/-- What Parse hands back. -/
def Parsed (w : World) (r : Except RP.Bad RP.Fi) (e : Ending) (w' : World) : Prop :=
  match r with
  | .error b => ∃ g, e = .returned (.tuple #[.agg #[.slice none 0 0, .slice none 0 0, .bool false], .iface 96 (.pointer (some ⟨g, 0, none⟩))]) ∧ w'.heap[g]? = some (.cells #[.int .i64 b.err, .int .i64 b.place] 98) ∧ w.heap.size ≤ g
  | .ok f => ∃ v, e = .returned (.tuple #[v, .nilIface]) ∧ FAt (New w) w' v f

theorem flat3_get : ∀ (ts : List RP.Tok) (k j : Nat) (hk : k < ts.length) (_ : j < 3), (flat3 ts)[k * 3 + j]? = (cells3 ts[k])[j]?
  | [], k, _, hk, _ => by simp at hk
  | t :: ts, 0, j, _, hj => by
    rw [flat3, List.flatMap_cons, List.getElem?_append_left (by simp [cells3]; omega)]
    simp
  | t :: ts, k + 1, j, hk, hj => by
    rw [flat3, List.flatMap_cons, List.getElem?_append_right (by simp [cells3]; omega)]
    have e : (k + 1) * 3 + j - (cells3 t).length = k * 3 + j := by simp [cells3]; omega
    rw [e]
    exact flat3_get ts k j (by simpa using hk) hj

/-- The tokens lie in the parser's hands. -/
theorem PS.make {w : World} {B : Nat} {v : Value} {ts : List RP.Tok} (h : w.ownsRow B 191 3 v ts.length (flat3 ts)) (hne : ts ≠ []) (hl : ts.length ≤ 501) :
    PS w.heap.size ts 0 (w.alloc (.cells #[v, .int .i64 0] 132)) := by
  obtain ⟨h1, h2 | ⟨g, cap, cur, rfl, hgl, hh, hnc, hcm, hcs, ht⟩⟩ := h
  · exact absurd (List.length_eq_zero_iff.1 h2.2) hne
  · have hlt := lt_of_block hh
    refine ⟨g, 0, cap, heap_alloc_new _ _, hlt, hnc, ⟨by omega, by unfold maxLen at hcm; omega⟩, fun k hk => ?_⟩
    have hg : ∀ j, (w.alloc (.cells #[.slice (some ⟨g, 0, none⟩) ts.length cap, .int .i64 0] 132)).cell? ⟨g, j, none⟩ = cur[j]? := by
      intro j
      rw [cell_alloc_old _ _ _ _ hlt]
      simp [World.cell?, hh]
    have hc : ∀ j, j < 3 → cur[k * 3 + j]? = (cells3 ts[k])[j]? := by
      intro j hj
      have h3 : k * 3 + j < ts.length * 3 := by omega
      have h4 : cur[k * 3 + j]? = (flat3 ts)[k * 3 + j]? := by
        rw [← ht, List.getElem?_take_of_lt h3, Array.getElem?_toList]
      rw [h4]
      exact flat3_get ts k j hk hj
    simp only [Nat.zero_add]
    refine ⟨?_, ?_, ?_⟩
    · rw [hg]; exact hc 0 (by omega)
    · rw [hg]; exact hc 1 (by omega)
    · rw [hg]; exact hc 2 (by omega)

theorem toks_ne {ts : List RP.Tok} (hf : RP.Fine ts) : ts ≠ [] := by
  obtain ⟨t, r, rfl⟩ := hf.cons
  simp

theorem load28 {w : World} {k : Nat} {v : Value} (h : w.cell? ⟨k, 0, none⟩ = some v) : (loadVar 31 ⟨k, 0, none⟩).run Tryz.prog w = .ok v w := by
  simp [loadVar, Sem.run_bind, Tryz.isAgg31, go_sem, h, Result.andThen]

/-- What Parse's frame hands back, out of its two variables. -/
theorem results5 (tmps : Array Value) (w : World) (n : Nat) (a b c y : Value) (h2 : tmps.getD 2 undef = .pointer (some ⟨n, 0, none⟩)) (h3 : tmps.getD 3 undef = .pointer (some ⟨n + 1, 0, none⟩))
    (h0 : w.heap[n]? = some (.cells #[a, b, c] 26)) (h1 : w.heap[n + 1]? = some (.cells #[y] 31)) : (results Tryz.f35 tmps).run Tryz.prog w = .ok (.tuple #[.agg #[a, b, c], y]) w :=
  results_cells2 rfl tmps Tryz.prog w ⟨n, 0, none⟩ ⟨n + 1, 0, none⟩ _ _ h2 h3 (run_loadVar_row w n 26 26 #[a, b, c] _ _ h0 Tryz.underlying26 rfl size26) (load28 (loc_cell (k := 0) h1 rfl))

theorem FAt.of {w w3 w4 w5 : World} {cv rv : Value} {f : RP.Fi} {vs us : List Value} (h1 : w4.ownsRow w3.heap.size 94 3 cv f.classes.length vs) (h2 : w4.ownsRow w3.heap.size 50 4 rv f.rules.length us) (h3 : CsAt (New w3) w4 vs f.classes) (h4 : RsAt (New w3) w4 us f.rules)
    (hs : w.heap.size ≤ w3.heap.size) (hk : Keeps (New w3) w4 w5) : FAt (New w) w5 (.agg #[cv, rv, .bool f.els]) f :=
  ⟨cv, rv, vs, us, rfl, ((Row.new h1).keep hk).mono (New.mono hs), ((Row.new h2).keep hk).mono (New.mono hs), (h3.keep hk).mono (New.mono hs), (h4.keep hk).mono (New.mono hs)⟩

set_option maxHeartbeats 4000000 in
set_option maxRecDepth 100000 in
theorem parse_any (s : ByteArray) (hs : s.size ≤ 5000) (w : World) (hK : KT w) :
    Calls Tryz.prog 35 #[.string s] w fun e w' => Parsed w (RP.parseP setOf s.data.toList) e w' ∧ Below w.heap.size w w' := by
  have hmf : ∀ (fn : Fn) (first cap : Array Value) (w : World), (Instr.makeFunc fn first cap).run Tryz.prog w = .ok (.func fn first cap) w := fun _ _ _ _ => rfl
  have hT := tokens_any s (by omega) ((w.alloc (.cells #[.slice none 0 0, .slice none 0 0, .bool false] 26)).alloc (.cells #[.nilIface] 31))
  have hgA : w.grownBy ((w.alloc (.cells #[.slice none 0 0, .slice none 0 0, .bool false] 26)).alloc (.cells #[.nilIface] 31)) none := (World.grownBy_alloc _ _ _).trans (World.grownBy_alloc _ _ _)
  have hA0 : ((w.alloc (.cells #[.slice none 0 0, .slice none 0 0, .bool false] 26)).alloc (.cells #[.nilIface] 31)).heap[w.heap.size]? = some (.cells #[.slice none 0 0, .slice none 0 0, .bool false] 26) := (heap_alloc_old _ _ (by simp)).trans (heap_alloc_new _ _)
  have hA1 : ((w.alloc (.cells #[.slice none 0 0, .slice none 0 0, .bool false] 26)).alloc (.cells #[.nilIface] 31)).heap[w.heap.size + 1]? = some (.cells #[.nilIface] 31) := by
    have := heap_alloc_new (w.alloc (.cells #[.slice none 0 0, .slice none 0 0, .bool false] 26)) (.cells #[.nilIface] 31)
    simpa using this
  go_enter_defers Tryz.func35, Tryz.ntmps35
  go_wp2_with fail
  generalize hW : (w.alloc (.cells #[.slice none 0 0, .slice none 0 0, .bool false] 26)).alloc (.cells #[.nilIface] 31) = W at hT hgA hA0 hA1 ⊢
  clear hW
  have hB0 : Hid (Below w.heap.size w W) := ⟨hgA.os, hgA.tape, hgA.output, hgA.size, fun k hk => hgA.block k hk (by simp)⟩
  have HK : Hid (KT w) := hK
  clear hK
  cases ht : RP.toks s.data.toList with
  | error b =>
    rw [ht] at hT
    have HR : Hid (RP.parseP setOf s.data.toList = .error b) := by show _ = _; rw [RP.parseP, ht]
    clear ht
    refine hT.mono ?_
    rintro e w2 ⟨⟨g, rfl, k1, k2, k3⟩, hb2⟩
    clear hT
    go_wp2_with fail
    refine leaves_cons (f := 58) (args := #[.pointer (some ⟨w.heap.size + 1, 0, none⟩)]) (by simp) (by simp [go_sem]) ?_
    have n0 := (hb2.block _ (lt_of_block hA0)).trans hA0
    have n1 := (hb2.block _ (lt_of_block hA1)).trans hA1
    refine (catch_thrown ⟨w.heap.size + 1, 0, none⟩ .nilIface g _ (loc_cell (k := 0) n1 rfl) (loc_free (k := 0) n1)).mono ?_
    rintro e u' w'' ⟨rfl, rfl, rfl⟩
    have hgS : w2.grownBy (w2.setCell ⟨w.heap.size + 1, 0, none⟩ (.iface 96 (.pointer (some ⟨g, 0, none⟩)))) (some (w.heap.size + 1)) := grown_set _
    have m0 := (hgS.block _ (lt_of_block n0) (fun e => by have := Option.some.inj e; omega)).trans n0
    have m1 := heap_setCell_same w2 _ 0 _ 31 (.iface 96 (.pointer (some ⟨g, 0, none⟩))) n1
    have hlA := lt_of_block hA1
    refine (show ∃ v, (results Tryz.f35 _).run Tryz.prog _ = .ok v _ ∧ _ from ⟨_, results5 _ _ w.heap.size _ _ _ _ rfl rfl m0 m1, ?_, ?_⟩)
    · rw [HR.out]
      exact ⟨g, rfl, (hgS.block _ k3 (fun e => by have := Option.some.inj e; omega)).trans k1, by omega⟩
    · exact ((hB0.out).trans (hb2.mono hB0.out.size)).setCell (p := ⟨w.heap.size + 1, 0, none⟩) (by show _ ≤ w.heap.size + 1; omega) _
  | ok ts =>
    rw [ht] at hT
    obtain ⟨hf, hl501⟩ := RP.toks_fine (by have : s.data.toList.length = s.size := by simp
                                           omega) ht
    have HR : Hid (RP.parseP setOf s.data.toList = match RP.fileP setOf ts with
        | .error b => .error b
        | .ok (f, _) => .ok f) := by show _ = _; rw [RP.parseP, ht]
    clear ht
    refine hT.mono ?_
    rintro e w2 ⟨⟨v, rfl, hown⟩, hb2⟩
    clear hT
    have hP := PS.make hown (toks_ne hf) hl501
    obtain ⟨ao, cp, rfl⟩ := own_slice hown
    have n0 := (hb2.block _ (lt_of_block hA0)).trans hA0
    have n1 := (hb2.block _ (lt_of_block hA1)).trans hA1
    have hl0 := lt_of_block hA0
    have hl1 := lt_of_block hA1
    have hs2 := hb2.size
    have hB3 : Below w.heap.size w (w2.alloc (.cells #[.slice ao ts.length cp, .int .i64 0] 132)) := (hB0.out.trans (hb2.mono hB0.out.size)).alloc (by omega) _
    have h5w := HK.out.2.2.2
    have hF := file_any w2.heap.size ts _ hf (by omega) (HK.out.below hB3) hP
    have HN0 : Hid (w2.heap[w.heap.size]? = some (.cells #[.slice none 0 0, .slice none 0 0, .bool false] 26)) := n0
    have HN1 : Hid (w2.heap[w.heap.size + 1]? = some (.cells #[.nilIface] 31)) := n1
    clear hP hown n0 n1 hA0 hA1 hgA
    go_wp2_with fail
    have hN0 := (heap_alloc_old w2 (.cells #[.slice ao ts.length cp, .int .i64 0] 132) (lt_of_block HN0.out)).trans HN0.out
    have hN1 := (heap_alloc_old w2 (.cells #[.slice ao ts.length cp, .int .i64 0] 132) (lt_of_block HN1.out)).trans HN1.out
    have hs3 : (w2.alloc (.cells #[.slice ao ts.length cp, .int .i64 0] 132)).heap.size = w2.heap.size + 1 := by simp
    generalize hW3 : w2.alloc (.cells #[.slice ao ts.length cp, .int .i64 0] 132) = W3 at hB3 hF hN0 hN1 hs3 ⊢
    clear hW3
    cases hfp : RP.fileP setOf ts with
    | error b =>
      rw [hfp] at hF
      have HR2 : Hid (RP.parseP setOf s.data.toList = .error b) := by show _ = _; rw [HR.out, hfp]
      clear hfp HR
      refine hF.mono ?_
      rintro e w4 ⟨hg4, g, rfl, k1, k2, k3⟩
      clear hF
      go_wp2_with fail
      refine leaves_cons (f := 58) (args := #[.pointer (some ⟨w.heap.size + 1, 0, none⟩)]) (by simp) (by simp [go_sem]) ?_
      have n0 := (hg4.block _ (lt_of_block hN0) (fun e => by have := Option.some.inj e; omega)).trans hN0
      have n1 := (hg4.block _ (lt_of_block hN1) (fun e => by have := Option.some.inj e; omega)).trans hN1
      refine (catch_thrown ⟨w.heap.size + 1, 0, none⟩ .nilIface g _ (loc_cell (k := 0) n1 rfl) (loc_free (k := 0) n1)).mono ?_
      rintro e u' w'' ⟨rfl, rfl, rfl⟩
      have hgS : w4.grownBy (w4.setCell ⟨w.heap.size + 1, 0, none⟩ (.iface 96 (.pointer (some ⟨g, 0, none⟩)))) (some (w.heap.size + 1)) := grown_set _
      have m0 := (hgS.block _ (lt_of_block n0) (fun e => by have := Option.some.inj e; omega)).trans n0
      have m1 := heap_setCell_same w4 _ 0 _ 31 (.iface 96 (.pointer (some ⟨g, 0, none⟩))) n1
      refine (show ∃ v, (results Tryz.f35 _).run Tryz.prog _ = .ok v _ ∧ _ from ⟨_, results5 _ _ w.heap.size _ _ _ _ rfl rfl m0 m1, ?_, ?_⟩)
      · rw [HR2.out]
        exact ⟨g, rfl, (hgS.block _ k3 (fun e => by have := Option.some.inj e; omega)).trans k1, by omega⟩
      · exact (hB3.grown hg4 (by omega) (fun j hj => by have := Option.some.inj hj; omega)).setCell (p := ⟨w.heap.size + 1, 0, none⟩) (by show _ ≤ w.heap.size + 1; omega) _
    | ok y =>
      obtain ⟨f, q⟩ := y
      rw [hfp] at hF
      have HR2 : Hid (RP.parseP setOf s.data.toList = .ok f) := by show _ = _; rw [HR.out, hfp]
      clear hfp HR
      refine hF.mono ?_
      rintro e w4 ⟨hg4, cv, rv, vs, us, rfl, o1, o2, o3, o4⟩
      clear hF
      obtain ⟨co, cc, rfl⟩ := own_slice o1
      obtain ⟨ro, rc, rfl⟩ := own_slice o2
      have n0 := (hg4.block _ (lt_of_block hN0) (fun e => by have := Option.some.inj e; omega)).trans hN0
      have n1 := (hg4.block _ (lt_of_block hN1) (fun e => by have := Option.some.inj e; omega)).trans hN1
      have b0 := loc_cell (k := 0) n0 rfl
      have b1 := loc_cell (k := 1) n0 rfl
      have b2 := loc_cell (k := 2) n0 rfl
      have z0 := loc_free (k := 0) n0
      have z1 := loc_free (k := 1) n0
      have z2 := loc_free (k := 2) n0
      have c0 := loc_cell (k := 0) n1 rfl
      have y0 := loc_free (k := 0) n1
      have HM0 : Hid (w4.heap[w.heap.size]? = some (.cells #[.slice none 0 0, .slice none 0 0, .bool false] 26)) := n0
      have HM1 : Hid (w4.heap[w.heap.size + 1]? = some (.cells #[.nilIface] 31)) := n1
      have HO : Hid (w4.ownsRow W3.heap.size 94 3 (.slice co f.classes.length cc) f.classes.length vs ∧ w4.ownsRow W3.heap.size 50 4 (.slice ro f.rules.length rc) f.rules.length us ∧ CsAt (New W3) w4 vs f.classes ∧ RsAt (New W3) w4 us f.rules) := ⟨o1, o2, o3, o4⟩
      have HG4 : Hid (W3.grownBy w4 (some w2.heap.size)) := hg4
      clear n0 n1 hN0 hN1 o1 o2 o3 o4 hg4
      go_wp2_with fail
      refine leaves_cons (f := 58) (args := #[.pointer (some ⟨w.heap.size + 1, 0, none⟩)]) (by simp) (by simp [go_sem]) ?_
      refine (catch_idle ⟨w.heap.size + 1, 0, none⟩ _).mono ?_
      rintro e u' w'' ⟨rfl, rfl, rfl⟩
      have hL := row3_set HM0.out (.slice co f.classes.length cc) (.slice ro f.rules.length rc) (.bool f.els)
      have hgF := grown_set3 w4 w.heap.size (.slice co f.classes.length cc) (.slice ro f.rules.length rc) (.bool f.els)
      have hL1 := (hgF.block _ (lt_of_block HM1.out) (fun e => by have := Option.some.inj e; omega)).trans HM1.out
      have hBF := (hB3.grown HG4.out (by omega) (fun j hj => by have := Option.some.inj hj; omega)).grown hgF (by have := HG4.out.size; omega) (fun j hj => by have := Option.some.inj hj; omega)
      generalize hWF : ((w4.setCell ⟨w.heap.size, 0, none⟩ (.slice co f.classes.length cc)).setCell ⟨w.heap.size, 1, none⟩ (.slice ro f.rules.length rc)).setCell ⟨w.heap.size, 2, none⟩ (.bool f.els) = WF at hL hgF hL1 hBF ⊢
      clear hWF
      have hgS : WF.grownBy (WF.setCell ⟨w.heap.size + 1, 0, none⟩ .nilIface) (some (w.heap.size + 1)) := grown_set _
      have m0 := (hgS.block _ (lt_of_block hL) (fun e => by have := Option.some.inj e; omega)).trans hL
      have m1 := heap_setCell_same WF _ 0 _ 31 .nilIface hL1
      refine (show ∃ v, (results Tryz.f35 _).run Tryz.prog _ = .ok v _ ∧ _ from ⟨_, results5 _ _ w.heap.size _ _ _ _ rfl rfl m0 m1, ?_, ?_⟩)
      · rw [HR2.out]
        refine ⟨_, rfl, FAt.of HO.out.1 HO.out.2.1 HO.out.2.2.1 HO.out.2.2.2 (by omega) ?_⟩
        intro b hb hbl
        have hb : W3.heap.size ≤ b := hb
        have h1 := hgF.block b hbl (fun e => by have := Option.some.inj e; omega)
        exact (hgS.block b (Nat.lt_of_lt_of_le hbl hgF.size) (fun e => by have := Option.some.inj e; omega)).trans h1
      · exact hBF.setCell (p := ⟨w.heap.size + 1, 0, none⟩) (by show _ ≤ w.heap.size + 1; omega) _

end Go.Proofs.YtjbdlihlcoldlaaGreatDoor.Q
