/- checked: a fact: names, and what they stand for. -/
import Derived.Test.YtjbdlihlcoldlaaGreatDoorG40
import Derived.Test.YtjbdlihlcoldlaaGreatDoorG41
import Derived.Test.YtjbdlihlcoldlaaGreatDoorG18
import Derived.Lib.Hide
namespace Go.Proofs.YtjbdlihlcoldlaaGreatDoor.M
open Go.RowKit Go.Shelf Go.Proofs.YtjbdlihlcoldlaaGreatDoor.Q

/-- The tables that the laws look at. -/
def MT (w : World) : Prop := KT w ∧ ET w ∧ LE w ∧ TZ64 w ∧ 8 ≤ w.heap.size

theorem MT.on {w w' : World} (h : MT w) (hb : Below w.heap.size w w') : MT w' := by
  have h8 := h.2.2.2.2
  exact ⟨h.1.below hb, h.2.1.below hb (by omega), h.2.2.1.below hb (by omega), h.2.2.2.1.below hb (by omega), Nat.le_trans h8 hb.size⟩

theorem checked_fit : RightF (checkedF [(97, 97)] [(98, 98)]) := by
  refine ⟨CK.parse_fit setOf_S (s := checkedS) (by decide) (RP.parse_parts checked_of), parse_short setOf_S (s := checkedS) (by decide) checked_of, ?_⟩
  unfold CK.checkF
  rw [checked_names]
  rfl

theorem miss_fit : CK.FitF missF := CK.parse_fit setOf_S (s := missS) (by decide) (RP.parse_parts miss_of)

def tab2 : CK.Tab := [([97], [(97, 97)]), ([98], [(97, 98)])]
theorem tab2_b : CK.look tab2 [98] = some [(97, 98)] := by decide

theorem set_text : bytesOf (RS.setText [(97, 98)]) = ⟨#[91, 54, 49, 45, 54, 50, 93]⟩ := by decide

set_option maxHeartbeats 4000000 in
set_option maxRecDepth 100000 in
theorem checked_any (w : World) (hM : MT w) : Calls Tryz.prog 41 #[] w fun e w' => e = .returned (.bool true) ∧ Below w.heap.size w w' := by
  have C := parse_any ⟨checkedS.toArray⟩ (by decide) w hM.1
  have e0 : (⟨checkedS.toArray⟩ : ByteArray).data.toList = checkedS := rfl
  rw [e0, checked_of] at C
  have HM : Hid (MT w) := hM
  have HR : Hid (RightF (checkedF [(97, 97)] [(98, 98)])) := checked_fit
  have HN : Hid (CK.namesL 9 7 (checkedF [(97, 97)] [(98, 98)]).classes [] = .ok tab2) := checked_names
  clear e0 hM
  generalize checkedF [(97, 97)] [(98, 98)] = f at C HR HN
  unfold checkedS at C
  go_enter Tryz.func41, Tryz.ntmps41
  go_wp2_with fail
  refine C.mono ?_
  rintro e w1 ⟨⟨v, rfl, hF⟩, hb1⟩
  obtain ⟨co, cn, cc, ro, rn, rc, rfl, -⟩ := FAt.agg hF
  have HF2 : Hid (FAt (fun _ => True) (w1.alloc (.cells #[.slice co cn cc, .slice ro rn rc, .bool f.els] 26)) (.agg #[.slice co cn cc, .slice ro rn rc, .bool f.els]) f) := FAt.all hF (below_alloc1 w1 _)
  have HBX : Hid ((w1.alloc (.cells #[.slice co cn cc, .slice ro rn rc, .bool f.els] 26)).heap[w1.heap.size]? = some (.cells #[.slice co cn cc, .slice ro rn rc, .bool f.els] 26 (0, 0))) := heap_alloc_new w1 _
  have HB2 : Hid (Below w.heap.size w (w1.alloc (.cells #[.slice co cn cc, .slice ro rn rc, .bool f.els] 26))) := hb1.alloc hb1.size _
  have HBB : Hid (w.heap.size ≤ w1.heap.size) := hb1.size
  have K := check_any f _ (w1.alloc (.cells #[.slice co cn cc, .slice ro rn rc, .bool f.els] 26)) HR.out.1 HF2.out
  rw [HR.out.2.2] at K
  have HNM : Hid (∀ W, FAt (fun _ => True) W (.agg #[.slice co cn cc, .slice ro rn rc, .bool f.els]) f → Calls Tryz.prog 12 #[.agg #[.slice co cn cc, .slice ro rn rc, .bool f.els]] W (NamesSay W (.ok tab2))) := fun W hW => by
    have := names_any f _ W HR.out.1 hW
    rw [HN.out] at this
    exact this
  clear C hF hb1
  go_wp2_with fail
  obtain ⟨g, hg⟩ : ∃ g, g = w1.heap.size := ⟨_, rfl⟩
  rw [← hg] at HBX HBB ⊢
  clear hg
  generalize f.els = el at *
  generalize w1.alloc (.cells #[.slice co cn cc, .slice ro rn rc, .bool el] 26) = w2 at *
  refine K.mono ?_
  rintro e w3 ⟨hb3, rfl⟩
  have hbox3 := (hb3.block g (lt_of_block HBX.out)).trans HBX.out
  have c0 := cell_of_row w3 g 0 _ _ _ hbox3
  have c1 := cell_of_row w3 g 1 _ _ _ hbox3
  have c2 := cell_of_row w3 g 2 _ _ _ hbox3
  have HBX3 : Hid (w3.heap[g]? = _) := hbox3
  have HB3 : Hid (Below w.heap.size w w3) := HB2.out.trans (hb3.mono HB2.out.size)
  have L := HNM.out w3 (FAt.all HF2.out hb3)
  clear K hb3 hbox3 HBX
  go_wp2_with fail
  refine L.mono ?_
  rintro e w4 ⟨hb4, mv, rfl, hm⟩
  obtain ⟨mb, u, rfl, -, hlk, hrg, hrr⟩ := hm.find [98] (by decide)
  rw [tab2_b] at hrg hrr
  have hlk' : (Instr.lookup 29 (.map (some mb)) (.string ⟨#[98]⟩) false).run Tryz.prog w4 = .ok u w4 := hlk
  have HB4 : Hid (Below w.heap.size w w4) := HB3.out.trans (hb4.mono HB3.out.size)
  have P := print_any u [(97, 98)] (by decide) hrr w4 (HM.out.on HB4.out).1.1 (by have := (HM.out.on HB4.out).2.2.2.2; omega) hrg
  rw [set_text] at P
  have hbox4 := (hb4.block g (lt_of_block HBX3.out)).trans HBX3.out
  have HBX4 : Hid (w4.heap[g]? = _) := hbox4
  clear L hb4 hlk hrg hrr hbox4 HBX3 c0 c1 c2 hm
  go_wp2_with fail
  refine P.mono ?_
  rintro e w5 ⟨rfl, hb5⟩
  have hbox5 := (hb5.block g (lt_of_block HBX4.out)).trans HBX4.out
  have HBX5 : Hid (w5.heap[g]? = _) := hbox5
  have HB5 : Hid (Below w.heap.size w w5) := HB4.out.trans (hb5.mono HB4.out.size)
  have C := parse_any ⟨missS.toArray⟩ (by decide) w5 (HM.out.on HB5.out).1
  have e0 : (⟨missS.toArray⟩ : ByteArray).data.toList = missS := rfl
  rw [e0, miss_of] at C
  clear P hb5 hbox5 HBX4 e0 hlk'
  unfold missS at C
  go_wp2_with fail
  refine C.mono ?_
  rintro e w6 ⟨⟨v, rfl, hF⟩, hb6⟩
  obtain ⟨do_, dn, dc, so, sn, sc, rfl, -⟩ := FAt.agg hF
  have hbox6 := (hb6.block g (lt_of_block HBX5.out)).trans HBX5.out
  have c0 := cell_of_row w6 g 0 _ _ _ hbox6
  have c1 := cell_of_row w6 g 1 _ _ _ hbox6
  have c2 := cell_of_row w6 g 2 _ _ _ hbox6
  have f0 := frozen_of_row w6 g 0 _ _ hbox6
  have f1 := frozen_of_row w6 g 1 _ _ hbox6
  have f2 := frozen_of_row w6 g 2 _ _ hbox6
  have HB6 : Hid (Below w.heap.size w w6) := HB5.out.trans (hb6.mono HB5.out.size)
  have HBX6 : Hid (w6.heap[g]? = some (.cells #[.slice co cn cc, .slice ro rn rc, .bool el] 26 (0, 0))) := hbox6
  have hgs : g < w5.heap.size := lt_of_block HBX5.out
  have HF6 : Hid (FAt (fun b => b ≠ g) w6 (.agg #[.slice do_ dn dc, .slice so sn sc, .bool missF.els]) missF) := FAt.move (fun b _ (h : w5.heap.size ≤ b) => by omega) (fun b _ hl => rfl) hF
  obtain ⟨em, hem⟩ : ∃ b, b = missF.els := ⟨_, rfl⟩
  rw [← hem] at HF6 ⊢
  clear C hF hb6 hbox6 HBX5 hgs hem
  go_wp2_with fail
  have HF7 : Hid (FAt (fun _ => True) (((w6.setCell ⟨g, 0, none⟩ (.slice do_ dn dc)).setCell ⟨g, 1, none⟩ (.slice so sn sc)).setCell ⟨g, 2, none⟩ (.bool em)) (.agg #[.slice do_ dn dc, .slice so sn sc, .bool em]) missF) := FAt.move (fun _ _ _ => trivial) (fun b _ hl => rfl) (FAt.move (fun b _ h => h) (three_keeps w6 g _ _ _) HF6.out)
  have HB7 : Hid (Below w.heap.size w (((w6.setCell ⟨g, 0, none⟩ (.slice do_ dn dc)).setCell ⟨g, 1, none⟩ (.slice so sn sc)).setCell ⟨g, 2, none⟩ (.bool em))) := ((HB6.out.setCell (p := ⟨g, 0, none⟩) HBB.out _).setCell (p := ⟨g, 1, none⟩) HBB.out _).setCell (p := ⟨g, 2, none⟩) HBB.out _
  have K := check_any missF _ _ miss_fit HF7.out
  rw [miss_found] at K
  generalize ((w6.setCell ⟨g, 0, none⟩ (.slice do_ dn dc)).setCell ⟨g, 1, none⟩ (.slice so sn sc)).setCell ⟨g, 2, none⟩ (.bool em) = w7 at *
  refine K.mono ?_
  rintro e w8 ⟨hb8, a, rfl, ha, -⟩
  have HB8 : Hid (Below w.heap.size w w8) := HB7.out.trans (hb8.mono HB7.out.size)
  have T := tell_at ⟨a, 0, none⟩ 7 w8 (HM.out.on HB8.out).2.1 (cell_of_row w8 a 0 _ _ _ ha)
  clear K hb8 ha
  go_wp2_with fail
  refine T.mono ?_
  rintro e w9 ⟨rfl, hb9⟩
  have HB9 : Hid (Below w.heap.size w w9) := HB8.out.trans (hb9.mono HB8.out.size)
  clear T hb9
  go_wp2_with fail
  go_ret
  exact ⟨rfl, HB9.out⟩

end Go.Proofs.YtjbdlihlcoldlaaGreatDoor.M

namespace Go.Proofs.YtjbdlihlcoldlaaGreatDoor.M
open Go.RowKit Go.Shelf Go.Proofs.YtjbdlihlcoldlaaGreatDoor.Q

/-- A text's code points. -/
def ptsOf (s : List UInt8) : List Int := (U8.dec s 0).map fun u => (u.1 : Int)

theorem flat_get : ∀ (us : List (Nat × Nat × Nat)) (k : Nat) (hk : k < us.length), (flat us)[k * 3]? = some (.int .i64 us[k].1)
  | [], k, hk => by simp at hk
  | u :: us, 0, _ => rfl
  | u :: us, k + 1, hk => by
    have := flat_get us k (by simpa using hk)
    have e : flat (u :: us) = cells3 u ++ flat us := by simp [flat]
    rw [e, List.getElem?_append_right (by simp [cells3]; omega)]
    simp [cells3]
    rw [show (k + 1) * 3 - 3 = k * 3 by omega]
    exact this

/-- Units that utf.Decode made. -/
theorem un_of_own {w : World} {B : Nat} {v : Value} {us : List (Nat × Nat × Nat)} (h : w.ownsRow B 62 3 v us.length (flat us)) : UnAt w v (us.map fun u => (u.1 : Int)) := by
  have hk := h
  obtain ⟨h1, h2 | ⟨g, cap, cur, rfl, hg, hh, hn, hc, hs, ht⟩⟩ := h
  · obtain ⟨rfl, h0⟩ := h2
    obtain rfl : us = [] := List.length_eq_zero_iff.1 h0
    exact ⟨none, 0, rfl, Nat.le_refl _, by omega, fun h => absurd rfl h⟩
  · refine ⟨some ⟨g, 0, none⟩, cap, by rw [List.length_map], by rw [List.length_map]; exact hn, by unfold maxLen at hc; omega, fun _ => ⟨g, 0, rfl, fun k hk' => ?_⟩⟩
    have hk2 : k < us.length := by simpa using hk'
    have := hk.cells (g := g) rfl (k * 3) _ (flat_get us k hk2)
    simp only [Addr.add_lit, Nat.zero_add] at this ⊢
    simpa using this

theorem ptsOf_len (s : List UInt8) : (ptsOf s).length ≤ s.length := by
  unfold ptsOf
  rw [List.length_map]
  exact U8.dec_length_le s 0

/-- utf.Decode, as the laws use it. -/
theorem decode_un (s : ByteArray) (hs : s.size ≤ 1000000) (w : World) (hM : MT w) :
    Calls Tryz.prog 16 #[.string s] w fun e w' => (∃ v, e = .returned v ∧ UnAt w' v (ptsOf s.data.toList)) ∧ Below w.heap.size w w' := by
  refine (decode_any s hs w hM.2.2.1 (by have := hM.2.2.2.2; omega)).mono ?_
  rintro e w' ⟨v, rfl, h, hb⟩
  exact ⟨⟨v, rfl, un_of_own h⟩, hb⟩

/-- mean.Breaks of a right file. -/
theorem breaks_right (f : RP.Fi) (v uv : Value) (pts : List Int) (w : World) (hM : MT w) (hn : pts.length ≤ 63) (hu : UnAt w uv pts) (hA : FAt (fun _ => True) w v f) (hR : RightF f) :
    ∃ T, CK.namesL 9 7 f.classes [] = .ok T ∧ CK.missR T f.rules = none ∧ Calls Tryz.prog 17 #[v, uv] w fun e w' => (∃ v', e = .returned (.tuple #[v', .nilIface]) ∧ IntsAt w'.heap.size w' v' (breaksOf (sayS T pts f) pts.length)) ∧ Below w.heap.size w w' := by
  have h := hR.2.2
  unfold CK.checkF at h
  cases hT : CK.namesL 9 7 f.classes [] with
  | error b => rw [hT] at h; cases h
  | ok T =>
    rw [hT] at h
    dsimp only at h
    have hm : CK.missR T f.rules = none := by
      cases hx : CK.missR T f.rules with
      | none => rfl
      | some a => rw [hx] at h; cases h
    exact ⟨T, rfl, hm, breaks_any f v uv T pts w hM.2.2.2.2 hM.2.2.2.1 hn hu hA hR.1 hR.2.1 hT hm⟩

theorem meant_says : breaksOf (sayS [([97], [(97, 122)])] [97, 98, 32, 99, 100] (meantF [(97, 122)])) 5 = [0, 2, 3, 5] := by
  kernel_rfl

theorem meant_fit : RightF (meantF [(97, 122)]) := by
  refine ⟨CK.parse_fit setOf_S (s := meantS) (by decide) (RP.parse_parts meant_of), parse_short setOf_S (s := meantS) (by decide) meant_of, ?_⟩
  kernel_rfl

theorem pts_abcd : ptsOf [97, 98, 32, 99, 100] = [97, 98, 32, 99, 100] := by kernel_rfl

theorem enter16 (args : Array Value) (w : World) : (callFunc 16 args).run Tryz.prog w = .ok (.enter 16 args) w := by kernel_rfl

/-- What meant holds of its file. -/
def MBox (w : World) (g : Nat) (x y z : Value) (W : World) : Prop :=
  W.cell? ⟨g, 0, none⟩ = some x ∧ W.cell? ⟨g, 1, none⟩ = some y ∧ W.cell? ⟨g, 2, none⟩ = some z ∧ Below w.heap.size w W ∧ g < W.heap.size

theorem MBox.on {w : World} {g : Nat} {x y z : Value} {W W' : World} (k : MBox w g x y z W) (hb : Below W.heap.size W W') : MBox w g x y z W' := by
  obtain ⟨h1, h2, h3, h4, h5⟩ := k
  have := hb.size
  exact ⟨(hb.cell (by exact h5)).trans h1, (hb.cell (by exact h5)).trans h2, (hb.cell (by exact h5)).trans h3, h4.trans (hb.mono h4.size), by omega⟩

theorem MBox.open_ {w : World} {g : Nat} {x y z : Value} {W : World} (k : MBox w g x y z W) : W.cell? ⟨g, 0, none⟩ = some x ∧ W.cell? ⟨g, 1, none⟩ = some y ∧ W.cell? ⟨g, 2, none⟩ = some z ∧ Below w.heap.size w W ∧ g < W.heap.size := k

set_option maxHeartbeats 4000000 in
set_option maxRecDepth 100000 in
theorem meant_any (w : World) (hM : MT w) : Calls Tryz.prog 10 #[] w fun e w' => e = .returned (.bool true) ∧ Below w.heap.size w w' := by
  have C := parse_any ⟨meantS.toArray⟩ (by decide) w hM.1
  have e0 : (⟨meantS.toArray⟩ : ByteArray).data.toList = meantS := rfl
  rw [e0, meant_of] at C
  have HM : Hid (MT w) := hM
  have HR : Hid (RightF (meantF [(97, 122)])) := meant_fit
  have HS : Hid (∀ T, CK.namesL 9 7 (meantF [(97, 122)]).classes [] = .ok T → breaksOf (sayS T [97, 98, 32, 99, 100] (meantF [(97, 122)])) 5 = [0, 2, 3, 5]) := fun T hT => by
    rw [meant_names] at hT
    cases hT
    exact meant_says
  clear e0 hM
  generalize meantF [(97, 122)] = f at C HR HS
  unfold meantS at C
  go_enter Tryz.func10, Tryz.ntmps10
  go_wp2_with fail
  refine C.mono ?_
  rintro e w1 ⟨⟨v, rfl, hF⟩, hb1⟩
  obtain ⟨co, cn, cc, ro, rn, rc, rfl, -⟩ := FAt.agg hF
  have HF2 : Hid (FAt (fun _ => True) (w1.alloc (.cells #[.slice co cn cc, .slice ro rn rc, .bool f.els] 26)) (.agg #[.slice co cn cc, .slice ro rn rc, .bool f.els]) f) := FAt.all hF (below_alloc1 w1 _)
  have HBX : Hid ((w1.alloc (.cells #[.slice co cn cc, .slice ro rn rc, .bool f.els] 26)).heap[w1.heap.size]? = some (.cells #[.slice co cn cc, .slice ro rn rc, .bool f.els] 26 (0, 0))) := heap_alloc_new w1 _
  have HB2 : Hid (Below w.heap.size w (w1.alloc (.cells #[.slice co cn cc, .slice ro rn rc, .bool f.els] 26))) := hb1.alloc hb1.size _
  have HBB : Hid (w.heap.size ≤ w1.heap.size) := hb1.size
  have K := checked_any (w1.alloc (.cells #[.slice co cn cc, .slice ro rn rc, .bool f.els] 26)) (HM.out.on HB2.out)
  clear C hF hb1
  go_wp2_with fail
  obtain ⟨g, hg⟩ : ∃ g, g = w1.heap.size := ⟨_, rfl⟩
  rw [← hg] at HBX HBB ⊢
  clear hg
  generalize f.els = el at *
  generalize w1.alloc (.cells #[.slice co cn cc, .slice ro rn rc, .bool el] 26) = w2 at *
  refine K.mono ?_
  rintro e w3 ⟨rfl, hb3⟩
  have hbox3 := (hb3.block g (lt_of_block HBX.out)).trans HBX.out
  have HB3 : Hid (Below w.heap.size w w3) := HB2.out.trans (hb3.mono HB2.out.size)
  have HF3 : Hid (FAt (fun _ => True) w3 (.agg #[.slice co cn cc, .slice ro rn rc, .bool el]) f) := FAt.all HF2.out hb3
  have HS3 : Hid (MBox w g (.slice co cn cc) (.slice ro rn rc) (.bool el) w3) := ⟨cell_of_row w3 g 0 _ _ _ hbox3, cell_of_row w3 g 1 _ _ _ hbox3, cell_of_row w3 g 2 _ _ _ hbox3, HB3.out, lt_of_block hbox3⟩
  clear K hb3 hbox3 HBX HB2 HF2
  go_upto_region 4 with fail
  have hS4 : MBox w g (.slice co cn cc) (.slice ro rn rc) (.bool el) w3.drew := HS3.out.on (below_drewN (Below.refl _ _) 1)
  have HD : Hid (∀ W, MBox w g (.slice co cn cc) (.slice ro rn rc) (.bool el) W → Calls Tryz.prog 16 #[.string ⟨#[97, 98, 32, 99, 100]⟩] W fun e w' => (∃ v, e = .returned v ∧ UnAt w' v [97, 98, 32, 99, 100]) ∧ Below W.heap.size W w') := fun W hW => by
    have := decode_un ⟨#[97, 98, 32, 99, 100]⟩ (by decide) W (HM.out.on hW.2.2.2.1)
    rw [show (⟨#[97, 98, 32, 99, 100]⟩ : ByteArray).data.toList = [97, 98, 32, 99, 100] from rfl, pts_abcd] at this
    exact this
  have HBR : Hid (∀ W uv, MBox w g (.slice co cn cc) (.slice ro rn rc) (.bool el) W → Below w3.heap.size w3 W → UnAt W uv [97, 98, 32, 99, 100] → Calls Tryz.prog 17 #[.agg #[.slice co cn cc, .slice ro rn rc, .bool el], uv] W fun e w' => (∃ v', e = .returned (.tuple #[v', .nilIface]) ∧ IntsAt w'.heap.size w' v' [0, 2, 3, 5]) ∧ Below W.heap.size W w') := fun W uv hW hb hu => by
    obtain ⟨T, hT, -, hc⟩ := breaks_right f (.agg #[.slice co cn cc, .slice ro rn rc, .bool el]) uv _ W (HM.out.on hW.2.2.2.1) (by decide) hu (FAt.all HF3.out hb) HR.out
    rw [show ([97, 98, 32, 99, 100] : List Int).length = 5 from rfl, HS.out T hT] at hc
    exact hc
  go_region_held3 (fun W => W.cell? ⟨g, 0, none⟩ = some (.slice co cn cc) ∧ W.cell? ⟨g, 1, none⟩ = some (.slice ro rn rc) ∧ W.cell? ⟨g, 2, none⟩ = some (.bool el) ∧ Below w.heap.size w W ∧ g < W.heap.size)
    (exact MBox.open_ (by assumption))
    (first
      | (have hmark := hu5; clear hmark; go_at_call 17; refine (HBR.out _ _ ?_ hb35 hu5).mono ?_; assumption; rintro e w6 ⟨⟨v6, rfl, hi6⟩, hb6⟩; have hS6 := MBox.on (by assumption) hb6)
      | (go_at_call 16; refine (HD.out _ ?_).mono ?_; assumption; rintro e w5 ⟨⟨v5, rfl, hu5⟩, hb5⟩; have hb35 := ((below_drewN (Below.refl w3.heap.size w3) 1).trans hb5); have hS5 := MBox.on (by assumption) hb5))
  have HI : Hid (IntsAt w6.heap.size w6 v6 [0, 2, 3, 5]) := hi6
  have HB6 : Hid (Below w.heap.size w w6) := hS6.2.2.2.1
  clear hS4 HD HBR HS3 hu5 hb35 hS5 hb5 hS6 hb6 hi6 HF3
  have hba := below_alloc1 w6 (.cells #[.int .i64 0, .int .i64 2, .int .i64 3, .int .i64 5] 3)
  have hbl := heap_alloc_new w6 (.cells #[.int .i64 0, .int .i64 2, .int .i64 3, .int .i64 5] 3)
  have hy : IntsAt (w6.alloc (.cells #[.int .i64 0, .int .i64 2, .int .i64 3, .int .i64 5] 3)).heap.size (w6.alloc (.cells #[.int .i64 0, .int .i64 2, .int .i64 3, .int .i64 5] 3)) (.slice (some ⟨w6.heap.size, 0, none⟩) 4 4) [0, 2, 3, 5] := by
    refine ⟨_, 4, rfl, fun _ => ⟨w6.heap.size, 0, rfl, by simp, fun j hj => ?_⟩⟩
    have hj4 : j < 4 := hj
    rw [Nat.zero_add]
    match j, hj4 with
    | 0, _ => exact cell_of_row _ _ 0 _ _ _ hbl
    | 1, _ => exact cell_of_row _ _ 1 _ _ _ hbl
    | 2, _ => exact cell_of_row _ _ 2 _ _ _ hbl
    | 3, _ => exact cell_of_row _ _ 3 _ _ _ hbl
  have E := equal_any v6 _ [0, 2, 3, 5] [0, 2, 3, 5] (by decide) (by decide) _ (HI.out.below hba _ hba.size) hy
  rw [decide_eq_true rfl] at E
  have HBA : Hid (Below w6.heap.size w6 _) := hba
  clear hba hbl hy
  go_wp2_with fail
  refine E.mono ?_
  rintro e w8 ⟨rfl, hb8⟩
  have HB8 : Hid (Below w.heap.size w w8) := HB6.out.trans ((HBA.out.trans (hb8.mono HBA.out.size)).mono HB6.out.size)
  clear E hb8
  go_wp2_with fail
  go_ret
  exact ⟨rfl, HB8.out⟩

end Go.Proofs.YtjbdlihlcoldlaaGreatDoor.M

namespace Go.Proofs.YtjbdlihlcoldlaaGreatDoor.M
open Go.RowKit Go.Shelf Go.Proofs.YtjbdlihlcoldlaaGreatDoor.Q

/-- Rules in an own row; their patterns lie elsewhere. -/
def RsRow (ok : Nat → Prop) (B : Nat) (w : World) (v : Value) (rs : List RP.Ru) : Prop :=
  ∃ vs, w.ownsRow B 50 4 v rs.length vs ∧ RsAt (fun b => ok b ∧ v.ownBlock ≠ some b) w vs rs

theorem RsRow.nil (ok : Nat → Prop) (B : Nat) (w : World) : RsRow ok B w (.slice none 0 0) [] := ⟨[], World.ownsRow_nil _ _ _ _, rfl⟩

theorem RsRow.lt {ok : Nat → Prop} {B : Nat} {w : World} {v : Value} {rs : List RP.Ru} (h : RsRow ok B w v rs) : ∀ j, v.ownBlock = some j → B ≤ j ∧ j < w.heap.size := fun j hj => by
  obtain ⟨vs, h1, -⟩ := h
  exact h1.lt j hj

theorem RsRow.slice {ok : Nat → Prop} {B : Nat} {w : World} {v : Value} {rs : List RP.Ru} (h : RsRow ok B w v rs) : ∃ ao cp, v = .slice ao rs.length cp := by
  obtain ⟨vs, h1, -⟩ := h
  exact own_slice h1

/-- A change of blocks that are neither the row's own nor its patterns'. -/
theorem RsRow.keep {ok : Nat → Prop} {B : Nat} {w w' : World} {v : Value} {rs : List RP.Ru} (h : RsRow ok B w v rs) (hk : ∀ b, b < w.heap.size → ok b ∨ v.ownBlock = some b → w'.heap[b]? = w.heap[b]?) : RsRow ok B w' v rs := by
  obtain ⟨vs, h1, h2⟩ := h
  refine ⟨vs, ?_, RsAt.keep (fun b hb hl => hk b hl (.inl hb.1)) h2⟩
  obtain ⟨k1, k2 | ⟨g, cap, cur, rfl, hgl, hh, rest⟩⟩ := h1
  · exact ⟨k1, .inl k2⟩
  · exact ⟨k1, .inr ⟨g, cap, cur, rfl, hgl, (hk g (lt_of_block hh) (.inr (by simp [Value.ownBlock]))).trans hh, rest⟩⟩

theorem RsRow.below {ok : Nat → Prop} {B : Nat} {w w' : World} {v : Value} {rs : List RP.Ru} (h : RsRow ok B w v rs) (hb : Below w.heap.size w w') : RsRow ok B w' v rs :=
  h.keep (fun b hl _ => hb.block b hl)

theorem RsRow.row {ok : Nat → Prop} {B : Nat} {w : World} {v : Value} {rs : List RP.Ru} (h : RsRow ok B w v rs) : ∃ vs, Row (fun _ => True) w 50 4 v rs.length vs ∧ RsAt (fun _ => True) w vs rs := by
  obtain ⟨vs, h1, h2⟩ := h
  refine ⟨vs, ⟨?_, fun _ _ => trivial⟩, RsAt.mono (fun _ _ _ => trivial) h2⟩
  obtain ⟨k1, k2 | ⟨g, cap, cur, rfl, hgl, hh, rest⟩⟩ := h1
  · exact ⟨k1, .inl k2⟩
  · exact ⟨k1, .inr ⟨g, cap, cur, rfl, Nat.zero_le _, hh, rest⟩⟩

/-- One rule more. -/
theorem RsRow.more {ok : Nat → Prop} {B : Nat} {w : World} {v : Value} {rs : List RP.Ru} (ty : TypeId) (h : RsRow ok B w v rs) (x : RP.Ru) {bb ab : Nat} (hb : PAt (fun b => ok b ∧ v.ownBlock ≠ some b) w [.pointer (some ⟨bb, 0, none⟩)] x.before)
    (ha : PAt (fun b => ok b ∧ v.ownBlock ≠ some b) w [.pointer (some ⟨ab, 0, none⟩)] x.after) (hB : B ≤ w.heap.size) (hn : rs.length ≤ 100000) :
    ∃ v' w', (Builtin.append_ #[24, 24] ty #[v, .slice (some ⟨w.heap.size, 0, none⟩) 1 1]).run Tryz.prog (w.alloc (.cells #[.int .i64 x.at_, .bool x.brk, .pointer (some ⟨bb, 0, none⟩), .pointer (some ⟨ab, 0, none⟩)] 50)) = .ok v' w' ∧
      RsRow ok B w' v' (rs ++ [x]) ∧ Below B w w' ∧ ∀ j, j < w.heap.size → v.ownBlock ≠ some j → w'.heap[j]? = w.heap[j]? := by
  obtain ⟨i0, hi, hz0, hz1, hz2⟩ := info_parts info48'
  obtain ⟨vs, h1, h2⟩ := h
  have hb0 : Below w.heap.size w (w.alloc (.cells #[.int .i64 x.at_, .bool x.brk, .pointer (some ⟨bb, 0, none⟩), .pointer (some ⟨ab, 0, none⟩)] 50)) := below_alloc1 _ _
  have hown := own_below h1 hb0
  have hblk := heap_alloc_new w (.cells #[.int .i64 x.at_, .bool x.brk, .pointer (some ⟨bb, 0, none⟩), .pointer (some ⟨ab, 0, none⟩)] 50)
  have hone : ∀ u ∈ [Value.int .i64 x.at_, .bool x.brk, .pointer (some ⟨bb, 0, none⟩), .pointer (some ⟨ab, 0, none⟩)], u.oneCell' = true := by
    intro u hu
    simp at hu
    rcases hu with rfl | rfl | rfl | rfl <;> rfl
  obtain ⟨v', w', hr, ho, hg, hwh⟩ := append_at (P := Tryz.prog) _ B 24 ty 50 i0 _ 4 32 Tryz.underlying24 hi hz0 hz1 hz2 rfl (by decide) v rs.length vs hown ⟨w.heap.size, 0, none⟩ 1 [.int .i64 x.at_, .bool x.brk, .pointer (some ⟨bb, 0, none⟩), .pointer (some ⟨ab, 0, none⟩)] rfl
    (by
      intro j u hj
      match j, hj with
      | 0, hj => cases hj; exact cell_of_row _ _ 0 _ _ _ hblk
      | 1, hj => cases hj; exact cell_of_row _ _ 1 _ _ _ hblk
      | 2, hj => cases hj; exact cell_of_row _ _ 2 _ _ _ hblk
      | 3, hj => cases hj; exact cell_of_row _ _ 3 _ _ _ hblk
      | j + 4, hj => simp at hj) hone (by unfold maxLen; omega) (by omega) (by have := hb0.size; omega)
  have hvb : ∀ j, v.ownBlock = some j → B ≤ j ∧ j < w.heap.size := fun j hj => h1.lt j hj
  have hoth : ∀ j, j < w.heap.size → v.ownBlock ≠ some j → w'.heap[j]? = w.heap[j]? := fun j hj hne => (hg.block j (by have := hb0.size; omega) (fun e => hne e.symm)).trans (hb0.block j hj)
  have hnot : ∀ j, j < w.heap.size → v.ownBlock ≠ some j → v'.ownBlock ≠ some j := by
    intro j hj hne e
    rcases hwh with h | h
    · exact hne (h.symm.trans e)
    · rw [h] at e
      cases e
      have := hb0.size
      omega
  have hkp : Keeps (fun b => (ok b ∧ v.ownBlock ≠ some b) ∧ v'.ownBlock ≠ some b) w w' := fun b hb hl => hoth b hl hb.1.2
  have hmv : ∀ {p : RP.Pt} {us : List Value}, PAt (fun b => ok b ∧ v.ownBlock ≠ some b) w us p → PAt (fun b => ok b ∧ v'.ownBlock ≠ some b) w' us p := fun hp =>
    PAt.mono (fun b _ hb => ⟨hb.1.1, hb.2⟩) (PAt.keep hkp (PAt.mono (fun b hl hb => ⟨hb, hnot b hl hb.2⟩) hp))
  refine ⟨v', w', hr, ⟨vs ++ [.int .i64 x.at_, .bool x.brk, .pointer (some ⟨bb, 0, none⟩), .pointer (some ⟨ab, 0, none⟩)], by rw [List.length_append]; exact ho, RsAt.snoc ⟨_, rfl⟩ (hmv hb) ⟨_, rfl⟩ (hmv ha) (RsAt.turn hmv h2)⟩, ?_, hoth⟩
  exact (hb0.mono hB).grown hg (by have := hb0.size; omega) (fun k hk => (hvb k hk).1)

/-- A rule that says the opposite; a file of such. -/
def turnR (r : RP.Ru) : RP.Ru := ⟨r.at_, !r.brk, r.before, r.after⟩
def turnF (f : RP.Fi) : RP.Fi := ⟨f.classes, f.rules.map turnR, !f.els⟩

theorem miss_turn (T : CK.Tab) : ∀ rs : List RP.Ru, CK.missR T (rs.map turnR) = CK.missR T rs
  | [] => rfl
  | r :: rs => by
    rw [List.map_cons, CK.missR, CK.missR, miss_turn T rs]
    rfl

theorem right_turn {f : RP.Fi} (h : RightF f) : RightF (turnF f) := by
  obtain ⟨h1, h2, h3⟩ := h
  refine ⟨⟨h1.1, ?_, h1.2.2.1, ?_⟩, ?_, ?_⟩
  · intro r hr
    obtain ⟨q, hq, rfl⟩ := List.mem_map.1 hr
    exact h1.2.1 q hq
  · show (f.rules.map turnR).length ≤ 20
    rw [List.length_map]
    exact h1.2.2.2
  · intro r hr
    obtain ⟨q, hq, rfl⟩ := List.mem_map.1 hr
    exact h2 q hq
  · unfold CK.checkF at h3 ⊢
    show (match CK.namesL 9 7 f.classes [] with | .error b => some b | .ok T => (CK.missR T (f.rules.map turnR)).map fun a => (7, a)) = none
    cases hT : CK.namesL 9 7 f.classes [] with
    | error b => rw [hT] at h3; cases h3
    | ok T =>
      rw [hT] at h3
      dsimp only at h3 ⊢
      rw [miss_turn]
      exact h3

theorem stood_turn (T : CK.Tab) (pts : List Int) (rs : List RP.Ru) : stoodS T pts (rs.map turnR) = (stoodS T pts rs).map fun s => (!s.1, s.2) := by
  unfold stoodS
  rw [List.map_map, List.map_map]
  rfl

theorem say_turn (T : CK.Tab) (pts : List Int) (f : RP.Fi) (i : Nat) : sayS T pts (turnF f) i = !(sayS T pts f i) := by
  show saysS (stoodS T pts (f.rules.map turnR)) i (!f.els) = !(saysS (stoodS T pts f.rules) i f.els)
  rw [stood_turn]
  unfold saysS
  rw [List.find?_map]
  have e : (stands i) ∘ (fun s : Sd => ((!s.1, s.2) : Sd)) = stands i := rfl
  rw [e]
  cases (stoodS T pts f.rules).find? (stands i) <;> rfl

/-- A place in the midst is a break where it is said. -/
theorem mem_breaks (q : Nat → Bool) (n i : Nat) (h1 : 1 ≤ i) (h2 : i < n) : (decide ((i : Int) ∈ breaksOf q n)) = q i := by
  unfold breaksOf
  rw [if_neg (by omega)]
  have e : ((i : Int) ∈ (0 : Int) :: insides q n ++ [(n : Int)]) ↔ q i = true := by
    unfold insides
    simp only [List.cons_append, List.mem_cons, List.mem_append, List.mem_map, List.mem_filter, List.mem_range, List.not_mem_nil, or_false, Bool.and_eq_true, decide_eq_true_eq]
    constructor
    · rintro (h | ⟨j, ⟨h3, h4, h5⟩, h6⟩ | h)
      · omega
      · obtain rfl : j = i := by omega
        exact h5
      · omega
    · intro h
      exact .inr (.inl ⟨i, ⟨h2, h1, h⟩, rfl⟩)
  cases h : q i with
  | true => rw [h] at e; exact decide_eq_true (e.2 rfl)
  | false => rw [h] at e; exact decide_eq_false (fun hc => by have := e.1 hc; cases this)

end Go.Proofs.YtjbdlihlcoldlaaGreatDoor.M

namespace Go.Proofs.YtjbdlihlcoldlaaGreatDoor.M
open Go.RowKit Go.Shelf Go.Proofs.YtjbdlihlcoldlaaGreatDoor.Q

theorem insides_mem {q : Nat → Bool} {n : Nat} {x : Int} (h : x ∈ insides q n) : 1 ≤ x ∧ x < n := by
  unfold insides at h
  obtain ⟨j, hj, rfl⟩ := List.mem_map.1 h
  have := List.mem_filter.1 hj
  simp at this
  omega

theorem insides_rise (q : Nat → Bool) (n : Nat) : (insides q n).Pairwise (· < ·) := by
  unfold insides
  rw [List.pairwise_map]
  exact (List.pairwise_lt_range.filter _).imp fun h => by omega

theorem breaks_rise (q : Nat → Bool) (n : Nat) (hn : 1 ≤ n) : (breaksOf q n).Pairwise (· < ·) := by
  unfold breaksOf
  rw [if_neg (by omega), List.cons_append, List.pairwise_cons, List.pairwise_append]
  refine ⟨fun x hx => ?_, insides_rise q n, by simp, fun x hx y hy => ?_⟩
  · rcases List.mem_append.1 hx with hx | hx
    · have := insides_mem hx; omega
    · simp at hx; omega
  · have := insides_mem hx
    simp at hy
    omega

theorem breaks_len (q : Nat → Bool) (n : Nat) (hn : 1 ≤ n) : (breaksOf q n).length = (insides q n).length + 2 := by
  unfold breaksOf
  rw [if_neg (by omega)]
  simp

theorem breaks_first (q : Nat → Bool) (n : Nat) (hn : 1 ≤ n) (h : 0 < (breaksOf q n).length) : (breaksOf q n)[0] = 0 := by
  have e : breaksOf q n = 0 :: insides q n ++ [(n : Int)] := by unfold breaksOf; rw [if_neg (by omega)]
  simp [e]

theorem breaks_last (q : Nat → Bool) (n k : Nat) (hn : 1 ≤ n) (hk : k + 1 = (breaksOf q n).length) : (breaksOf q n)[k]'(by omega) = (n : Int) := by
  have e : breaksOf q n = (0 :: insides q n) ++ [(n : Int)] := by unfold breaksOf; rw [if_neg (by omega)]
  have h2 := breaks_len q n hn
  have hk2 : k = (0 :: insides q n).length := by simp; omega
  subst hk2
  simp only [e]
  exact List.getElem_concat_length rfl _

theorem insides_same {q p : Nat → Bool} : ∀ {n : Nat}, (∀ i, 1 ≤ i → i < n → q i = p i) → insides q n = insides p n := by
  intro n h
  unfold insides
  congr 1
  refine List.filter_congr fun j hj => ?_
  have hj2 : j < n := List.mem_range.1 hj
  by_cases h1 : 1 ≤ j
  · rw [h j h1 hj2]
  · simp [h1]

theorem insides_all : ∀ n : Nat, (insides (fun _ => true) n).length = n - 1
  | 0 => rfl
  | 1 => rfl
  | n + 2 => by
    rw [insides_succ _ _ (by omega), if_pos rfl, List.length_append, insides_all (n + 1)]
    simp

theorem insides_none (n : Nat) : insides (fun _ => false) n = [] := by
  unfold insides
  rw [List.map_eq_nil_iff, List.filter_eq_nil_iff]
  intro a _
  simp

theorem breaks_always (q : Nat → Bool) (is : Bool) (n : Nat) (hn : 1 ≤ n) (h : ∀ i, 1 ≤ i → i < n → q i = is) : (breaksOf q n).length = if is then n + 1 else 2 := by
  rw [breaks_len q n hn]
  cases is with
  | true => rw [insides_same (p := fun _ => true) h, insides_all]; simp; omega
  | false => rw [insides_same (p := fun _ => false) h, insides_none]; rfl

/-- A rule that always stands. -/
def alwaysR (is : Bool) : RP.Ru := ⟨0, is, .cat .nil, .cat .nil⟩
def firstF (f : RP.Fi) (x : RP.Ru) : RP.Fi := ⟨f.classes, x :: f.rules, f.els⟩

theorem stand_nothing (T : CK.Tab) (pts : List Int) (back : Bool) (i : Nat) (hi : i ≤ pts.length) : (standQ T pts back (.cat .nil)).testBit i = true := by
  have e : standQ T pts back (.cat .nil) = mask (fun _ => true) (pts.length + 1) := by
    cases back <;> rfl
  rw [e, mask_bit]
  simp
  omega

theorem say_always (T : CK.Tab) (pts : List Int) (f : RP.Fi) (is : Bool) (i : Nat) (hi : i ≤ pts.length) : sayS T pts (firstF f (alwaysR is)) i = is := by
  show saysS (stoodS T pts (alwaysR is :: f.rules)) i f.els = is
  unfold saysS stoodS
  rw [List.map_cons, List.find?_cons]
  have : stands i ((alwaysR is).brk, standQ T pts true (alwaysR is).before, standQ T pts false (alwaysR is).after) = true := by
    unfold stands
    show ((standQ T pts true (.cat .nil)).testBit i && (standQ T pts false (.cat .nil)).testBit i) = true
    rw [stand_nothing T pts true i hi, stand_nothing T pts false i hi]
    rfl
  rw [this]
  rfl

theorem say_twice (T : CK.Tab) (pts : List Int) (f : RP.Fi) (x : RP.Ru) (rs : List RP.Ru) (hf : f.rules = x :: rs) (i : Nat) : sayS T pts (firstF f x) i = sayS T pts f i := by
  show saysS (stoodS T pts (x :: f.rules)) i f.els = saysS (stoodS T pts f.rules) i f.els
  rw [hf]
  unfold saysS stoodS
  rw [List.map_cons, List.map_cons, List.find?_cons]
  cases h : stands i (x.brk, standQ T pts true x.before, standQ T pts false x.after) with
  | true => rw [List.find?_cons, h]
  | false => rfl

theorem right_first {f : RP.Fi} {x : RP.Ru} (h : RightF f) (hl : f.rules.length < 20) (hx : CK.FitP x.before false ∧ CK.FitP x.after false) (hs : ShortP x.before ∧ ShortP x.after) (hm : ∀ T, CK.namesL 9 7 f.classes [] = .ok T → (CK.missP T x.before).or (CK.missP T x.after) = none) : RightF (firstF f x) := by
  obtain ⟨h1, h2, h3⟩ := h
  refine ⟨⟨h1.1, ?_, h1.2.2.1, ?_⟩, ?_, ?_⟩
  · intro r hr
    rcases List.mem_cons.1 hr with rfl | hr
    · exact hx
    · exact h1.2.1 r hr
  · show (x :: f.rules).length ≤ 20
    rw [List.length_cons]
    omega
  · intro r hr
    rcases List.mem_cons.1 hr with rfl | hr
    · exact hs
    · exact h2 r hr
  · unfold CK.checkF at h3 ⊢
    show (match CK.namesL 9 7 f.classes [] with | .error b => some b | .ok T => (CK.missR T (x :: f.rules)).map fun a => (7, a)) = none
    cases hT : CK.namesL 9 7 f.classes [] with
    | error b => rw [hT] at h3; cases h3
    | ok T =>
      rw [hT] at h3
      dsimp only at h3 ⊢
      rw [CK.missR, hm T hT]
      exact h3

theorem right_always {f : RP.Fi} (h : RightF f) (hl : f.rules.length < 20) (is : Bool) : RightF (firstF f (alwaysR is)) :=
  right_first h hl ⟨⟨rfl, rfl⟩, ⟨rfl, rfl⟩⟩ ⟨⟨by decide, trivial⟩, ⟨by decide, trivial⟩⟩ fun _ _ => rfl

theorem right_twice {f : RP.Fi} {x : RP.Ru} {rs : List RP.Ru} (h : RightF f) (hl : f.rules.length < 20) (hf : f.rules = x :: rs) : RightF (firstF f x) := by
  refine right_first h hl (h.1.2.1 x (by rw [hf]; simp)) (h.2.1 x (by rw [hf]; simp)) fun T hT => ?_
  have h3 := h.2.2
  unfold CK.checkF at h3
  rw [hT] at h3
  dsimp only at h3
  rw [hf, CK.missR] at h3
  cases hc : (CK.missP T x.before).or (CK.missP T x.after) with
  | none => rfl
  | some a => rw [hc] at h3; cases h3

theorem rs_one {ok : Nat → Prop} {w : World} : ∀ (rs : List RP.Ru) (us : List Value), RsAt ok w us rs → ∀ u ∈ us, u.oneCell' = true
  | [], us, h, u, hu => by
    have h : us = [] := h
    subst h
    cases hu
  | _ :: ys, us, ⟨bv, av, us', e, ⟨_, e1⟩, _, ⟨_, e2⟩, _, h5⟩, u, hu => by
    subst e e1 e2
    simp at hu
    rcases hu with rfl | rfl | rfl | rfl | hu
    · rfl
    · rfl
    · rfl
    · rfl
    · exact rs_one ys us' h5 u hu

/-- Rules behind one rule, in a row of their own. -/
theorem rules_join {ok : Nat → Prop} (ty : TypeId) (x : RP.Ru) {bb ab : Nat} {rv : Value} {us : List Value} {rs : List RP.Ru} {w : World} (hx : PAt ok w [.pointer (some ⟨bb, 0, none⟩)] x.before) (hy : PAt ok w [.pointer (some ⟨ab, 0, none⟩)] x.after)
    (hR : Row (fun _ => True) w 50 4 rv rs.length us) (hRs : RsAt ok w us rs) (hn : rs.length ≤ 1000) :
    ∃ v' w', (Builtin.append_ #[24, 24] ty #[.slice (some ⟨w.heap.size, 0, none⟩) 1 1, rv]).run Tryz.prog (w.alloc (.cells #[.int .i64 x.at_, .bool x.brk, .pointer (some ⟨bb, 0, none⟩), .pointer (some ⟨ab, 0, none⟩)] 50)) = .ok v' w' ∧
      RsRow ok w.heap.size w' v' (x :: rs) ∧ Below w.heap.size w w' := by
  obtain ⟨i0, hi, hz0, hz1, hz2⟩ := info_parts info48'
  have hb0 : Below w.heap.size w (w.alloc (.cells #[.int .i64 x.at_, .bool x.brk, .pointer (some ⟨bb, 0, none⟩), .pointer (some ⟨ab, 0, none⟩)] 50)) := below_alloc1 _ _
  have hblk := heap_alloc_new w (.cells #[.int .i64 x.at_, .bool x.brk, .pointer (some ⟨bb, 0, none⟩), .pointer (some ⟨ab, 0, none⟩)] 50)
  have hown : (w.alloc (.cells #[.int .i64 x.at_, .bool x.brk, .pointer (some ⟨bb, 0, none⟩), .pointer (some ⟨ab, 0, none⟩)] 50)).ownsRow w.heap.size 50 4 (.slice (some ⟨w.heap.size, 0, none⟩) 1 1) 1 [.int .i64 x.at_, .bool x.brk, .pointer (some ⟨bb, 0, none⟩), .pointer (some ⟨ab, 0, none⟩)] :=
    ⟨rfl, .inr ⟨w.heap.size, 1, #[.int .i64 x.at_, .bool x.brk, .pointer (some ⟨bb, 0, none⟩), .pointer (some ⟨ab, 0, none⟩)], rfl, Nat.le_refl _, hblk, Nat.le_refl _, by unfold maxLen; omega, rfl, rfl⟩⟩
  obtain ⟨v', w', hr, ho, hb'⟩ : ∃ v' w', (Builtin.append_ #[24, 24] ty #[.slice (some ⟨w.heap.size, 0, none⟩) 1 1, rv]).run Tryz.prog (w.alloc (.cells #[.int .i64 x.at_, .bool x.brk, .pointer (some ⟨bb, 0, none⟩), .pointer (some ⟨ab, 0, none⟩)] 50)) = .ok v' w' ∧
      w'.ownsRow w.heap.size 50 4 v' (1 + rs.length) ([.int .i64 x.at_, .bool x.brk, .pointer (some ⟨bb, 0, none⟩), .pointer (some ⟨ab, 0, none⟩)] ++ us) ∧ Below w.heap.size w w' := by
    obtain ⟨⟨k1, k2 | ⟨g, cap, cur, rfl, hgl, hh, hn2, hcm, hcs, ht⟩⟩, -⟩ := hR
    · obtain ⟨rfl, h0⟩ := k2
      have hu : us = [] := by rw [h0] at k1; exact List.length_eq_zero_iff.1 (by simpa using k1)
      rw [h0, hu]
      exact ⟨_, _, run_append_owned_none (P := Tryz.prog) (w := w.alloc (.cells #[.int .i64 x.at_, .bool x.brk, .pointer (some ⟨bb, 0, none⟩), .pointer (some ⟨ab, 0, none⟩)] 50)) w.heap.size 24 ty 50 i0 4 Tryz.underlying24 hi _ _ _ hown, by simpa using hown, hb0⟩
    · have hgw := lt_of_block hh
      have hcells : ∀ j u, us[j]? = some u → w.cell? ⟨g, j, none⟩ = some u := by
        intro j u hj
        have := World.ownsRow.cells (g := g) (w := w) (base := 0) (e := 50) (size := 4) (n := rs.length) (xs := us) (v := .slice (some ⟨g, 0, none⟩) rs.length cap) ⟨k1, .inr ⟨g, cap, cur, rfl, hgl, hh, hn2, hcm, hcs, ht⟩⟩ rfl j u hj
        simpa [Addr.add_lit] using this
      have hone : ∀ u ∈ us, u.oneCell' = true := rs_one rs us hRs
      obtain ⟨v', w', hr, h2, h3, -⟩ := run_append_own (P := Tryz.prog) (w := w.alloc (.cells #[.int .i64 x.at_, .bool x.brk, .pointer (some ⟨bb, 0, none⟩), .pointer (some ⟨ab, 0, none⟩)] 50)) w.heap.size 24 ty 50 i0 _ 4 32 Tryz.underlying24 hi hz0 hz1 hz2 rfl (by decide) _ 1 _ hown ⟨g, 0, none⟩ rs.length cap us k1 (fun j u hj => by
        rw [Addr.add_lit, Nat.zero_add]
        exact (hb0.cell (p := ⟨g, j, none⟩) (by exact hgw)).trans (hcells j u hj)) hone (by unfold maxLen; omega) (by omega) (by have := hb0.size; omega)
      exact ⟨v', w', hr, h2, hb0.grown h3 (by have := hb0.size; omega) (fun k hk => (hown.lt k hk).1)⟩
  have hmv : ∀ {p : RP.Pt} {vs : List Value}, PAt ok w vs p → PAt (fun b => ok b ∧ v'.ownBlock ≠ some b) w' vs p := fun hp =>
    PAt.keep (fun b _ hl => hb'.block b hl) (PAt.mono (fun b hl hb => ⟨hb, fun e => by have := (ho.lt b e).1; omega⟩) hp)
  refine ⟨v', w', hr, ⟨[.int .i64 x.at_, .bool x.brk, .pointer (some ⟨bb, 0, none⟩), .pointer (some ⟨ab, 0, none⟩)] ++ us, ?_, ⟨_, _, us, rfl, ⟨_, rfl⟩, hmv hx, ⟨_, rfl⟩, hmv hy, RsAt.turn hmv hRs⟩⟩, hb'⟩
  rw [List.length_cons, Nat.add_comm]
  exact ho

end Go.Proofs.YtjbdlihlcoldlaaGreatDoor.M

namespace Go.Proofs.YtjbdlihlcoldlaaGreatDoor.M
open Go.RowKit Go.Shelf Go.Proofs.YtjbdlihlcoldlaaGreatDoor.Q

set_option maxHeartbeats 8000000 in
set_option maxRecDepth 100000 in
theorem first_any (s t : ByteArray) (is : Bool) (w : World) (hM : MT w) : Calls Tryz.prog 4 #[.string s, .string t, .bool is] w fun e w' => e = .returned (.bool true) ∧ Below w.heap.size w w' := by
  by_cases ht : t.size ≤ 40
  · have hti : ¬ ((40 : Int) < (t.size : Int)) := by omega
    have C := meant_any w hM
    have HM : Hid (MT w) := hM
    clear hM
    go_enter Tryz.func4, Tryz.ntmps4
    go_wp2_with fail
    refine C.mono ?_
    rintro e w1 ⟨rfl, hb1⟩
    have HB1 : Hid (Below w.heap.size w w1) := hb1
    have R := right_any s w1 (HM.out.on hb1).1
    clear C hb1
    go_wp2_with fail
    refine R.mono ?_
    rintro e w2 ⟨hr, hb2⟩
    have HB2 : Hid (Below w.heap.size w w2) := HB1.out.trans (hb2.mono HB1.out.size)
    clear R hb2
    rcases hr with ⟨co, cn, cc, ro, rn, rc, el, rfl⟩ | ⟨v, f, rfl, hF, hR, -, -⟩
    · have HB3 : Hid (Below w.heap.size w (w2.alloc (.cells #[.slice co cn cc, .slice ro rn rc, .bool el] 26))) := HB2.out.alloc HB2.out.size _
      go_wp2_with fail
      go_ret
      exact ⟨rfl, HB3.out⟩
    · obtain ⟨co, cn, cc, ro, rn, rc, rfl, hlen⟩ := FAt.agg hF
      have hrn : rn = f.rules.length := hlen.out.2
      have HF : Hid (FAt (fun _ => True) (w2.alloc (.cells #[.slice co cn cc, .slice ro rn rc, .bool f.els] 26)) (.agg #[.slice co cn cc, .slice ro rn rc, .bool f.els]) f) := FAt.all hF (below_alloc1 _ _)
      have HFB : Hid ((w2.alloc (.cells #[.slice co cn cc, .slice ro rn rc, .bool f.els] 26)).heap[w2.heap.size]? = some (.cells #[.slice co cn cc, .slice ro rn rc, .bool f.els] 26 (0, 0))) := heap_alloc_new _ _
      have HB3 : Hid (Below w.heap.size w (w2.alloc (.cells #[.slice co cn cc, .slice ro rn rc, .bool f.els] 26))) := HB2.out.alloc HB2.out.size _
      have HR : Hid (RightF f) := hR
      obtain ⟨el, hel⟩ : ∃ b, b = f.els := ⟨_, rfl⟩
      have HEL : Hid (el = f.els ∧ rn = f.rules.length) := ⟨hel, hrn⟩
      rw [← hel] at HF HFB HB3 ⊢
      clear hF hR hlen hel hrn
      by_cases h20 : rn = 20
      · subst h20
        go_wp2_with fail
        go_ret
        exact ⟨rfl, HB3.out⟩
      · have hne : ((rn : Int) == 20) = false := by simp; omega
        have D := decode_un t (by omega) (w2.alloc (.cells #[.slice co cn cc, .slice ro rn rc, .bool el] 26)) (HM.out.on HB3.out)
        obtain ⟨pts, hpts⟩ : ∃ l, l = ptsOf t.data.toList := ⟨_, rfl⟩
        have HPL : Hid (pts.length ≤ 40) := by
          show _ ≤ _
          rw [hpts]
          have := ptsOf_len t.data.toList
          rw [bytes_len] at this
          omega
        rw [← hpts] at D
        go_wp2_with fail
        obtain ⟨a, ha⟩ : ∃ a, a = w2.heap.size := ⟨_, rfl⟩
        have HAA : Hid (w.heap.size ≤ a) := by show _ ≤ _; rw [ha]; exact HB2.out.size
        rw [← ha] at HFB ⊢
        clear ha hpts
        generalize w2.alloc (.cells #[.slice co cn cc, .slice ro rn rc, .bool el] 26) = w3 at HF HFB HB3 D ⊢
        refine D.mono ?_
        rintro e w4 ⟨⟨uv, rfl, hu⟩, hb4⟩
        have HU : Hid (UnAt w4 uv pts) := hu
        obtain ⟨uo, uc, rfl, -, -, -⟩ := hu
        have HB4 : Hid (Below w3.heap.size w3 w4) := hb4
        have r1 := (hb4.block a (lt_of_block HFB.out)).trans HFB.out
        have d0 := cell_of_row w4 a 0 _ _ _ r1
        have d1 := cell_of_row w4 a 1 _ _ _ r1
        have d2 := cell_of_row w4 a 2 _ _ _ r1
        obtain ⟨T, hT, hmT, K⟩ := breaks_right f (.agg #[.slice co cn cc, .slice ro rn rc, .bool el]) (.slice uo pts.length uc) pts w4 (HM.out.on (HB3.out.trans (hb4.mono HB3.out.size))) (by have := HPL.out; omega) HU.out (FAt.all HF.out hb4) HR.out
        have HT : Hid (CK.namesL 9 7 f.classes [] = .ok T) := hT
        obtain ⟨m, hm⟩ : ∃ m, m = pts.length := ⟨_, rfl⟩
        have HMM : Hid (m = pts.length ∧ m ≤ 40) := ⟨hm, by rw [hm]; exact HPL.out⟩
        rw [← hm] at HU K ⊢
        clear D hb4 r1 hT hmT hm
        go_wp2_with fail
        refine K.mono ?_
        rintro e w5 ⟨⟨lv, rfl, hl⟩, hb5⟩
        have HL : Hid (IntsAt w5.heap.size w5 lv (breaksOf (sayS T pts f) m)) := hl
        have HB5 : Hid (Below w3.heap.size w3 w5) := HB4.out.trans (hb5.mono HB4.out.size)
        have HU5 : Hid (UnAt w5 (.slice uo m uc) pts) := HU.out.below hb5
        clear K hb5 d0 d1 d2 HU
        by_cases hm0 : m = 0
        · subst hm0
          obtain ⟨lo, lc, rfl, -⟩ := hl
          have e0 : (breaksOf (sayS T pts f) 0).length = 0 := rfl
          rw [e0]
          go_wp2_with fail
          go_ret
          exact ⟨rfl, HB3.out.trans (HB5.out.mono HB3.out.size)⟩
        · obtain ⟨q, hq⟩ : ∃ q, q = sayS T pts f := ⟨_, rfl⟩
          have HQ : Hid (q = sayS T pts f) := hq
          rw [← hq] at HL hl
          have hm1 : 1 ≤ m := by omega
          have hlen := breaks_len q m hm1
          have hins := insides_len q m
          obtain ⟨lo, lc, rfl, hc⟩ := hl
          obtain ⟨lb, loff, rfl, hlb, hcell⟩ := hc (fun e => by rw [e] at hlen; simp at hlen)
          obtain ⟨n, hn⟩ : ∃ n, n + 1 = (breaksOf q m).length := ⟨(insides q m).length + 1, by omega⟩
          have y0 := hcell 0 (by omega)
          rw [breaks_first q m hm1 (by omega), Nat.add_zero] at y0
          have y1 := hcell n (by omega)
          rw [breaks_last q m n hm1 hn] at y1
          have HCL : Hid (∀ (j : Nat) (h : j < (breaksOf q m).length), w5.cell? ⟨lb, loff + j, none⟩ = some (.int .i64 (breaksOf q m)[j])) := hcell
          have HN : Hid (n + 1 = (breaksOf q m).length) := hn
          have HM1 : Hid (1 ≤ m) := hm1
          rw [← hn] at HL ⊢
          have hnm : n ≤ m + 1 := by omega
          have hm40 : m ≤ 40 := HMM.out.2
          clear hcell hc hlen hins hn hm1 hq
          have hmz : ((m : Int) == 0) = false := by simp; omega
          go_wp2_with fail
          go_loopw [12] (fun ix wr => ∃ j : Nat, ix = .int .i64 ((j + 1 : Nat) : Int) ∧ j ≤ n ∧ Below w5.heap.size w5 wr) (fun ix _ => n + 1 - (intOf ix).toNat)
          case atStart => exact ⟨0, rfl, Nat.zero_le _, Below.refl _ _⟩
          case round =>
            obtain ⟨j, rfl, hj, hb⟩ := hrel
            have HB : Hid (Below w5.heap.size w5 wr) := hb
            by_cases hlt : j < n
            · have hj1 : j + 1 < (breaksOf q m).length := by have := HN.out; omega
              have hxy : (breaksOf q m)[j]'(by omega) < (breaksOf q m)[j + 1] := List.pairwise_iff_getElem.1 (breaks_rise q m HM1.out) j (j + 1) (by omega) hj1 (by omega)
              have x1 := (hb.cell (p := ⟨lb, loff + (j + 1), none⟩) (by exact hlb)).trans (HCL.out (j + 1) hj1)
              have x0 := (hb.cell (p := ⟨lb, loff + j, none⟩) (by exact hlb)).trans (HCL.out j (by omega))
              generalize (breaksOf q m)[j + 1] = x at hxy x1
              generalize (breaksOf q m)[j]'(by omega) = y at hxy x0
              have hxn : ¬ (x ≤ y) := by omega
              have hwj : IntKind.i64.wrap (j : Int) = j := wrap_small (by omega) (by omega)
              have hj0 : (0 : Int) ≤ (j : Int) + 1 := by omega
              have hj2 : (0 : Int) ≤ (j : Int) := by omega
              have hj3 : (j : Int) < (n : Int) + 1 := by omega
              clear hb hj1
              go_wp2_with fail
              go_region_law (fail)
              all_goals
                go_wp2_with fail
                case roundEnd => exact ⟨⟨j + 1, by go_num, by omega, below_drewN' HB.out 1⟩, by simp [intOf]; omega⟩
            · obtain rfl : j = n := by omega
              have hni : ¬ ((j : Int) + 1 < (j : Int) + 1) := by omega
              clear hb
              have HB3' : Below w.heap.size w wr := HB3.out.trans ((HB5.out.trans (HB.out.mono HB5.out.size)).mono HB3.out.size)
              have r1 := ((HB5.out.trans (HB.out.mono HB5.out.size)).block a (lt_of_block HFB.out)).trans HFB.out
              have d0 := cell_of_row wr a 0 _ _ _ r1
              have d1 := cell_of_row wr a 1 _ _ _ r1
              have d2 := cell_of_row wr a 2 _ _ _ r1
              clear r1 y0 y1
              go_upto_region 20 with fail
              have hP0 := heap_alloc_new wr (.cells #[.int .i64 4, .pointer none, .slice none 0 0, .int .i64 0, .int .i64 0] 39)
              have hP1 := heap_alloc_new (wr.alloc (.cells #[.int .i64 4, .pointer none, .slice none 0 0, .int .i64 0, .int .i64 0] 39)) (.cells #[.int .i64 4, .pointer none, .slice none 0 0, .int .i64 0, .int .i64 0] 39)
              have hsz1 : (wr.alloc (.cells #[.int .i64 4, .pointer none, .slice none 0 0, .int .i64 0, .int .i64 0] 39)).heap.size = wr.heap.size + 1 := by simp
              have hb1' := below_alloc1 wr (.cells #[.int .i64 4, .pointer none, .slice none 0 0, .int .i64 0, .int .i64 0] 39)
              have hb2' := below_alloc1 (wr.alloc (.cells #[.int .i64 4, .pointer none, .slice none 0 0, .int .i64 0, .int .i64 0] 39)) (.cells #[.int .i64 4, .pointer none, .slice none 0 0, .int .i64 0, .int .i64 0] 39)
              have hP0' := (hb2'.block wr.heap.size (by rw [hsz1]; omega)).trans hP0
              have hB12 : Hid (Below wr.heap.size wr _) := hb1'.trans (hb2'.mono hb1'.size)
              rw [hsz1] at hP1
              have hsz2 : ((wr.alloc (.cells #[.int .i64 4, .pointer none, .slice none 0 0, .int .i64 0, .int .i64 0] 39)).alloc (.cells #[.int .i64 4, .pointer none, .slice none 0 0, .int .i64 0, .int .i64 0] 39)).heap.size = wr.heap.size + 1 + 1 := by simp
              clear hb1' hb2' hP0 hsz1
              generalize (wr.alloc (.cells #[.int .i64 4, .pointer none, .slice none 0 0, .int .i64 0, .int .i64 0] 39)).alloc (.cells #[.int .i64 4, .pointer none, .slice none 0 0, .int .i64 0, .int .i64 0] 39) = wp at hP0' hP1 hB12 hsz2 ⊢
              have hbR := below_alloc1 wp (.cells #[.int .i64 0, .bool is, .pointer (some ⟨wr.heap.size, 0, none⟩), .pointer (some ⟨wr.heap.size + 1, 0, none⟩)] 50)
              have hRR := heap_alloc_new wp (.cells #[.int .i64 0, .bool is, .pointer (some ⟨wr.heap.size, 0, none⟩), .pointer (some ⟨wr.heap.size + 1, 0, none⟩)] 50)
              have hsz3 : (wp.alloc (.cells #[.int .i64 0, .bool is, .pointer (some ⟨wr.heap.size, 0, none⟩), .pointer (some ⟨wr.heap.size + 1, 0, none⟩)] 50)).heap.size = wr.heap.size + 1 + 1 + 1 := by simp; omega
              rw [hsz2] at hRR
              have hP0'' := (hbR.block wr.heap.size (by omega)).trans hP0'
              have hP1'' := (hbR.block (wr.heap.size + 1) (by omega)).trans hP1
              have hBR := hB12.trans (hbR.mono (by omega))
              have HR0 : Hid (wr.heap.size + 1 + 1 + 1 = (wp.alloc (.cells #[.int .i64 0, .bool is, .pointer (some ⟨wr.heap.size, 0, none⟩), .pointer (some ⟨wr.heap.size + 1, 0, none⟩)] 50)).heap.size) := hsz3.symm
              have h3r : w3.heap.size ≤ wr.heap.size := Nat.le_trans HB5.out.size HB.out.size
              have hB3r : Below w3.heap.size w3 wr := HB5.out.trans (HB.out.mono HB5.out.size)
              have haw : a < wr.heap.size := Nat.lt_of_lt_of_le (lt_of_block HFB.out) h3r
              have hfa := (hBR.block a haw).trans ((hB3r.block a (lt_of_block HFB.out)).trans HFB.out)
              obtain ⟨b1, hb1e⟩ : ∃ x, x = wr.heap.size := ⟨_, rfl⟩
              have HB1E : Hid (b1 = wr.heap.size) := hb1e
              rw [← hb1e] at hP0'' hP1'' hRR HR0 hBR hsz3 hfa h3r haw ⊢
              clear hbR hP0' hP1 hsz2 hB12 d0 d1 d2 hb1e
              generalize wp.alloc (.cells #[.int .i64 0, .bool is, .pointer (some ⟨b1, 0, none⟩), .pointer (some ⟨b1 + 1, 0, none⟩)] 50) = W3 at hP0'' hP1'' hRR HR0 hBR hsz3 hfa ⊢
              have HBR : Hid (Below b1 wr W3) := hBR
              have d0 := cell_of_row W3 a 0 _ _ _ hfa
              have d1 := cell_of_row W3 a 1 _ _ _ hfa
              have d2 := cell_of_row W3 a 2 _ _ _ hfa
              go_upto_region 21 with fail
              have hGB := heap_alloc_new W3 (.cells #[.slice co cn cc, .slice ro rn rc, .bool el] 26)
              have hbW4 := below_alloc1 W3 (.cells #[.slice co cn cc, .slice ro rn rc, .bool el] 26)
              have hP0w := (hbW4.block b1 (by omega)).trans hP0''
              have hP1w := (hbW4.block (b1 + 1) (by omega)).trans hP1''
              have hRw := (hbW4.block (b1 + 1 + 1) (by omega)).trans hRR
              have hfw := (hbW4.block a (by omega)).trans hfa
              have hB4 := HBR.out.trans (hbW4.mono (by omega))
              have hsz4 : W3.heap.size < (W3.alloc (.cells #[.slice co cn cc, .slice ro rn rc, .bool el] 26)).heap.size := by simp
              obtain ⟨gb, hgb⟩ : ∃ x, x = b1 + 1 + 1 + 1 := ⟨_, rfl⟩
              rw [hsz3] at hGB hsz4
              rw [← hgb] at hGB hsz4 ⊢
              clear d0 d1 d2 hP0'' hP1'' hRR hfa hbW4 HR0 hsz3
              generalize W3.alloc (.cells #[.slice co cn cc, .slice ro rn rc, .bool el] 26) = W4 at hGB hP0w hP1w hRw hfw hB4 hsz4 ⊢
              have d0 := cell_of_row W4 a 0 _ _ _ hfw
              have d1 := cell_of_row W4 a 1 _ _ _ hfw
              have d2 := cell_of_row W4 a 2 _ _ _ hfw
              have q0 := cell_of_row W4 (b1 + 1 + 1) 0 _ _ _ hRw
              have q1 := cell_of_row W4 (b1 + 1 + 1) 1 _ _ _ hRw
              have q2 := cell_of_row W4 (b1 + 1 + 1) 2 _ _ _ hRw
              have q3 := cell_of_row W4 (b1 + 1 + 1) 3 _ _ _ hRw
              have hnil : Row (fun b => b < gb) W4 35 1 (.slice none 0 0) ([] : List Value).length [] := ⟨World.ownsRow_nil _ _ _ _, fun j h => by simp [Value.ownBlock] at h⟩
              have hx : PAt (fun b => b < gb) W4 [.pointer (some ⟨b1, 0, none⟩)] (alwaysR is).before := ⟨b1, _, [], rfl, by omega, hP0w, hnil, rfl⟩
              have hy : PAt (fun b => b < gb) W4 [.pointer (some ⟨b1 + 1, 0, none⟩)] (alwaysR is).after := ⟨b1 + 1, _, [], rfl, by omega, hP1w, hnil, rfl⟩
              have hB34 : Below w3.heap.size w3 W4 := hB3r.trans (hB4.mono (by omega))
              have hf4 : FAt (fun b => b < gb) W4 (.agg #[.slice co cn cc, .slice ro rn rc, .bool el]) f := FAt.move (fun b hl _ => by omega) (fun b _ hl => hB34.block b hl) HF.out
              have HF4 : Hid (FAt (fun b => b < gb) W4 (.agg #[.slice co cn cc, .slice ro rn rc, .bool el]) f) := hf4
              obtain ⟨cv', rv', cvs, rvs, hve, hrc, hrr, hcc, hrs⟩ := hf4
              injection hve with hve
              obtain ⟨rfl, rfl, -⟩ : Value.slice co cn cc = cv' ∧ Value.slice ro rn rc = rv' ∧ el = f.els := by
                have := congrArg Array.toList hve
                simpa using this
              obtain ⟨gv, w7, hr5, hrow7, hb5⟩ := rules_join 24 (alwaysR is) hx hy (hrr.mono fun _ _ _ => trivial) hrs (by have := HR.out.1.2.2.2; omega)
              obtain ⟨go_, gn, gc, rfl⟩ : ∃ x y z, gv = .slice x y z := by
                obtain ⟨x, z, e⟩ := hrow7.slice
                exact ⟨_, _, _, e⟩
              have hg5 := (hb5.block gb hsz4).trans hGB
              have g1 := cell_of_row w7 gb 1 _ _ _ hg5
              have f1 := frozen_of_row w7 gb 1 _ _ hg5
              have HR5 : Hid ((Builtin.append_ #[24, 24] 24 #[.slice (some ⟨W4.heap.size, 0, none⟩) 1 1, .slice ro rn rc]).run Tryz.prog (W4.alloc (.cells #[.int .i64 0, .bool is, .pointer (some ⟨b1, 0, none⟩), .pointer (some ⟨b1 + 1, 0, none⟩)] 50)) = .ok (.slice go_ gn gc) w7) := hr5
              have HG5 : Hid (w7.heap[gb]? = some (.cells #[.slice co cn cc, .slice ro rn rc, .bool el] 26 (0, 0))) := hg5
              have HFA5 : Hid (w7.heap[a]? = some (.cells #[.slice co cn cc, .slice ro rn rc, .bool el] 26 (0, 0))) := (hb5.block a (by omega)).trans hfw
              have HROW : Hid (RsRow (fun b => b < gb) (gb + 1) w7 (.slice go_ gn gc) (alwaysR is :: f.rules)) := by
                obtain ⟨vs, h1, h2⟩ := hrow7
                refine ⟨vs, ?_, h2⟩
                obtain ⟨k1, k2 | ⟨g, cap, cur, e, hgl, hh, rest⟩⟩ := h1
                · exact ⟨k1, .inl k2⟩
                · exact ⟨k1, .inr ⟨g, cap, cur, e, by omega, hh, rest⟩⟩
              have HBr7 : Hid (Below b1 wr w7) := hB4.trans (hb5.mono (by omega))
              have HB35 : Hid (Below w3.heap.size w3 w7) := hB34.trans (hb5.mono hB34.size)
              have HF5 : Hid (FAt (fun b => b < gb) w7 (.agg #[.slice co cn cc, .slice ro rn rc, .bool el]) f) := FAt.move (fun _ _ h => h) (fun b _ hl => hb5.block b hl) HF4.out
              have HGA : Hid (a < gb ∧ gb < W4.heap.size ∧ w3.heap.size ≤ gb ∧ b1 ≤ gb) := ⟨by omega, hsz4, by omega, by omega⟩
              have m1 := ((below_alloc1 W4 (.cells #[.int .i64 0, .bool is, .pointer (some ⟨b1, 0, none⟩), .pointer (some ⟨b1 + 1, 0, none⟩)] 50)).cell (p := ⟨a, 1, none⟩) (by show a < _; omega)).trans d1
              clear hgb hr5 hrow7 hb5 hg5 hGB hP0w hP1w hRw hfw hB4 hx hy hnil hB34 hve hrc hrr hcc hrs hsz4 HBR HF4
              go_upto_region 22 with (at_builtin; refine Lib.wpList_append_run _ rfl _ _ _ _ rfl _ _ rfl rfl _ _ HR5.out ?_)
              have HGW : Hid ((w7.setCell ⟨gb, 1, none⟩ (.slice go_ gn gc)).heap[gb]? = some (.cells #[.slice co cn cc, .slice go_ gn gc, .bool el] 26 (0, 0))) := heap_setCell_same w7 gb 1 _ 26 _ HG5.out
              have HFW : Hid ((w7.setCell ⟨gb, 1, none⟩ (.slice go_ gn gc)).heap[a]? = some (.cells #[.slice co cn cc, .slice ro rn rc, .bool el] 26 (0, 0))) := (heap_setCell_other w7 ⟨gb, 1, none⟩ a _ (by show a ≠ gb; have := HGA.out.1; omega)).trans HFA5.out
              have HBW : Hid (Below b1 wr (w7.setCell ⟨gb, 1, none⟩ (.slice go_ gn gc))) := HBr7.out.setCell (p := ⟨gb, 1, none⟩) (by show b1 ≤ gb; exact HGA.out.2.2.2) _
              have hkp : Keeps (fun b => b < gb) w7 (w7.setCell ⟨gb, 1, none⟩ (.slice go_ gn gc)) := fun b hb _ => heap_setCell_other w7 ⟨gb, 1, none⟩ b _ (by show b ≠ gb; omega)
              have HF6 : Hid (FAt (fun b => b < gb) (w7.setCell ⟨gb, 1, none⟩ (.slice go_ gn gc)) (.agg #[.slice co cn cc, .slice ro rn rc, .bool el]) f) := FAt.move (fun _ _ h => h) hkp HF5.out
              have hrow6 : RsRow (fun b => b < gb) (gb + 1) (w7.setCell ⟨gb, 1, none⟩ (.slice go_ gn gc)) (.slice go_ gn gc) (alwaysR is :: f.rules) := HROW.out.keep (fun b _ hb => heap_setCell_other w7 ⟨gb, 1, none⟩ b _ (by
                show b ≠ gb
                rcases hb with hb | hb
                · omega
                · have := (HROW.out.lt b hb).1
                  omega))
              have HGF : Hid (FAt (fun _ => True) (w7.setCell ⟨gb, 1, none⟩ (.slice go_ gn gc)) (.agg #[.slice co cn cc, .slice go_ gn gc, .bool el]) (firstF f (alwaysR is))) := by
                obtain ⟨cv', rv', cvs, rvs, hve, hrc, -, hcc, -⟩ := HF6.out
                obtain ⟨vs, h1, h2⟩ := hrow6.row
                have : Value.slice co cn cc = cv' := by
                  injection hve with hve
                  have := congrArg Array.toList hve
                  simp at this
                  exact this.1
                subst this
                exact ⟨_, _, cvs, vs, by rw [HEL.out.1]; rfl, hrc.mono fun _ _ _ => trivial, h1, CsAt.mono (fun _ _ _ => trivial) hcc, h2⟩
              clear hkp hrow6 HROW HF5 HFA5 HG5 HBr7 HB35
              generalize w7.setCell ⟨gb, 1, none⟩ (.slice go_ gn gc) = W6 at HGW HFW HBW HF6 HGF ⊢
              have HUr : Hid (Below w5.heap.size w5 W6) := HB.out.trans (HBW.out.mono (by rw [HB1E.out]; exact HB.out.size))
              have HB6 : Hid (Below w.heap.size w W6) := HB3'.trans (HBW.out.mono (by rw [HB1E.out]; exact HB3'.size))
              have g0 := cell_of_row W6 gb 0 _ _ _ HGW.out
              have g1 := cell_of_row W6 gb 1 _ _ _ HGW.out
              have g2 := cell_of_row W6 gb 2 _ _ _ HGW.out
              have h20' : f.rules.length < 20 := by have := HR.out.1.2.2.2; have := HEL.out.2; omega
              obtain ⟨T', hT', -, K2⟩ := breaks_right (firstF f (alwaysR is)) (.agg #[.slice co cn cc, .slice go_ gn gc, .bool el]) (.slice uo m uc) pts W6 (HM.out.on HB6.out) (by have := HPL.out; omega) (HU5.out.below HUr.out) HGF.out (right_always HR.out h20' is)
              obtain rfl : T' = T := by
                have e : CK.namesL 9 7 f.classes [] = .ok T' := hT'
                rw [HT.out] at e
                cases e
                rfl
              rw [← HMM.out.1] at K2
              clear hT'
              go_wp2_with fail
              refine K2.mono ?_
              rintro e w8 ⟨⟨av, rfl, hav⟩, hb8⟩
              obtain ⟨ao, ac, rfl, -⟩ := hav
              have HB8 : Hid (Below W6.heap.size W6 w8) := hb8
              have hal := breaks_always (sayS T' pts (firstF f (alwaysR is))) is m HM1.out (fun i _ h2 => say_always T' pts f is i (by rw [← HMM.out.1]; omega))
              rw [hal]
              clear K2 hb8 hal g0 g1 g2
              have fb8 := (HB8.out.block a (lt_of_block HFW.out)).trans HFW.out
              have d0 := cell_of_row w8 a 0 _ _ _ fb8
              have d1 := cell_of_row w8 a 1 _ _ _ fb8
              have d2 := cell_of_row w8 a 2 _ _ _ fb8
              have hwm : IntKind.i64.wrap ((m : Int) + 1) = (m : Int) + 1 := wrap_small (by omega) (by omega)
              obtain ⟨al, hal⟩ : ∃ x, x = (if is = true then m + 1 else 2) := ⟨_, rfl⟩
              rw [← hal]
              by_cases hr0 : rn = 0
              · subst hr0
                cases is with
                | true =>
                  obtain rfl : al = m + 1 := hal
                  go_wp2_with fail
                  go_ret
                  exact ⟨rfl, HB6.out.trans (HB8.out.mono HB6.out.size)⟩
                | false =>
                  obtain rfl : al = 2 := hal
                  go_wp2_with fail
                  go_ret
                  exact ⟨rfl, HB6.out.trans (HB8.out.mono HB6.out.size)⟩
              · have hrz : ((rn : Int) == 0) = false := by simp; omega
                have HF8 : Hid (FAt (fun b => b < gb) w8.drew (.agg #[.slice co cn cc, .slice ro rn rc, .bool el]) f) := FAt.move (fun _ _ h => h) (fun b _ hl => HB8.out.block b hl) HF6.out
                obtain ⟨cv', rv', cvs, rvs, hve, hrc, hrr, hcc, hrs⟩ := HF8.out
                injection hve with hve
                obtain ⟨rfl, rfl, -⟩ : Value.slice co cn cc = cv' ∧ Value.slice ro rn rc = rv' ∧ el = f.els := by
                  have := congrArg Array.toList hve
                  simpa using this
                obtain ⟨ro', rc', e1, hrcap, hrg⟩ := row_cells hrr
                injection e1 with e1 e2 e3
                subst e1 e3
                have hk0 : 0 < f.rules.length := by have := HEL.out.2; omega
                obtain ⟨x, rs, hxs⟩ : ∃ x rs, f.rules = x :: rs := by
                  cases hfr : f.rules with
                  | nil => rw [hfr] at hk0; simp at hk0
                  | cons x rs => exact ⟨x, rs, rfl⟩
                have HXS : Hid (f.rules = x :: rs) := hxs
                obtain ⟨bv, av, y0, y1, y2, y3, hPB, hPA⟩ := hrs.get 0 hk0
                obtain ⟨hfb, hfa'⟩ := HR.out.1.2.1 f.rules[0] (List.getElem_mem hk0)
                have hx0 : f.rules[0] = x := by simp [hxs]
                rw [hx0] at y0 y1 hPB hPA hfb hfa'
                obtain ⟨bb, rfl⟩ := hPB.isPtr hfb
                obtain ⟨ab, rfl⟩ := hPA.isPtr hfa'
                obtain ⟨g, off, rfl, hgl, hcell⟩ := hrg (fun e => by rw [e] at y0; simp at y0)
                have x0 : w8.cell? ⟨g, off, none⟩ = some (.int .i64 x.at_) := hcell _ _ y0
                have x1 : w8.cell? ⟨g, off + 1, none⟩ = some (.bool x.brk) := hcell _ _ y1
                have x2 : w8.cell? ⟨g, off + 2, none⟩ = some (.pointer (some ⟨bb, 0, none⟩)) := hcell _ _ y2
                have x3 : w8.cell? ⟨g, off + 3, none⟩ = some (.pointer (some ⟨ab, 0, none⟩)) := hcell _ _ y3
                obtain ⟨gv, w9, hr9, hrow9, hb9⟩ := rules_join 24 x hPB hPA (hrr.mono fun _ _ _ => trivial) hrs (by have := HR.out.1.2.2.2; omega)
                obtain ⟨ho_, hn_, hc_, rfl⟩ : ∃ x y z, gv = .slice x y z := by
                  obtain ⟨x, z, e⟩ := hrow9.slice
                  exact ⟨_, _, _, e⟩
                have hgb8 : gb < w8.heap.size := Nat.lt_of_lt_of_le (lt_of_block HGW.out) HB8.out.size
                have hg8 : w8.heap[gb]? = some (.cells #[.slice co cn cc, .slice go_ gn gc, .bool el] 26 (0, 0)) := (HB8.out.block gb (lt_of_block HGW.out)).trans HGW.out
                have hg9 := (hb9.block gb (by exact hgb8)).trans hg8
                have g1 := cell_of_row w9 gb 1 _ _ _ hg9
                have f1 := frozen_of_row w9 gb 1 _ _ hg9
                have HR9 : Hid ((Builtin.append_ #[24, 24] 24 #[.slice (some ⟨w8.heap.size, 0, none⟩) 1 1, .slice (some ⟨g, off, none⟩) rn rc]).run Tryz.prog (w8.alloc (.cells #[.int .i64 x.at_, .bool x.brk, .pointer (some ⟨bb, 0, none⟩), .pointer (some ⟨ab, 0, none⟩)] 50)).drew = .ok (.slice ho_ hn_ hc_) w9) := hr9
                have HG9 : Hid (w9.heap[gb]? = some (.cells #[.slice co cn cc, .slice go_ gn gc, .bool el] 26 (0, 0))) := hg9
                have HROW : Hid (RsRow (fun b => b < gb) (gb + 1) w9 (.slice ho_ hn_ hc_) (x :: f.rules)) := by
                  obtain ⟨vs, h1, h2⟩ := hrow9
                  refine ⟨vs, ?_, h2⟩
                  obtain ⟨k1, k2 | ⟨g, cap, cur, e, hgl, hh, rest⟩⟩ := h1
                  · exact ⟨k1, .inl k2⟩
                  · exact ⟨k1, .inr ⟨g, cap, cur, e, by have : w8.drew.heap.size = w8.heap.size := rfl; omega, hh, rest⟩⟩
                have HF9 : Hid (FAt (fun b => b < gb) w9 (.agg #[.slice co cn cc, .slice (some ⟨g, off, none⟩) rn rc, .bool el]) f) := FAt.move (fun _ _ h => h) (fun b _ hl => hb9.block b hl) HF8.out
                have HB89 : Hid (Below w8.heap.size w8 w9) := (below_drewN (Below.refl _ _) 1).trans hb9
                have m1 := ((below_alloc1 w8 (.cells #[.int .i64 x.at_, .bool x.brk, .pointer (some ⟨bb, 0, none⟩), .pointer (some ⟨ab, 0, none⟩)] 50)).cell (p := ⟨a, 1, none⟩) (by show a < w8.heap.size; have := HGA.out.1; omega)).trans d1
                have hrp : (0 : Int) < (rn : Int) := by omega
                have hrp2 : 0 < rn := by omega
                clear hve hrc hrr hcc hrs hrg hk0 hxs y0 y1 y2 y3 hPB hPA hfb hfa' hx0 hcell hr9 hrow9 hb9 hg8 hg9 HF8 hrcap e2
                have HGW9 : Hid ((w9.setCell ⟨gb, 1, none⟩ (.slice ho_ hn_ hc_)).heap[gb]? = some (.cells #[.slice co cn cc, .slice ho_ hn_ hc_, .bool el] 26 (0, 0))) := heap_setCell_same w9 gb 1 _ 26 _ HG9.out
                have hkp : Keeps (fun b => b < gb) w9 (w9.setCell ⟨gb, 1, none⟩ (.slice ho_ hn_ hc_)) := fun b hb _ => heap_setCell_other w9 ⟨gb, 1, none⟩ b _ (by show b ≠ gb; omega)
                have hrow6 : RsRow (fun b => b < gb) (gb + 1) (w9.setCell ⟨gb, 1, none⟩ (.slice ho_ hn_ hc_)) (.slice ho_ hn_ hc_) (x :: f.rules) := HROW.out.keep (fun b _ hb => heap_setCell_other w9 ⟨gb, 1, none⟩ b _ (by
                  show b ≠ gb
                  rcases hb with hb | hb
                  · omega
                  · have := (HROW.out.lt b hb).1
                    omega))
                have HGF2 : Hid (FAt (fun _ => True) (w9.setCell ⟨gb, 1, none⟩ (.slice ho_ hn_ hc_)) (.agg #[.slice co cn cc, .slice ho_ hn_ hc_, .bool el]) (firstF f x)) := by
                  obtain ⟨cv', rv', cvs, rvs, hve, hrc, -, hcc, -⟩ := FAt.move (ok' := fun b => b < gb) (fun _ _ h => h) hkp HF9.out
                  obtain ⟨vs, h1, h2⟩ := hrow6.row
                  have : Value.slice co cn cc = cv' := by
                    injection hve with hve
                    have := congrArg Array.toList hve
                    simp at this
                    exact this.1
                  subst this
                  exact ⟨_, _, cvs, vs, by rw [HEL.out.1]; rfl, hrc.mono fun _ _ _ => trivial, h1, CsAt.mono (fun _ _ _ => trivial) hcc, h2⟩
              -- all that lay ahead of the rules' new rows
                have hbb : Below b1 W6 (w9.setCell ⟨gb, 1, none⟩ (.slice ho_ hn_ hc_)) := ((HB8.out.trans (HB89.out.mono HB8.out.size)).mono (by rw [HB1E.out]; exact HBW.out.size)).setCell (p := ⟨gb, 1, none⟩) (by show b1 ≤ gb; exact HGA.out.2.2.2) _
                have hb5W : Below w5.heap.size w5 (w9.setCell ⟨gb, 1, none⟩ (.slice ho_ hn_ hc_)) := HUr.out.trans (hbb.mono (by rw [HB1E.out]; exact HB.out.size))
                have HUW : Hid (UnAt (w9.setCell ⟨gb, 1, none⟩ (.slice ho_ hn_ hc_)) (.slice uo m uc) pts) := HU5.out.below hb5W
                have HLW : Hid (IntsAt (w9.setCell ⟨gb, 1, none⟩ (.slice ho_ hn_ hc_)).heap.size (w9.setCell ⟨gb, 1, none⟩ (.slice ho_ hn_ hc_)) (.slice (some ⟨lb, loff, none⟩) (j + 1) lc) (breaksOf q m)) := HL.out.below hb5W _ hb5W.size
                have HBWW : Hid (Below w.heap.size w (w9.setCell ⟨gb, 1, none⟩ (.slice ho_ hn_ hc_))) := HB6.trans (hbb.mono (by rw [HB1E.out]; exact HB3'.size))
                have HTW : Hid (∀ i, sayS T' pts (firstF f x) i = sayS T' pts f i) := fun i => say_twice T' pts f x rs HXS.out i
                have HRX : Hid (RightF (firstF f x)) := right_twice HR.out h20' HXS.out
                clear hkp hrow6 hbb hb5W
                cases is with
                | true =>
                  obtain rfl : al = m + 1 := hal
                  go_upto_region 27 with fail
                  go_region_law (refine step_append_run rfl (.tmp 137) (.tmp 139) 24 rfl _ _ _ _ rfl rfl HR9.out ?_)
                  all_goals
                    go_upto_region 28 with fail
                    generalize w9.setCell ⟨gb, 1, none⟩ (.slice ho_ hn_ hc_) = WW at HGW9 HGF2 HUW HLW HBWW ⊢
                    have g0 := cell_of_row WW gb 0 _ _ _ HGW9.out
                    have g1 := cell_of_row WW gb 1 _ _ _ HGW9.out
                    have g2 := cell_of_row WW gb 2 _ _ _ HGW9.out
                    obtain ⟨T2, hT2, -, K3⟩ := breaks_right (firstF f x) (.agg #[.slice co cn cc, .slice ho_ hn_ hc_, .bool el]) (.slice uo m uc) pts WW (HM.out.on HBWW.out) (by have := HPL.out; omega) HUW.out HGF2.out HRX.out
                    obtain rfl : T2 = T' := by
                      have e : CK.namesL 9 7 f.classes [] = .ok T2 := hT2
                      rw [HT.out] at e
                      cases e
                      rfl
                    rw [← HMM.out.1, funext HTW.out] at K3
                    clear hT2 m1 f1
                    go_wp2_with fail
                    refine K3.mono ?_
                    rintro e w10 ⟨⟨bv, rfl, hbv⟩, hb10⟩
                    have hE := equal_any bv (.slice (some ⟨lb, loff, none⟩) (j + 1) lc) (breaksOf (sayS T2 pts f) m) (breaksOf q m) (by have := insides_len (sayS T2 pts f) m; have := breaks_len (sayS T2 pts f) m HM1.out; omega) (by have := HN.out; omega) w10 hbv (HLW.out.below hb10 _ hb10.size)
                    rw [← HQ.out, decide_eq_true rfl] at hE
                    have HB10 : Hid (Below w.heap.size w w10) := HBWW.out.trans (hb10.mono HBWW.out.size)
                    clear K3 hbv hb10 g0 g1 g2
                    go_wp2_with fail
                    refine hE.mono ?_
                    rintro e w11 ⟨rfl, hb11⟩
                    have HB11 : Hid (Below w.heap.size w w11) := HB10.out.trans (hb11.mono HB10.out.size)
                    clear hE hb11
                    go_wp2_with fail
                    go_ret
                    exact ⟨rfl, HB11.out⟩
                | false =>
                  obtain rfl : al = 2 := hal
                  go_upto_region 27 with fail
                  go_region_law (refine step_append_run rfl (.tmp 137) (.tmp 139) 24 rfl _ _ _ _ rfl rfl HR9.out ?_)
                  all_goals
                    go_upto_region 28 with fail
                    generalize w9.setCell ⟨gb, 1, none⟩ (.slice ho_ hn_ hc_) = WW at HGW9 HGF2 HUW HLW HBWW ⊢
                    have g0 := cell_of_row WW gb 0 _ _ _ HGW9.out
                    have g1 := cell_of_row WW gb 1 _ _ _ HGW9.out
                    have g2 := cell_of_row WW gb 2 _ _ _ HGW9.out
                    obtain ⟨T2, hT2, -, K3⟩ := breaks_right (firstF f x) (.agg #[.slice co cn cc, .slice ho_ hn_ hc_, .bool el]) (.slice uo m uc) pts WW (HM.out.on HBWW.out) (by have := HPL.out; omega) HUW.out HGF2.out HRX.out
                    obtain rfl : T2 = T' := by
                      have e : CK.namesL 9 7 f.classes [] = .ok T2 := hT2
                      rw [HT.out] at e
                      cases e
                      rfl
                    rw [← HMM.out.1, funext HTW.out] at K3
                    clear hT2 m1 f1
                    go_wp2_with fail
                    refine K3.mono ?_
                    rintro e w10 ⟨⟨bv, rfl, hbv⟩, hb10⟩
                    have hE := equal_any bv (.slice (some ⟨lb, loff, none⟩) (j + 1) lc) (breaksOf (sayS T2 pts f) m) (breaksOf q m) (by have := insides_len (sayS T2 pts f) m; have := breaks_len (sayS T2 pts f) m HM1.out; omega) (by have := HN.out; omega) w10 hbv (HLW.out.below hb10 _ hb10.size)
                    rw [← HQ.out, decide_eq_true rfl] at hE
                    have HB10 : Hid (Below w.heap.size w w10) := HBWW.out.trans (hb10.mono HBWW.out.size)
                    clear K3 hbv hb10 g0 g1 g2
                    go_wp2_with fail
                    refine hE.mono ?_
                    rintro e w11 ⟨rfl, hb11⟩
                    have HB11 : Hid (Below w.heap.size w w11) := HB10.out.trans (hb11.mono HB10.out.size)
                    clear hE hb11
                    go_wp2_with fail
                    go_ret
                    exact ⟨rfl, HB11.out⟩
  · have hti : (40 : Int) < (t.size : Int) := by omega
    clear ht
    go_enter Tryz.func4, Tryz.ntmps4
    go_wp2_with fail
    go_ret
    exact ⟨rfl, Below.refl _ _⟩

end Go.Proofs.YtjbdlihlcoldlaaGreatDoor.M
