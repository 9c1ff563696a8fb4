/- checked: a fact: names, and what they stand for. -/
import Derived.Test.YtjbdlihlcoldlaaGreatDoorG40
import Derived.Test.YtjbdlihlcoldlaaGreatDoorG41
import Derived.Test.YtjbdlihlcoldlaaGreatDoorG18
import Derived.Lib.Hide
namespace Go.Proofs.YtjbdlihlcoldlaaGreatDoor.M
open Go.RowKit Go.Shelf Go.Proofs.YtjbdlihlcoldlaaGreatDoor.Q

/-- The tables that the laws look at. -/
def MT (w : World) : Prop := KT w ∧ ET w ∧ LE w ∧ TZ64 w ∧ 8 ≤ w.heap.size

theorem MT.on {w w' : World} (h : MT w) (hb : Below w.heap.size w w') : MT w' := by
  have h8 := h.2.2.2.2
  exact ⟨h.1.below hb, h.2.1.below hb (by omega), h.2.2.1.below hb (by omega), h.2.2.2.1.below hb (by omega), Nat.le_trans h8 hb.size⟩

theorem checked_fit : RightF (checkedF [(97, 97)] [(98, 98)]) := by
  refine ⟨CK.parse_fit setOf_S (s := checkedS) (by decide) (RP.parse_parts checked_of), parse_short setOf_S (s := checkedS) (by decide) checked_of, ?_⟩
  unfold CK.checkF
  rw [checked_names]
  rfl

theorem miss_fit : CK.FitF missF := CK.parse_fit setOf_S (s := missS) (by decide) (RP.parse_parts miss_of)

def tab2 : CK.Tab := [([97], [(97, 97)]), ([98], [(97, 98)])]
theorem tab2_b : CK.look tab2 [98] = some [(97, 98)] := by decide

theorem set_text : bytesOf (RS.setText [(97, 98)]) = ⟨#[91, 54, 49, 45, 54, 50, 93]⟩ := by decide

set_option maxHeartbeats 4000000 in
set_option maxRecDepth 100000 in
theorem checked_any (w : World) (hM : MT w) : Calls Tryz.prog 41 #[] w fun e w' => e = .returned (.bool true) ∧ Below w.heap.size w w' := by
  have C := parse_any ⟨checkedS.toArray⟩ (by decide) w hM.1
  have e0 : (⟨checkedS.toArray⟩ : ByteArray).data.toList = checkedS := rfl
  rw [e0, checked_of] at C
  have HM : Hid (MT w) := hM
  have HR : Hid (RightF (checkedF [(97, 97)] [(98, 98)])) := checked_fit
  have HN : Hid (CK.namesL 9 7 (checkedF [(97, 97)] [(98, 98)]).classes [] = .ok tab2) := checked_names
  clear e0 hM
  generalize checkedF [(97, 97)] [(98, 98)] = f at C HR HN
  unfold checkedS at C
  go_enter Tryz.func41, Tryz.ntmps41
  go_wp2_with fail
  refine C.mono ?_
  rintro e w1 ⟨⟨v, rfl, hF⟩, hb1⟩
  obtain ⟨co, cn, cc, ro, rn, rc, rfl, -⟩ := FAt.agg hF
  have HF2 : Hid (FAt (fun _ => True) (w1.alloc (.cells #[.slice co cn cc, .slice ro rn rc, .bool f.els] 26)) (.agg #[.slice co cn cc, .slice ro rn rc, .bool f.els]) f) := FAt.all hF (below_alloc1 w1 _)
  have HBX : Hid ((w1.alloc (.cells #[.slice co cn cc, .slice ro rn rc, .bool f.els] 26)).heap[w1.heap.size]? = some (.cells #[.slice co cn cc, .slice ro rn rc, .bool f.els] 26 (0, 0))) := heap_alloc_new w1 _
  have HB2 : Hid (Below w.heap.size w (w1.alloc (.cells #[.slice co cn cc, .slice ro rn rc, .bool f.els] 26))) := hb1.alloc hb1.size _
  have HBB : Hid (w.heap.size ≤ w1.heap.size) := hb1.size
  have K := check_any f _ (w1.alloc (.cells #[.slice co cn cc, .slice ro rn rc, .bool f.els] 26)) HR.out.1 HF2.out
  rw [HR.out.2.2] at K
  have HNM : Hid (∀ W, FAt (fun _ => True) W (.agg #[.slice co cn cc, .slice ro rn rc, .bool f.els]) f → Calls Tryz.prog 12 #[.agg #[.slice co cn cc, .slice ro rn rc, .bool f.els]] W (NamesSay W (.ok tab2))) := fun W hW => by
    have := names_any f _ W HR.out.1 hW
    rw [HN.out] at this
    exact this
  clear C hF hb1
  go_wp2_with fail
  obtain ⟨g, hg⟩ : ∃ g, g = w1.heap.size := ⟨_, rfl⟩
  rw [← hg] at HBX HBB ⊢
  clear hg
  generalize f.els = el at *
  generalize w1.alloc (.cells #[.slice co cn cc, .slice ro rn rc, .bool el] 26) = w2 at *
  refine K.mono ?_
  rintro e w3 ⟨hb3, rfl⟩
  have hbox3 := (hb3.block g (lt_of_block HBX.out)).trans HBX.out
  have c0 := cell_of_row w3 g 0 _ _ _ hbox3
  have c1 := cell_of_row w3 g 1 _ _ _ hbox3
  have c2 := cell_of_row w3 g 2 _ _ _ hbox3
  have HBX3 : Hid (w3.heap[g]? = _) := hbox3
  have HB3 : Hid (Below w.heap.size w w3) := HB2.out.trans (hb3.mono HB2.out.size)
  have L := HNM.out w3 (FAt.all HF2.out hb3)
  clear K hb3 hbox3 HBX
  go_wp2_with fail
  refine L.mono ?_
  rintro e w4 ⟨hb4, mv, rfl, hm⟩
  obtain ⟨mb, u, rfl, -, hlk, hrg, hrr⟩ := hm.find [98] (by decide)
  rw [tab2_b] at hrg hrr
  have hlk' : (Instr.lookup 29 (.map (some mb)) (.string ⟨#[98]⟩) false).run Tryz.prog w4 = .ok u w4 := hlk
  have HB4 : Hid (Below w.heap.size w w4) := HB3.out.trans (hb4.mono HB3.out.size)
  have P := print_any u [(97, 98)] (by decide) hrr w4 (HM.out.on HB4.out).1.1 (by have := (HM.out.on HB4.out).2.2.2.2; omega) hrg
  rw [set_text] at P
  have hbox4 := (hb4.block g (lt_of_block HBX3.out)).trans HBX3.out
  have HBX4 : Hid (w4.heap[g]? = _) := hbox4
  clear L hb4 hlk hrg hrr hbox4 HBX3 c0 c1 c2 hm
  go_wp2_with fail
  refine P.mono ?_
  rintro e w5 ⟨rfl, hb5⟩
  have hbox5 := (hb5.block g (lt_of_block HBX4.out)).trans HBX4.out
  have HBX5 : Hid (w5.heap[g]? = _) := hbox5
  have HB5 : Hid (Below w.heap.size w w5) := HB4.out.trans (hb5.mono HB4.out.size)
  have C := parse_any ⟨missS.toArray⟩ (by decide) w5 (HM.out.on HB5.out).1
  have e0 : (⟨missS.toArray⟩ : ByteArray).data.toList = missS := rfl
  rw [e0, miss_of] at C
  clear P hb5 hbox5 HBX4 e0 hlk'
  unfold missS at C
  go_wp2_with fail
  refine C.mono ?_
  rintro e w6 ⟨⟨v, rfl, hF⟩, hb6⟩
  obtain ⟨do_, dn, dc, so, sn, sc, rfl, -⟩ := FAt.agg hF
  have hbox6 := (hb6.block g (lt_of_block HBX5.out)).trans HBX5.out
  have c0 := cell_of_row w6 g 0 _ _ _ hbox6
  have c1 := cell_of_row w6 g 1 _ _ _ hbox6
  have c2 := cell_of_row w6 g 2 _ _ _ hbox6
  have f0 := frozen_of_row w6 g 0 _ _ hbox6
  have f1 := frozen_of_row w6 g 1 _ _ hbox6
  have f2 := frozen_of_row w6 g 2 _ _ hbox6
  have HB6 : Hid (Below w.heap.size w w6) := HB5.out.trans (hb6.mono HB5.out.size)
  have HBX6 : Hid (w6.heap[g]? = some (.cells #[.slice co cn cc, .slice ro rn rc, .bool el] 26 (0, 0))) := hbox6
  have hgs : g < w5.heap.size := lt_of_block HBX5.out
  have HF6 : Hid (FAt (fun b => b ≠ g) w6 (.agg #[.slice do_ dn dc, .slice so sn sc, .bool missF.els]) missF) := FAt.move (fun b _ (h : w5.heap.size ≤ b) => by omega) (fun b _ hl => rfl) hF
  obtain ⟨em, hem⟩ : ∃ b, b = missF.els := ⟨_, rfl⟩
  rw [← hem] at HF6 ⊢
  clear C hF hb6 hbox6 HBX5 hgs hem
  go_wp2_with fail
  have HF7 : Hid (FAt (fun _ => True) (((w6.setCell ⟨g, 0, none⟩ (.slice do_ dn dc)).setCell ⟨g, 1, none⟩ (.slice so sn sc)).setCell ⟨g, 2, none⟩ (.bool em)) (.agg #[.slice do_ dn dc, .slice so sn sc, .bool em]) missF) := FAt.move (fun _ _ _ => trivial) (fun b _ hl => rfl) (FAt.move (fun b _ h => h) (three_keeps w6 g _ _ _) HF6.out)
  have HB7 : Hid (Below w.heap.size w (((w6.setCell ⟨g, 0, none⟩ (.slice do_ dn dc)).setCell ⟨g, 1, none⟩ (.slice so sn sc)).setCell ⟨g, 2, none⟩ (.bool em))) := ((HB6.out.setCell (p := ⟨g, 0, none⟩) HBB.out _).setCell (p := ⟨g, 1, none⟩) HBB.out _).setCell (p := ⟨g, 2, none⟩) HBB.out _
  have K := check_any missF _ _ miss_fit HF7.out
  rw [miss_found] at K
  generalize ((w6.setCell ⟨g, 0, none⟩ (.slice do_ dn dc)).setCell ⟨g, 1, none⟩ (.slice so sn sc)).setCell ⟨g, 2, none⟩ (.bool em) = w7 at *
  refine K.mono ?_
  rintro e w8 ⟨hb8, a, rfl, ha, -⟩
  have HB8 : Hid (Below w.heap.size w w8) := HB7.out.trans (hb8.mono HB7.out.size)
  have T := tell_at ⟨a, 0, none⟩ 7 w8 (HM.out.on HB8.out).2.1 (cell_of_row w8 a 0 _ _ _ ha)
  clear K hb8 ha
  go_wp2_with fail
  refine T.mono ?_
  rintro e w9 ⟨rfl, hb9⟩
  have HB9 : Hid (Below w.heap.size w w9) := HB8.out.trans (hb9.mono HB8.out.size)
  clear T hb9
  go_wp2_with fail
  go_ret
  exact ⟨rfl, HB9.out⟩

end Go.Proofs.YtjbdlihlcoldlaaGreatDoor.M

namespace Go.Proofs.YtjbdlihlcoldlaaGreatDoor.M
open Go.RowKit Go.Shelf Go.Proofs.YtjbdlihlcoldlaaGreatDoor.Q

/-- A text's code points. -/
def ptsOf (s : List UInt8) : List Int := (U8.dec s 0).map fun u => (u.1 : Int)

theorem flat_get : ∀ (us : List (Nat × Nat × Nat)) (k : Nat) (hk : k < us.length), (flat us)[k * 3]? = some (.int .i64 us[k].1)
  | [], k, hk => by simp at hk
  | u :: us, 0, _ => rfl
  | u :: us, k + 1, hk => by
    have := flat_get us k (by simpa using hk)
    have e : flat (u :: us) = cells3 u ++ flat us := by simp [flat]
    rw [e, List.getElem?_append_right (by simp [cells3]; omega)]
    simp [cells3]
    rw [show (k + 1) * 3 - 3 = k * 3 by omega]
    exact this

/-- Units that utf.Decode made. -/
theorem un_of_own {w : World} {B : Nat} {v : Value} {us : List (Nat × Nat × Nat)} (h : w.ownsRow B 62 3 v us.length (flat us)) : UnAt w v (us.map fun u => (u.1 : Int)) := by
  have hk := h
  obtain ⟨h1, h2 | ⟨g, cap, cur, rfl, hg, hh, hn, hc, hs, ht⟩⟩ := h
  · obtain ⟨rfl, h0⟩ := h2
    obtain rfl : us = [] := List.length_eq_zero_iff.1 h0
    exact ⟨none, 0, rfl, Nat.le_refl _, by omega, fun h => absurd rfl h⟩
  · refine ⟨some ⟨g, 0, none⟩, cap, by rw [List.length_map], by rw [List.length_map]; exact hn, by unfold maxLen at hc; omega, fun _ => ⟨g, 0, rfl, fun k hk' => ?_⟩⟩
    have hk2 : k < us.length := by simpa using hk'
    have := hk.cells (g := g) rfl (k * 3) _ (flat_get us k hk2)
    simp only [Addr.add_lit, Nat.zero_add] at this ⊢
    simpa using this

theorem ptsOf_len (s : List UInt8) : (ptsOf s).length ≤ s.length := by
  unfold ptsOf
  rw [List.length_map]
  exact U8.dec_length_le s 0

/-- utf.Decode, as the laws use it. -/
theorem decode_un (s : ByteArray) (hs : s.size ≤ 1000000) (w : World) (hM : MT w) :
    Calls Tryz.prog 16 #[.string s] w fun e w' => (∃ v, e = .returned v ∧ UnAt w' v (ptsOf s.data.toList)) ∧ Below w.heap.size w w' := by
  refine (decode_any s hs w hM.2.2.1 (by have := hM.2.2.2.2; omega)).mono ?_
  rintro e w' ⟨v, rfl, h, hb⟩
  exact ⟨⟨v, rfl, un_of_own h⟩, hb⟩

/-- mean.Breaks of a right file. -/
theorem breaks_right (f : RP.Fi) (v uv : Value) (pts : List Int) (w : World) (hM : MT w) (hn : pts.length ≤ 63) (hu : UnAt w uv pts) (hA : FAt (fun _ => True) w v f) (hR : RightF f) :
    ∃ T, CK.namesL 9 7 f.classes [] = .ok T ∧ CK.missR T f.rules = none ∧ Calls Tryz.prog 17 #[v, uv] w fun e w' => (∃ v', e = .returned (.tuple #[v', .nilIface]) ∧ IntsAt w'.heap.size w' v' (breaksOf (sayS T pts f) pts.length)) ∧ Below w.heap.size w w' := by
  have h := hR.2.2
  unfold CK.checkF at h
  cases hT : CK.namesL 9 7 f.classes [] with
  | error b => rw [hT] at h; cases h
  | ok T =>
    rw [hT] at h
    dsimp only at h
    have hm : CK.missR T f.rules = none := by
      cases hx : CK.missR T f.rules with
      | none => rfl
      | some a => rw [hx] at h; cases h
    exact ⟨T, rfl, hm, breaks_any f v uv T pts w hM.2.2.2.2 hM.2.2.2.1 hn hu hA hR.1 hR.2.1 hT hm⟩

theorem meant_says : breaksOf (sayS [([97], [(97, 122)])] [97, 98, 32, 99, 100] (meantF [(97, 122)])) 5 = [0, 2, 3, 5] := by
  kernel_rfl

theorem meant_fit : RightF (meantF [(97, 122)]) := by
  refine ⟨CK.parse_fit setOf_S (s := meantS) (by decide) (RP.parse_parts meant_of), parse_short setOf_S (s := meantS) (by decide) meant_of, ?_⟩
  kernel_rfl

theorem pts_abcd : ptsOf [97, 98, 32, 99, 100] = [97, 98, 32, 99, 100] := by kernel_rfl

theorem enter16 (args : Array Value) (w : World) : (callFunc 16 args).run Tryz.prog w = .ok (.enter 16 args) w := by kernel_rfl

/-- What meant holds of its file. -/
def MBox (w : World) (g : Nat) (x y z : Value) (W : World) : Prop :=
  W.cell? ⟨g, 0, none⟩ = some x ∧ W.cell? ⟨g, 1, none⟩ = some y ∧ W.cell? ⟨g, 2, none⟩ = some z ∧ Below w.heap.size w W ∧ g < W.heap.size

theorem MBox.on {w : World} {g : Nat} {x y z : Value} {W W' : World} (k : MBox w g x y z W) (hb : Below W.heap.size W W') : MBox w g x y z W' := by
  obtain ⟨h1, h2, h3, h4, h5⟩ := k
  have := hb.size
  exact ⟨(hb.cell (by exact h5)).trans h1, (hb.cell (by exact h5)).trans h2, (hb.cell (by exact h5)).trans h3, h4.trans (hb.mono h4.size), by omega⟩

theorem MBox.open_ {w : World} {g : Nat} {x y z : Value} {W : World} (k : MBox w g x y z W) : W.cell? ⟨g, 0, none⟩ = some x ∧ W.cell? ⟨g, 1, none⟩ = some y ∧ W.cell? ⟨g, 2, none⟩ = some z ∧ Below w.heap.size w W ∧ g < W.heap.size := k

set_option maxHeartbeats 4000000 in
set_option maxRecDepth 100000 in
theorem meant_any (w : World) (hM : MT w) : Calls Tryz.prog 10 #[] w fun e w' => e = .returned (.bool true) ∧ Below w.heap.size w w' := by
  have C := parse_any ⟨meantS.toArray⟩ (by decide) w hM.1
  have e0 : (⟨meantS.toArray⟩ : ByteArray).data.toList = meantS := rfl
  rw [e0, meant_of] at C
  have HM : Hid (MT w) := hM
  have HR : Hid (RightF (meantF [(97, 122)])) := meant_fit
  have HS : Hid (∀ T, CK.namesL 9 7 (meantF [(97, 122)]).classes [] = .ok T → breaksOf (sayS T [97, 98, 32, 99, 100] (meantF [(97, 122)])) 5 = [0, 2, 3, 5]) := fun T hT => by
    rw [meant_names] at hT
    cases hT
    exact meant_says
  clear e0 hM
  generalize meantF [(97, 122)] = f at C HR HS
  unfold meantS at C
  go_enter Tryz.func10, Tryz.ntmps10
  go_wp2_with fail
  refine C.mono ?_
  rintro e w1 ⟨⟨v, rfl, hF⟩, hb1⟩
  obtain ⟨co, cn, cc, ro, rn, rc, rfl, -⟩ := FAt.agg hF
  have HF2 : Hid (FAt (fun _ => True) (w1.alloc (.cells #[.slice co cn cc, .slice ro rn rc, .bool f.els] 26)) (.agg #[.slice co cn cc, .slice ro rn rc, .bool f.els]) f) := FAt.all hF (below_alloc1 w1 _)
  have HBX : Hid ((w1.alloc (.cells #[.slice co cn cc, .slice ro rn rc, .bool f.els] 26)).heap[w1.heap.size]? = some (.cells #[.slice co cn cc, .slice ro rn rc, .bool f.els] 26 (0, 0))) := heap_alloc_new w1 _
  have HB2 : Hid (Below w.heap.size w (w1.alloc (.cells #[.slice co cn cc, .slice ro rn rc, .bool f.els] 26))) := hb1.alloc hb1.size _
  have HBB : Hid (w.heap.size ≤ w1.heap.size) := hb1.size
  have K := checked_any (w1.alloc (.cells #[.slice co cn cc, .slice ro rn rc, .bool f.els] 26)) (HM.out.on HB2.out)
  clear C hF hb1
  go_wp2_with fail
  obtain ⟨g, hg⟩ : ∃ g, g = w1.heap.size := ⟨_, rfl⟩
  rw [← hg] at HBX HBB ⊢
  clear hg
  generalize f.els = el at *
  generalize w1.alloc (.cells #[.slice co cn cc, .slice ro rn rc, .bool el] 26) = w2 at *
  refine K.mono ?_
  rintro e w3 ⟨rfl, hb3⟩
  have hbox3 := (hb3.block g (lt_of_block HBX.out)).trans HBX.out
  have HB3 : Hid (Below w.heap.size w w3) := HB2.out.trans (hb3.mono HB2.out.size)
  have HF3 : Hid (FAt (fun _ => True) w3 (.agg #[.slice co cn cc, .slice ro rn rc, .bool el]) f) := FAt.all HF2.out hb3
  have HS3 : Hid (MBox w g (.slice co cn cc) (.slice ro rn rc) (.bool el) w3) := ⟨cell_of_row w3 g 0 _ _ _ hbox3, cell_of_row w3 g 1 _ _ _ hbox3, cell_of_row w3 g 2 _ _ _ hbox3, HB3.out, lt_of_block hbox3⟩
  clear K hb3 hbox3 HBX HB2 HF2
  go_upto_region 4 with fail
  have hS4 : MBox w g (.slice co cn cc) (.slice ro rn rc) (.bool el) w3.drew := HS3.out.on (below_drewN (Below.refl _ _) 1)
  have HD : Hid (∀ W, MBox w g (.slice co cn cc) (.slice ro rn rc) (.bool el) W → Calls Tryz.prog 16 #[.string ⟨#[97, 98, 32, 99, 100]⟩] W fun e w' => (∃ v, e = .returned v ∧ UnAt w' v [97, 98, 32, 99, 100]) ∧ Below W.heap.size W w') := fun W hW => by
    have := decode_un ⟨#[97, 98, 32, 99, 100]⟩ (by decide) W (HM.out.on hW.2.2.2.1)
    rw [show (⟨#[97, 98, 32, 99, 100]⟩ : ByteArray).data.toList = [97, 98, 32, 99, 100] from rfl, pts_abcd] at this
    exact this
  have HBR : Hid (∀ W uv, MBox w g (.slice co cn cc) (.slice ro rn rc) (.bool el) W → Below w3.heap.size w3 W → UnAt W uv [97, 98, 32, 99, 100] → Calls Tryz.prog 17 #[.agg #[.slice co cn cc, .slice ro rn rc, .bool el], uv] W fun e w' => (∃ v', e = .returned (.tuple #[v', .nilIface]) ∧ IntsAt w'.heap.size w' v' [0, 2, 3, 5]) ∧ Below W.heap.size W w') := fun W uv hW hb hu => by
    obtain ⟨T, hT, -, hc⟩ := breaks_right f (.agg #[.slice co cn cc, .slice ro rn rc, .bool el]) uv _ W (HM.out.on hW.2.2.2.1) (by decide) hu (FAt.all HF3.out hb) HR.out
    rw [show ([97, 98, 32, 99, 100] : List Int).length = 5 from rfl, HS.out T hT] at hc
    exact hc
  go_region_held3 (fun W => W.cell? ⟨g, 0, none⟩ = some (.slice co cn cc) ∧ W.cell? ⟨g, 1, none⟩ = some (.slice ro rn rc) ∧ W.cell? ⟨g, 2, none⟩ = some (.bool el) ∧ Below w.heap.size w W ∧ g < W.heap.size)
    (exact MBox.open_ (by assumption))
    (first
      | (have hmark := hu5; clear hmark; go_at_call 17; refine (HBR.out _ _ ?_ hb35 hu5).mono ?_; assumption; rintro e w6 ⟨⟨v6, rfl, hi6⟩, hb6⟩; have hS6 := MBox.on (by assumption) hb6)
      | (go_at_call 16; refine (HD.out _ ?_).mono ?_; assumption; rintro e w5 ⟨⟨v5, rfl, hu5⟩, hb5⟩; have hb35 := ((below_drewN (Below.refl w3.heap.size w3) 1).trans hb5); have hS5 := MBox.on (by assumption) hb5))
  have HI : Hid (IntsAt w6.heap.size w6 v6 [0, 2, 3, 5]) := hi6
  have HB6 : Hid (Below w.heap.size w w6) := hS6.2.2.2.1
  clear hS4 HD HBR HS3 hu5 hb35 hS5 hb5 hS6 hb6 hi6 HF3
  have hba := below_alloc1 w6 (.cells #[.int .i64 0, .int .i64 2, .int .i64 3, .int .i64 5] 3)
  have hbl := heap_alloc_new w6 (.cells #[.int .i64 0, .int .i64 2, .int .i64 3, .int .i64 5] 3)
  have hy : IntsAt (w6.alloc (.cells #[.int .i64 0, .int .i64 2, .int .i64 3, .int .i64 5] 3)).heap.size (w6.alloc (.cells #[.int .i64 0, .int .i64 2, .int .i64 3, .int .i64 5] 3)) (.slice (some ⟨w6.heap.size, 0, none⟩) 4 4) [0, 2, 3, 5] := by
    refine ⟨_, 4, rfl, fun _ => ⟨w6.heap.size, 0, rfl, by simp, fun j hj => ?_⟩⟩
    have hj4 : j < 4 := hj
    rw [Nat.zero_add]
    match j, hj4 with
    | 0, _ => exact cell_of_row _ _ 0 _ _ _ hbl
    | 1, _ => exact cell_of_row _ _ 1 _ _ _ hbl
    | 2, _ => exact cell_of_row _ _ 2 _ _ _ hbl
    | 3, _ => exact cell_of_row _ _ 3 _ _ _ hbl
  have E := equal_any v6 _ [0, 2, 3, 5] [0, 2, 3, 5] (by decide) (by decide) _ (HI.out.below hba _ hba.size) hy
  rw [decide_eq_true rfl] at E
  have HBA : Hid (Below w6.heap.size w6 _) := hba
  clear hba hbl hy
  go_wp2_with fail
  refine E.mono ?_
  rintro e w8 ⟨rfl, hb8⟩
  have HB8 : Hid (Below w.heap.size w w8) := HB6.out.trans ((HBA.out.trans (hb8.mono HBA.out.size)).mono HB6.out.size)
  clear E hb8
  go_wp2_with fail
  go_ret
  exact ⟨rfl, HB8.out⟩

end Go.Proofs.YtjbdlihlcoldlaaGreatDoor.M
