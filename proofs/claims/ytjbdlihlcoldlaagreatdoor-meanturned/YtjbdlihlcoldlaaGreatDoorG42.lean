/- checked: a fact: names, and what they stand for. -/
import Derived.Test.YtjbdlihlcoldlaaGreatDoorG40
import Derived.Test.YtjbdlihlcoldlaaGreatDoorG41
import Derived.Test.YtjbdlihlcoldlaaGreatDoorG18
import Derived.Lib.Hide
namespace Go.Proofs.YtjbdlihlcoldlaaGreatDoor.M
open Go.RowKit Go.Shelf Go.Proofs.YtjbdlihlcoldlaaGreatDoor.Q

/-- The tables that the laws look at. -/
def MT (w : World) : Prop := KT w ∧ ET w ∧ LE w ∧ TZ64 w ∧ 8 ≤ w.heap.size

theorem MT.on {w w' : World} (h : MT w) (hb : Below w.heap.size w w') : MT w' := by
  have h8 := h.2.2.2.2
  exact ⟨h.1.below hb, h.2.1.below hb (by omega), h.2.2.1.below hb (by omega), h.2.2.2.1.below hb (by omega), Nat.le_trans h8 hb.size⟩

theorem checked_fit : RightF (checkedF [(97, 97)] [(98, 98)]) := by
  refine ⟨CK.parse_fit setOf_S (s := checkedS) (by decide) (RP.parse_parts checked_of), parse_short setOf_S (s := checkedS) (by decide) checked_of, ?_⟩
  unfold CK.checkF
  rw [checked_names]
  rfl

theorem miss_fit : CK.FitF missF := CK.parse_fit setOf_S (s := missS) (by decide) (RP.parse_parts miss_of)

def tab2 : CK.Tab := [([97], [(97, 97)]), ([98], [(97, 98)])]
theorem tab2_b : CK.look tab2 [98] = some [(97, 98)] := by decide

theorem set_text : bytesOf (RS.setText [(97, 98)]) = ⟨#[91, 54, 49, 45, 54, 50, 93]⟩ := by decide

set_option maxHeartbeats 4000000 in
set_option maxRecDepth 100000 in
theorem checked_any (w : World) (hM : MT w) : Calls Tryz.prog 41 #[] w fun e w' => e = .returned (.bool true) ∧ Below w.heap.size w w' := by
  have C := parse_any ⟨checkedS.toArray⟩ (by decide) w hM.1
  have e0 : (⟨checkedS.toArray⟩ : ByteArray).data.toList = checkedS := rfl
  rw [e0, checked_of] at C
  have HM : Hid (MT w) := hM
  have HR : Hid (RightF (checkedF [(97, 97)] [(98, 98)])) := checked_fit
  have HN : Hid (CK.namesL 9 7 (checkedF [(97, 97)] [(98, 98)]).classes [] = .ok tab2) := checked_names
  clear e0 hM
  generalize checkedF [(97, 97)] [(98, 98)] = f at C HR HN
  unfold checkedS at C
  go_enter Tryz.func41, Tryz.ntmps41
  go_wp2_with fail
  refine C.mono ?_
  rintro e w1 ⟨⟨v, rfl, hF⟩, hb1⟩
  obtain ⟨co, cn, cc, ro, rn, rc, rfl, -⟩ := FAt.agg hF
  have HF2 : Hid (FAt (fun _ => True) (w1.alloc (.cells #[.slice co cn cc, .slice ro rn rc, .bool f.els] 26)) (.agg #[.slice co cn cc, .slice ro rn rc, .bool f.els]) f) := FAt.all hF (below_alloc1 w1 _)
  have HBX : Hid ((w1.alloc (.cells #[.slice co cn cc, .slice ro rn rc, .bool f.els] 26)).heap[w1.heap.size]? = some (.cells #[.slice co cn cc, .slice ro rn rc, .bool f.els] 26 (0, 0))) := heap_alloc_new w1 _
  have HB2 : Hid (Below w.heap.size w (w1.alloc (.cells #[.slice co cn cc, .slice ro rn rc, .bool f.els] 26))) := hb1.alloc hb1.size _
  have HBB : Hid (w.heap.size ≤ w1.heap.size) := hb1.size
  have K := check_any f _ (w1.alloc (.cells #[.slice co cn cc, .slice ro rn rc, .bool f.els] 26)) HR.out.1 HF2.out
  rw [HR.out.2.2] at K
  have HNM : Hid (∀ W, FAt (fun _ => True) W (.agg #[.slice co cn cc, .slice ro rn rc, .bool f.els]) f → Calls Tryz.prog 12 #[.agg #[.slice co cn cc, .slice ro rn rc, .bool f.els]] W (NamesSay W (.ok tab2))) := fun W hW => by
    have := names_any f _ W HR.out.1 hW
    rw [HN.out] at this
    exact this
  clear C hF hb1
  go_wp2_with fail
  obtain ⟨g, hg⟩ : ∃ g, g = w1.heap.size := ⟨_, rfl⟩
  rw [← hg] at HBX HBB ⊢
  clear hg
  generalize f.els = el at *
  generalize w1.alloc (.cells #[.slice co cn cc, .slice ro rn rc, .bool el] 26) = w2 at *
  refine K.mono ?_
  rintro e w3 ⟨hb3, rfl⟩
  have hbox3 := (hb3.block g (lt_of_block HBX.out)).trans HBX.out
  have c0 := cell_of_row w3 g 0 _ _ _ hbox3
  have c1 := cell_of_row w3 g 1 _ _ _ hbox3
  have c2 := cell_of_row w3 g 2 _ _ _ hbox3
  have HBX3 : Hid (w3.heap[g]? = _) := hbox3
  have HB3 : Hid (Below w.heap.size w w3) := HB2.out.trans (hb3.mono HB2.out.size)
  have L := HNM.out w3 (FAt.all HF2.out hb3)
  clear K hb3 hbox3 HBX
  go_wp2_with fail
  refine L.mono ?_
  rintro e w4 ⟨hb4, mv, rfl, hm⟩
  obtain ⟨mb, u, rfl, -, hlk, hrg, hrr⟩ := hm.find [98] (by decide)
  rw [tab2_b] at hrg hrr
  have hlk' : (Instr.lookup 29 (.map (some mb)) (.string ⟨#[98]⟩) false).run Tryz.prog w4 = .ok u w4 := hlk
  have HB4 : Hid (Below w.heap.size w w4) := HB3.out.trans (hb4.mono HB3.out.size)
  have P := print_any u [(97, 98)] (by decide) hrr w4 (HM.out.on HB4.out).1.1 (by have := (HM.out.on HB4.out).2.2.2.2; omega) hrg
  rw [set_text] at P
  have hbox4 := (hb4.block g (lt_of_block HBX3.out)).trans HBX3.out
  have HBX4 : Hid (w4.heap[g]? = _) := hbox4
  clear L hb4 hlk hrg hrr hbox4 HBX3 c0 c1 c2 hm
  go_wp2_with fail
  refine P.mono ?_
  rintro e w5 ⟨rfl, hb5⟩
  have hbox5 := (hb5.block g (lt_of_block HBX4.out)).trans HBX4.out
  have HBX5 : Hid (w5.heap[g]? = _) := hbox5
  have HB5 : Hid (Below w.heap.size w w5) := HB4.out.trans (hb5.mono HB4.out.size)
  have C := parse_any ⟨missS.toArray⟩ (by decide) w5 (HM.out.on HB5.out).1
  have e0 : (⟨missS.toArray⟩ : ByteArray).data.toList = missS := rfl
  rw [e0, miss_of] at C
  clear P hb5 hbox5 HBX4 e0 hlk'
  unfold missS at C
  go_wp2_with fail
  refine C.mono ?_
  rintro e w6 ⟨⟨v, rfl, hF⟩, hb6⟩
  obtain ⟨do_, dn, dc, so, sn, sc, rfl, -⟩ := FAt.agg hF
  have hbox6 := (hb6.block g (lt_of_block HBX5.out)).trans HBX5.out
  have c0 := cell_of_row w6 g 0 _ _ _ hbox6
  have c1 := cell_of_row w6 g 1 _ _ _ hbox6
  have c2 := cell_of_row w6 g 2 _ _ _ hbox6
  have f0 := frozen_of_row w6 g 0 _ _ hbox6
  have f1 := frozen_of_row w6 g 1 _ _ hbox6
  have f2 := frozen_of_row w6 g 2 _ _ hbox6
  have HB6 : Hid (Below w.heap.size w w6) := HB5.out.trans (hb6.mono HB5.out.size)
  have HBX6 : Hid (w6.heap[g]? = some (.cells #[.slice co cn cc, .slice ro rn rc, .bool el] 26 (0, 0))) := hbox6
  have hgs : g < w5.heap.size := lt_of_block HBX5.out
  have HF6 : Hid (FAt (fun b => b ≠ g) w6 (.agg #[.slice do_ dn dc, .slice so sn sc, .bool missF.els]) missF) := FAt.move (fun b _ (h : w5.heap.size ≤ b) => by omega) (fun b _ hl => rfl) hF
  obtain ⟨em, hem⟩ : ∃ b, b = missF.els := ⟨_, rfl⟩
  rw [← hem] at HF6 ⊢
  clear C hF hb6 hbox6 HBX5 hgs hem
  go_wp2_with fail
  have HF7 : Hid (FAt (fun _ => True) (((w6.setCell ⟨g, 0, none⟩ (.slice do_ dn dc)).setCell ⟨g, 1, none⟩ (.slice so sn sc)).setCell ⟨g, 2, none⟩ (.bool em)) (.agg #[.slice do_ dn dc, .slice so sn sc, .bool em]) missF) := FAt.move (fun _ _ _ => trivial) (fun b _ hl => rfl) (FAt.move (fun b _ h => h) (three_keeps w6 g _ _ _) HF6.out)
  have HB7 : Hid (Below w.heap.size w (((w6.setCell ⟨g, 0, none⟩ (.slice do_ dn dc)).setCell ⟨g, 1, none⟩ (.slice so sn sc)).setCell ⟨g, 2, none⟩ (.bool em))) := ((HB6.out.setCell (p := ⟨g, 0, none⟩) HBB.out _).setCell (p := ⟨g, 1, none⟩) HBB.out _).setCell (p := ⟨g, 2, none⟩) HBB.out _
  have K := check_any missF _ _ miss_fit HF7.out
  rw [miss_found] at K
  generalize ((w6.setCell ⟨g, 0, none⟩ (.slice do_ dn dc)).setCell ⟨g, 1, none⟩ (.slice so sn sc)).setCell ⟨g, 2, none⟩ (.bool em) = w7 at *
  refine K.mono ?_
  rintro e w8 ⟨hb8, a, rfl, ha, -⟩
  have HB8 : Hid (Below w.heap.size w w8) := HB7.out.trans (hb8.mono HB7.out.size)
  have T := tell_at ⟨a, 0, none⟩ 7 w8 (HM.out.on HB8.out).2.1 (cell_of_row w8 a 0 _ _ _ ha)
  clear K hb8 ha
  go_wp2_with fail
  refine T.mono ?_
  rintro e w9 ⟨rfl, hb9⟩
  have HB9 : Hid (Below w.heap.size w w9) := HB8.out.trans (hb9.mono HB8.out.size)
  clear T hb9
  go_wp2_with fail
  go_ret
  exact ⟨rfl, HB9.out⟩

end Go.Proofs.YtjbdlihlcoldlaaGreatDoor.M

namespace Go.Proofs.YtjbdlihlcoldlaaGreatDoor.M
open Go.RowKit Go.Shelf Go.Proofs.YtjbdlihlcoldlaaGreatDoor.Q

/-- A text's code points. -/
def ptsOf (s : List UInt8) : List Int := (U8.dec s 0).map fun u => (u.1 : Int)

theorem flat_get : ∀ (us : List (Nat × Nat × Nat)) (k : Nat) (hk : k < us.length), (flat us)[k * 3]? = some (.int .i64 us[k].1)
  | [], k, hk => by simp at hk
  | u :: us, 0, _ => rfl
  | u :: us, k + 1, hk => by
    have := flat_get us k (by simpa using hk)
    have e : flat (u :: us) = cells3 u ++ flat us := by simp [flat]
    rw [e, List.getElem?_append_right (by simp [cells3]; omega)]
    simp [cells3]
    rw [show (k + 1) * 3 - 3 = k * 3 by omega]
    exact this

/-- Units that utf.Decode made. -/
theorem un_of_own {w : World} {B : Nat} {v : Value} {us : List (Nat × Nat × Nat)} (h : w.ownsRow B 62 3 v us.length (flat us)) : UnAt w v (us.map fun u => (u.1 : Int)) := by
  have hk := h
  obtain ⟨h1, h2 | ⟨g, cap, cur, rfl, hg, hh, hn, hc, hs, ht⟩⟩ := h
  · obtain ⟨rfl, h0⟩ := h2
    obtain rfl : us = [] := List.length_eq_zero_iff.1 h0
    exact ⟨none, 0, rfl, Nat.le_refl _, by omega, fun h => absurd rfl h⟩
  · refine ⟨some ⟨g, 0, none⟩, cap, by rw [List.length_map], by rw [List.length_map]; exact hn, by unfold maxLen at hc; omega, fun _ => ⟨g, 0, rfl, fun k hk' => ?_⟩⟩
    have hk2 : k < us.length := by simpa using hk'
    have := hk.cells (g := g) rfl (k * 3) _ (flat_get us k hk2)
    simp only [Addr.add_lit, Nat.zero_add] at this ⊢
    simpa using this

theorem ptsOf_len (s : List UInt8) : (ptsOf s).length ≤ s.length := by
  unfold ptsOf
  rw [List.length_map]
  exact U8.dec_length_le s 0

/-- utf.Decode, as the laws use it. -/
theorem decode_un (s : ByteArray) (hs : s.size ≤ 1000000) (w : World) (hM : MT w) :
    Calls Tryz.prog 16 #[.string s] w fun e w' => (∃ v, e = .returned v ∧ UnAt w' v (ptsOf s.data.toList)) ∧ Below w.heap.size w w' := by
  refine (decode_any s hs w hM.2.2.1 (by have := hM.2.2.2.2; omega)).mono ?_
  rintro e w' ⟨v, rfl, h, hb⟩
  exact ⟨⟨v, rfl, un_of_own h⟩, hb⟩

/-- mean.Breaks of a right file. -/
theorem breaks_right (f : RP.Fi) (v uv : Value) (pts : List Int) (w : World) (hM : MT w) (hn : pts.length ≤ 63) (hu : UnAt w uv pts) (hA : FAt (fun _ => True) w v f) (hR : RightF f) :
    ∃ T, CK.namesL 9 7 f.classes [] = .ok T ∧ CK.missR T f.rules = none ∧ Calls Tryz.prog 17 #[v, uv] w fun e w' => (∃ v', e = .returned (.tuple #[v', .nilIface]) ∧ IntsAt w'.heap.size w' v' (breaksOf (sayS T pts f) pts.length)) ∧ Below w.heap.size w w' := by
  have h := hR.2.2
  unfold CK.checkF at h
  cases hT : CK.namesL 9 7 f.classes [] with
  | error b => rw [hT] at h; cases h
  | ok T =>
    rw [hT] at h
    dsimp only at h
    have hm : CK.missR T f.rules = none := by
      cases hx : CK.missR T f.rules with
      | none => rfl
      | some a => rw [hx] at h; cases h
    exact ⟨T, rfl, hm, breaks_any f v uv T pts w hM.2.2.2.2 hM.2.2.2.1 hn hu hA hR.1 hR.2.1 hT hm⟩

theorem meant_says : breaksOf (sayS [([97], [(97, 122)])] [97, 98, 32, 99, 100] (meantF [(97, 122)])) 5 = [0, 2, 3, 5] := by
  kernel_rfl

theorem meant_fit : RightF (meantF [(97, 122)]) := by
  refine ⟨CK.parse_fit setOf_S (s := meantS) (by decide) (RP.parse_parts meant_of), parse_short setOf_S (s := meantS) (by decide) meant_of, ?_⟩
  kernel_rfl

theorem pts_abcd : ptsOf [97, 98, 32, 99, 100] = [97, 98, 32, 99, 100] := by kernel_rfl

theorem enter16 (args : Array Value) (w : World) : (callFunc 16 args).run Tryz.prog w = .ok (.enter 16 args) w := by kernel_rfl

/-- What meant holds of its file. -/
def MBox (w : World) (g : Nat) (x y z : Value) (W : World) : Prop :=
  W.cell? ⟨g, 0, none⟩ = some x ∧ W.cell? ⟨g, 1, none⟩ = some y ∧ W.cell? ⟨g, 2, none⟩ = some z ∧ Below w.heap.size w W ∧ g < W.heap.size

theorem MBox.on {w : World} {g : Nat} {x y z : Value} {W W' : World} (k : MBox w g x y z W) (hb : Below W.heap.size W W') : MBox w g x y z W' := by
  obtain ⟨h1, h2, h3, h4, h5⟩ := k
  have := hb.size
  exact ⟨(hb.cell (by exact h5)).trans h1, (hb.cell (by exact h5)).trans h2, (hb.cell (by exact h5)).trans h3, h4.trans (hb.mono h4.size), by omega⟩

theorem MBox.open_ {w : World} {g : Nat} {x y z : Value} {W : World} (k : MBox w g x y z W) : W.cell? ⟨g, 0, none⟩ = some x ∧ W.cell? ⟨g, 1, none⟩ = some y ∧ W.cell? ⟨g, 2, none⟩ = some z ∧ Below w.heap.size w W ∧ g < W.heap.size := k

set_option maxHeartbeats 4000000 in
set_option maxRecDepth 100000 in
theorem meant_any (w : World) (hM : MT w) : Calls Tryz.prog 10 #[] w fun e w' => e = .returned (.bool true) ∧ Below w.heap.size w w' := by
  have C := parse_any ⟨meantS.toArray⟩ (by decide) w hM.1
  have e0 : (⟨meantS.toArray⟩ : ByteArray).data.toList = meantS := rfl
  rw [e0, meant_of] at C
  have HM : Hid (MT w) := hM
  have HR : Hid (RightF (meantF [(97, 122)])) := meant_fit
  have HS : Hid (∀ T, CK.namesL 9 7 (meantF [(97, 122)]).classes [] = .ok T → breaksOf (sayS T [97, 98, 32, 99, 100] (meantF [(97, 122)])) 5 = [0, 2, 3, 5]) := fun T hT => by
    rw [meant_names] at hT
    cases hT
    exact meant_says
  clear e0 hM
  generalize meantF [(97, 122)] = f at C HR HS
  unfold meantS at C
  go_enter Tryz.func10, Tryz.ntmps10
  go_wp2_with fail
  refine C.mono ?_
  rintro e w1 ⟨⟨v, rfl, hF⟩, hb1⟩
  obtain ⟨co, cn, cc, ro, rn, rc, rfl, -⟩ := FAt.agg hF
  have HF2 : Hid (FAt (fun _ => True) (w1.alloc (.cells #[.slice co cn cc, .slice ro rn rc, .bool f.els] 26)) (.agg #[.slice co cn cc, .slice ro rn rc, .bool f.els]) f) := FAt.all hF (below_alloc1 w1 _)
  have HBX : Hid ((w1.alloc (.cells #[.slice co cn cc, .slice ro rn rc, .bool f.els] 26)).heap[w1.heap.size]? = some (.cells #[.slice co cn cc, .slice ro rn rc, .bool f.els] 26 (0, 0))) := heap_alloc_new w1 _
  have HB2 : Hid (Below w.heap.size w (w1.alloc (.cells #[.slice co cn cc, .slice ro rn rc, .bool f.els] 26))) := hb1.alloc hb1.size _
  have HBB : Hid (w.heap.size ≤ w1.heap.size) := hb1.size
  have K := checked_any (w1.alloc (.cells #[.slice co cn cc, .slice ro rn rc, .bool f.els] 26)) (HM.out.on HB2.out)
  clear C hF hb1
  go_wp2_with fail
  obtain ⟨g, hg⟩ : ∃ g, g = w1.heap.size := ⟨_, rfl⟩
  rw [← hg] at HBX HBB ⊢
  clear hg
  generalize f.els = el at *
  generalize w1.alloc (.cells #[.slice co cn cc, .slice ro rn rc, .bool el] 26) = w2 at *
  refine K.mono ?_
  rintro e w3 ⟨rfl, hb3⟩
  have hbox3 := (hb3.block g (lt_of_block HBX.out)).trans HBX.out
  have HB3 : Hid (Below w.heap.size w w3) := HB2.out.trans (hb3.mono HB2.out.size)
  have HF3 : Hid (FAt (fun _ => True) w3 (.agg #[.slice co cn cc, .slice ro rn rc, .bool el]) f) := FAt.all HF2.out hb3
  have HS3 : Hid (MBox w g (.slice co cn cc) (.slice ro rn rc) (.bool el) w3) := ⟨cell_of_row w3 g 0 _ _ _ hbox3, cell_of_row w3 g 1 _ _ _ hbox3, cell_of_row w3 g 2 _ _ _ hbox3, HB3.out, lt_of_block hbox3⟩
  clear K hb3 hbox3 HBX HB2 HF2
  go_upto_region 4 with fail
  have hS4 : MBox w g (.slice co cn cc) (.slice ro rn rc) (.bool el) w3.drew := HS3.out.on (below_drewN (Below.refl _ _) 1)
  have HD : Hid (∀ W, MBox w g (.slice co cn cc) (.slice ro rn rc) (.bool el) W → Calls Tryz.prog 16 #[.string ⟨#[97, 98, 32, 99, 100]⟩] W fun e w' => (∃ v, e = .returned v ∧ UnAt w' v [97, 98, 32, 99, 100]) ∧ Below W.heap.size W w') := fun W hW => by
    have := decode_un ⟨#[97, 98, 32, 99, 100]⟩ (by decide) W (HM.out.on hW.2.2.2.1)
    rw [show (⟨#[97, 98, 32, 99, 100]⟩ : ByteArray).data.toList = [97, 98, 32, 99, 100] from rfl, pts_abcd] at this
    exact this
  have HBR : Hid (∀ W uv, MBox w g (.slice co cn cc) (.slice ro rn rc) (.bool el) W → Below w3.heap.size w3 W → UnAt W uv [97, 98, 32, 99, 100] → Calls Tryz.prog 17 #[.agg #[.slice co cn cc, .slice ro rn rc, .bool el], uv] W fun e w' => (∃ v', e = .returned (.tuple #[v', .nilIface]) ∧ IntsAt w'.heap.size w' v' [0, 2, 3, 5]) ∧ Below W.heap.size W w') := fun W uv hW hb hu => by
    obtain ⟨T, hT, -, hc⟩ := breaks_right f (.agg #[.slice co cn cc, .slice ro rn rc, .bool el]) uv _ W (HM.out.on hW.2.2.2.1) (by decide) hu (FAt.all HF3.out hb) HR.out
    rw [show ([97, 98, 32, 99, 100] : List Int).length = 5 from rfl, HS.out T hT] at hc
    exact hc
  go_region_held3 (fun W => W.cell? ⟨g, 0, none⟩ = some (.slice co cn cc) ∧ W.cell? ⟨g, 1, none⟩ = some (.slice ro rn rc) ∧ W.cell? ⟨g, 2, none⟩ = some (.bool el) ∧ Below w.heap.size w W ∧ g < W.heap.size)
    (exact MBox.open_ (by assumption))
    (first
      | (have hmark := hu5; clear hmark; go_at_call 17; refine (HBR.out _ _ ?_ hb35 hu5).mono ?_; assumption; rintro e w6 ⟨⟨v6, rfl, hi6⟩, hb6⟩; have hS6 := MBox.on (by assumption) hb6)
      | (go_at_call 16; refine (HD.out _ ?_).mono ?_; assumption; rintro e w5 ⟨⟨v5, rfl, hu5⟩, hb5⟩; have hb35 := ((below_drewN (Below.refl w3.heap.size w3) 1).trans hb5); have hS5 := MBox.on (by assumption) hb5))
  have HI : Hid (IntsAt w6.heap.size w6 v6 [0, 2, 3, 5]) := hi6
  have HB6 : Hid (Below w.heap.size w w6) := hS6.2.2.2.1
  clear hS4 HD HBR HS3 hu5 hb35 hS5 hb5 hS6 hb6 hi6 HF3
  have hba := below_alloc1 w6 (.cells #[.int .i64 0, .int .i64 2, .int .i64 3, .int .i64 5] 3)
  have hbl := heap_alloc_new w6 (.cells #[.int .i64 0, .int .i64 2, .int .i64 3, .int .i64 5] 3)
  have hy : IntsAt (w6.alloc (.cells #[.int .i64 0, .int .i64 2, .int .i64 3, .int .i64 5] 3)).heap.size (w6.alloc (.cells #[.int .i64 0, .int .i64 2, .int .i64 3, .int .i64 5] 3)) (.slice (some ⟨w6.heap.size, 0, none⟩) 4 4) [0, 2, 3, 5] := by
    refine ⟨_, 4, rfl, fun _ => ⟨w6.heap.size, 0, rfl, by simp, fun j hj => ?_⟩⟩
    have hj4 : j < 4 := hj
    rw [Nat.zero_add]
    match j, hj4 with
    | 0, _ => exact cell_of_row _ _ 0 _ _ _ hbl
    | 1, _ => exact cell_of_row _ _ 1 _ _ _ hbl
    | 2, _ => exact cell_of_row _ _ 2 _ _ _ hbl
    | 3, _ => exact cell_of_row _ _ 3 _ _ _ hbl
  have E := equal_any v6 _ [0, 2, 3, 5] [0, 2, 3, 5] (by decide) (by decide) _ (HI.out.below hba _ hba.size) hy
  rw [decide_eq_true rfl] at E
  have HBA : Hid (Below w6.heap.size w6 _) := hba
  clear hba hbl hy
  go_wp2_with fail
  refine E.mono ?_
  rintro e w8 ⟨rfl, hb8⟩
  have HB8 : Hid (Below w.heap.size w w8) := HB6.out.trans ((HBA.out.trans (hb8.mono HBA.out.size)).mono HB6.out.size)
  clear E hb8
  go_wp2_with fail
  go_ret
  exact ⟨rfl, HB8.out⟩

end Go.Proofs.YtjbdlihlcoldlaaGreatDoor.M

namespace Go.Proofs.YtjbdlihlcoldlaaGreatDoor.M
open Go.RowKit Go.Shelf Go.Proofs.YtjbdlihlcoldlaaGreatDoor.Q

/-- Rules in an own row; their patterns lie elsewhere. -/
def RsRow (ok : Nat → Prop) (B : Nat) (w : World) (v : Value) (rs : List RP.Ru) : Prop :=
  ∃ vs, w.ownsRow B 50 4 v rs.length vs ∧ RsAt (fun b => ok b ∧ v.ownBlock ≠ some b) w vs rs

theorem RsRow.nil (ok : Nat → Prop) (B : Nat) (w : World) : RsRow ok B w (.slice none 0 0) [] := ⟨[], World.ownsRow_nil _ _ _ _, rfl⟩

theorem RsRow.lt {ok : Nat → Prop} {B : Nat} {w : World} {v : Value} {rs : List RP.Ru} (h : RsRow ok B w v rs) : ∀ j, v.ownBlock = some j → B ≤ j ∧ j < w.heap.size := fun j hj => by
  obtain ⟨vs, h1, -⟩ := h
  exact h1.lt j hj

theorem RsRow.slice {ok : Nat → Prop} {B : Nat} {w : World} {v : Value} {rs : List RP.Ru} (h : RsRow ok B w v rs) : ∃ ao cp, v = .slice ao rs.length cp := by
  obtain ⟨vs, h1, -⟩ := h
  exact own_slice h1

/-- A change of blocks that are neither the row's own nor its patterns'. -/
theorem RsRow.keep {ok : Nat → Prop} {B : Nat} {w w' : World} {v : Value} {rs : List RP.Ru} (h : RsRow ok B w v rs) (hk : ∀ b, b < w.heap.size → ok b ∨ v.ownBlock = some b → w'.heap[b]? = w.heap[b]?) : RsRow ok B w' v rs := by
  obtain ⟨vs, h1, h2⟩ := h
  refine ⟨vs, ?_, RsAt.keep (fun b hb hl => hk b hl (.inl hb.1)) h2⟩
  obtain ⟨k1, k2 | ⟨g, cap, cur, rfl, hgl, hh, rest⟩⟩ := h1
  · exact ⟨k1, .inl k2⟩
  · exact ⟨k1, .inr ⟨g, cap, cur, rfl, hgl, (hk g (lt_of_block hh) (.inr (by simp [Value.ownBlock]))).trans hh, rest⟩⟩

theorem RsRow.below {ok : Nat → Prop} {B : Nat} {w w' : World} {v : Value} {rs : List RP.Ru} (h : RsRow ok B w v rs) (hb : Below w.heap.size w w') : RsRow ok B w' v rs :=
  h.keep (fun b hl _ => hb.block b hl)

theorem RsRow.row {ok : Nat → Prop} {B : Nat} {w : World} {v : Value} {rs : List RP.Ru} (h : RsRow ok B w v rs) : ∃ vs, Row (fun _ => True) w 50 4 v rs.length vs ∧ RsAt (fun _ => True) w vs rs := by
  obtain ⟨vs, h1, h2⟩ := h
  refine ⟨vs, ⟨?_, fun _ _ => trivial⟩, RsAt.mono (fun _ _ _ => trivial) h2⟩
  obtain ⟨k1, k2 | ⟨g, cap, cur, rfl, hgl, hh, rest⟩⟩ := h1
  · exact ⟨k1, .inl k2⟩
  · exact ⟨k1, .inr ⟨g, cap, cur, rfl, Nat.zero_le _, hh, rest⟩⟩

/-- One rule more. -/
theorem RsRow.more {ok : Nat → Prop} {B : Nat} {w : World} {v : Value} {rs : List RP.Ru} (ty : TypeId) (h : RsRow ok B w v rs) (x : RP.Ru) {bb ab : Nat} (hb : PAt (fun b => ok b ∧ v.ownBlock ≠ some b) w [.pointer (some ⟨bb, 0, none⟩)] x.before)
    (ha : PAt (fun b => ok b ∧ v.ownBlock ≠ some b) w [.pointer (some ⟨ab, 0, none⟩)] x.after) (hB : B ≤ w.heap.size) (hn : rs.length ≤ 100000) :
    ∃ v' w', (Builtin.append_ #[24, 24] ty #[v, .slice (some ⟨w.heap.size, 0, none⟩) 1 1]).run Tryz.prog (w.alloc (.cells #[.int .i64 x.at_, .bool x.brk, .pointer (some ⟨bb, 0, none⟩), .pointer (some ⟨ab, 0, none⟩)] 50)) = .ok v' w' ∧
      RsRow ok B w' v' (rs ++ [x]) ∧ Below B w w' ∧ ∀ j, j < w.heap.size → v.ownBlock ≠ some j → w'.heap[j]? = w.heap[j]? := by
  obtain ⟨i0, hi, hz0, hz1, hz2⟩ := info_parts info48'
  obtain ⟨vs, h1, h2⟩ := h
  have hb0 : Below w.heap.size w (w.alloc (.cells #[.int .i64 x.at_, .bool x.brk, .pointer (some ⟨bb, 0, none⟩), .pointer (some ⟨ab, 0, none⟩)] 50)) := below_alloc1 _ _
  have hown := own_below h1 hb0
  have hblk := heap_alloc_new w (.cells #[.int .i64 x.at_, .bool x.brk, .pointer (some ⟨bb, 0, none⟩), .pointer (some ⟨ab, 0, none⟩)] 50)
  have hone : ∀ u ∈ [Value.int .i64 x.at_, .bool x.brk, .pointer (some ⟨bb, 0, none⟩), .pointer (some ⟨ab, 0, none⟩)], u.oneCell' = true := by
    intro u hu
    simp at hu
    rcases hu with rfl | rfl | rfl | rfl <;> rfl
  obtain ⟨v', w', hr, ho, hg, hwh⟩ := append_at (P := Tryz.prog) _ B 24 ty 50 i0 _ 4 32 Tryz.underlying24 hi hz0 hz1 hz2 rfl (by decide) v rs.length vs hown ⟨w.heap.size, 0, none⟩ 1 [.int .i64 x.at_, .bool x.brk, .pointer (some ⟨bb, 0, none⟩), .pointer (some ⟨ab, 0, none⟩)] rfl
    (by
      intro j u hj
      match j, hj with
      | 0, hj => cases hj; exact cell_of_row _ _ 0 _ _ _ hblk
      | 1, hj => cases hj; exact cell_of_row _ _ 1 _ _ _ hblk
      | 2, hj => cases hj; exact cell_of_row _ _ 2 _ _ _ hblk
      | 3, hj => cases hj; exact cell_of_row _ _ 3 _ _ _ hblk
      | j + 4, hj => simp at hj) hone (by unfold maxLen; omega) (by omega) (by have := hb0.size; omega)
  have hvb : ∀ j, v.ownBlock = some j → B ≤ j ∧ j < w.heap.size := fun j hj => h1.lt j hj
  have hoth : ∀ j, j < w.heap.size → v.ownBlock ≠ some j → w'.heap[j]? = w.heap[j]? := fun j hj hne => (hg.block j (by have := hb0.size; omega) (fun e => hne e.symm)).trans (hb0.block j hj)
  have hnot : ∀ j, j < w.heap.size → v.ownBlock ≠ some j → v'.ownBlock ≠ some j := by
    intro j hj hne e
    rcases hwh with h | h
    · exact hne (h.symm.trans e)
    · rw [h] at e
      cases e
      have := hb0.size
      omega
  have hkp : Keeps (fun b => (ok b ∧ v.ownBlock ≠ some b) ∧ v'.ownBlock ≠ some b) w w' := fun b hb hl => hoth b hl hb.1.2
  have hmv : ∀ {p : RP.Pt} {us : List Value}, PAt (fun b => ok b ∧ v.ownBlock ≠ some b) w us p → PAt (fun b => ok b ∧ v'.ownBlock ≠ some b) w' us p := fun hp =>
    PAt.mono (fun b _ hb => ⟨hb.1.1, hb.2⟩) (PAt.keep hkp (PAt.mono (fun b hl hb => ⟨hb, hnot b hl hb.2⟩) hp))
  refine ⟨v', w', hr, ⟨vs ++ [.int .i64 x.at_, .bool x.brk, .pointer (some ⟨bb, 0, none⟩), .pointer (some ⟨ab, 0, none⟩)], by rw [List.length_append]; exact ho, RsAt.snoc ⟨_, rfl⟩ (hmv hb) ⟨_, rfl⟩ (hmv ha) (RsAt.turn hmv h2)⟩, ?_, hoth⟩
  exact (hb0.mono hB).grown hg (by have := hb0.size; omega) (fun k hk => (hvb k hk).1)

/-- A rule that says the opposite; a file of such. -/
def turnR (r : RP.Ru) : RP.Ru := ⟨r.at_, !r.brk, r.before, r.after⟩
def turnF (f : RP.Fi) : RP.Fi := ⟨f.classes, f.rules.map turnR, !f.els⟩

theorem miss_turn (T : CK.Tab) : ∀ rs : List RP.Ru, CK.missR T (rs.map turnR) = CK.missR T rs
  | [] => rfl
  | r :: rs => by
    rw [List.map_cons, CK.missR, CK.missR, miss_turn T rs]
    rfl

theorem right_turn {f : RP.Fi} (h : RightF f) : RightF (turnF f) := by
  obtain ⟨h1, h2, h3⟩ := h
  refine ⟨⟨h1.1, ?_, h1.2.2.1, ?_⟩, ?_, ?_⟩
  · intro r hr
    obtain ⟨q, hq, rfl⟩ := List.mem_map.1 hr
    exact h1.2.1 q hq
  · show (f.rules.map turnR).length ≤ 20
    rw [List.length_map]
    exact h1.2.2.2
  · intro r hr
    obtain ⟨q, hq, rfl⟩ := List.mem_map.1 hr
    exact h2 q hq
  · unfold CK.checkF at h3 ⊢
    show (match CK.namesL 9 7 f.classes [] with | .error b => some b | .ok T => (CK.missR T (f.rules.map turnR)).map fun a => (7, a)) = none
    cases hT : CK.namesL 9 7 f.classes [] with
    | error b => rw [hT] at h3; cases h3
    | ok T =>
      rw [hT] at h3
      dsimp only at h3 ⊢
      rw [miss_turn]
      exact h3

theorem stood_turn (T : CK.Tab) (pts : List Int) (rs : List RP.Ru) : stoodS T pts (rs.map turnR) = (stoodS T pts rs).map fun s => (!s.1, s.2) := by
  unfold stoodS
  rw [List.map_map, List.map_map]
  rfl

theorem say_turn (T : CK.Tab) (pts : List Int) (f : RP.Fi) (i : Nat) : sayS T pts (turnF f) i = !(sayS T pts f i) := by
  show saysS (stoodS T pts (f.rules.map turnR)) i (!f.els) = !(saysS (stoodS T pts f.rules) i f.els)
  rw [stood_turn]
  unfold saysS
  rw [List.find?_map]
  have e : (stands i) ∘ (fun s : Sd => ((!s.1, s.2) : Sd)) = stands i := rfl
  rw [e]
  cases (stoodS T pts f.rules).find? (stands i) <;> rfl

/-- A place in the midst is a break where it is said. -/
theorem mem_breaks (q : Nat → Bool) (n i : Nat) (h1 : 1 ≤ i) (h2 : i < n) : (decide ((i : Int) ∈ breaksOf q n)) = q i := by
  unfold breaksOf
  rw [if_neg (by omega)]
  have e : ((i : Int) ∈ (0 : Int) :: insides q n ++ [(n : Int)]) ↔ q i = true := by
    unfold insides
    simp only [List.cons_append, List.mem_cons, List.mem_append, List.mem_map, List.mem_filter, List.mem_range, List.not_mem_nil, or_false, Bool.and_eq_true, decide_eq_true_eq]
    constructor
    · rintro (h | ⟨j, ⟨h3, h4, h5⟩, h6⟩ | h)
      · omega
      · obtain rfl : j = i := by omega
        exact h5
      · omega
    · intro h
      exact .inr (.inl ⟨i, ⟨h2, h1, h⟩, rfl⟩)
  cases h : q i with
  | true => rw [h] at e; exact decide_eq_true (e.2 rfl)
  | false => rw [h] at e; exact decide_eq_false (fun hc => by have := e.1 hc; cases this)

end Go.Proofs.YtjbdlihlcoldlaaGreatDoor.M

namespace Go.Proofs.YtjbdlihlcoldlaaGreatDoor.M
open Go.RowKit Go.Shelf Go.Proofs.YtjbdlihlcoldlaaGreatDoor.Q

theorem two_boxes (w : World) (F G : Array Value) : ((w.alloc (.cells F 26)).alloc (.cells G 26)).heap[w.heap.size]? = some (.cells F 26 (0, 0)) ∧ ((w.alloc (.cells F 26)).alloc (.cells G 26)).heap[w.heap.size + 1]? = some (.cells G 26 (0, 0)) ∧
    Below w.heap.size w ((w.alloc (.cells F 26)).alloc (.cells G 26)) ∧ ((w.alloc (.cells F 26)).alloc (.cells G 26)).heap.size = w.heap.size + 2 := by
  refine ⟨?_, ?_, ((Below.refl _ w).alloc (Nat.le_refl _) _).alloc (by simp) _, by simp⟩
  · rw [heap_alloc_old _ _ (by simp)]
    exact heap_alloc_new _ _
  · have := heap_alloc_new (w.alloc (.cells F 26)) (.cells G 26)
    rw [show (w.alloc (.cells F 26)).heap.size = w.heap.size + 1 by simp] at this
    exact this

set_option maxHeartbeats 8000000 in
set_option maxRecDepth 100000 in
theorem turned_any (s t : ByteArray) (w : World) (hM : MT w) : Calls Tryz.prog 5 #[.string s, .string t] w fun e w' => e = .returned (.bool true) ∧ Below w.heap.size w w' := by
  by_cases ht : t.size ≤ 40
  · have hti : ¬ ((40 : Int) < (t.size : Int)) := by omega
    have C := meant_any w hM
    have HM : Hid (MT w) := hM
    clear hM
    go_enter Tryz.func5, Tryz.ntmps5
    go_wp2_with fail
    refine C.mono ?_
    rintro e w1 ⟨rfl, hb1⟩
    have HB1 : Hid (Below w.heap.size w w1) := hb1
    have R := right_any s w1 (HM.out.on hb1).1
    clear C hb1
    go_wp2_with fail
    refine R.mono ?_
    rintro e w2 ⟨hr, hb2⟩
    have HB2 : Hid (Below w.heap.size w w2) := HB1.out.trans (hb2.mono HB1.out.size)
    clear R hb2
    rcases hr with ⟨co, cn, cc, ro, rn, rc, el, rfl⟩ | ⟨v, f, rfl, hF, hR, -, -⟩
    · have HB3 : Hid (Below w.heap.size w (w2.alloc (.cells #[.slice co cn cc, .slice ro rn rc, .bool el] 26))) := HB2.out.alloc HB2.out.size _
      go_wp2_with fail
      go_ret
      exact ⟨rfl, HB3.out⟩
    · obtain ⟨co, cn, cc, ro, rn, rc, rfl, hlen⟩ := FAt.agg hF
      have HL : Hid (cn = f.classes.length ∧ rn = f.rules.length) := hlen
      have HF : Hid (FAt (fun _ => True) w2 (.agg #[.slice co cn cc, .slice ro rn rc, .bool f.els]) f) := hF
      have HR : Hid (RightF f) := hR
      obtain ⟨el, hel⟩ : ∃ b, b = f.els := ⟨_, rfl⟩
      have HEL : Hid (el = f.els) := hel
      rw [← hel] at HF ⊢
      clear hF hR hlen hel
      go_wp2_with fail
      obtain ⟨hA0, hG0, hB20, hSZ⟩ := two_boxes w2 #[.slice co cn cc, .slice ro rn rc, .bool el] #[.slice co cn cc, .slice none 0 0, .bool !el]
      generalize (w2.alloc (.cells #[.slice co cn cc, .slice ro rn rc, .bool el] 26)).alloc (.cells #[.slice co cn cc, .slice none 0 0, .bool !el] 26) = W0 at hA0 hG0 hB20 hSZ ⊢
      have HA0 : Hid (W0.heap[w2.heap.size]? = some (.cells #[.slice co cn cc, .slice ro rn rc, .bool el] 26 (0, 0))) := hA0
      have HG0 : Hid (W0.heap[w2.heap.size + 1]? = some (.cells #[.slice co cn cc, .slice none 0 0, .bool !el] 26 (0, 0))) := hG0
      have HB20 : Hid (Below w2.heap.size w2 W0) := hB20
      have HSZ : Hid (W0.heap.size = w2.heap.size + 2) := hSZ
      clear hA0 hG0 hB20 hSZ
      obtain ⟨cv', rv', cvs, rvs, hve, hrc, hrr, hcc, hrs⟩ := HF.out
      injection hve with hve
      obtain ⟨rfl, rfl, -⟩ : Value.slice co cn cc = cv' ∧ Value.slice ro rn rc = rv' ∧ el = f.els := by
        have := congrArg Array.toList hve
        simpa using this
      obtain ⟨ro', rc', e1, hrcap, hrg⟩ := row_cells hrr
      injection e1 with e1 e2 e3
      subst e1 e2 e3
      have HC : Hid (RsAt (fun _ => True) w2 rvs f.rules ∧ (rvs ≠ [] → ∃ g off, ro = some ⟨g, off, none⟩ ∧ g < w2.heap.size ∧ ∀ j u, rvs[j]? = some u → w2.cell? ⟨g, off + j, none⟩ = some u)) := ⟨hrs, hrg⟩
      obtain ⟨n, hn⟩ : ∃ n, n = f.rules.length := ⟨_, rfl⟩
      have HN : Hid (n = f.rules.length) := hn
      rw [← hn] at hrcap HF HA0 ⊢
      have hn20 : n ≤ 20 := by rw [hn]; exact HR.out.1.2.2.2
      clear hrr hcc hrs hrg hve hn hrc HL
      obtain ⟨a, ha⟩ : ∃ a, a = w2.heap.size := ⟨_, rfl⟩
      have HAA : Hid (a = w2.heap.size) := ha
      rw [← ha] at HA0 HG0 ⊢
      clear ha
      go_loopw [8] (fun ix wr => ∃ (k : Nat) (gv : Value), k ≤ n ∧ ix = .int .i64 k ∧ wr.heap[a + 1]? = some (.cells #[.slice co cn cc, gv, .bool !el] 26 (0, 0)) ∧ RsRow (fun b => b < a) (a + 2) wr gv ((f.rules.take k).map turnR) ∧ Below (a + 1) W0 wr) (fun ix _ => n - (intOf ix).toNat)
      case atStart => exact ⟨0, _, Nat.zero_le _, rfl, HG0.out, RsRow.nil _ _ _, Below.refl _ _⟩
      case round =>
        obtain ⟨k, gv, hk, rfl, hg, hrow, hb⟩ := hrel
        have HB : Hid (Below (a + 1) W0 wr) := hb
        have HG : Hid (wr.heap[a + 1]? = some (.cells #[.slice co cn cc, gv, .bool !el] 26 (0, 0))) := hg
        have HRW : Hid (RsRow (fun b => b < a) (a + 2) wr gv ((f.rules.take k).map turnR)) := hrow
        have hfb := (hb.block a (by omega)).trans HA0.out
        have d0 := cell_of_row wr a 0 _ _ _ hfb
        have d1 := cell_of_row wr a 1 _ _ _ hfb
        have d2 := cell_of_row wr a 2 _ _ _ hfb
        have g0 := cell_of_row wr (a + 1) 0 _ _ _ hg
        have g1 := cell_of_row wr (a + 1) 1 _ _ _ hg
        have g2 := cell_of_row wr (a + 1) 2 _ _ _ hg
        by_cases hlt : k < n
        · have hkp : k < f.rules.length := by have := HN.out; omega
          have hb2 : Below w2.heap.size w2 wr := HB20.out.trans (HB.out.mono (by rw [HAA.out]; omega))
          obtain ⟨bv, av, y0, y1, y2, y3, hPB, hPA⟩ := HC.out.1.get k hkp
          obtain ⟨g, off, rfl, hgl, hcell⟩ := HC.out.2 (fun e => by rw [e] at y0; simp at y0)
          have x0 := (hb2.cell (p := ⟨g, off + k * 4, none⟩) (by exact hgl)).trans (hcell _ _ y0)
          have x1 := (hb2.cell (p := ⟨g, off + (k * 4 + 1), none⟩) (by exact hgl)).trans (hcell _ _ y1)
          have x2 := (hb2.cell (p := ⟨g, off + (k * 4 + 2), none⟩) (by exact hgl)).trans (hcell _ _ y2)
          have x3 := (hb2.cell (p := ⟨g, off + (k * 4 + 3), none⟩) (by exact hgl)).trans (hcell _ _ y3)
          rw [← Nat.add_assoc] at x1 x2 x3
          obtain ⟨hfb', hfa⟩ := HR.out.1.2.1 f.rules[k] (List.getElem_mem hkp)
          have HT : Hid ((f.rules.take (k + 1)).map turnR = (f.rules.take k).map turnR ++ [turnR f.rules[k]]) := by show _ = _; rw [List.take_succ_eq_append_getElem hkp, List.map_append]; rfl
          obtain ⟨r, hr⟩ : ∃ r, r = f.rules[k] := ⟨_, rfl⟩
          rw [← hr] at x0 x1 hPB hPA hfb' hfa HT
          obtain ⟨bb, rfl⟩ := hPB.isPtr hfb'
          obtain ⟨ab, rfl⟩ := hPA.isPtr hfa
          have hkn : (k : Int) < n := by omega
          have hgo : ∀ j, gv.ownBlock = some j → a + 2 ≤ j := fun j hj => (hrow.lt j hj).1
          have hba := below_alloc1 wr (.cells #[.int .i64 r.at_, .bool !r.brk, .pointer (some ⟨bb, 0, none⟩), .pointer (some ⟨ab, 0, none⟩)] 50)
          have hold : ∀ {p : RP.Pt} {vs : List Value}, PAt (fun _ => True) w2 vs p → PAt (fun b => b < a ∧ gv.ownBlock ≠ some b) (wr.alloc (.cells #[.int .i64 r.at_, .bool !r.brk, .pointer (some ⟨bb, 0, none⟩), .pointer (some ⟨ab, 0, none⟩)] 50)) vs p := fun hp =>
            PAt.keep (fun b _ hl => (hb2.alloc hb2.size _).block b hl) (PAt.mono (ok' := fun b => b < a ∧ gv.ownBlock ≠ some b) (fun b hl _ => ⟨by have := HAA.out; omega, fun e => by have := hgo b e; have := HAA.out; omega⟩) hp)
          obtain ⟨gv', w5, hr5, hrow5, hb5, ho5⟩ := RsRow.more (w := wr.alloc (.cells #[.int .i64 r.at_, .bool !r.brk, .pointer (some ⟨bb, 0, none⟩), .pointer (some ⟨ab, 0, none⟩)] 50)) 24 (hrow.below hba) (turnR r) (hold hPB) (hold hPA) (by have := hba.size; have := lt_of_block hg; omega) (by simp; omega)
          obtain ⟨ao5, n5, cp5, rfl⟩ : ∃ a n c, gv' = .slice a n c := by
            obtain ⟨a5, c5, e5⟩ := hrow5.slice
            exact ⟨_, _, _, e5⟩
          have m1 := (hba.cell (p := ⟨a + 1, 1, none⟩) (by exact lt_of_block hg)).trans g1
          have hg5 : w5.heap[a + 1]? = some (.cells #[.slice co cn cc, gv, .bool !el] 26 (0, 0)) := (ho5 (a + 1) (by have := hba.size; have := lt_of_block hg; omega) (fun e => by have := hgo _ e; omega)).trans ((hba.block (a + 1) (lt_of_block hg)).trans hg)
          have k1 := cell_of_row w5 (a + 1) 1 _ _ _ hg5
          have f1 := frozen_of_row w5 (a + 1) 1 _ _ hg5
          have HR5 : Hid _ := hr5
          have HG5 : Hid (w5.heap[a + 1]? = some (.cells #[.slice co cn cc, gv, .bool !el] 26 (0, 0))) := hg5
          have HB5 : Hid (Below (a + 1) W0 w5) := (HB.out.trans (hba.mono (Nat.le_of_lt (lt_of_block hg)))).trans (hb5.mono (by omega))
          have HR6 : Hid (RsRow (fun b => b < a) (a + 2) w5 (.slice ao5 n5 cp5) ((f.rules.take (k + 1)).map turnR)) := by show RsRow _ _ _ _ _; rw [HT.out]; exact hrow5
          clear hr5 hrow5 hb5 ho5 hold hgo hba hPB hPA hfa hfb' hcell y0 y1 y2 y3 hr HT hrow hb hg hfb hb2 HRW HG hg5
          have hbx := heap_alloc_new wr (.cells #[.int .i64 r.at_, .bool !r.brk, .pointer (some ⟨bb, 0, none⟩), .pointer (some ⟨ab, 0, none⟩)] 50)
          have q0 := cell_of_row _ _ 0 _ _ _ hbx
          have q1 := cell_of_row _ _ 1 _ _ _ hbx
          have q2 := cell_of_row _ _ 2 _ _ _ hbx
          have q3 := cell_of_row _ _ 3 _ _ _ hbx
          have HR5' : Hid ((Builtin.append_ #[24, 24] 24 #[gv, .slice (some ⟨(wr.alloc (.cells #[.int .i64 r.at_, .bool !r.brk, .pointer (some ⟨bb, 0, none⟩), .pointer (some ⟨ab, 0, none⟩)] 50)).heap.size, 0, none⟩) 1 1]).run Tryz.prog
            ((wr.alloc (.cells #[.int .i64 r.at_, .bool !r.brk, .pointer (some ⟨bb, 0, none⟩), .pointer (some ⟨ab, 0, none⟩)] 50)).alloc (.cells #[.int .i64 r.at_, .bool !r.brk, .pointer (some ⟨bb, 0, none⟩), .pointer (some ⟨ab, 0, none⟩)] 50)) = .ok (.slice ao5 n5 cp5) w5) := HR5.out
          clear HR5 hbx
          go_upto_region 16 with fail
          generalize wr.alloc (.cells #[.int .i64 r.at_, .bool !r.brk, .pointer (some ⟨bb, 0, none⟩), .pointer (some ⟨ab, 0, none⟩)] 50) = wb at HR5' m1 q0 q1 q2 q3 ⊢
          clear x0 x1 x2 x3 d0 d1 d2 g0 g1 g2
          go_wp2_with (at_builtin; refine Lib.wpList_append_run _ rfl _ _ _ _ rfl _ _ rfl rfl _ _ HR5'.out ?_)
          case roundEnd =>
            refine ⟨⟨k + 1, .slice ao5 n5 cp5, by omega, by go_num, heap_setCell_same w5 (a + 1) 1 _ 26 _ HG5.out, ?_, HB5.out.setCell (p := ⟨a + 1, 1, none⟩) (Nat.le_refl _) _⟩, by simp [intOf]; omega⟩
            refine HR6.out.keep (fun b _ hb => heap_setCell_other w5 ⟨a + 1, 1, none⟩ b _ ?_)
            show b ≠ a + 1
            rcases hb with hb | hb
            · have hb : b < a := hb
              omega
            · have := (HR6.out.lt b hb).1
              omega
        · obtain rfl : n = k := by omega
          have hb2 : Below w2.heap.size w2 wr := HB20.out.trans (HB.out.mono (by rw [HAA.out]; omega))
          have hbw : Below w.heap.size w wr := HB2.out.trans (hb2.mono HB2.out.size)
          obtain ⟨go_, gn, gc, rfl⟩ : ∃ x y z, gv = .slice x y z := by
            obtain ⟨x, z, e⟩ := hrow.slice
            exact ⟨_, _, _, e⟩
          have hff : FAt (fun _ => True) wr (.agg #[.slice co cn cc, .slice ro n rc, .bool el]) f := FAt.all HF.out hb2
          have hgf : FAt (fun _ => True) wr (.agg #[.slice co cn cc, .slice go_ gn gc, .bool !el]) (turnF f) := by
            obtain ⟨cv', rv', cvs, rvs', hve, hrc, -, hcc, -⟩ := hff
            obtain ⟨vs, h1, h2⟩ := hrow.row
            rw [HN.out, List.take_length] at h1 h2
            have : Value.slice co cn cc = cv' := by
              injection hve with hve
              have := congrArg Array.toList hve
              simp at this
              exact this.1
            subst this
            exact ⟨_, _, cvs, vs, by rw [HEL.out]; rfl, hrc, h1, hcc, h2⟩
          have HFF : Hid (FAt (fun _ => True) wr (.agg #[.slice co cn cc, .slice ro n rc, .bool el]) f) := hff
          have HGF : Hid (FAt (fun _ => True) wr (.agg #[.slice co cn cc, .slice go_ gn gc, .bool !el]) (turnF f)) := hgf
          have HBW : Hid (Below w.heap.size w wr) := hbw
          have D := decode_un t (by omega) wr (HM.out.on hbw)
          obtain ⟨pts, hpts⟩ : ∃ l, l = ptsOf t.data.toList := ⟨_, rfl⟩
          have HPL : Hid (pts.length ≤ 40) := by
            show _ ≤ _
            rw [hpts]
            have := ptsOf_len t.data.toList
            rw [bytes_len] at this
            omega
          rw [← hpts] at D
          have HFB : Hid (wr.heap[a]? = some (.cells #[.slice co cn cc, .slice ro n rc, .bool el] 26 (0, 0))) := hfb
          clear hff hgf hbw hb2 hpts hrow hg hb hfb HC HF HRW HB20 HA0 HG0
          go_wp2_with fail
          refine D.mono ?_
          rintro e w4 ⟨⟨uv, rfl, hu⟩, hb4⟩
          have HU : Hid (UnAt w4 uv pts) := hu
          obtain ⟨uo, uc, rfl, -, -, -⟩ := hu
          have HB4 : Hid (Below wr.heap.size wr w4) := hb4
          have r1 := (hb4.block a (lt_of_block HFB.out)).trans HFB.out
          have d0 := cell_of_row w4 a 0 _ _ _ r1
          have d1 := cell_of_row w4 a 1 _ _ _ r1
          have d2 := cell_of_row w4 a 2 _ _ _ r1
          obtain ⟨T, hT, hmT, K⟩ := breaks_right f (.agg #[.slice co cn cc, .slice ro n rc, .bool el]) (.slice uo pts.length uc) pts w4 (HM.out.on (HBW.out.trans (hb4.mono HBW.out.size))) (by have := HPL.out; omega) HU.out (FAt.all HFF.out hb4) HR.out
          have HT : Hid (CK.namesL 9 7 f.classes [] = .ok T) := hT
          obtain ⟨m, hm⟩ : ∃ m, m = pts.length := ⟨_, rfl⟩
          have HMM : Hid (m = pts.length ∧ m ≤ 40) := ⟨hm, by rw [hm]; exact HPL.out⟩
          rw [← hm] at HU K ⊢
          clear D hb4 r1 hT hmT hm g0 g1 g2
          go_wp2_with fail
          refine K.mono ?_
          rintro e w5 ⟨⟨av, rfl, ha⟩, hb5⟩
          have HAV : Hid (IntsAt w5.heap.size w5 av (breaksOf (sayS T pts f) m)) := ha
          have HB5 : Hid (Below wr.heap.size wr w5) := HB4.out.trans (hb5.mono HB4.out.size)
          have r1 := (HB5.out.block (a + 1) (lt_of_block HG.out)).trans HG.out
          have g0 := cell_of_row w5 (a + 1) 0 _ _ _ r1
          have g1 := cell_of_row w5 (a + 1) 1 _ _ _ r1
          have g2 := cell_of_row w5 (a + 1) 2 _ _ _ r1
          obtain ⟨T', hT', -, K2⟩ := breaks_right (turnF f) (.agg #[.slice co cn cc, .slice go_ gn gc, .bool !el]) (.slice uo m uc) pts w5 (HM.out.on (HBW.out.trans (HB5.out.mono HBW.out.size))) (by have := HPL.out; omega) (HU.out.below hb5) (FAt.all HGF.out HB5.out) (right_turn HR.out)
          obtain rfl : T' = T := by
            have e : CK.namesL 9 7 f.classes [] = .ok T' := hT'
            rw [HT.out] at e
            cases e
            rfl
          rw [← HMM.out.1] at K2
          clear K ha hb5 r1 hT' d0 d1 d2
          go_wp2_with fail
          refine K2.mono ?_
          rintro e w6 ⟨⟨bv, rfl, hbv⟩, hb6⟩
          have HBV : Hid (IntsAt w6.heap.size w6 av (breaksOf (sayS T' pts f) m) ∧ IntsAt w6.heap.size w6 bv (breaksOf (sayS T' pts (turnF f)) m)) := ⟨HAV.out.below hb6 _ hb6.size, hbv⟩
          have HB6 : Hid (Below w.heap.size w w6) := HBW.out.trans ((HB5.out.trans (hb6.mono HB5.out.size)).mono HBW.out.size)
          clear K2 hbv hb6 g0 g1 g2
          go_wp2_with fail
          have HSAY : Hid (∀ i, sayS T' pts (turnF f) i = !(sayS T' pts f i)) := fun i => say_turn T' pts f i
          have HBL : Hid (∀ q, (breaksOf q m).length ≤ 1000) := fun q => by
            have := insides_len q m
            have := HMM.out.2
            unfold breaksOf
            split
            · simp
            · simp; omega
          go_loopw [15] (fun ix wl => wl = w6 ∧ ∃ k : Nat, ix = .int .i64 k ∧ 1 ≤ k) (fun ix _ => m - (intOf ix).toNat)
          case atStart => exact ⟨rfl, 1, rfl, Nat.le_refl _⟩
          case round =>
            obtain ⟨hwl, k, rfl, hk1⟩ := hrel
            subst hwl
            have hm40 : m ≤ 40 := HMM.out.2
            by_cases hlt : k < m
            · have C1 := contains_any av (breaksOf (sayS T' pts f) m) _ (k : Int) (by have := HBL.out (sayS T' pts f); omega) _ HBV.out.1
              have C2 := contains_any bv (breaksOf (sayS T' pts (turnF f)) m) _ (k : Int) (by have := HBL.out (sayS T' pts (turnF f)); omega) _ HBV.out.2
              rw [mem_breaks _ m k hk1 hlt] at C1 C2
              rw [HSAY.out k] at C2
              generalize sayS T' pts f k = q at C1 C2
              have hkm : (k : Int) < (m : Int) := by omega
              go_wp2_with fail
              refine C1.mono ?_
              rintro e w7 ⟨rfl, rfl⟩
              go_wp2_with fail
              refine C2.mono ?_
              rintro e w8 ⟨rfl, rfl⟩
              clear C1 C2
              cases q with
              | true =>
                go_wp2_with fail
                case roundEnd => exact ⟨⟨trivial, k + 1, by go_num, by omega⟩, by simp [intOf]; omega⟩
              | false =>
                go_wp2_with fail
                case roundEnd => exact ⟨⟨trivial, k + 1, by go_num, by omega⟩, by simp [intOf]; omega⟩
            · have hkm : ¬ ((k : Int) < (m : Int)) := by omega
              go_wp2_with fail
              go_ret
              exact ⟨rfl, HB6.out⟩
  · have hti : (40 : Int) < (t.size : Int) := by omega
    clear ht
    go_enter Tryz.func5, Tryz.ntmps5
    go_wp2_with fail
    go_ret
    exact ⟨rfl, Below.refl _ _⟩

end Go.Proofs.YtjbdlihlcoldlaaGreatDoor.M
