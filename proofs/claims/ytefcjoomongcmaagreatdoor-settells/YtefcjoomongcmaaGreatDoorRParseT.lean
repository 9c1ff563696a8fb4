/- The document's ParseSet, at what a right set is written as. -/
import Derived.Test.YtefcjoomongcmaaGreatDoorRParseN
namespace Go.Proofs.YtefcjoomongcmaaGreatDoor
open Go.RowKit Go.Shelf

set_option maxHeartbeats 2000000 in
set_option maxRecDepth 100000 in
theorem pset_text (X : List RS.Rg) (hX : RS.right X = true) (s : ByteArray) (he : s = bytesOf (RS.setText X)) (hs : s.size ≤ 300) (w : World) (hE : EV w) (hM : ML w) (hT : TZ w) (hB : TB w) (h8 : 11 < w.heap.size) :
    Calls Tryz.prog 19 #[.string s] w fun e w' => (∃ v, e = .returned (.tuple #[v, .int .i64 0]) ∧ w'.ownsRow w.heap.size 42 2 v X.length (flat2 X)) ∧ Below w.heap.size w w' := by
  obtain ⟨i0, hi, hz0, hz1, hz2⟩ := info_parts info53
  have HX : Hid (RS.right X = true) := hX
  have HXB : Hid (∀ k (h : k < X.length), 0 ≤ X[k].1 ∧ X[k].1 ≤ X[k].2 ∧ X[k].2 ≤ 1114111) := fun k h => by have := right_get (a := -2) hX k h; omega
  have HSE : Hid (s = bytesOf (RS.setText X)) := he
  have hwt := words_text X
  rw [← he] at hwt
  clear he hX
  have htl := trimS_len s.data.toList [91, 93]
  have hsl : s.data.toList.length = s.size := rfl
  obtain ⟨u, hu⟩ : ∃ u : ByteArray, u = ⟨(Lib.trimS s.data.toList [91, 93]).toArray⟩ := ⟨_, rfl⟩
  have hul : u.data.toList = Lib.trimS s.data.toList [91, 93] := by rw [hu]
  have hus : u.data.toList.length ≤ 300 := by rw [hul]; omega
  have hus' : u.size ≤ 300 := hus
  have hTr := trim_any s (by omega) w
  rw [← hu] at hTr
  rw [← hul] at hwt
  clear hu hul htl hsl
  have hfl := fieldsD_len u.data.toList
  obtain ⟨ws, hws⟩ : ∃ ws, ws = Lib.fieldsD u.data.toList := ⟨_, rfl⟩
  have hF := fun (W : World) (hB : TB W) => fields_any u (by omega) W hB
  rw [← hws] at hfl hwt
  simp only [← hws] at hF
  clear hws
  have HW : Hid (∀ x ∈ ws, x.length ≤ 300) := fun x hx => Nat.le_trans (hfl.1 x hx) hus
  have hwn : ws.length ≤ 301 := Nat.le_trans hfl.2 (by omega)
  have hwl : ws.length = X.length := by rw [hwt]; simp
  have HWT : Hid (∀ k (h : k < X.length) (h' : k < ws.length), (⟨ws[k].toArray⟩ : ByteArray) = bytesOf (RS.rgText X[k])) := by
    intro k h h'
    have e : ws[k] = (RS.rgText X[k]).map UInt8.ofNat := by
      have e1 : ws[k]? = some ((RS.rgText X[k]).map UInt8.ofNat) := by rw [hwt, List.getElem?_map, List.getElem?_eq_getElem h]; rfl
      rw [List.getElem?_eq_getElem h'] at e1
      exact Option.some.inj e1
    rw [e]
    rfl
  have HWL : Hid (ws.length = X.length) := hwl
  clear hwt hwl
  clear hfl hus
  go_enter Tryz.func19, Tryz.ntmps19
  go_wp2_with fail
  refine hTr.mono ?_
  rintro e w1 ⟨rfl, hb1⟩
  clear hTr
  have hF1 := hF w1 (hB.below hb1)
  clear hF
  go_wp2_with fail
  refine hF1.mono ?_
  rintro e w2 ⟨A, rfl, hA, hown, hb2⟩
  have hb02 : Below w.heap.size w w2 := hb1.trans (hb2.mono hb1.size)
  obtain ⟨hAl, hcw⟩ := strings_cells hown
  have HCW : Hid (∀ k (h : k < ws.length), w2.cell? ⟨A, k, none⟩ = some (.string ⟨ws[k].toArray⟩)) := hcw
  have HE : Hid (EV w2 ∧ ML w2 ∧ TZ w2) := ⟨hE.below hb02 h8, hM.below hb02 h8, hT.below hb02 h8⟩
  have hs02 := hb02.size
  clear hcw hown hb1 hb2 hF1 hE hM hT hB hA
  go_wp2
  go_loopw [4, 16] (fun l i wr => ∃ (k : Nat) (acc : List RS.Rg), k ≤ ws.length ∧ i = .int .i64 k ∧ acc.length ≤ k ∧ acc = X.take k ∧ wr.ownsRow w2.heap.size 42 2 l acc.length (flat2 acc) ∧ Below w2.heap.size w2 wr) (fun _ i _ => ws.length - (intOf i).toNat)
  case atStart => exact ⟨0, [], Nat.zero_le _, rfl, Nat.le_refl _, by simp, World.ownsRow_nil _ _ _ _, Below.refl _ _⟩
  case round =>
    obtain ⟨k, acc, hk, rfl, hal, hacc, hown, hnx⟩ := hrel
    have HACC : Hid (acc = X.take k) := hacc
    clear hacc
    have hsnx := hnx.size
    have HEW : Hid (EV wr ∧ ML wr ∧ TZ wr) := ⟨HE.out.1.below hnx (by omega), HE.out.2.1.below hnx (by omega), HE.out.2.2.below hnx (by omega)⟩
    by_cases hlt : k < ws.length
    · have x0 := (hnx.cell (p := ⟨A, k, none⟩) (by exact hAl)).trans (HCW.out k hlt)
      have hxl := HW.out ws[k] (List.getElem_mem hlt)
      obtain ⟨t, ht⟩ : ∃ t : ByteArray, t = ⟨ws[k].toArray⟩ := ⟨_, rfl⟩
      have hts : t.size ≤ 300 := by rw [ht]; show ws[k].toArray.size ≤ 300; rw [List.size_toArray]; exact hxl
      rw [← ht] at x0
      have hkx : k < X.length := by rw [← HWL.out]; exact hlt
      have hte := HWT.out k hkx hlt
      rw [← ht] at hte
      have hxb := HXB.out k hkx
      have HTK : Hid (X.take (k + 1) = X.take k ++ [X[k]]) := List.take_succ_eq_append_getElem hkx
      generalize X[k] = r at hte hxb HTK
      obtain ⟨lo, hi'⟩ := r
      dsimp only at hxb
      obtain ⟨p, rfl⟩ := Int.eq_ofNat_of_zero_le hxb.1
      obtain ⟨q, rfl⟩ := Int.eq_ofNat_of_zero_le (show 0 ≤ hi' by omega)
      have hpq : p ≤ q ∧ q ≤ 1114111 := by omega
      have HTE : Hid (t = bytesOf (RS.rgText ((p : Int), (q : Int)))) := hte
      clear hte hxb
      clear ht hxl
      have hSp := split_word t (by omega) wr HEW.out.2.1
      have h45 : (⟨#[45]⟩ : ByteArray).size = 1 := rfl
      go_wp2_with fail
      refine hSp.mono ?_
      rintro e w3 ⟨n, c, f, g, rfl, hn2, hn3, hfs, hgs, cf, cg, hfg, hsz3, hb3⟩
      have hE3 := HEW.out.1.below hb3 (by omega)
      have hB3 : Below w2.heap.size w2 w3 := hnx.trans (hb3.mono hsnx)
      have hown3 := owns_later hown hb3
      have h0n : (0 : Int) < (n : Int) := by omega
      have h1n : (1 : Int) < (n : Int) := by omega
      obtain ⟨hfe, hge⟩ := hfg _ HTE.out
      clear hb3 hSp x0 hown hnx hfg
      have hq1 := qj_hex p (by omega) w3
      have hq2 := fun W => qj_hex q (by omega) W
      rw [show RS.hex p = RS.hex ((p : Int), (q : Int)).1.toNat from rfl, ← hfe] at hq1
      rw [show RS.hex q = RS.hex ((p : Int), (q : Int)).2.toNat from rfl, ← hge] at hq2
      clear hfe hge
      go_wp2_with fail
      refine hq1.mono ?_
      rintro e w4 ⟨rfl, hb4⟩
      have cg4 := (hb4.cell (p := ⟨wr.heap.size, 1, none⟩) (by exact hsz3)).trans cg
      have hB4 : Below w2.heap.size w2 w4 := hB3.trans (hb4.mono hB3.size)
      have hown4 := owns_later hown3 hb4
      clear hb4 cg cf hq1 hown3 hB3 hE3
      go_wp2_with fail
      refine (hq2 w4).mono ?_
      rintro e w5 ⟨rfl, hb5⟩
      have hB5 : Below w2.heap.size w2 w5 := hB4.trans (hb5.mono hB4.size)
      have hown5 := owns_later hown4 hb5
      have hs5 := hB5.size
      clear hb5 hq2 hown4 hB4 cg4
      go_wp2_with (at_builtin; refine wpList_append_own _ rfl _ _ 24 rfl w2.heap.size 42 i0 (.agg #[.int .i64 0, .int .i64 0]) 2 16 Tryz.underlying24 hi hz0 hz1 hz2 rfl (by decide) _ _ _ rfl (hown5.alloc _) ⟨w5.heap.size, 0, none⟩ 1 1 (cells2 ((p : Int), (q : Int))) rfl rfl (cells2_at (by simp) (by simp)) (cells2_one _) ?_ ?_ ?_ ?_)
      rotate_right
      · intro v' w6 hown' hgrow _
        have R := app53 (r := ((p : Int), (q : Int))) (hB5.alloc hs5 _) (by simp; omega) (hown5.alloc _) hown' hgrow
        have R2 : Hid _ := R
        clear R hown' hgrow hown5
        go_wp2
        go_roundw
        case rel => exact ⟨k + 1, acc ++ [((p : Int), (q : Int))], by omega, by go_num, by simp; omega, by rw [HTK.out, HACC.out], R2.out.1, R2.out.2.1⟩
        case measure => simp [intOf]; omega
      · unfold maxLen; omega
      · omega
      · simp; omega
    · have hke : acc = X := by rw [HACC.out, List.take_of_length_le (by rw [← HWL.out]; omega)]
      subst hke
      have hrg := rg_of_own hown
      have hR := rright_any _ acc (by omega) wr hrg
      rw [HX.out] at hR
      have hXX := fun (W : World) (v : Value) (hT : TZ W) (h8 : 11 < W.heap.size) (hv : RgAt W.heap.size W v acc) => rtext_any v acc (by omega) HX.out W hT h8 hv
      simp only [← HSE.out] at hXX
      have hself := toList_self s
      have HRG : Hid _ := hrg
      have HOWN : Hid (wr.ownsRow w2.heap.size 42 2 _ acc.length (flat2 acc)) := hown
      clear hrg hown
      go_wp2_with fail
      refine hR.mono ?_
      rintro e w3 ⟨rfl, hb3⟩
      have hB3 : Below w2.heap.size w2 w3 := hnx.trans (hb3.mono hsnx)
      have hX3 := hXX w3 _ (HEW.out.2.2.below hb3 (by omega)) (by have := hb3.size; omega) (RgAt.below HRG.out hb3 _ hb3.size)
      have HO3 : Hid (w3.ownsRow w2.heap.size 42 2 _ acc.length (flat2 acc)) := owns_later HOWN.out hb3
      clear hR hb3 hXX
      go_wp2_with fail
      refine hX3.mono ?_
      rintro e w4 ⟨rfl, hb4⟩
      have hB4 : Below w2.heap.size w2 w4 := hB3.trans (hb4.mono hB3.size)
      have HO4 : Hid (w4.ownsRow w2.heap.size 42 2 _ acc.length (flat2 acc)) := owns_later HO3.out hb4
      clear hb4 hX3
      go_wp2_with fail
      go_ret2
      exact ⟨⟨_, rfl, owns_mono HO4.out hs02⟩, hb02.trans (hB4.mono hs02)⟩

end Go.Proofs.YtefcjoomongcmaaGreatDoor
