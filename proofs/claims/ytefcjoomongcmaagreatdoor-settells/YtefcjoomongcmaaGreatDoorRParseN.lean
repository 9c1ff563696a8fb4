/- The document's ParseSet: the walks. -/
import Derived.Test.YtefcjoomongcmaaGreatDoorRParse
namespace Go.Proofs.YtefcjoomongcmaaGreatDoor
open Go.RowKit Go.Shelf

theorem strings_cells {w : World} {B A : Nat} {ws : List (List UInt8)} (h : w.ownsRow B 9 1 (.slice (some ⟨A, 0, none⟩) ws.length ws.length) ws.length (ws.map fun x => Value.string ⟨x.toArray⟩)) :
    A < w.heap.size ∧ ∀ k (h : k < ws.length), w.cell? ⟨A, k, none⟩ = some (.string ⟨ws[k].toArray⟩) := by
  refine ⟨(h.lt A rfl).2, fun k hk => ?_⟩
  have c := h.cells (g := A) rfl k (.string ⟨ws[k].toArray⟩) (by rw [List.getElem?_map, List.getElem?_eq_getElem hk]; rfl)
  simp only [Addr.add_lit, Nat.zero_add] at c
  exact c

theorem fieldsD_len (l : List UInt8) : (∀ x ∈ Lib.fieldsD l, x.length ≤ l.length) ∧ (Lib.fieldsD l).length ≤ l.length + 1 := by
  have := fieldsGoD_len (l.length + 1) [] l
  refine ⟨fun x hx => ?_, this.2⟩
  have h := this.1 x hx
  simp at h
  exact h

theorem toList_ne {a b : ByteArray} (h : a ≠ b) : (a.toList == b.toList) = false := by
  rw [beq_eq_false_iff_ne]
  intro e
  apply h
  rw [Lib.toList_data, Lib.toList_data] at e
  apply ByteArray.ext
  exact Array.ext' e

theorem toList_self (a : ByteArray) : (a.toList == a.toList) = true := by simp

set_option maxHeartbeats 2000000 in
set_option maxRecDepth 100000 in
theorem pset_no (s : ByteArray) (hs : s.size ≤ 300) (w : World) (hE : EV w) (hM : ML w) (hT : TZ w) (hB : TB w) (h8 : 11 < w.heap.size) (hno : ∀ X, RS.right X = true → bytesOf (RS.setText X) ≠ s) :
    Calls Tryz.prog 19 #[.string s] w fun e w' => e = .returned (.tuple #[.slice none 0 0, .int .i64 3]) ∧ Below w.heap.size w w' := by
  obtain ⟨i0, hi, hz0, hz1, hz2⟩ := info_parts info53
  have HNO : Hid (∀ X, RS.right X = true → bytesOf (RS.setText X) ≠ s) := hno
  clear hno
  have htl := trimS_len s.data.toList [91, 93]
  have hsl : s.data.toList.length = s.size := rfl
  obtain ⟨u, hu⟩ : ∃ u : ByteArray, u = ⟨(Lib.trimS s.data.toList [91, 93]).toArray⟩ := ⟨_, rfl⟩
  have hul : u.data.toList = Lib.trimS s.data.toList [91, 93] := by rw [hu]
  have hus : u.data.toList.length ≤ 300 := by rw [hul]; omega
  have hus' : u.size ≤ 300 := hus
  have hTr := trim_any s (by omega) w
  rw [← hu] at hTr
  clear hu hul htl hsl
  have hfl := fieldsD_len u.data.toList
  obtain ⟨ws, hws⟩ : ∃ ws, ws = Lib.fieldsD u.data.toList := ⟨_, rfl⟩
  have hF := fun (W : World) (hB : TB W) => fields_any u (by omega) W hB
  rw [← hws] at hfl
  simp only [← hws] at hF
  clear hws
  have HW : Hid (∀ x ∈ ws, x.length ≤ 300) := fun x hx => Nat.le_trans (hfl.1 x hx) hus
  have hwn : ws.length ≤ 301 := Nat.le_trans hfl.2 (by omega)
  clear hfl hus
  go_enter Tryz.func19, Tryz.ntmps19
  go_wp2_with fail
  refine hTr.mono ?_
  rintro e w1 ⟨rfl, hb1⟩
  clear hTr
  have hF1 := hF w1 (hB.below hb1)
  clear hF
  go_wp2_with fail
  refine hF1.mono ?_
  rintro e w2 ⟨A, rfl, hA, hown, hb2⟩
  have hb02 : Below w.heap.size w w2 := hb1.trans (hb2.mono hb1.size)
  obtain ⟨hAl, hcw⟩ := strings_cells hown
  have HCW : Hid (∀ k (h : k < ws.length), w2.cell? ⟨A, k, none⟩ = some (.string ⟨ws[k].toArray⟩)) := hcw
  have HE : Hid (EV w2 ∧ ML w2 ∧ TZ w2) := ⟨hE.below hb02 h8, hM.below hb02 h8, hT.below hb02 h8⟩
  have hs02 := hb02.size
  clear hcw hown hb1 hb2 hF1 hE hM hT hB hA
  go_wp2
  go_loopw [4, 16] (fun l i wr => ∃ (k : Nat) (acc : List RS.Rg), k ≤ ws.length ∧ i = .int .i64 k ∧ acc.length ≤ k ∧ wr.ownsRow w2.heap.size 42 2 l acc.length (flat2 acc) ∧ Below w2.heap.size w2 wr) (fun _ i _ => ws.length - (intOf i).toNat)
  case atStart => exact ⟨0, [], Nat.zero_le _, rfl, Nat.le_refl _, World.ownsRow_nil _ _ _ _, Below.refl _ _⟩
  case round =>
    obtain ⟨k, acc, hk, rfl, hal, hown, hnx⟩ := hrel
    have hsnx := hnx.size
    have HEW : Hid (EV wr ∧ ML wr ∧ TZ wr) := ⟨HE.out.1.below hnx (by omega), HE.out.2.1.below hnx (by omega), HE.out.2.2.below hnx (by omega)⟩
    by_cases hlt : k < ws.length
    · have x0 := (hnx.cell (p := ⟨A, k, none⟩) (by exact hAl)).trans (HCW.out k hlt)
      have hxl := HW.out ws[k] (List.getElem_mem hlt)
      obtain ⟨t, ht⟩ : ∃ t : ByteArray, t = ⟨ws[k].toArray⟩ := ⟨_, rfl⟩
      have hts : t.size ≤ 300 := by rw [ht]; show ws[k].toArray.size ≤ 300; rw [List.size_toArray]; exact hxl
      rw [← ht] at x0
      clear ht hxl
      have hSp := split_word t (by omega) wr HEW.out.2.1
      have h45 : (⟨#[45]⟩ : ByteArray).size = 1 := rfl
      go_wp2_with fail
      refine hSp.mono ?_
      rintro e w3 ⟨n, c, f, g, rfl, hn2, hn3, hfs, hgs, cf, cg, hfg, hsz3, hb3⟩
      have hE3 := HEW.out.1.below hb3 (by omega)
      have hB3 : Below w2.heap.size w2 w3 := hnx.trans (hb3.mono hsnx)
      have hown3 := owns_later hown hb3
      have h0n : (0 : Int) < (n : Int) := by omega
      have h1n : (1 : Int) < (n : Int) := by omega
      clear hb3 hSp x0 hown hnx hfg
      have hq1 := qj_all f (by omega) w3 hE3 (by omega)
      go_wp2_with fail
      refine hq1.mono ?_
      rintro e w4 ⟨⟨g1, n1, hok1, hn11, hn12⟩, hb4⟩
      have cg4 := (hb4.cell (p := ⟨wr.heap.size, 1, none⟩) (by exact hsz3)).trans cg
      have hq2 := qj_all g (by omega) w4 (hE3.below hb4 (by omega)) (by have := hb4.size; omega)
      have hB4 : Below w2.heap.size w2 w4 := hB3.trans (hb4.mono hB3.size)
      have hown4 := owns_later hown3 hb4
      clear hb4 cg cf hq1 hown3 hB3 hE3
      rcases hok1 with ⟨rfl, rfl⟩ | ⟨rfl, m1, t1, p1, rfl⟩
      · go_wp2_with fail
        refine hq2.mono ?_
        rintro e w5 ⟨⟨g2, n2, hok2, hn21, hn22⟩, hb5⟩
        have hB5 : Below w2.heap.size w2 w5 := hB4.trans (hb5.mono hB4.size)
        have hown5 := owns_later hown4 hb5
        have hs5 := hB5.size
        clear hb5 hq2 hown4 hB4 cg4
        rcases hok2 with ⟨rfl, rfl⟩ | ⟨rfl, m2, t2, p2, rfl⟩
        · go_wp2_with (at_builtin; refine wpList_append_own _ rfl _ _ 24 rfl w2.heap.size 42 i0 (.agg #[.int .i64 0, .int .i64 0]) 2 16 Tryz.underlying24 hi hz0 hz1 hz2 rfl (by decide) _ _ _ rfl (hown5.alloc _) ⟨w5.heap.size, 0, none⟩ 1 1 (cells2 (n1, n2)) rfl rfl (cells2_at (by simp) (by simp)) (cells2_one _) ?_ ?_ ?_ ?_)
          rotate_right
          · intro v' w6 hown' hgrow _
            have R := app53 (r := (n1, n2)) (hB5.alloc hs5 _) (by simp; omega) (hown5.alloc _) hown' hgrow
            have R2 : Hid _ := R
            clear R hown' hgrow hown5
            go_wp2
            go_roundw
            case rel => exact ⟨k + 1, acc ++ [(n1, n2)], by omega, by go_num, by simp; omega, R2.out.1, R2.out.2.1⟩
            case measure => simp [intOf]; omega
          · unfold maxLen; omega
          · omega
          · simp; omega
        · go_wp2_with fail
          go_ret2
          exact ⟨rfl, hb02.trans (hB5.mono hs02)⟩
      · go_wp2_with fail
        refine hq2.mono ?_
        rintro e w5 ⟨⟨g2, n2, hok2, hn21, hn22⟩, hb5⟩
        have hB5 : Below w2.heap.size w2 w5 := hB4.trans (hb5.mono hB4.size)
        clear hb5 hq2 hown4 hB4 cg4
        rcases hok2 with ⟨rfl, rfl⟩ | ⟨rfl, m2, t2, p2, rfl⟩
        · go_wp2_with fail
          go_ret2
          exact ⟨rfl, hb02.trans (hB5.mono hs02)⟩
        · go_wp2_with fail
          go_ret2
          exact ⟨rfl, hb02.trans (hB5.mono hs02)⟩
    · have hrg := rg_of_own hown
      cases hra : RS.right acc
      · have hR := rright_any _ acc (by omega) wr hrg
        rw [hra] at hR
        clear hra hrg hown
        go_wp2_with fail
        refine hR.mono ?_
        rintro e w3 ⟨rfl, hb3⟩
        have hB3 : Below w2.heap.size w2 w3 := hnx.trans (hb3.mono hsnx)
        clear hR hb3
        go_wp2_with fail
        go_ret2
        exact ⟨rfl, hb02.trans (hB3.mono hs02)⟩
      · have hR := rright_any _ acc (by omega) wr hrg
        rw [hra] at hR
        obtain ⟨T, hTe⟩ : ∃ T, T = bytesOf (RS.setText acc) := ⟨_, rfl⟩
        have hne : (T.toList == s.toList) = false := toList_ne (by rw [hTe]; exact HNO.out acc hra)
        have hX := fun (W : World) (v : Value) (hT : TZ W) (h8 : 11 < W.heap.size) (hv : RgAt W.heap.size W v acc) => rtext_any v acc (by omega) hra W hT h8 hv
        simp only [← hTe] at hX
        have HRG : Hid _ := hrg
        clear hra hown hTe hrg
        go_wp2_with fail
        refine hR.mono ?_
        rintro e w3 ⟨rfl, hb3⟩
        have hB3 : Below w2.heap.size w2 w3 := hnx.trans (hb3.mono hsnx)
        have hX3 := hX w3 _ (HEW.out.2.2.below hb3 (by omega)) (by have := hb3.size; omega) (RgAt.below HRG.out hb3 _ hb3.size)
        clear hR hb3 hX
        go_wp2_with fail
        refine hX3.mono ?_
        rintro e w4 ⟨rfl, hb4⟩
        have hB4 : Below w2.heap.size w2 w4 := hB3.trans (hb4.mono hB3.size)
        clear hb4 hX3
        go_wp2_with fail
        go_ret2
        exact ⟨rfl, hb02.trans (hB4.mono hs02)⟩

end Go.Proofs.YtefcjoomongcmaaGreatDoor
