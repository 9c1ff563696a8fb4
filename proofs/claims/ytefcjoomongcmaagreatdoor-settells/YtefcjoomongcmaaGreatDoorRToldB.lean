/- The document's told: the walk. -/
import Derived.Test.YtefcjoomongcmaaGreatDoorRToldA
namespace Go.Proofs.YtefcjoomongcmaaGreatDoor
open Go.RowKit

theorem ints_cells {w : World} {B : Nat} {v : Value} {d : List Int} (h : w.ownsRow B 3 1 v d.length (d.map intV)) (hd : d ≠ []) :
    ∃ (g cap : Nat), v = .slice (some ⟨g, 0, none⟩) d.length cap ∧ B ≤ g ∧ g < w.heap.size ∧ ∀ k (h : k < d.length), w.cell? ⟨g, k, none⟩ = some (.int .i64 d[k]) := by
  have hk := h
  obtain ⟨h1, h2 | ⟨g, cap, cur, rfl, hg, hh, hn, hc, hs, ht⟩⟩ := h
  · exact absurd (List.length_eq_zero_iff.1 h2.2) hd
  · refine ⟨g, cap, rfl, hg, lt_of_block hh, fun k hkl => ?_⟩
    have c := hk.cells (g := g) rfl k (intV d[k]) (by rw [List.getElem?_map, List.getElem?_eq_getElem hkl]; rfl)
    simp only [Addr.add_lit, Nat.zero_add] at c
    exact c

theorem step_append_own {P : Program} {ops : Array Oper} {o : Oper} {a : Act} {w : World} {K : Act → World → Prop} {Q : Exit → Act → World → Prop} {E : Prop}
    (hg : o.guard = none) (s x : Operand) (t : TypeId) (hop : o.op = Op.call { callee := Callee.builtin Builtin.append, args := #[s, x], argTypes := #[t, t] })
    (base : Nat) (e : TypeId) (i : TypeInfo) (z : Value) (size bytes : Nat) (h1 : P.underlying t = some (.slice e)) (h2 : P.info? e = some i) (h3 : i.zero = some z) (h4 : i.size = size) (h5 : i.bytes = bytes) (h6 : z.cells.size = size) (h7 : 0 < size)
    (v : Value) (n : Nat) (xs : List Value) (hs : a.eval s = v) (hown : w.ownsRow base e size v n xs)
    (ad : Addr) (m c : Nat) (news : List Value) (hx : a.eval x = .slice (some ad) m c) (hn : news.length = m * size) (hc : ∀ j u, news[j]? = some u → w.cell? (ad.add j) = some u) (h1c : ∀ u ∈ news, u.oneCell' = true)
    (b1 : n + m ≤ maxLen) (b2 : (n + m) * bytes ≤ 140737488355328) (hb : base ≤ w.heap.size)
    (hK : ∀ v' w', w'.ownsRow base e size v' (n + m) (xs ++ news) → w.grownBy w' v.ownBlock → K (a.put o.dst v') w') :
    if Region.wanted o (yielded ops a.tmps) = true then Oper.wp P o a w K Q else E := by
  have hw : Region.wanted o (yielded ops a.tmps) = true := by simp [Region.wanted, hg]
  rw [if_pos hw]
  obtain ⟨v', w', hrun, r1, r2, _⟩ := run_append_own (P := P) w base t o.type e i z size bytes h1 h2 h3 h4 h5 h6 h7 v n xs hown ad m c news hn hc h1c b1 b2 hb
  unfold Oper.wp
  simp [execOp, hop, resolve, invoke, builtin, hs, hx, hrun, Result.andThen]
  exact hK v' w' r1 r2

theorem held_keep {g k : Nat} {a b : Int} {w2 W W' : World} (hgl : g < w2.heap.size) (hb : Below W.heap.size W W')
    (h : W.cell? ⟨g, k, none⟩ = some (.int .i64 a) ∧ W.cell? ⟨g, k + 1, none⟩ = some (.int .i64 b) ∧ Below w2.heap.size w2 W) :
    W'.cell? ⟨g, k, none⟩ = some (.int .i64 a) ∧ W'.cell? ⟨g, k + 1, none⟩ = some (.int .i64 b) ∧ Below w2.heap.size w2 W' := by
  have := h.2.2.size
  exact ⟨(hb.cell (p := ⟨g, k, none⟩) (by show g < _; omega)).trans h.1, (hb.cell (p := ⟨g, k + 1, none⟩) (by show g < _; omega)).trans h.2.1, h.2.2.trans (hb.mono this)⟩

theorem held_b {g k : Nat} {a b : Int} {w2 W : World} (h : W.cell? ⟨g, k, none⟩ = some (.int .i64 a) ∧ W.cell? ⟨g, k + 1, none⟩ = some (.int .i64 b) ∧ Below w2.heap.size w2 W) : Below w2.heap.size w2 W := h.2.2

theorem held2_alloc {g k : Nat} {a b : Int} {w2 W : World} {o : Obj} (hgl : g < w2.heap.size) (h : W.cell? ⟨g, k, none⟩ = some (.int .i64 a) ∧ W.cell? ⟨g, k + 1, none⟩ = some (.int .i64 b) ∧ Below w2.heap.size w2 W) :
    (W.alloc o).cell? ⟨g, k, none⟩ = some (.int .i64 a) ∧ (W.alloc o).cell? ⟨g, k + 1, none⟩ = some (.int .i64 b) ∧ Below w2.heap.size w2 (W.alloc o) :=
  held_keep hgl ((Below.refl _ W).alloc (Nat.le_refl _) o) h

theorem held2_grown {g k : Nat} {a b : Int} {w2 W W' : World} {row : Option Nat} (hgl : g < w2.heap.size) (hg : W.grownBy W' row) (hr : ∀ j, row = some j → w2.heap.size ≤ j) (h : W.cell? ⟨g, k, none⟩ = some (.int .i64 a) ∧ W.cell? ⟨g, k + 1, none⟩ = some (.int .i64 b) ∧ Below w2.heap.size w2 W) :
    W'.cell? ⟨g, k, none⟩ = some (.int .i64 a) ∧ W'.cell? ⟨g, k + 1, none⟩ = some (.int .i64 b) ∧ Below w2.heap.size w2 W' := by
  have hs := h.2.2.size
  have hb := hg.block g (by omega) (fun e => by have := hr g e.symm; omega)
  exact ⟨(World.cell?_of_block (w := W) (w' := W') (a := ⟨g, k, none⟩) hb).trans h.1, (World.cell?_of_block (w := W) (w' := W') (a := ⟨g, k + 1, none⟩) hb).trans h.2.1, h.2.2.grown hg hs hr⟩

set_option maxHeartbeats 2000000 in
set_option maxRecDepth 100000 in
theorem told_any (gf : Nat) (lb : Array Value) (eg : ∀ args w, (callFunc gf args).run Tryz.prog w = .ok (.enter gf args) w) (f : Int → Bool) (bl cap : Nat) (ls : List (List RS.Rg)) (hne : 1 ≤ ls.length) (hls : ls.length ≤ 2) (htot : tot ls ≤ 1000) (w : World) (hbl : bl < w.heap.size)
    (hl : ∀ k (h : k < ls.length), ∃ v, w.cell? ⟨bl, k, none⟩ = some v ∧ RgAt w.heap.size w v ls[k]) (hT : Tells gf lb f w)
    (hf : ∀ p, 0 < p → p ≤ 1114111 → f p ≠ f (p - 1) → ∃ s ∈ ls, p ∈ RS.places s) :
    Calls Tryz.prog 25 #[.func (.func gf) #[] lb, .slice (some ⟨bl, 0, none⟩) ls.length cap] w fun e w' => ∃ v s, e = .returned v ∧ RS.right s = true ∧ (∀ p, RS.mem s p ↔ 0 ≤ p ∧ p ≤ 1114111 ∧ f p = true) ∧ s.length ≤ 2 + 2 * tot ls ∧ w'.ownsRow w.heap.size 42 2 v s.length (flat2 s) ∧ Below w.heap.size w w' := by
  obtain ⟨i0, hi, hz0, hz1, hz2⟩ := info_parts info53
  have HL : Hid (∀ k (h : k < ls.length), ∃ v, w.cell? ⟨bl, k, none⟩ = some v ∧ RgAt w.heap.size w v ls[k]) := hl
  have HT : Hid (Tells gf lb f w) := hT
  have HF : Hid (∀ p, 0 < p → p ≤ 1114111 → f p ≠ f (p - 1) → ∃ s ∈ ls, p ∈ RS.places s) := hf
  have hal := all_len ls
  clear hl hT hf
  obtain ⟨m, hm⟩ : ∃ m, m = ls.length := ⟨_, rfl⟩
  have HM : Hid (m = ls.length) := hm
  rw [← hm] at hne hls ⊢
  clear hm
  go_enter Tryz.func25, Tryz.ntmps25
  go_wp2
  go_loopw [5, 16] (fun v i wr => ∃ (k : Nat), k ≤ m ∧ i = .int .i64 k ∧ wr.ownsRow w.heap.size 3 1 v (RS.allPlaces (ls.take k)).length ((RS.allPlaces (ls.take k)).map intV) ∧ Below w.heap.size w wr) (fun _ i _ => m - (intOf i).toNat)
  case atStart => exact ⟨0, Nat.zero_le _, rfl, World.ownsRow_lit w #[intV 0, intV 1114112] 2 (Nat.le_refl _) (by decide) rfl, (Below.refl _ w).alloc (Nat.le_refl _) _⟩
  case round =>
    obtain ⟨k, hk, rfl, hown, hnx⟩ := hrel
    by_cases hlt : k < m
    · obtain ⟨vk, hvk, hrg⟩ := HL.out k (by rw [← HM.out]; exact hlt)
      have hsl := tot_get ls k (by rw [← HM.out]; exact hlt)
      have hsn := all_snoc ls k (by rw [← HM.out]; exact hlt)
      have htk := all_len (ls.take k)
      have htt := tot_take ls k
      replace hvk := (hnx.cell (p := ⟨bl, k, none⟩) (by exact hbl)).trans hvk
      obtain ⟨s, hs⟩ : ∃ s, s = ls[k]'(by rw [← HM.out]; exact hlt) := ⟨_, rfl⟩
      rw [← hs] at hrg hsl hsn
      obtain ⟨Z, hZ⟩ : ∃ Z, Z = RS.allPlaces (ls.take k) := ⟨_, rfl⟩
      rw [← hZ] at hown htk hsn
      have HSN : Hid (RS.allPlaces (ls.take (k + 1)) = Z ++ RS.places s) := hsn
      have hzl : Z.length ≤ 2 + 2 * 1000 := by omega
      clear hs hsn hZ
      obtain ⟨ao, cs, hve, _, hcell⟩ := hrg
      subst hve
      have HC : Hid (s ≠ [] → ∃ b off, ao = some ⟨b, off, none⟩ ∧ b < w.heap.size ∧ ∀ k (h : k < s.length), w.cell? ⟨b, off + k * 2, none⟩ = some (.int .i64 s[k].1) ∧ w.cell? ⟨b, off + k * 2 + 1, none⟩ = some (.int .i64 s[k].2)) := hcell
      clear hcell
      go_wp2
      go_loopw [5, 22] (fun v i wq => ∃ (j : Nat), j ≤ s.length ∧ i = .int .i64 j ∧ wq.ownsRow w.heap.size 3 1 v (Z ++ RS.places (s.take j)).length ((Z ++ RS.places (s.take j)).map intV) ∧ Below w.heap.size w wq) (fun _ i _ => s.length - (intOf i).toNat)
      case atStart => exact ⟨0, Nat.zero_le _, rfl, by simp [RS.places]; exact hown, hnx⟩
      case round =>
        obtain ⟨j, hj, rfl, hown, hnx⟩ := hrel
        by_cases hjt : j < s.length
        · obtain ⟨b, off, hao, hbb, hcc⟩ := HC.out (by rintro rfl; simp at hjt)
          obtain ⟨x0, x1⟩ := hcc j hjt
          replace x0 := (hnx.cell (p := ⟨b, off + j * 2, none⟩) (by exact hbb)).trans x0
          replace x1 := (hnx.cell (p := ⟨b, off + j * 2 + 1, none⟩) (by exact hbb)).trans x1
          have hps := places_snoc s j hjt
          have hpl := places_len (s.take j)
          have hjl : (s.take j).length ≤ j := List.length_take_le _ _
          generalize s[j] = r at x0 x1 hps
          obtain ⟨lo, hi'⟩ := r
          dsimp only at x0 x1
          clear hcc
          subst hao
          obtain ⟨Y, hY⟩ : ∃ Y, Y = Z ++ RS.places (s.take j) := ⟨_, rfl⟩
          have hYl : Y.length ≤ 10000 := by rw [hY, List.length_append]; omega
          have HPS : Hid (Z ++ RS.places (s.take (j + 1)) = Y ++ RS.placesR (lo, hi')) := by show _ = _; rw [hps, hY, List.append_assoc]
          rw [← hY] at hown
          clear hps hY hpl hjl
          have HB := hnx.alloc hnx.size (Obj.cells #[Value.int IntKind.i64 lo, Value.int IntKind.i64 hi'] 42)
          have hown1 := hown.alloc (Obj.cells #[Value.int IntKind.i64 lo, Value.int IntKind.i64 hi'] 42)
          have hne1 : ∀ g, Value.ownBlock _ = some g → g < wr.heap.size := fun g e => (hown.lt _ e).2
          have hsz := hnx.size
          by_cases h1 : 0 ≤ lo ∧ lo ≤ 1114111
          · have q1 : (decide (0 ≤ lo) && decide (lo ≤ 1114111)) = true := by simp; omega
            by_cases h2 : 0 ≤ hi' ∧ hi' ≤ 1114111
            · have q2 : (decide (0 ≤ hi') && decide (hi' ≤ 1114111)) = true := by simp; omega
              have HE : Hid (Z ++ RS.places (s.take (j + 1)) = Y ++ [lo] ++ [hi' + 1]) := by show _ = _; rw [HPS.out]; simp [RS.placesR, h1, h2]
              clear HPS
              go_wp2_with fail
              refine (in_any _ _ _ _).mono ?_
              rintro e w' ⟨rfl, rfl⟩
              rw [q1]
              go_wp2_with (at_builtin; refine wpList_append_int rfl _ _ rfl w.heap.size _ Y lo (wr.heap.size + 1) rfl rfl (hown1.alloc _) ?_ ?_ ?_ ?_)
              rotate_right
              · intro v1 w1 hown2 hg1
                have hb2 := (HB.alloc (by simp; omega) _).grown hg1 (by simp; omega) (fun k hk => (hown.lt k hk).1)
                have hv : w1.heap[wr.heap.size]? = some (Obj.cells #[Value.int IntKind.i64 lo, Value.int IntKind.i64 hi'] 42) := (hg1.block wr.heap.size (by simp; omega) (fun e => by have := hne1 _ e.symm; omega)).trans ((heap_alloc_old _ _ (by simp)).trans (heap_alloc_new _ _))
                have c1 : w1.cell? ⟨wr.heap.size, 1, none⟩ = some (.int .i64 hi') := by simp [World.cell?, hv]
                have hs2 := hb2.size
                obtain ⟨Y2, hY2⟩ : ∃ Y2, Y2 = Y ++ [lo] := ⟨_, rfl⟩
                have hYl2 : Y2.length ≤ 10001 := by rw [hY2, List.length_append]; simp; omega
                have hown2' : w1.ownsRow w.heap.size 3 1 v1 Y2.length (Y2.map intV) := by rw [hY2, List.map_append, List.length_append]; exact hown2
                rw [← hY2] at HE
                clear hown2 hg1 hv hown hown1 HB x0 x1 hY2
                go_wp2_with fail
                refine (in_any _ _ _ _).mono ?_
                rintro e w' ⟨rfl, hw'⟩
                obtain rfl := hw'.symm
                rw [q2]
                go_wp2_with (at_builtin; refine wpList_append_int rfl _ _ rfl w.heap.size _ Y2 (hi' + 1) w1.heap.size rfl rfl (hown2'.alloc _) ?_ ?_ ?_ ?_)
                rotate_right
                · intro v3 w3 hown3 hg3
                  have hb3 := (hb2.alloc hs2 _).grown hg3 (by simp; omega) (fun k hk => (hown2'.lt k hk).1)
                  have R : Hid (w3.ownsRow w.heap.size 3 1 v3 (Z ++ RS.places (s.take (j + 1))).length ((Z ++ RS.places (s.take (j + 1))).map intV)) := by show World.ownsRow _ _ _ _ _ _ _; rw [HE.out, List.map_append, List.length_append]; exact hown3
                  clear hg3 hown2' hown3 c1
                  go_wp2
                  exact ⟨⟨j + 1, by omega, by go_num, R.out, hb3⟩, by simp [intOf]; omega⟩
                · simp
                · simp; omega
                · omega
              · simp
              · simp; omega
              · omega
            · have q2 : (decide (0 ≤ hi') && decide (hi' ≤ 1114111)) = false := by simp; omega
              have HE : Hid (Z ++ RS.places (s.take (j + 1)) = Y ++ [lo]) := by show _ = _; rw [HPS.out]; simp [RS.placesR, h1, h2]
              clear HPS
              go_wp2_with fail
              refine (in_any _ _ _ _).mono ?_
              rintro e w' ⟨rfl, rfl⟩
              rw [q1]
              go_wp2_with (at_builtin; refine wpList_append_int rfl _ _ rfl w.heap.size _ Y lo (wr.heap.size + 1) rfl rfl (hown1.alloc _) ?_ ?_ ?_ ?_)
              rotate_right
              · intro v1 w1 hown2 hg1
                have hb2 := (HB.alloc (by simp; omega) _).grown hg1 (by simp; omega) (fun k hk => (hown.lt k hk).1)
                have hv : w1.heap[wr.heap.size]? = some (Obj.cells #[Value.int IntKind.i64 lo, Value.int IntKind.i64 hi'] 42) := (hg1.block wr.heap.size (by simp; omega) (fun e => by have := hne1 _ e.symm; omega)).trans ((heap_alloc_old _ _ (by simp)).trans (heap_alloc_new _ _))
                have c1 : w1.cell? ⟨wr.heap.size, 1, none⟩ = some (.int .i64 hi') := by simp [World.cell?, hv]
                have R : Hid (w1.ownsRow w.heap.size 3 1 v1 (Z ++ RS.places (s.take (j + 1))).length ((Z ++ RS.places (s.take (j + 1))).map intV)) := by show World.ownsRow _ _ _ _ _ _ _; rw [HE.out, List.map_append, List.length_append]; exact hown2
                clear hown2 hg1 hv hown hown1 HB x0 x1
                go_wp2_with fail
                refine (in_any _ _ _ _).mono ?_
                rintro e w' ⟨rfl, hw'⟩
                obtain rfl := hw'.symm
                rw [q2]
                go_wp2
                exact ⟨⟨j + 1, by omega, by go_num, R.out, hb2⟩, by simp [intOf]; omega⟩
              · simp
              · simp; omega
              · omega
          · have q1 : (decide (0 ≤ lo) && decide (lo ≤ 1114111)) = false := by simp; omega
            have c1 : (wr.alloc (Obj.cells #[Value.int IntKind.i64 lo, Value.int IntKind.i64 hi'] 42)).cell? ⟨wr.heap.size, 1, none⟩ = some (.int .i64 hi') := by simp
            by_cases h2 : 0 ≤ hi' ∧ hi' ≤ 1114111
            · have q2 : (decide (0 ≤ hi') && decide (hi' ≤ 1114111)) = true := by simp; omega
              have HE : Hid (Z ++ RS.places (s.take (j + 1)) = Y ++ [hi' + 1]) := by show _ = _; rw [HPS.out]; simp [RS.placesR, h1, h2]
              clear HPS h1
              go_wp2_with fail
              refine (in_any _ _ _ _).mono ?_
              rintro e w' ⟨rfl, rfl⟩
              rw [q1]
              go_wp2_with fail
              refine (in_any _ _ _ _).mono ?_
              rintro e w' ⟨rfl, rfl⟩
              rw [q2]
              go_wp2_with (at_builtin; refine wpList_append_int rfl _ _ rfl w.heap.size _ Y (hi' + 1) (wr.heap.size + 1) rfl rfl (hown1.alloc _) ?_ ?_ ?_ ?_)
              rotate_right
              · intro v1 w1 hown2 hg1
                have hb2 := (HB.alloc (by simp; omega) _).grown hg1 (by simp; omega) (fun k hk => (hown.lt k hk).1)
                have R : Hid (w1.ownsRow w.heap.size 3 1 v1 (Z ++ RS.places (s.take (j + 1))).length ((Z ++ RS.places (s.take (j + 1))).map intV)) := by show World.ownsRow _ _ _ _ _ _ _; rw [HE.out, List.map_append, List.length_append]; exact hown2
                clear hown2 hg1 hown hown1 HB x0 x1
                go_wp2
                exact ⟨⟨j + 1, by omega, by go_num, R.out, hb2⟩, by simp [intOf]; omega⟩
              · simp
              · simp; omega
              · omega
            · have q2 : (decide (0 ≤ hi') && decide (hi' ≤ 1114111)) = false := by simp; omega
              have HE : Hid (Z ++ RS.places (s.take (j + 1)) = Y) := by show _ = _; rw [HPS.out]; simp [RS.placesR, h1, h2]
              clear HPS h1 h2
              go_wp2_with fail
              refine (in_any _ _ _ _).mono ?_
              rintro e w' ⟨rfl, rfl⟩
              rw [q1]
              go_wp2_with fail
              refine (in_any _ _ _ _).mono ?_
              rintro e w' ⟨rfl, rfl⟩
              rw [q2]
              go_wp2
              exact ⟨⟨j + 1, by omega, by go_num, by rw [HE.out]; exact hown1, HB⟩, by simp [intOf]; omega⟩
        · have hje : j = s.length := by omega
          subst hje
          rw [List.take_length] at hown
          have R : Hid (RS.allPlaces (ls.take (k + 1)) = Z ++ RS.places s) := HSN
          go_wp2
          exact ⟨⟨k + 1, by omega, by go_num, by rw [R.out]; exact hown, hnx⟩, by simp [intOf]; omega⟩
    · have hke : k = m := by omega
      subst hke
      rw [HM.out, List.take_length] at hown
      obtain ⟨zs, hzs⟩ : ∃ zs, zs = RS.allPlaces ls := ⟨_, rfl⟩
      rw [← hzs] at hown hal
      have HZS : Hid (zs = RS.allPlaces ls) := hzs
      have hzn : zs ≠ [] := by rw [hzs]; simp [RS.allPlaces]
      clear hzs
      go_wp2_with fail
      refine (ints_any _ zs (by omega) hzn _ hnx.size hown).mono ?_
      rintro e w2 ⟨rfl, d, hperm, hpair, hown2, hb2⟩
      have hb3 := hnx.trans hb2
      have hdl : d.length = zs.length := hperm.length_eq
      have hdn : d ≠ [] := by rintro rfl; simp at hdl; exact hzn (List.length_eq_zero_iff.1 hdl.symm)
      obtain ⟨g, capd, hv, hgB, hgl, hcd⟩ := ints_cells hown2 hdn
      subst hv
      have HCD : Hid (∀ k (h : k < d.length), w2.cell? ⟨g, k, none⟩ = some (.int .i64 d[k])) := hcd
      have HD : Hid (∀ x ∈ d, 0 ≤ x ∧ x ≤ 1114112) := fun x hx => RS.allPlaces_in ls x (by rw [← HZS.out]; exact hperm.mem_iff.1 hx)
      have HTO : Hid (RS.right (RS.toldFrom f [] d) = true ∧ ∀ p, RS.mem (RS.toldFrom f [] d) p ↔ 0 ≤ p ∧ p ≤ 1114111 ∧ f p = true) := RS.told_ok f ls d (by rw [← HZS.out]; exact hperm) hpair HF.out
      have HT2 : Hid (Tells gf lb f w2) := HT.out.below hb3
      have hdm : d.length ≤ 2 + 2 * tot ls := by omega
      obtain ⟨n, hn⟩ : ∃ n, n = d.length := ⟨_, rfl⟩
      have HN : Hid (n = d.length) := hn
      have hnm : n ≤ 2 + 2 * tot ls := by omega

      rw [← hn]
      clear hcd hown2 hown hperm hpair hnx hb2 HZS HT HF HL HM hn hdm hdl hal
      go_wp2
      go_loopw [10, 11] (fun v i wq => ∃ (k : Nat) (acc : List RS.Rg), k ≤ n ∧ i = .int .i64 k ∧ acc.length ≤ k ∧ (∀ c ∈ acc, -1 ≤ c.2 ∧ c.2 ≤ 1114111) ∧ RS.toldFrom f [] d = RS.toldFrom f acc (d.drop k) ∧ wq.ownsRow w2.heap.size 42 2 v acc.length (flat2 acc) ∧ Below w2.heap.size w2 wq) (fun _ i _ => n - (intOf i).toNat)
      case atStart => exact ⟨0, [], Nat.zero_le _, rfl, Nat.le_refl _, by simp, rfl, World.ownsRow_nil _ _ _ _, Below.refl _ _⟩
      case round =>
        obtain ⟨k, acc, hk, rfl, hal2, hcb, hto, hown, hnx⟩ := hrel
        have HCB : Hid (∀ c ∈ acc, -1 ≤ c.2 ∧ c.2 ≤ 1114111) := hcb
        have HTF : Hid (RS.toldFrom f [] d = RS.toldFrom f acc (d.drop k)) := hto
        clear hcb hto
        by_cases hlt : k + 1 < n
        · have hk1 : k + 1 < d.length := by rw [← HN.out]; exact hlt
          have hk0 : k < d.length := by omega
          have x0 := (hnx.cell (p := ⟨g, k, none⟩) (by exact hgl)).trans (HCD.out k hk0)
          have x1 := (hnx.cell (p := ⟨g, k + 1, none⟩) (by exact hgl)).trans (HCD.out (k + 1) hk1)
          have ba := HD.out d[k] (List.getElem_mem hk0)
          have bb := HD.out d[k + 1] (List.getElem_mem hk1)
          have hst := HTF.out.trans (told_step hk1)
          generalize d[k] = a at x0 ba hst
          generalize d[k + 1] = b at x1 bb hst
          have HST : Hid (RS.toldFrom f [] d = RS.toldFrom f (if a = b ∨ f a = false then acc else RS.addR acc a (b - 1)) (d.drop (k + 1))) := hst
          clear hst hk1 hk0 HTF
          have hlz : (k : Int) + 1 < (n : Int) := by omega
          have hkz : (k : Int) < (n : Int) := by omega
          have hk0 : (0 : Int) ≤ (k : Int) := by omega
          have hk1 : (0 : Int) ≤ (k : Int) + 1 := by omega
          have hw1 : IntKind.i64.wrap ((k : Int) + 1) = (k : Int) + 1 := wrap_small (by omega) (by omega)
          by_cases hab : a = b
          · subst hab
            have hq : (a == a) = true := by simp
            go_wp2
            go_quiet (fail)
            go_wp2
            exact ⟨⟨k + 1, acc, by omega, by go_num, by omega, HCB.out, by rw [HST.out, if_pos (by simp)], hown, below_drewN hnx nq⟩, by simp [intOf]; omega⟩
          · have hq : (a == b) = false := beq_eq_false_iff_ne.2 hab
            have HAB : Hid (a ≠ b) := hab
            clear hab
            go_wp2
            go_region_held3 (fun W => W.cell? ⟨g, k, none⟩ = some (.int .i64 a) ∧ W.cell? ⟨g, k + 1, none⟩ = some (.int .i64 b) ∧ Below w2.heap.size w2 W) (first | exact ⟨x0, x1, hnx.drew⟩ | exact held_keep hgl (by assumption) (by assumption))
              (first | (refine (HT2.out a _ (held_b (g := g) (k := k) (a := a) (b := b) ?_)).mono ?_; assumption; rintro e w9 ⟨rfl, hb9⟩))
            have hb10 : Below w2.heap.size w2 w9 := hnx.drew.trans (hb9.mono hnx.size)
            have hown9 := owns_later (w := wr.drew) hown hb9
            have y := held_keep (g := g) (k := k) (a := a) (b := b) (w2 := w2) (W := wr.drew) hgl hb9 ⟨x0, x1, hnx.drew⟩
            clear x0 x1 hb9 hown hnx
            cases hfa : f a
            · have HFA : Hid (f a = false) := hfa
              clear hfa
              go_wp2
              exact ⟨⟨k + 1, acc, by omega, by go_num, by omega, HCB.out, by rw [HST.out, if_pos (.inr HFA.out)], hown9, hb10⟩, by simp [intOf]; omega⟩
            · have HFA : Hid (¬ (a = b ∨ f a = false)) := fun h => by rcases h with h | h; exact HAB.out h; rw [hfa] at h; cases h
              have HNX : Hid (RS.toldFrom f [] d = RS.toldFrom f (RS.addR acc a (b - 1)) (d.drop (k + 1))) := by show _ = _; rw [HST.out, if_neg HFA.out]
              clear hfa HST HFA
              obtain ⟨y0, y1, _⟩ := y
              have hwb : IntKind.i64.wrap (b - 1) = b - 1 := wrap_small (by omega) (by omega)
              rcases List.eq_nil_or_concat acc with hae | ⟨pre, c, hae⟩
              · subst hae
                obtain ⟨ao, co, hv, _, _⟩ := rg_of_own hown9
                subst hv
                go_wp2
                go_quiet (fail)
                have hown8 : (w9.drewN nq).ownsRow w2.heap.size 42 2 (.slice ao 0 co) 0 [] := hown9
                have hbW : Below w2.heap.size w2 (w9.drewN nq) := below_drewN hb10 nq
                have z0 : (w9.drewN nq).cell? ⟨g, k, none⟩ = some (.int .i64 a) := y0
                have z1 : (w9.drewN nq).cell? ⟨g, k + 1, none⟩ = some (.int .i64 b) := y1
                clear y0 y1 hb10 hown9
                generalize w9.drewN nq = W at hown8 hbW z0 z1 ⊢
                have HO8 : Hid (W.ownsRow w2.heap.size 42 2 (.slice ao 0 co) 0 []) := hown8
                have hsW := hbW.size
                have B0 : Hid (0 + 1 ≤ maxLen) := by show _ ≤ _; unfold maxLen; omega
                have D0 : Hid ((0 + 1) * 16 ≤ 140737488355328) := by show _ ≤ _; omega
                clear hown8
                go_wp2
                go_region_held3 (fun W => W.cell? ⟨g, k, none⟩ = some (.int .i64 a) ∧ W.cell? ⟨g, k + 1, none⟩ = some (.int .i64 b) ∧ Below w2.heap.size w2 W) (first | exact ⟨z0, z1, hbW.drew⟩ | exact held2_alloc hgl (by assumption) | exact held2_grown hgl (by assumption) (fun j hj => (HO8.out.lt j hj).1) (by assumption))
                  ((refine step_append_own (by rfl) _ _ 24 (by rfl) w2.heap.size 42 i0 (.agg #[.int .i64 0, .int .i64 0]) 2 16 Tryz.underlying24 hi hz0 hz1 hz2 rfl (by decide) _ 0 [] (by simp [Act.eval]) (HO8.out.alloc _).drew ⟨W.heap.size, 0, none⟩ 1 1 (cells2 (a, b - 1)) (by simp [Act.eval]) rfl (cells2_at (by simp) (by simp)) (cells2_one _) B0.out D0.out (by simp; omega) ?_; intro v1 w1 hown1 hgrow1))
                have R := app53 (s := []) (r := (a, b - 1)) ((hbW.alloc hsW _).drew) (by simp; omega) ((HO8.out.alloc _).drew) hown1 hgrow1
                have R2 : Hid _ := R
                clear R hown1 hgrow1
                go_wp2
                exact ⟨⟨k + 1, [(a, b - 1)], by omega, by go_num, by simp, by intro c hc; simp at hc; subst hc; dsimp only; omega, HNX.out, R2.out.1, R2.out.2.1⟩, by simp [intOf]; omega⟩
              · rw [List.concat_eq_append] at hae
                subst hae
                obtain ⟨g2, cap2, cur2, hv, hgB2, hgl2, q0, q1⟩ := last_cells hown9
                subst hv
                obtain ⟨m, hmm⟩ : ∃ m, m = pre.length := ⟨_, rfl⟩
                have hml : (pre ++ [c]).length = m + 1 := by rw [hmm]; simp
                rw [hml] at hal2 hown9 ⊢
                rw [← hmm] at q0 q1
                have HMM : Hid (m = pre.length) := hmm
                clear hmm hml
                have hcb := HCB.out c (by simp)
                rw [addR_snoc] at HNX
                obtain ⟨cl, ch⟩ := c
                dsimp only at q0 q1 hcb HNX
                have hm1 : m ≤ 100000 := by omega
                have hwm : IntKind.i64.wrap (m : Int) = m := wrap_small (by omega) (by omega)
                have hwc : IntKind.i64.wrap (ch + 1) = ch + 1 := wrap_small (by omega) (by omega)
                by_cases hj : ch + 1 = a
                · have hq2 : (ch + 1 == a) = true := by simp [hj]
                  have HJ : Hid (RS.toldFrom f [] d = RS.toldFrom f (pre ++ [(cl, b - 1)]) (d.drop (k + 1))) := by have := HNX.out; rw [if_pos hj] at this; exact this
                  clear hj HNX
                  go_wp2
                  go_quiet (fail)
                  have hown8 : (w9.drewN nq).ownsRow w2.heap.size 42 2 (.slice (some ⟨g2, 0, none⟩) (m + 1) cap2) (m + 1) (flat2 (pre ++ [(cl, ch)])) := hown9
                  have hbW : Below w2.heap.size w2 (w9.drewN nq) := below_drewN hb10 nq
                  have z1 : (w9.drewN nq).cell? ⟨g, k + 1, none⟩ = some (.int .i64 b) := y1
                  have z2 : (w9.drewN nq).cell? ⟨g2, m * 2 + 1, none⟩ = some (.int .i64 ch) := q1
                  have z3 := hown8.frozenAt (m * 2 + 1)
                  clear y0 y1 hb10 hown9 q0 q1
                  generalize w9.drewN nq = W at hown8 hbW z1 z2 z3 ⊢
                  have HO8 : Hid (W.ownsRow w2.heap.size 42 2 (.slice (some ⟨g2, 0, none⟩) (m + 1) cap2) (m + 1) (flat2 (pre ++ [(cl, ch)]))) := hown8
                  clear hown8
                  go_wp2
                  exact ⟨⟨k + 1, pre ++ [(cl, b - 1)], by omega, by go_num, by have := HMM.out; simp; omega, (fun c hc => by
                    rcases List.mem_append.1 hc with h | h
                    · exact HCB.out c (List.mem_append_left _ h)
                    · simp at h; subst h; dsimp only; omega), HJ.out, merge_own HMM.out HO8.out, hbW.setCell (p := ⟨g2, m * 2 + 1, none⟩) (by exact hgB2) _⟩, by simp [intOf]; omega⟩
                · have hq2 : (ch + 1 == a) = false := by simp [hj]
                  have HJ : Hid (RS.toldFrom f [] d = RS.toldFrom f ((pre ++ [(cl, ch)]) ++ [(a, b - 1)]) (d.drop (k + 1))) := by have := HNX.out; rw [if_neg hj] at this; exact this
                  clear hj HNX
                  go_wp2
                  go_quiet (fail)
                  have hown8 : (w9.drewN nq).ownsRow w2.heap.size 42 2 (.slice (some ⟨g2, 0, none⟩) (m + 1) cap2) (m + 1) (flat2 (pre ++ [(cl, ch)])) := hown9
                  have hbW : Below w2.heap.size w2 (w9.drewN nq) := below_drewN hb10 nq
                  have z0 : (w9.drewN nq).cell? ⟨g, k, none⟩ = some (.int .i64 a) := y0
                  have z1 : (w9.drewN nq).cell? ⟨g, k + 1, none⟩ = some (.int .i64 b) := y1
                  clear y0 y1 hb10 hown9 q0 q1
                  generalize w9.drewN nq = W at hown8 hbW z0 z1 ⊢
                  have HO8 : Hid (W.ownsRow w2.heap.size 42 2 (.slice (some ⟨g2, 0, none⟩) (m + 1) cap2) (m + 1) (flat2 (pre ++ [(cl, ch)]))) := hown8
                  have hsW := hbW.size
                  have B0 : Hid ((m + 1) + 1 ≤ maxLen) := by show _ ≤ _; unfold maxLen; omega
                  have D0 : Hid (((m + 1) + 1) * 16 ≤ 140737488355328) := by show _ ≤ _; omega
                  clear hown8
                  go_wp2
                  go_region_held3 (fun W => W.cell? ⟨g, k, none⟩ = some (.int .i64 a) ∧ W.cell? ⟨g, k + 1, none⟩ = some (.int .i64 b) ∧ Below w2.heap.size w2 W) (first | exact ⟨z0, z1, hbW.drew⟩ | exact held2_alloc hgl (by assumption) | exact held2_grown hgl (by assumption) (fun j hj => (HO8.out.lt j hj).1) (by assumption))
                    ((refine step_append_own (by rfl) _ _ 24 (by rfl) w2.heap.size 42 i0 (.agg #[.int .i64 0, .int .i64 0]) 2 16 Tryz.underlying24 hi hz0 hz1 hz2 rfl (by decide) _ (m + 1) (flat2 (pre ++ [(cl, ch)])) (by simp [Act.eval]) (HO8.out.alloc _).drew ⟨W.heap.size, 0, none⟩ 1 1 (cells2 (a, b - 1)) (by simp [Act.eval]) rfl (cells2_at (by simp) (by simp)) (cells2_one _) B0.out D0.out (by simp; omega) ?_; intro v1 w1 hown1 hgrow1))
                  have hml : m + 1 = (pre ++ [(cl, ch)]).length := by have := HMM.out; simp; omega
                  have HO9 : W.ownsRow w2.heap.size 42 2 (.slice (some ⟨g2, 0, none⟩) (m + 1) cap2) (pre ++ [(cl, ch)]).length (flat2 (pre ++ [(cl, ch)])) := by rw [← hml]; exact HO8.out
                  have hown2 : w1.ownsRow w2.heap.size 42 2 v1 ((pre ++ [(cl, ch)]).length + 1) (flat2 (pre ++ [(cl, ch)]) ++ cells2 (a, b - 1)) := by rw [← hml]; exact hown1
                  have R := app53 (s := pre ++ [(cl, ch)]) (r := (a, b - 1)) ((hbW.alloc hsW _).drew) (by simp; omega) ((HO9.alloc _).drew) hown2 hgrow1
                  have R2 : Hid _ := R
                  have HML : Hid (m + 1 = (pre ++ [(cl, ch)]).length) := hml
                  clear R hown1 hown2 HO9 hml hgrow1
                  go_wp2
                  exact ⟨⟨k + 1, (pre ++ [(cl, ch)]) ++ [(a, b - 1)], by omega, by go_num, by have := HML.out; rw [List.length_append, ← this]; simp; omega, (fun c hc => by
                    rcases List.mem_append.1 hc with h | h
                    · exact HCB.out c h
                    · simp at h; subst h; dsimp only; omega), HJ.out, R2.out.1, R2.out.2.1⟩, by simp [intOf]; omega⟩
        · have hke : d.length ≤ k + 1 := by rw [← HN.out]; omega
          have HE : Hid (RS.toldFrom f [] d = acc) := HTF.out.trans (told_end hke)
          clear hke
          go_wp2
          go_ret
          have h1 := HTO.out
          rw [HE.out] at h1
          exact ⟨_, acc, rfl, h1.1, h1.2, by omega, owns_mono hown hb3.size, hb3.trans (hnx.mono hb3.size)⟩

end Go.Proofs.YtefcjoomongcmaaGreatDoor
