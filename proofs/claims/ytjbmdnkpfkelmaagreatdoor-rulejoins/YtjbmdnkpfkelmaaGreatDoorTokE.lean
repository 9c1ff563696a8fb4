/- The contract of rule.tokens: the walk. -/
import Derived.Test.YtjbmdnkpfkelmaaGreatDoorTokD
import Derived.StringKeys
namespace Go.Proofs.YtjbmdnkpfkelmaaGreatDoor.Q
open Go.RowKit Go.Shelf Go.Maps

theorem law9 : Keyed Tryz.prog 9 := string_keyed Tryz.underlying9
theorem zero3 (w : World) : (zeroValue 3).run Tryz.prog w = .ok (.int .i64 0) w := by kernel_rfl

/-- What rule.tokens hands back. -/
def Toks (w : World) (r : Except RP.Bad (List RP.Tok)) (e : Ending) (w' : World) : Prop :=
  match r with
  | .error b => Throws w b.err b.place e w'
  | .ok ts => ∃ v, e = .returned v ∧ w'.ownsRow w.heap.size 53 3 v ts.length (flat3 ts)

theorem Throws.later {w W w' : World} {en pl : Int} {e : Ending} (h : Throws W en pl e w') (hs : w.heap.size ≤ W.heap.size) : Throws w en pl e w' := by
  obtain ⟨b, h1, h2, h3, h4⟩ := h
  exact ⟨b, h1, h2, by omega, h4⟩

theorem app3 {w1 : World} {B : Nat} {v : Value} {ts : List RP.Tok} {t : RP.Tok} (h : w1.ownsRow B 53 3 v (ts.length + 1) (flat3 ts ++ cells3 t)) : w1.ownsRow B 53 3 v (ts ++ [t]).length (flat3 (ts ++ [t])) := by
  rw [flat3_snoc]; simpa using h

theorem own_slice {w : World} {B : Nat} {e : TypeId} {size : Nat} {v : Value} {n : Nat} {xs : List Value} (h : w.ownsRow B e size v n xs) : ∃ ao cp, v = .slice ao n cp := by
  obtain ⟨_, h2 | ⟨g, cap, cur, rfl, _⟩⟩ := h
  · obtain ⟨rfl, rfl⟩ := h2
    exact ⟨_, _, rfl⟩
  · exact ⟨_, _, rfl⟩

theorem key_string (x : List UInt8) (h : x.length ≤ maxLen) : keyOf Tryz.prog 9 (.string ⟨x.toArray⟩) = some (.string x) := Go.WideMaps.keyOf_string_mk Tryz.underlying9 (by show x.toArray.size ≤ maxLen; simpa using h)

set_option maxHeartbeats 4000000 in
set_option maxRecDepth 100000 in
theorem tokens_any (s : ByteArray) (hs : s.size ≤ 100000) (w : World) :
    Calls Tryz.prog 9 #[.string s] w fun e w' => Toks w (RP.toks s.data.toList) e w' ∧ Below w.heap.size w w' := by
  obtain ⟨i0, hi, hz0, hz1, hz2⟩ := info_parts info53'
  have hmm := @run_makeMap Tryz.prog
  have hk1 : keyOf Tryz.prog 9 (.string ⟨#[99, 108, 97, 115, 115]⟩) = some (.string RP.wClass) := by kernel_rfl
  have hk2 : keyOf Tryz.prog 9 (.string ⟨#[98, 114, 101, 97, 107]⟩) = some (.string RP.wBreak) := by kernel_rfl
  have hk3 : keyOf Tryz.prog 9 (.string ⟨#[107, 101, 101, 112]⟩) = some (.string RP.wKeep) := by kernel_rfl
  have hk4 : keyOf Tryz.prog 9 (.string ⟨#[101, 108, 115, 101]⟩) = some (.string RP.wElse) := by kernel_rfl
  have HK : Hid (keyOf Tryz.prog 9 (.string ⟨#[99, 108, 97, 115, 115]⟩) = some (.string RP.wClass) ∧ keyOf Tryz.prog 9 (.string ⟨#[98, 114, 101, 97, 107]⟩) = some (.string RP.wBreak) ∧ keyOf Tryz.prog 9 (.string ⟨#[107, 101, 101, 112]⟩) = some (.string RP.wKeep) ∧ keyOf Tryz.prog 9 (.string ⟨#[101, 108, 115, 101]⟩) = some (.string RP.wElse)) := ⟨hk1, hk2, hk3, hk4⟩
  clear hk1 hk2 hk3 hk4
  go_enter Tryz.func9, Tryz.ntmps9
  go_wp2_with (refine wpList_insert_own _ rfl _ _ _ 50 rfl 9 3 law9 Tryz.underlying50 (plainElem (H := Unit) Tryz.prog 3) w.heap.size 0 (.map []) rfl (World.ownsMap_made w _ _ _) (by decide) _ _ _ rfl rfl HK.out.1 _ [] (plainElem_int Tryz.underlying3 rfl) ?_)
  intro m1 hm1 hg1
  go_wp2_with (refine wpList_insert_own _ rfl _ _ _ 50 rfl 9 3 law9 Tryz.underlying50 (plainElem (H := Unit) Tryz.prog 3) w.heap.size 1 _ rfl hm1 (by decide) _ _ _ rfl rfl HK.out.2.1 _ [] (plainElem_int Tryz.underlying3 rfl) ?_)
  intro m2 hm2 hg2
  go_wp2_with (refine wpList_insert_own _ rfl _ _ _ 50 rfl 9 3 law9 Tryz.underlying50 (plainElem (H := Unit) Tryz.prog 3) w.heap.size 2 _ rfl hm2 (by decide) _ _ _ rfl rfl HK.out.2.2.1 _ [] (plainElem_int Tryz.underlying3 rfl) ?_)
  intro m3 hm3 hg3
  go_wp2_with (refine wpList_insert_own _ rfl _ _ _ 50 rfl 9 3 law9 Tryz.underlying50 (plainElem (H := Unit) Tryz.prog 3) w.heap.size 3 _ rfl hm3 (by decide) _ _ _ rfl rfl HK.out.2.2.2 _ [] (plainElem_int Tryz.underlying3 rfl) ?_)
  intro wM hM hg4
  rw [words_made] at hM
  have hrow : ∀ j, some w.heap.size = some j → w.heap.size ≤ j := fun j e => by cases e; exact Nat.le_refl _
  have hb1 := ((Below.refl _ w).alloc (Nat.le_refl w.heap.size) (.map #[] 0)).grown hg1 (by simp) hrow
  have hb2 := hb1.grown hg2 hb1.size hrow
  have hb3 := hb2.grown hg3 hb2.size hrow
  have hbM : Below w.heap.size w wM := hb3.grown hg4 hb3.size hrow
  have HM : Hid (wM.ownsMap Tryz.prog 9 (plainElem (H := Unit) Tryz.prog 3) w.heap.size 4 wordsD) := hM
  have hMl := hM.lt
  clear hm1 hm2 hm3 hM hg1 hg2 hg3 hg4 hb1 hb2 hb3 hrow HK hmm
  have hSk := fun (n : Nat) (hn : n ≤ s.size) (W : World) => skip_any s n (by omega) hn W
  go_wp2_with fail
  refine (hSk 0 (Nat.zero_le _) wM).mono ?_
  rintro e w' ⟨⟨k0, rfl, -, hk02, hd0⟩, hw'⟩
  obtain rfl := hw'.symm
  have HD0 : Hid (s.data.toList.drop k0 = RP.skipL (s.data.toList.drop 0)) := hd0
  clear hd0
  go_wp2_with fail
  go_loopw [4, 5] (fun v i wr => ∃ (k : Nat) (acc : List RP.Tok) (q : List UInt8), k ≤ s.size ∧ i = .int .i64 k ∧ acc.length ≤ 500 ∧ s.data.toList.drop k = RP.skipL q ∧ RP.toks s.data.toList = join acc (RP.toksF s.data.toList.length (q.length + 1) acc.length q) ∧ wr.ownsRow wM.heap.size 53 3 v acc.length (flat3 acc) ∧ Below wM.heap.size wM wr) (fun _ i _ => s.size - (intOf i).toNat)
  case atStart => exact ⟨k0, [], s.data.toList, hk02, rfl, by simp, by rw [HD0.out]; rfl, by unfold RP.toks; cases RP.toksF s.data.toList.length (s.data.toList.length + 1) 0 s.data.toList <;> rfl, World.ownsRow_nil _ _ _ _, Below.refl _ _⟩
  case round =>
    obtain ⟨k, acc, q, hk, rfl, hal, hdk, htk, hown, hnx⟩ := hrel
    have HDK : Hid (s.data.toList.drop k = RP.skipL q) := hdk
    have HTK : Hid (RP.toks s.data.toList = join acc (RP.toksF s.data.toList.length (q.length + 1) acc.length q)) := htk
    clear hdk htk
    have hsz := hnx.size
    by_cases hlt : k < s.size
    · have hdb := drop_byte s k hlt
      have hlen : s.data.toList.length - (s.data.toList.drop k).length = k := by rw [List.length_drop]; have : s.data.toList.length = s.size := rfl; omega
      cases htl : RP.tokenL (s.data.toList.drop k) with
      | none =>
        have HF : Hid (RP.toks s.data.toList = .error ⟨3, k⟩) := by
          show _ = _
          rw [HTK.out]
          have e1 := HDK.out.symm.trans hdb
          rw [toks_bad e1 (by rw [← hdb]; exact htl), ← hdb, hlen]
          rfl
        have hT := tokenAt_bad s k (by omega) hlt htl wr
        clear htl hdb hlen
        go_wp2_with fail
        refine hT.mono ?_
        rintro e w1 ⟨⟨b, rfl, hbh, hbl, hbs⟩, hb1⟩
        go_wp2_with fail
        refine ⟨rfl, ?_, hbM.trans ((hnx.trans (hb1.mono hsz)).mono hbM.size)⟩
        rw [HF.out]
        exact ⟨b, rfl, hbh, by have := hbM.size; omega, hbs⟩
      | some kx =>
        obtain ⟨kk, x⟩ := kx
        have hxl := RP.tokenL_len htl
        have hT := tokenAt_ok s k (by omega) hlt kk x htl wr
        have hx1 : 1 ≤ x.length := hxl.1
        have hxs : x.length ≤ s.size - k := by have := hxl.2.1; rw [List.length_drop] at this; exact this
        by_cases h500 : acc.length = 500
        · have HF : Hid (RP.toks s.data.toList = .error ⟨4, k⟩) := by
            show _ = _
            rw [HTK.out, h500]
            have e1 := HDK.out.symm.trans hdb
            rw [toks_full e1 (by rw [← hdb]; exact htl), ← hdb, hlen]
            rfl
          clear htl hdb hlen hxl
          rw [h500] at hown hal
          obtain ⟨ao, cp, hve⟩ := own_slice hown
          subst hve
          clear h500
          go_wp2_with fail
          refine hT.mono ?_
          rintro e w1 ⟨rfl, hb1⟩
          have hB1 : Below wM.heap.size wM w1 := hnx.trans (hb1.mono hsz)
          unfold tokV
          go_wp2_with fail
          refine (wrong_any 4 k _).mono ?_
          rintro e w2 ⟨rfl, rfl⟩
          go_wp2_with fail
          have hs1 := hB1.size
          refine ⟨rfl, ?_, hbM.trans (((hB1.alloc hs1 _).alloc (by simp; omega) _).mono hbM.size)⟩
          rw [HF.out]
          refine ⟨w1.heap.size + 1, rfl, ?_, by have := hbM.size; omega, by simp⟩
          have := heap_alloc_new (w1.alloc (.cells #[.int .i64 kk, .int .i64 k, .string ⟨x.toArray⟩] 53)) (.cells #[.int .i64 4, .int .i64 k] 77)
          simpa using this
        · have HSTEP : Hid (RP.toks s.data.toList = join (acc ++ [(⟨RP.kindOf kk x, k, x⟩ : RP.Tok)]) (RP.toksF s.data.toList.length ((s.data.toList.drop (k + x.length)).length + 1) (acc ++ [(⟨RP.kindOf kk x, k, x⟩ : RP.Tok)]).length (s.data.toList.drop (k + x.length)))) := by
            show _ = _
            have e1 := HDK.out.symm.trans hdb
            rw [HTK.out, toks_step e1 (by rw [← hdb]; exact htl) h500, ← hdb, hlen, List.drop_drop, join_join, List.length_append]
            rfl
          have hkey := key_string x (by unfold maxLen; omega)
          have hw := words_look kk x
          obtain ⟨ao, cp, hve⟩ := own_slice hown
          subst hve
          have hal' : acc.length < 500 := by omega
          have hne : ((acc.length : Int) == 500) = false := by simp; omega
          clear htl hdb hlen hxl h500
          go_wp2_with fail
          refine hT.mono ?_
          rintro e w1 ⟨rfl, hb1⟩
          have hB1 : Below wM.heap.size wM w1 := hnx.trans (hb1.mono hsz)
          have hs1 := hB1.size
          have hown1 := owns_later hown hb1
          have HMA : Hid ((w1.alloc (.cells #[.int .i64 kk, .int .i64 k, .string ⟨x.toArray⟩] 53)).ownsMap Tryz.prog 9 (plainElem (H := Unit) Tryz.prog 3) w.heap.size 4 wordsD) := map_block HM.out ((heap_alloc_old w1 _ (by omega)).trans (hB1.block _ hMl))
          unfold tokV
          clear hb1 hT hown hnx
          rcases hw with hw | hw
          · obtain ⟨hh, hkk⟩ := hw
            go_wp2_with (at_lookup; refine wpList_lookup_own_ok_int _ rfl _ _ 50 rfl 9 3 .i64 law9 Tryz.underlying50 Tryz.underlying3 (zero3 _) w.heap.size 4 wordsD rfl HMA.out _ _ rfl hkey ?_)
            intro c hat hwc
            clear hat hwc
            have HKK : Hid (RP.kindOf kk x = kk) := hkk
            clear hkk
            go_wp2_with (at_builtin; refine wpList_append_own _ rfl _ _ 35 rfl wM.heap.size 53 i0 (.agg #[.int .i64 0, .int .i64 0, .string ⟨#[]⟩]) 3 32 Tryz.underlying35 hi hz0 hz1 hz2 rfl (by decide) _ _ _ rfl ((hown1.alloc _).alloc _) ⟨w1.heap.size + 1, 0, none⟩ 1 1 (cells3 ⟨kk, k, x⟩) rfl rfl (cells3_at ?_ ?_ ?_) (cells3_one _) ?_ ?_ ?_ ?_)
            rotate_right
            · intro v' w2 hown' hgrow _
              have hb2 : Below wM.heap.size wM w2 := ((hB1.alloc hs1 _).alloc (by simp; omega) _).grown hgrow (by simp; omega) (fun j hj => (hown1.lt j hj).1)
              have ctx : w2.cell? ⟨w1.heap.size, 2, none⟩ = some (.string ⟨x.toArray⟩) := by
                have hbk := hgrow.block w1.heap.size (by simp; omega) (fun e => by have := (hown1.lt _ e.symm).2; omega)
                rw [World.cell?_of_block (a := ⟨w1.heap.size, 2, none⟩) hbk, World.cell?_of_block (a := ⟨w1.heap.size, 2, none⟩) (heap_alloc_old _ _ (by simp))]
                simp
              have R : Hid (w2.ownsRow wM.heap.size 53 3 v' (acc ++ [(⟨kk, k, x⟩ : RP.Tok)]).length (flat3 (acc ++ [(⟨kk, k, x⟩ : RP.Tok)]))) := app3 hown'
              have hsk := hSk (k + x.length) (by omega) w2
              push_cast at hsk
              clear hown' hgrow hown1
              go_wp2_with fail
              refine hsk.mono ?_
              rintro e w3 ⟨⟨k3, rfl, hk31, hk32, hd3⟩, hw3⟩
              obtain rfl := hw3.symm
              have HD3 : Hid (s.data.toList.drop k3 = RP.skipL (s.data.toList.drop (k + x.length))) := hd3
              clear hd3 hsk
              go_wp2_with fail
              refine ⟨⟨k3, acc ++ [(⟨kk, k, x⟩ : RP.Tok)], s.data.toList.drop (k + x.length), hk32, rfl, by simp; omega, HD3.out, ?_, R.out, hb2⟩, by simp [intOf]; omega⟩
              rw [HSTEP.out, HKK.out]
            all_goals first | (simp; done) | (unfold maxLen; omega) | omega | (simp; omega)
          · obtain ⟨hh, hat0⟩ := hw
            have HAT : Hid (wordsD.atKey (.string x) (.lit (.int .i64 0)) = .lit (.int .i64 (RP.kindOf kk x : Nat))) := hat0
            clear hat0
            go_wp2_with (at_lookup; refine wpList_lookup_own_ok_int _ rfl _ _ 50 rfl 9 3 .i64 law9 Tryz.underlying50 Tryz.underlying3 (zero3 _) w.heap.size 4 wordsD rfl HMA.out _ _ rfl hkey ?_)
            intro c hat hwc
            obtain rfl : c = (RP.kindOf kk x : Nat) := by
              have := hat.symm.trans HAT.out
              simpa using this
            clear hat hwc
            go_wp2_with (at_builtin; refine wpList_append_own _ rfl _ _ 35 rfl wM.heap.size 53 i0 (.agg #[.int .i64 0, .int .i64 0, .string ⟨#[]⟩]) 3 32 Tryz.underlying35 hi hz0 hz1 hz2 rfl (by decide) _ _ _ rfl ((hown1.alloc _).alloc _) ⟨w1.heap.size + 1, 0, none⟩ 1 1 (cells3 ⟨RP.kindOf kk x, k, x⟩) rfl rfl (cells3_at ?_ ?_ ?_) (cells3_one _) ?_ ?_ ?_ ?_)
            rotate_right
            · intro v' w2 hown' hgrow _
              have hb2 : Below wM.heap.size wM w2 := ((hB1.alloc hs1 _).alloc (by simp; omega) _).grown hgrow (by simp; omega) (fun j hj => (hown1.lt j hj).1)
              have ctx : w2.cell? ⟨w1.heap.size, 2, none⟩ = some (.string ⟨x.toArray⟩) := by
                have hbk := hgrow.block w1.heap.size (by simp; omega) (fun e => by have := (hown1.lt _ e.symm).2; omega)
                rw [World.cell?_of_block (a := ⟨w1.heap.size, 2, none⟩) hbk, World.cell?_of_block (a := ⟨w1.heap.size, 2, none⟩) (heap_alloc_old _ _ (by simp))]
                simp
              have R : Hid (w2.ownsRow wM.heap.size 53 3 v' (acc ++ [(⟨RP.kindOf kk x, k, x⟩ : RP.Tok)]).length (flat3 (acc ++ [(⟨RP.kindOf kk x, k, x⟩ : RP.Tok)]))) := app3 hown'
              have hsk := hSk (k + x.length) (by omega) w2
              push_cast at hsk
              clear hown' hgrow hown1
              go_wp2_with fail
              refine hsk.mono ?_
              rintro e w3 ⟨⟨k3, rfl, hk31, hk32, hd3⟩, hw3⟩
              obtain rfl := hw3.symm
              have HD3 : Hid (s.data.toList.drop k3 = RP.skipL (s.data.toList.drop (k + x.length))) := hd3
              clear hd3 hsk
              go_wp2_with fail
              refine ⟨⟨k3, acc ++ [(⟨RP.kindOf kk x, k, x⟩ : RP.Tok)], s.data.toList.drop (k + x.length), hk32, rfl, by simp; omega, HD3.out, ?_, R.out, hb2⟩, by simp [intOf]; omega⟩
              rw [HSTEP.out]
            all_goals first | (simp; done) | (unfold maxLen; omega) | omega | (simp; omega)
    · have hdn := head_none s k hlt
      have HF : Hid (RP.toks s.data.toList = .ok (acc ++ [(⟨0, s.size, []⟩ : RP.Tok)])) := by
        show _ = _
        rw [HTK.out, toks_end (HDK.out.symm.trans hdn)]
        rfl
      clear hdn
      obtain ⟨ao, cp, hve⟩ := own_slice hown
      subst hve
      go_wp2_with (at_builtin; refine wpList_append_own _ rfl _ _ 35 rfl wM.heap.size 53 i0 (.agg #[.int .i64 0, .int .i64 0, .string ⟨#[]⟩]) 3 32 Tryz.underlying35 hi hz0 hz1 hz2 rfl (by decide) _ _ _ rfl (hown.alloc _) ⟨wr.heap.size, 0, none⟩ 1 1 (cells3 ⟨0, s.size, []⟩) rfl rfl (cells3_at ?_ ?_ ?_) (cells3_one _) ?_ ?_ ?_ ?_)
      rotate_right
      · intro v' w2 hown' hgrow _
        have hb2 : Below wM.heap.size wM w2 := (hnx.alloc hsz _).grown hgrow (by simp; omega) (fun j hj => (hown.lt j hj).1)
        have R : Hid (w2.ownsRow wM.heap.size 53 3 v' (acc ++ [(⟨0, s.size, []⟩ : RP.Tok)]).length (flat3 (acc ++ [(⟨0, s.size, []⟩ : RP.Tok)]))) := app3 hown'
        clear hown' hgrow hown
        go_wp2_with fail
        go_ret
        refine ⟨?_, hbM.trans (hb2.mono hbM.size)⟩
        rw [HF.out]
        exact ⟨_, rfl, owns_mono R.out hbM.size⟩
      all_goals first | (simp; done) | (unfold maxLen; omega) | omega | (simp; omega)

end Go.Proofs.YtjbmdnkpfkelmaaGreatDoor.Q
