/- The law MeanOften, walked. -/
import Derived.Test.YtjbdlihlcoldlaaGreatDoorG52
import Derived.Test.YtjbdlihlcoldlaaGreatDoorG42
namespace Go.Proofs.YtjbdlihlcoldlaaGreatDoor.M
open Go.RowKit Go.Shelf Go.Proofs.YtjbdlihlcoldlaaGreatDoor.Q

theorem tower (W : World) (A F E B S : Obj) : let W6 := ((((W.alloc A).alloc F).alloc E).alloc B).alloc S
    Below W.heap.size W W6 ∧ W6.heap.size = W.heap.size + 5 ∧ W6.heap[W.heap.size]? = some A ∧ W6.heap[W.heap.size + 1]? = some F ∧ W6.heap[W.heap.size + 2]? = some E ∧ W6.heap[W.heap.size + 3]? = some B ∧ W6.heap[W.heap.size + 4]? = some S := by
  intro W6
  have s1 : (W.alloc A).heap.size = W.heap.size + 1 := by simp
  have s2 : ((W.alloc A).alloc F).heap.size = W.heap.size + 2 := by simp
  have s3 : (((W.alloc A).alloc F).alloc E).heap.size = W.heap.size + 3 := by simp
  have s4 : ((((W.alloc A).alloc F).alloc E).alloc B).heap.size = W.heap.size + 4 := by simp
  have s5 : W6.heap.size = W.heap.size + 5 := by simp [W6]
  have n1 := heap_alloc_new W A
  have n2 := heap_alloc_new (W.alloc A) F
  have n3 := heap_alloc_new ((W.alloc A).alloc F) E
  have n4 := heap_alloc_new (((W.alloc A).alloc F).alloc E) B
  have n5 := heap_alloc_new ((((W.alloc A).alloc F).alloc E).alloc B) S
  rw [s1] at n2
  rw [s2] at n3
  rw [s3] at n4
  rw [s4] at n5
  refine ⟨(((((Below.refl _ W).alloc (Nat.le_refl _) _).alloc (by omega) _).alloc (by omega) _).alloc (by omega) _).alloc (by omega) _, s5, ?_, ?_, ?_, ?_, n5⟩
  · rw [heap_alloc_old _ _ (by omega), heap_alloc_old _ _ (by omega), heap_alloc_old _ _ (by omega), heap_alloc_old _ _ (by omega)]
    exact n1
  · rw [heap_alloc_old _ _ (by omega), heap_alloc_old _ _ (by omega), heap_alloc_old _ _ (by omega)]
    exact n2
  · rw [heap_alloc_old _ _ (by omega), heap_alloc_old _ _ (by omega)]
    exact n3
  · rw [heap_alloc_old _ _ (by omega)]
    exact n4

/-- A cell of an int by itself: no row of another type lies there. -/
theorem own_ne {w : World} {pb : Nat} {c : Array Value} (hp : w.heap[pb]? = some (.cells c 3 (0, 0))) {B e size n : Nat} {v : Value} {xs : List Value} (h : w.ownsRow B e size v n xs) (he : e ≠ 3) : ∀ j, v.ownBlock = some j → j ≠ pb := by
  obtain ⟨-, ⟨rfl, -⟩ | ⟨g, cap, cur, rfl, -, hg, -⟩⟩ := h
  · intro j hj; simp [Value.ownBlock] at hj
  · intro j hj e1
    simp only [Value.ownBlock, Option.some.injEq] at hj
    subst hj e1
    rw [hp] at hg
    injection hg with hg
    injection hg with _ h2 _
    exact he h2.symm

theorem own_keep {w w' : World} {pb : Nat} {c : Array Value} (hp : w.heap[pb]? = some (.cells c 3 (0, 0))) (hk : ∀ b, b ≠ pb → b < w.heap.size → w'.heap[b]? = w.heap[b]?) {B e size n : Nat} {v : Value} {xs : List Value} (h : w.ownsRow B e size v n xs) (he : e ≠ 3) : w'.ownsRow B e size v n xs := by
  have hne := own_ne hp h he
  obtain ⟨h0, h1 | ⟨g, cap, cur, rfl, hB, hg, hr⟩⟩ := h
  · exact ⟨h0, .inl h1⟩
  · exact ⟨h0, .inr ⟨g, cap, cur, rfl, hB, (hk g (hne g rfl) (lt_of_block hg)).trans hg, hr⟩⟩

theorem row_ne {w : World} {pb : Nat} {c : Array Value} (hp : w.heap[pb]? = some (.cells c 3 (0, 0))) {e size n : Nat} {v : Value} {xs : List Value} (h : Row (fun _ => True) w e size v n xs) (he : e ≠ 3) : Row (fun b => b ≠ pb) w e size v n xs := ⟨h.1, own_ne hp h.1 he⟩

theorem cells_ne {w : World} {pb b : Nat} {c d : Array Value} {e : Nat} (hp : w.heap[pb]? = some (.cells c 3 (0, 0))) (h : w.heap[b]? = some (.cells d e (0, 0))) (he : e ≠ 3) : b ≠ pb := by
  rintro rfl
  rw [hp] at h
  injection h with h
  injection h with _ h2 _
  exact he h2.symm

theorem kat_ne {w : World} {pb : Nat} {c : Array Value} (hp : w.heap[pb]? = some (.cells c 3 (0, 0))) : ∀ {k : RP.K} {v : Value}, KAt (fun _ => True) w v k → KAt (fun b => b ≠ pb) w v k := by
  intro k
  induction k with
  | lit a X => rintro v ⟨b, sv, rfl, -, h, hr, hx⟩; exact ⟨b, sv, rfl, cells_ne hp h (by decide), h, row_ne hp hr (by decide), hx⟩
  | ref a x => rintro v ⟨b, rfl, -, h⟩; exact ⟨b, rfl, cells_ne hp h (by decide), h⟩
  | bin code a l r ihl ihr => rintro v ⟨b, lv, rv, rfl, -, h, h1, h2⟩; exact ⟨b, lv, rv, rfl, cells_ne hp h (by decide), h, ihl h1, ihr h2⟩
  | neg a k ih => rintro v ⟨b, lv, rfl, -, h, h1⟩; exact ⟨b, lv, rfl, cells_ne hp h (by decide), h, ih h1⟩

theorem pat_ne {w : World} {pb : Nat} {c : Array Value} (hp : w.heap[pb]? = some (.cells c 3 (0, 0))) : ∀ {p : RP.Pt} {vs : List Value}, PAt (fun _ => True) w vs p → PAt (fun b => b ≠ pb) w vs p := by
  intro p
  induction p with
  | one k => rintro vs ⟨b, kv, rfl, -, h, hk⟩; exact ⟨b, kv, rfl, cells_ne hp h (by decide), h, kat_ne hp hk⟩
  | any => rintro vs ⟨b, rfl, -, h⟩; exact ⟨b, rfl, cells_ne hp h (by decide), h⟩
  | edge => rintro vs ⟨b, rfl, -, h⟩; exact ⟨b, rfl, cells_ne hp h (by decide), h⟩
  | cat ps ih => rintro vs ⟨b, sv, ws, rfl, -, h, hr, hs⟩; exact ⟨b, sv, ws, rfl, cells_ne hp h (by decide), h, row_ne hp hr (by decide), ih hs⟩
  | alt ps ih => rintro vs ⟨b, sv, ws, rfl, -, h, hr, hs⟩; exact ⟨b, sv, ws, rfl, cells_ne hp h (by decide), h, row_ne hp hr (by decide), ih hs⟩
  | many p lo hi ih => rintro vs ⟨b, sv, ws, rfl, -, h, hr, hs⟩; exact ⟨b, sv, ws, rfl, cells_ne hp h (by decide), h, row_ne hp hr (by decide), ih hs⟩
  | nil => exact fun h => h
  | cons p ps ih1 ih2 => rintro vs ⟨v, us, rfl, h1, h2⟩; exact ⟨v, us, rfl, ih1 h1, ih2 h2⟩

theorem rg_ne {w w' : World} {pb B : Nat} {x : Value} (hp : w.heap[pb]? = some (.cells #[x] 3 (0, 0))) (hk : ∀ b, b ≠ pb → b < B → w'.heap[b]? = w.heap[b]?) {v : Value} {s : List RS.Rg} (h : RgAt B w v s) (B' : Nat) (hB : B ≤ B') : RgAt B' w' v s := by
  obtain ⟨ao, cap, rfl, hc, h⟩ := h
  refine ⟨ao, cap, rfl, hc, fun hz => ?_⟩
  obtain ⟨b, off, e, hbl, hc⟩ := h hz
  have hne : b ≠ pb := by
    rintro rfl
    have h0 : 0 < s.length := List.length_pos_iff.2 hz
    have := (hc 0 h0).2
    simp [World.cell?, hp] at this
  have hcell : ∀ j, w'.cell? ⟨b, j, none⟩ = w.cell? ⟨b, j, none⟩ := fun j => by simp only [World.cell?, hk b hne hbl]
  exact ⟨b, off, e, by omega, fun k hk => ⟨(hcell _).trans (hc k hk).1, (hcell _).trans (hc k hk).2⟩⟩

theorem nm_ne {w w' : World} {pb B : Nat} {x : Value} (hp : w.heap[pb]? = some (.cells #[x] 3 (0, 0))) (hk : ∀ b, b ≠ pb → b < B → w'.heap[b]? = w.heap[b]?) {v : Value} {T : CK.Tab} (h : NmAt B w v T) (B' : Nat) (hB : B ≤ B') : NmAt B' w' v T := by
  obtain ⟨b, n, D, rfl, h1, h2, h3, h4, h5⟩ := h
  have hne : b ≠ pb := by
    rintro rfl
    obtain ⟨es, clock, hm, -⟩ := h3
    rw [hp] at hm
    cases hm
  refine ⟨b, n, D, rfl, by omega, h2, map_block h3 (hk b hne h1), h4, fun x X hx => ?_⟩
  obtain ⟨u, k1, k2, k3⟩ := h5 x X hx
  exact ⟨u, k1, rg_ne hp hk k2 _ hB, k3⟩

theorem pat_lt {ok : Nat → Prop} {w : World} {b : Nat} {p : RP.Pt} (hf : CK.FitP p false) (h : PAt ok w [.pointer (some ⟨b, 0, none⟩)] p) : b < w.heap.size := by
  cases p with
  | nil => cases hf
  | cons p ps => cases hf.1
  | one k => obtain ⟨b', kv, e, -, h, -⟩ := h; cases e; exact lt_of_block h
  | any => obtain ⟨b', e, -, h⟩ := h; cases e; exact lt_of_block h
  | edge => obtain ⟨b', e, -, h⟩ := h; cases e; exact lt_of_block h
  | cat ps => obtain ⟨b', _, _, e, -, h, -⟩ := h; cases e; exact lt_of_block h
  | alt ps => obtain ⟨b', _, _, e, -, h, -⟩ := h; cases e; exact lt_of_block h
  | many p lo hi => obtain ⟨b', _, _, e, -, h, -⟩ := h; cases e; exact lt_of_block h

/-- utf.Decode, with whose row it is. -/
theorem decode_row (s : ByteArray) (hs : s.size ≤ 1000000) (w : World) (hM : MT w) :
    Calls Tryz.prog 16 #[.string s] w fun e w' => (∃ v, e = .returned v ∧ w'.ownsRow w.heap.size 62 3 v (U8.dec s.data.toList 0).length (flat (U8.dec s.data.toList 0))) ∧ Below w.heap.size w w' := by
  refine (decode_any s hs w hM.2.2.1 (by have := hM.2.2.2.2; omega)).mono ?_
  rintro e w' ⟨v, rfl, h, hb⟩
  exact ⟨⟨v, rfl, h⟩, hb⟩

set_option maxHeartbeats 16000000 in
set_option maxRecDepth 100000 in
theorem oftenlaw_any (s t : ByteArray) (place : Int) (w : World) (hM : MT w) : Calls Tryz.prog 7 #[.string s, .string t, .int .i64 place] w fun e w' => e = .returned (.bool true) ∧ Below w.heap.size w w' := by
  by_cases ht : t.size ≤ 30
  · have hti : ¬ ((30 : Int) < (t.size : Int)) := by omega
    have hb0 := below_alloc1 w (.cells #[.int .i64 place] 3)
    have hn0 := heap_alloc_new w (.cells #[.int .i64 place] 3)
    have HM : Hid (MT w) := hM
    have HB0 : Hid (Below w.heap.size w (w.alloc (.cells #[.int .i64 place] 3))) := hb0
    have HN0 : Hid ((w.alloc (.cells #[.int .i64 place] 3)).heap[w.heap.size]? = some (.cells #[.int .i64 place] 3 (0, 0))) := hn0
    have C := meant_any (w.alloc (.cells #[.int .i64 place] 3)) (hM.on hb0)
    clear hM hb0 hn0
    go_enter Tryz.func7, Tryz.ntmps7
    go_upto_region 1 with fail
    obtain ⟨pb, hpb⟩ : ∃ b, b = w.heap.size := ⟨_, rfl⟩
    have HPB : Hid (pb = w.heap.size) := hpb
    rw [← hpb] at HN0 ⊢
    clear hpb
    generalize w.alloc (.cells #[.int .i64 place] 3) = w0 at C HB0 HN0 ⊢
    go_wp2_with fail
    refine C.mono ?_
    rintro e w1 ⟨rfl, hb1⟩
    have HB1 : Hid (Below w0.heap.size w0 w1) := hb1
    have R := right_any s w1 ((HM.out.on HB0.out).on hb1).1
    clear C hb1
    go_wp2_with fail
    refine R.mono ?_
    rintro e w2 ⟨hr, hb2⟩
    have HB2 : Hid (Below w0.heap.size w0 w2) := HB1.out.trans (hb2.mono HB1.out.size)
    clear R hb2
    rcases hr with ⟨co, cn, cc, ro, rn, rc, el, rfl⟩ | ⟨v, f, rfl, hF, hR, -, -⟩
    · have HB3 : Hid (Below w.heap.size w (w2.alloc (.cells #[.slice co cn cc, .slice ro rn rc, .bool el] 26))) := (HB0.out.trans (HB2.out.mono HB0.out.size)).alloc (HB0.out.trans (HB2.out.mono HB0.out.size)).size _
      go_wp2_with fail
      go_ret
      exact ⟨rfl, HB3.out⟩
    · obtain ⟨co, cn, cc, ro, rn, rc, rfl, hlen⟩ := FAt.agg hF
      obtain ⟨cv', rv', cvs, rvs, hve, hrc, hrr, hcc, hrs⟩ := hF
      have hF : FAt (fun _ => True) w2 (.agg #[.slice co cn cc, .slice ro rn rc, .bool f.els]) f := ⟨cv', rv', cvs, rvs, hve, hrc, hrr, hcc, hrs⟩
      injection hve with hve
      obtain ⟨rfl, rfl⟩ : Value.slice co cn cc = cv' ∧ Value.slice ro rn rc = rv' := by
        have := congrArg Array.toList hve
        simpa using this
      obtain ⟨ro', rc', e1, hrcap, hrg⟩ := row_cells hrr
      injection e1 with e1 e2 e3
      subst e1 e2 e3
      have HC : Hid (RsAt (fun _ => True) w2 rvs f.rules ∧ (rvs ≠ [] → ∃ g off, ro = some ⟨g, off, none⟩ ∧ g < w2.heap.size ∧ ∀ j u, rvs[j]? = some u → w2.cell? ⟨g, off + j, none⟩ = some u)) := ⟨hrs, hrg⟩
      obtain ⟨n, hn⟩ : ∃ n, n = f.rules.length := ⟨_, rfl⟩
      have HN : Hid (n = f.rules.length) := hn
      obtain ⟨el, hel⟩ : ∃ b, b = f.els := ⟨_, rfl⟩
      have HF : Hid (FAt (fun _ => True) w2 (.agg #[.slice co cn cc, .slice ro n rc, .bool el]) f) := by rw [hn, hel]; exact hF
      have HR : Hid (RightF f) := hR
      rw [← hn] at hrcap ⊢
      rw [← hel]
      have hn20 : n ≤ 20 := by rw [hn]; exact HR.out.1.2.2.2
      have HW3 : Hid (Below w2.heap.size w2 (w2.alloc (.cells #[.slice co cn cc, .slice ro n rc, .bool el] 26))) := below_alloc1 _ _
      have HX3 : Hid ((w2.alloc (.cells #[.slice co cn cc, .slice ro n rc, .bool el] 26)).heap[w2.heap.size]? = some (.cells #[.slice co cn cc, .slice ro n rc, .bool el] 26 (0, 0))) := heap_alloc_new _ _
      clear hrr hcc hrs hrg hve hn hrc hF hR hlen hel
      go_upto_region 6 with fail
      obtain ⟨fb, hfb⟩ : ∃ a, a = w2.heap.size := ⟨_, rfl⟩
      have HFB : Hid (fb = w2.heap.size) := hfb
      rw [← hfb] at HX3 ⊢
      clear hfb
      generalize w2.alloc (.cells #[.slice co cn cc, .slice ro n rc, .bool el] 26) = w3 at HW3 HX3 ⊢
      have d0 := cell_of_row w3 fb 0 _ _ _ HX3.out
      have d1 := cell_of_row w3 fb 1 _ _ _ HX3.out
      have d2 := cell_of_row w3 fb 2 _ _ _ HX3.out
      have HB3 : Hid (Below w0.heap.size w0 w3) := HB2.out.trans (HW3.out.mono HB2.out.size)
      by_cases hz : n = 0
      · have hz0 : ((n : Int) == 0) = true := by simp [hz]
        have HBR : Hid (Below w.heap.size w w3) := HB0.out.trans (HB3.out.mono HB0.out.size)
        subst hz
        go_wp2_with fail
        go_ret
        exact ⟨rfl, HBR.out⟩
      · have hz0 : ((n : Int) == 0) = false := by simp [hz]
        have hz1 : ¬ ((n : Int) = 0) := by omega
        have hz2 : (0 : Int) < (n : Int) := by omega
        have hkp : 0 < f.rules.length := by have := HN.out; omega
        have hch := HR.out.2.2
        unfold CK.checkF at hch
        have hT : ∃ T, CK.namesL 9 7 f.classes [] = .ok T := by
          cases hT : CK.namesL 9 7 f.classes [] with
          | error b => rw [hT] at hch; cases hch
          | ok T => exact ⟨T, rfl⟩
        obtain ⟨T, hT⟩ := hT
        have NA := names_any f (.agg #[.slice co cn cc, .slice ro n rc, .bool el]) w3 HR.out.1 (FAt.all HF.out HW3.out)
        rw [hT] at NA
        clear hT hch
        go_wp2_with fail
        refine NA.mono ?_
        rintro e w4 ⟨hb4, mv, rfl, hm⟩
        obtain ⟨mm, _, _, rfl, -⟩ := id hm
        have HNM : Hid (NmAt w4.heap.size w4 (.map (some mm)) T) := hm
        have HB4 : Hid (Below w3.heap.size w3 w4) := hb4
        have d0 := (hb4.cell (p := ⟨fb, 0, none⟩) (by exact lt_of_block HX3.out)).trans d0
        have d1 := (hb4.cell (p := ⟨fb, 1, none⟩) (by exact lt_of_block HX3.out)).trans d1
        have d2 := (hb4.cell (p := ⟨fb, 2, none⟩) (by exact lt_of_block HX3.out)).trans d2
        have hb5 := below_alloc1 w4 (.cells #[.map (some mm)] 29)
        have HX5 : Hid ((w4.alloc (.cells #[.map (some mm)] 29)).heap[w4.heap.size]? = some (.cells #[.map (some mm)] 29 (0, 0))) := heap_alloc_new _ _
        have HB5 : Hid (Below w4.heap.size w4 (w4.alloc (.cells #[.map (some mm)] 29))) := hb5
        have D := decode_row t (by omega) (w4.alloc (.cells #[.map (some mm)] 29)) ((((HM.out.on HB0.out).on HB3.out).on hb4).on hb5)
        obtain ⟨pts, hpts⟩ : ∃ l, l = ptsOf t.data.toList := ⟨_, rfl⟩
        have HPL : Hid (pts.length ≤ 30) := by
          show _ ≤ _
          rw [hpts]
          have := ptsOf_len t.data.toList
          rw [bytes_len] at this
          omega
        obtain ⟨us, hus⟩ : ∃ l, l = U8.dec t.data.toList 0 := ⟨_, rfl⟩
        have HPU : Hid (pts = us.map fun u => (u.1 : Int)) := by
          show _ = _
          rw [hpts, hus]
          rfl
        rw [← hus] at D
        clear NA hm hb4 hb5 hpts hus
        go_upto_region 9 with fail
        obtain ⟨mb, hmb⟩ : ∃ a, a = w4.heap.size := ⟨_, rfl⟩
        have HMB : Hid (mb = w4.heap.size) := hmb
        rw [← hmb] at HX5 ⊢
        clear hmb d0 d1 d2
        generalize w4.alloc (.cells #[.map (some mm)] 29) = w5 at HX5 HB5 D ⊢
        go_wp2_with fail
        refine D.mono ?_
        rintro e w6 ⟨⟨uv, rfl, hu⟩, hb6⟩
        have HU : Hid (w6.ownsRow w5.heap.size 62 3 uv us.length (flat us)) := hu
        have hua := un_of_own hu
        rw [← HPU.out] at hua
        obtain ⟨uo, uc, rfl, -, -, -⟩ := hua
        obtain ⟨m, hm⟩ : ∃ m, m = pts.length := ⟨_, rfl⟩
        have HMM : Hid (m = pts.length) := hm
        have hm30 : m ≤ 30 := by rw [hm]; exact HPL.out
        rw [← hm] at HU ⊢
        clear hu
        have HB6 : Hid (Below w5.heap.size w5 w6) := hb6
        have HB06 : Hid (Below w0.heap.size w0 w6) := by
          have h34 := HB3.out.trans (HB4.out.mono HB3.out.size)
          have h45 := h34.trans (HB5.out.mono h34.size)
          exact h45.trans (hb6.mono h45.size)
        have hb7 := below_alloc1 w6 (.cells #[.slice uo m uc] 51)
        have HB7 : Hid (Below w6.heap.size w6 (w6.alloc (.cells #[.slice uo m uc] 51))) := hb7
        have HX7 : Hid ((w6.alloc (.cells #[.slice uo m uc] 51)).heap[w6.heap.size]? = some (.cells #[.slice uo m uc] 51 (0, 0))) := heap_alloc_new _ _
        clear D hm hb6 hb7
        go_upto_region 12 with fail
        obtain ⟨ub, hub⟩ : ∃ a, a = w6.heap.size := ⟨_, rfl⟩
        have HUB : Hid (ub = w6.heap.size) := hub
        rw [← hub] at HX7 ⊢
        clear hub
        generalize w6.alloc (.cells #[.slice uo m uc] 51) = w7 at HX7 HB7 ⊢
        have hpl : pb < w0.heap.size := lt_of_block HN0.out
        have hp6 := (HB06.out.block pb hpl).trans HN0.out
        have hp7 := (HB7.out.block pb (lt_of_block hp6)).trans hp6
        have HP7 : Hid (w7.heap[pb]? = some (.cells #[.int .i64 place] 3 (0, 0))) := hp7
        have p0 := cell_of_row w7 pb 0 _ _ _ hp7
        have fr := frozen_of_row w7 pb 0 _ _ hp7
        have u0 := cell_of_row w7 ub 0 _ _ _ HX7.out
        have P := pick_any place (m + 1) (by omega) (by omega) w7
        rw [show ((m + 1 : Nat) : Int) = (m : Int) + 1 from by push_cast; rfl] at P
        clear hp6 hp7 hpl
        go_wp2_with fail
        refine P.mono ?_
        rintro e w8' ⟨⟨i, hi, rfl⟩, hw⟩
        subst hw
        clear P u0
        go_upto_region 13 with fail
        have HX8 : Hid ((w8'.setCell ⟨pb, 0, none⟩ (.int .i64 i)).heap[pb]? = some (.cells #[.int .i64 i] 3 (0, 0))) := heap_setCell_same w8' pb 0 _ 3 _ HP7.out
        have HK8 : Hid (∀ b, b ≠ pb → (w8'.setCell ⟨pb, 0, none⟩ (.int .i64 i)).heap[b]? = w8'.heap[b]?) := fun b hb => heap_setCell_other w8' ⟨pb, 0, none⟩ b _ hb
        have hb07 := HB06.out.trans (HB7.out.mono HB06.out.size)
        have HB8 : Hid (Below w.heap.size w (w8'.setCell ⟨pb, 0, none⟩ (.int .i64 i))) := (HB0.out.trans (hb07.mono HB0.out.size)).setCell (p := ⟨pb, 0, none⟩) (by rw [HPB.out]; exact Nat.le_refl _) _
        clear p0 fr hb07
        generalize w8'.setCell ⟨pb, 0, none⟩ (.int .i64 i) = w8 at HX8 HK8 HB8 ⊢
        have hpl : pb < w0.heap.size := lt_of_block HN0.out
        have h02 := HB2.out
        have h24 : Below w2.heap.size w2 w4 := HW3.out.trans (HB4.out.mono HW3.out.size)
        have h47 : Below w4.heap.size w4 w8' := by
          have h46 := HB5.out.trans (HB6.out.mono HB5.out.size)
          exact h46.trans (HB7.out.mono h46.size)
        have h27 : Below w2.heap.size w2 w8' := h24.trans (h47.mono h24.size)
        have hp2 := (h02.block pb hpl).trans HN0.out
        have hp4 := (h24.block pb (lt_of_block hp2)).trans hp2
        have hp6 := (HB06.out.block pb hpl).trans HN0.out
        have hk2 : ∀ b, b ≠ pb → b < w2.heap.size → w8.heap[b]? = w2.heap[b]? := fun b hne hl => (HK8.out b hne).trans (h27.block b hl)
        have hu8 : UnAt w8 (.slice uo m uc) pts := by
          rw [HPU.out]
          exact un_of_own (own_keep hp6 (fun b hne hl => (HK8.out b hne).trans (HB7.out.block b hl)) HU.out (by decide))
        have hfbn : fb ≠ pb := by have := HFB.out; have := h02.size; omega
        have hmbn : mb ≠ pb := by have := HMB.out; have := h02.size; have := h24.size; omega
        have hubn : ub ≠ pb := by have := HUB.out; have := HB06.out.size; omega
        have hub8 := (HK8.out ub hubn).trans HX7.out
        have hmb8 := (HK8.out mb hmbn).trans ((HB7.out.block mb (by have := HMB.out; have := lt_of_block HX5.out; have := HB6.out.size; omega)).trans ((HB6.out.block mb (lt_of_block HX5.out)).trans HX5.out))
        have hn8 : NmAt w8.heap.size w8 (.map (some mm)) T := nm_ne hp4 (fun b hne hl => (HK8.out b hne).trans (h47.block b hl)) HNM.out _ (by have := lt_of_block hmb8; have := HMB.out; omega)
        have h37 : Below w3.heap.size w3 w8' := HB4.out.trans (h47.mono HB4.out.size)
        have hfb8 := (HK8.out fb hfbn).trans ((h37.block fb (lt_of_block HX3.out)).trans HX3.out)
        obtain ⟨bv, av, y0, y1, y2, y3, hPB, hPA⟩ := HC.out.1.get 0 hkp
        obtain ⟨g, off, hro, hgl, hcell⟩ := HC.out.2 (fun e => by rw [e] at y0; simp at y0)
        subst hro
        have x3' := hcell _ _ y3
        have hgn : g ≠ pb := by
          rintro rfl
          simp [World.cell?, hp2] at x3'
        have x3 : w8.cell? ⟨g, off + 3, none⟩ = some av := by
          have : w8.cell? ⟨g, off + (0 * 4 + 3), none⟩ = w2.cell? ⟨g, off + (0 * 4 + 3), none⟩ := by simp only [World.cell?, hk2 g hgn hgl]
          exact this.trans x3'
        obtain ⟨hfb', hfa⟩ := HR.out.1.2.1 f.rules[0] (List.getElem_mem hkp)
        obtain ⟨-, hsa⟩ := HR.out.2.1 f.rules[0] (List.getElem_mem hkp)
        obtain ⟨x, hx⟩ : ∃ x, x = f.rules[0].after := ⟨_, rfl⟩
        rw [← hx] at hPA hfa hsa
        have hGX : Hid (Good x) := ⟨hfa, hsa⟩
        obtain ⟨xa, rfl⟩ := hPA.isPtr hfa
        have hPX : Pat w8 xa x := by
          have h1 := PAt.keep (w' := w8) (fun b hne hl => hk2 b hne hl) (pat_ne hp2 hPA)
          exact ⟨PAt.mono (ok' := fun _ => True) (fun _ _ _ => trivial) h1, pat_lt hfa h1⟩
        have HW8 : Hid (MT w8 ∧ UnAt w8 (.slice uo m uc) pts ∧ NmAt w8.heap.size w8 (.map (some mm)) T ∧ Pat w8 xa x) := ⟨HM.out.on HB8.out, hu8, hn8, hPX⟩
        have HBX : Hid (w8.heap[mb]? = some (.cells #[.map (some mm)] 29 (0, 0)) ∧ w8.heap[ub]? = some (.cells #[.slice uo m uc] 51 (0, 0)) ∧ w8.heap[pb]? = some (.cells #[.int .i64 i] 3 (0, 0))) := ⟨hmb8, hub8, HX8.out⟩
        have d0 := cell_of_row w8 fb 0 _ _ _ hfb8
        have d1 := cell_of_row w8 fb 1 _ _ _ hfb8
        have d2 := cell_of_row w8 fb 2 _ _ _ hfb8
        clear hPX hPA hPB hfa hfb' hsa hx y0 y1 y2 y3 hcell x3' hgn hgl hfb8 h37 hn8 hmb8 hub8 hubn hmbn hfbn hu8 hk2 hp6 hp4 hp2 h27 h47 h24 h02 hpl
        go_wp2_with fail
        obtain ⟨hbt, hst, t0, t1, t2, t3, t4⟩ := tower w8 (.cells #[.pointer (some ⟨xa, 0, none⟩)] 35) (.cells #[.func (.func 25) #[] #[]] 66) (.cells #[.int .i64 3, .pointer none, .slice none 0 0, .int .i64 0, .int .i64 0] 39) (.cells #[.pointer (some ⟨w8.heap.size + 1 + 1, 0, none⟩)] 35) (.cells #[.bool false, .bool true] 4)
        obtain ⟨X, hX⟩ : ∃ b, b = w8.heap.size := ⟨_, rfl⟩
        rw [← hX] at t0 t1 t2 t3 t4 hst hbt ⊢
        generalize ((((w8.alloc (.cells #[.pointer (some ⟨xa, 0, none⟩)] 35)).alloc (.cells #[.func (.func 25) #[] #[]] 66)).alloc (.cells #[.int .i64 3, .pointer none, .slice none 0 0, .int .i64 0, .int .i64 0] 39)).alloc (.cells #[.pointer (some ⟨X + 1 + 1, 0, none⟩)] 35)).alloc (.cells #[.bool false, .bool true] 4) = W6 at t0 t1 t2 t3 t4 hst hbt ⊢
        have HBT : Hid (Below w8.heap.size w8 W6) := by rw [hX] at hbt; exact hbt
        have hst' : W6.heap.size = X + 1 + 1 + 1 + 1 + 1 := hst
        have t1' : W6.heap[X + 1]? = _ := t1
        have t2' : W6.heap[X + 1 + 1]? = _ := t2
        have t3' : W6.heap[X + 1 + 1 + 1]? = _ := t3
        have t4' : W6.heap[X + 1 + 1 + 1 + 1]? = _ := t4
        clear t1 t2 t3 t4 hst hbt hX hst'
        generalize X + 1 = cb at t0 t1' t2' t3' t4' ⊢
        generalize cb + 1 = ed at t1' t2' t3' t4' ⊢
        generalize ed + 1 = eb at t2' t3' t4' ⊢
        generalize eb + 1 = gb at t3' t4' ⊢
        have HT : Hid (W6.heap[X]? = some (.cells #[.pointer (some ⟨xa, 0, none⟩)] 35 (0, 0)) ∧ W6.heap[cb]? = some (.cells #[.func (.func 25) #[] #[]] 66 (0, 0)) ∧ W6.heap[ed]? = some (.cells #[.int .i64 3, .pointer none, .slice none 0 0, .int .i64 0, .int .i64 0] 39 (0, 0)) ∧ W6.heap[eb]? = some (.cells #[.pointer (some ⟨ed, 0, none⟩)] 35 (0, 0)) ∧ W6.heap[gb]? = some (.cells #[.bool false, .bool true] 4 (0, 0))) := ⟨t0, t1', t2', t3', t4'⟩
        clear t0 t1' t2' t3' t4' d0 d1 d2 x3 hz hz0 hz1 hz2 hrcap hn20 hkp
        go_loopw [62] (fun ix wr => ∃ k : Nat, ix = .int .i64 k ∧ k ≤ 2 ∧ Below W6.heap.size W6 wr) (fun ix _ => 2 - (intOf ix).toNat)
        case atStart => exact ⟨0, rfl, by omega, Below.refl _ _⟩
        case round =>
          obtain ⟨k, rfl, hk, hb⟩ := hrel
          have HB : Hid (Below W6.heap.size W6 wr) := hb
          have hg := (hb.block gb (lt_of_block HT.out.2.2.2.2)).trans HT.out.2.2.2.2
          clear hb
          by_cases hlt : k < 2
          · have hkm : (k : Int) < 2 := by omega
            obtain ⟨back, hcell⟩ : ∃ b : Bool, wr.cell? ⟨gb, k, none⟩ = some (.bool b) := by
              rcases (by omega : k = 0 ∨ k = 1) with rfl | rfl
              · exact ⟨false, cell_of_row wr gb 0 _ _ _ hg⟩
              · exact ⟨true, cell_of_row wr gb 1 _ _ _ hg⟩
            clear hg
            have h6 : Below W6.heap.size W6 (wr.alloc (.cells #[.bool back] 4)) := HB.out.alloc HB.out.size _
            have hkb := heap_alloc_new wr (.cells #[.bool back] 4)
            have h8 : Below w8.heap.size w8 (wr.alloc (.cells #[.bool back] 4)) := HBT.out.trans (h6.mono HBT.out.size)
            have H6 : Hid (Below W6.heap.size W6 (wr.alloc (.cells #[.bool back] 4))) := h6
            have H8 : Hid (Below w8.heap.size w8 (wr.alloc (.cells #[.bool back] 4))) := h8
            have HKB : Hid ((wr.alloc (.cells #[.bool back] 4)).heap[wr.heap.size]? = some (.cells #[.bool back] 4 (0, 0))) := hkb
            clear h6 h8 hkb
            go_upto_region 22 with fail
            obtain ⟨kb, hkb⟩ : ∃ b, b = wr.heap.size := ⟨_, rfl⟩
            rw [← hkb] at HKB ⊢
            clear hkb hcell
            generalize wr.alloc (.cells #[.bool back] 4) = W7 at H6 H8 HKB ⊢
            have HO : Hid (OB W7 X xa cb eb kb mb ub pb ed back (.map (some mm)) (.slice uo m uc) i W7) := by
              obtain ⟨a0, a1, a2, a3, -⟩ := HT.out
              have c0 := (H6.out.block X (lt_of_block a0)).trans a0
              have c1 := (H6.out.block cb (lt_of_block a1)).trans a1
              have c3 := (H6.out.block eb (lt_of_block a3)).trans a3
              obtain ⟨b0, b1, b2⟩ := HBX.out
              have e0 := (H8.out.block mb (lt_of_block b0)).trans b0
              have e1 := (H8.out.block ub (lt_of_block b1)).trans b1
              have e2 := (H8.out.block pb (lt_of_block b2)).trans b2
              exact ⟨cell_of_row _ _ 0 _ _ _ c0, cell_of_row _ _ 0 _ _ _ c1, cell_of_row _ _ 0 _ _ _ c3, cell_of_row _ _ 0 _ _ _ HKB.out, cell_of_row _ _ 0 _ _ _ e0, cell_of_row _ _ 0 _ _ _ e1, cell_of_row _ _ 0 _ _ _ e2, Below.refl _ _⟩
            have HALL : Hid (∀ V, OB W7 X xa cb eb kb mb ub pb ed back (.map (some mm)) (.slice uo m uc) i V → MT V ∧ UnAt V (.slice uo m uc) pts ∧ NmAt V.heap.size V (.map (some mm)) T ∧ Pat V ed .edge ∧ Pat V xa x) := fun V hV => by
              have hW : Below W7.heap.size W7 V := hV.2.2.2.2.2.2.2
              have hV8 : Below w8.heap.size w8 V := H8.out.trans (hW.mono H8.out.size)
              have hV6 : Below W6.heap.size W6 V := H6.out.trans (hW.mono H6.out.size)
              obtain ⟨k1, k2, k3, k4⟩ := HW8.out
              have hed : Pat W6 ed .edge := ⟨⟨ed, rfl, trivial, HT.out.2.2.1⟩, lt_of_block HT.out.2.2.1⟩
              exact ⟨k1.on hV8, k2.below hV8, k3.below hV8 _ hV8.size, hed.on hV6, k4.on hV8⟩
            have HX : Hid (∀ V, OB W7 X xa cb eb kb mb ub pb ed back (.map (some mm)) (.slice uo m uc) i V → Pat V xa x) := fun V hV => (HALL.out V hV).2.2.2.2
            have LM : Hid (∀ V (lo hi : Int), OB W7 X xa cb eb kb mb ub pb ed back (.map (some mm)) (.slice uo m uc) i V → Calls Tryz.prog 24 #[.int .i64 lo, .int .i64 hi, .pointer (some ⟨X, 0, none⟩)] V (MakesO W7 X xa cb eb kb mb ub pb ed back (.map (some mm)) (.slice uo m uc) i (.many x lo hi) V)) := fun V lo hi hV => (many_one lo hi hV.1 (HX.out V hV)).mono fun e V' h => h.lift hV
            have L0 : Hid (∀ V, OB W7 X xa cb eb kb mb ub pb ed back (.map (some mm)) (.slice uo m uc) i V → Calls Tryz.prog 25 #[.slice none 0 0] V (MakesO W7 X xa cb eb kb mb ub pb ed back (.map (some mm)) (.slice uo m uc) i (.cat .nil) V)) := fun V hV => (cat_none V).mono fun e V' h => h.lift hV
            have L2 : Hid (∀ V g u v pu pv, OB W7 X xa cb eb kb mb ub pb ed back (.map (some mm)) (.slice uo m uc) i V → V.heap[g]? = some (.cells #[.pointer (some ⟨u, 0, none⟩), .pointer (some ⟨v, 0, none⟩)] 35 (0, 0)) → Pat V u pu → Pat V v pv → Calls Tryz.prog 25 #[.slice (some ⟨g, 0, none⟩) 2 2] V (MakesO W7 X xa cb eb kb mb ub pb ed back (.map (some mm)) (.slice uo m uc) i (.cat (.cons pu (.cons pv .nil))) V)) := fun V g u v pu pv hV hg hu hv => (cat_two hg hu hv).mono fun e V' h => h.lift hV
            have LA : Hid (∀ V g u v pu pv, OB W7 X xa cb eb kb mb ub pb ed back (.map (some mm)) (.slice uo m uc) i V → V.heap[g]? = some (.cells #[.pointer (some ⟨u, 0, none⟩), .pointer (some ⟨v, 0, none⟩)] 35 (0, 0)) → Pat V u pu → Pat V v pv → Calls Tryz.prog 26 #[.slice (some ⟨g, 0, none⟩) 2 2] V (MakesO W7 X xa cb eb kb mb ub pb ed back (.map (some mm)) (.slice uo m uc) i (.alt (.cons pu (.cons pv .nil))) V)) := fun V g u v pu pv hV hg hu hv => (alt_two hg hu hv).mono fun e V' h => h.lift hV
            have LSG : ∀ V u v a b, OB W7 X xa cb eb kb mb ub pb ed back (.map (some mm)) (.slice uo m uc) i V → Pat V u a → Pat V v b → Good a → Good b → Alike T pts back a b → Calls Tryz.prog 27 #[.pointer (some ⟨u, 0, none⟩), .pointer (some ⟨v, 0, none⟩), .pointer (some ⟨cb, 0, none⟩), .pointer (some ⟨eb, 0, none⟩), .pointer (some ⟨kb, 0, none⟩), .pointer (some ⟨mb, 0, none⟩), .pointer (some ⟨ub, 0, none⟩), .pointer (some ⟨pb, 0, none⟩)] V fun e V' => e = .returned (.bool true) ∧ OB W7 X xa cb eb kb mb ub pb ed back (.map (some mm)) (.slice uo m uc) i V' ∧ Below V.heap.size V V' := fun V u v a b hV hu hv ga gb hal => by
              obtain ⟨k1, k2, k3, k4, -⟩ := HALL.out V hV
              have hs : SB V cb eb kb mb ub pb ed back (.map (some mm)) (.slice uo m uc) i V := ⟨hV.2.1, hV.2.2.1, hV.2.2.2.1, hV.2.2.2.2.1, hV.2.2.2.2.2.1, hV.2.2.2.2.2.2.1, Below.refl _ _⟩
              refine (same_any T pts back i a b u v ed cb eb kb mb ub pb _ _ V k1 (by have := HPL.out; omega) (by have := HMM.out; omega) k2 k3 hs k4 hu hv ga gb hal).mono ?_
              rintro e V' ⟨h1, h2⟩
              exact ⟨h1, hV.on h2, h2⟩
            have LS1 : Hid (∀ V u v, OB W7 X xa cb eb kb mb ub pb ed back (.map (some mm)) (.slice uo m uc) i V → Pat V u (.many x 0 (-1)) → Pat V v (.alt (.cons (.cat .nil) (.cons (.cat (.cons x (.cons (.many x 0 (-1)) .nil))) .nil))) → Calls Tryz.prog 27 #[.pointer (some ⟨u, 0, none⟩), .pointer (some ⟨v, 0, none⟩), .pointer (some ⟨cb, 0, none⟩), .pointer (some ⟨eb, 0, none⟩), .pointer (some ⟨kb, 0, none⟩), .pointer (some ⟨mb, 0, none⟩), .pointer (some ⟨ub, 0, none⟩), .pointer (some ⟨pb, 0, none⟩)] V fun e V' => e = .returned (.bool true) ∧ OB W7 X xa cb eb kb mb ub pb ed back (.map (some mm)) (.slice uo m uc) i V' ∧ Below V.heap.size V V') := fun V u v hV hu hv => LSG V u v _ _ hV hu hv (good_many hGX.out 0 (-1) (by decide) (by decide) (by decide) (by decide)) (good_alt2 good_none (good_cat2 hGX.out (good_many hGX.out 0 (-1) (by decide) (by decide) (by decide) (by decide)))) (often_any T pts back x)
            have LS2 : Hid (∀ V u v, OB W7 X xa cb eb kb mb ub pb ed back (.map (some mm)) (.slice uo m uc) i V → Pat V u (.many x 2 2) → Pat V v (.cat (.cons x (.cons x .nil))) → Calls Tryz.prog 27 #[.pointer (some ⟨u, 0, none⟩), .pointer (some ⟨v, 0, none⟩), .pointer (some ⟨cb, 0, none⟩), .pointer (some ⟨eb, 0, none⟩), .pointer (some ⟨kb, 0, none⟩), .pointer (some ⟨mb, 0, none⟩), .pointer (some ⟨ub, 0, none⟩), .pointer (some ⟨pb, 0, none⟩)] V fun e V' => e = .returned (.bool true) ∧ OB W7 X xa cb eb kb mb ub pb ed back (.map (some mm)) (.slice uo m uc) i V' ∧ Below V.heap.size V V') := fun V u v hV hu hv => LSG V u v _ _ hV hu hv (good_many hGX.out 2 2 (by decide) (by decide) (by decide) (by decide)) (good_cat2 hGX.out hGX.out) (often_twice T pts back x)
            have LS3 : Hid (∀ V u v, OB W7 X xa cb eb kb mb ub pb ed back (.map (some mm)) (.slice uo m uc) i V → Pat V u (.many x 0 1) → Pat V v (.alt (.cons x (.cons (.cat .nil) .nil))) → Calls Tryz.prog 27 #[.pointer (some ⟨u, 0, none⟩), .pointer (some ⟨v, 0, none⟩), .pointer (some ⟨cb, 0, none⟩), .pointer (some ⟨eb, 0, none⟩), .pointer (some ⟨kb, 0, none⟩), .pointer (some ⟨mb, 0, none⟩), .pointer (some ⟨ub, 0, none⟩), .pointer (some ⟨pb, 0, none⟩)] V fun e V' => e = .returned (.bool true) ∧ OB W7 X xa cb eb kb mb ub pb ed back (.map (some mm)) (.slice uo m uc) i V' ∧ Below V.heap.size V V') := fun V u v hV hu hv => LSG V u v _ _ hV hu hv (good_many hGX.out 0 1 (by decide) (by decide) (by decide) (by decide)) (good_alt2 hGX.out good_none) (often_perhaps T pts back x)
            have LS4 : Hid (∀ V u v, OB W7 X xa cb eb kb mb ub pb ed back (.map (some mm)) (.slice uo m uc) i V → Pat V u (.many x 1 (-1)) → Pat V v (.cat (.cons (.many x 0 (-1)) (.cons x .nil))) → Calls Tryz.prog 27 #[.pointer (some ⟨u, 0, none⟩), .pointer (some ⟨v, 0, none⟩), .pointer (some ⟨cb, 0, none⟩), .pointer (some ⟨eb, 0, none⟩), .pointer (some ⟨kb, 0, none⟩), .pointer (some ⟨mb, 0, none⟩), .pointer (some ⟨ub, 0, none⟩), .pointer (some ⟨pb, 0, none⟩)] V fun e V' => e = .returned (.bool true) ∧ OB W7 X xa cb eb kb mb ub pb ed back (.map (some mm)) (.slice uo m uc) i V' ∧ Below V.heap.size V V') := fun V u v hV hu hv => LSG V u v _ _ hV hu hv (good_many hGX.out 1 (-1) (by decide) (by decide) (by decide) (by decide)) (good_cat2 (good_many hGX.out 0 (-1) (by decide) (by decide) (by decide) (by decide)) hGX.out) (often_some T pts back x)
            have LS5 : Hid (∀ V u v, OB W7 X xa cb eb kb mb ub pb ed back (.map (some mm)) (.slice uo m uc) i V → Pat V u (.many x 1 3) → Pat V v (.cat (.cons x (.cons (.many x 0 2) .nil))) → Calls Tryz.prog 27 #[.pointer (some ⟨u, 0, none⟩), .pointer (some ⟨v, 0, none⟩), .pointer (some ⟨cb, 0, none⟩), .pointer (some ⟨eb, 0, none⟩), .pointer (some ⟨kb, 0, none⟩), .pointer (some ⟨mb, 0, none⟩), .pointer (some ⟨ub, 0, none⟩), .pointer (some ⟨pb, 0, none⟩)] V fun e V' => e = .returned (.bool true) ∧ OB W7 X xa cb eb kb mb ub pb ed back (.map (some mm)) (.slice uo m uc) i V' ∧ Below V.heap.size V V') := fun V u v hV hu hv => LSG V u v _ _ hV hu hv (good_many hGX.out 1 3 (by decide) (by decide) (by decide) (by decide)) (good_cat2 hGX.out (good_many hGX.out 0 2 (by decide) (by decide) (by decide) (by decide))) (often_three T pts back x)
            have hO0 : OB W7 X xa cb eb kb mb ub pb ed back (.map (some mm)) (.slice uo m uc) i W7.drew := HO.out.on (below_drewN (Below.refl _ _) 1)
            have hb0 : Below W7.heap.size W7 W7.drew := below_drewN (Below.refl _ _) 1
            have eg24 := enter24
            have eg25 := enter25
            have eg26 := enter26
            have eg27 := enter27
            clear LSG
            (try dsimp only [List.append])
            go_region_held3 (fun V => V.cell? ⟨X, 0, none⟩ = some (.pointer (some ⟨xa, 0, none⟩)) ∧ V.cell? ⟨cb, 0, none⟩ = some (.func (.func 25) #[] #[]) ∧ V.cell? ⟨eb, 0, none⟩ = some (.pointer (some ⟨ed, 0, none⟩)) ∧ V.cell? ⟨kb, 0, none⟩ = some (.bool back) ∧ V.cell? ⟨mb, 0, none⟩ = some (.map (some mm)) ∧ V.cell? ⟨ub, 0, none⟩ = some (.slice uo m uc) ∧ V.cell? ⟨pb, 0, none⟩ = some (.int .i64 i) ∧ Below W7.heap.size W7 V)
              (first | exact OB.open_ (by assumption) | exact OB.open_ (OB.on (by assumption) (below_alloc1 _ _)))
              (first
                | (have hmark := hO20; clear hmark; go_at_call 27; refine (LS5.out _ p18 p20 ?_ ?_ ?_).mono ?_; (first | assumption | exact OB.on (by assumption) (below_alloc1 _ _)); (first | exact G20.out.1 | exact G20.out.1.on (below_alloc1 _ _)); (first | exact G20.out.2 | exact G20.out.2.on (below_alloc1 _ _)); rintro e V21 ⟨rfl, hO21, hb21⟩; clear G20 hb20)
                | (have hmark := hO19; clear hmark; go_at_call 25; refine (L2.out _ _ xa p19 x (.many x 0 2) ?_ ?_ ?_ ?_).mono ?_; (first | assumption | exact OB.on (by assumption) (below_alloc1 _ _)); (first | exact heap_alloc_new _ _ | exact (hb19.block _ (by first | (simp; done) | (simp; omega))).trans (heap_alloc_new _ _)); (first | exact HX.out _ (by assumption) | exact HX.out _ (OB.on (by assumption) (below_alloc1 _ _))); (first | exact G19.out.2 | exact G19.out.2.on (below_alloc1 _ _)); rintro e V20 ⟨⟨p20, rfl, hP20⟩, hO20, hb20⟩; have hc20 : Below V19.heap.size V19 V20 := (by first | exact hb20 | exact (below_alloc1 _ _).trans (hb20.mono (by simp))); have G20 : Hid (Pat V20 p18 (.many x 1 3) ∧ Pat V20 p20 (.cat (.cons x (.cons (.many x 0 2) .nil)))) := ⟨G19.out.1.on hc20, hP20⟩; clear G19 hP20 hc20 hb19)
                | (have hmark := hO18; clear hmark; go_at_call 24; refine (LM.out _ 0 2 ?_).mono ?_; (first | assumption | exact OB.on (by assumption) (below_alloc1 _ _)); rintro e V19 ⟨⟨p19, rfl, hP19⟩, hO19, hb19⟩; have hc19 : Below V18.heap.size V18 V19 := (by first | exact hb19 | exact (below_alloc1 _ _).trans (hb19.mono (by simp))); have G19 : Hid (Pat V19 p18 (.many x 1 3) ∧ Pat V19 p19 (.many x 0 2)) := ⟨G18.out.on hc19, hP19⟩; clear G18 hP19 hc19 hb18)
                | (have hmark := hO17; clear hmark; go_at_call 24; refine (LM.out _ 1 3 ?_).mono ?_; (first | assumption | exact OB.on (by assumption) (below_alloc1 _ _)); rintro e V18 ⟨⟨p18, rfl, hP18⟩, hO18, hb18⟩; have G18 : Hid (Pat V18 p18 (.many x 1 3)) := hP18; clear hP18 hb17)
                | (have hmark := hO16; clear hmark; go_at_call 27; refine (LS4.out _ p14 p16 ?_ ?_ ?_).mono ?_; (first | assumption | exact OB.on (by assumption) (below_alloc1 _ _)); (first | exact G16.out.1 | exact G16.out.1.on (below_alloc1 _ _)); (first | exact G16.out.2 | exact G16.out.2.on (below_alloc1 _ _)); rintro e V17 ⟨rfl, hO17, hb17⟩; clear G16 hb16)
                | (have hmark := hO15; clear hmark; go_at_call 25; refine (L2.out _ _ p15 xa (.many x 0 (-1)) x ?_ ?_ ?_ ?_).mono ?_; (first | assumption | exact OB.on (by assumption) (below_alloc1 _ _)); (first | exact heap_alloc_new _ _ | exact (hb15.block _ (by first | (simp; done) | (simp; omega))).trans (heap_alloc_new _ _)); (first | exact G15.out.2 | exact G15.out.2.on (below_alloc1 _ _)); (first | exact HX.out _ (by assumption) | exact HX.out _ (OB.on (by assumption) (below_alloc1 _ _))); rintro e V16 ⟨⟨p16, rfl, hP16⟩, hO16, hb16⟩; have hc16 : Below V15.heap.size V15 V16 := (by first | exact hb16 | exact (below_alloc1 _ _).trans (hb16.mono (by simp))); have G16 : Hid (Pat V16 p14 (.many x 1 (-1)) ∧ Pat V16 p16 (.cat (.cons (.many x 0 (-1)) (.cons x .nil)))) := ⟨G15.out.1.on hc16, hP16⟩; clear G15 hP16 hc16 hb15)
                | (have hmark := hO14; clear hmark; go_at_call 24; refine (LM.out _ 0 (-1) ?_).mono ?_; (first | assumption | exact OB.on (by assumption) (below_alloc1 _ _)); rintro e V15 ⟨⟨p15, rfl, hP15⟩, hO15, hb15⟩; have hc15 : Below V14.heap.size V14 V15 := (by first | exact hb15 | exact (below_alloc1 _ _).trans (hb15.mono (by simp))); have G15 : Hid (Pat V15 p14 (.many x 1 (-1)) ∧ Pat V15 p15 (.many x 0 (-1))) := ⟨G14.out.on hc15, hP15⟩; clear G14 hP15 hc15 hb14)
                | (have hmark := hO13; clear hmark; go_at_call 24; refine (LM.out _ 1 (-1) ?_).mono ?_; (first | assumption | exact OB.on (by assumption) (below_alloc1 _ _)); rintro e V14 ⟨⟨p14, rfl, hP14⟩, hO14, hb14⟩; have G14 : Hid (Pat V14 p14 (.many x 1 (-1))) := hP14; clear hP14 hb13)
                | (have hmark := hO12; clear hmark; go_at_call 27; refine (LS3.out _ p10 p12 ?_ ?_ ?_).mono ?_; (first | assumption | exact OB.on (by assumption) (below_alloc1 _ _)); (first | exact G12.out.1 | exact G12.out.1.on (below_alloc1 _ _)); (first | exact G12.out.2 | exact G12.out.2.on (below_alloc1 _ _)); rintro e V13 ⟨rfl, hO13, hb13⟩; clear G12 hb12)
                | (have hmark := hO11; clear hmark; go_at_call 26; refine (LA.out _ _ xa p11 x (.cat .nil) ?_ ?_ ?_ ?_).mono ?_; (first | assumption | exact OB.on (by assumption) (below_alloc1 _ _)); (first | exact heap_alloc_new _ _ | exact (hb11.block _ (by first | (simp; done) | (simp; omega))).trans (heap_alloc_new _ _)); (first | exact HX.out _ (by assumption) | exact HX.out _ (OB.on (by assumption) (below_alloc1 _ _))); (first | exact G11.out.2 | exact G11.out.2.on (below_alloc1 _ _)); rintro e V12 ⟨⟨p12, rfl, hP12⟩, hO12, hb12⟩; have hc12 : Below V11.heap.size V11 V12 := (by first | exact hb12 | exact (below_alloc1 _ _).trans (hb12.mono (by simp))); have G12 : Hid (Pat V12 p10 (.many x 0 1) ∧ Pat V12 p12 (.alt (.cons x (.cons (.cat .nil) .nil)))) := ⟨G11.out.1.on hc12, hP12⟩; clear G11 hP12 hc12 hb11)
                | (have hmark := hO10; clear hmark; go_at_call 25; refine (L0.out _ ?_).mono ?_; (first | assumption | exact OB.on (by assumption) (below_alloc1 _ _)); rintro e V11 ⟨⟨p11, rfl, hP11⟩, hO11, hb11⟩; have hc11 : Below V10.heap.size V10 V11 := (by first | exact hb11 | exact (below_alloc1 _ _).trans (hb11.mono (by simp))); have G11 : Hid (Pat V11 p10 (.many x 0 1) ∧ Pat V11 p11 (.cat .nil)) := ⟨G10.out.on hc11, hP11⟩; clear G10 hP11 hc11 hb10)
                | (have hmark := hO9; clear hmark; go_at_call 24; refine (LM.out _ 0 1 ?_).mono ?_; (first | assumption | exact OB.on (by assumption) (below_alloc1 _ _)); rintro e V10 ⟨⟨p10, rfl, hP10⟩, hO10, hb10⟩; have G10 : Hid (Pat V10 p10 (.many x 0 1)) := hP10; clear hP10 hb9)
                | (have hmark := hO8; clear hmark; go_at_call 27; refine (LS2.out _ p7 p8 ?_ ?_ ?_).mono ?_; (first | assumption | exact OB.on (by assumption) (below_alloc1 _ _)); (first | exact G8.out.1 | exact G8.out.1.on (below_alloc1 _ _)); (first | exact G8.out.2 | exact G8.out.2.on (below_alloc1 _ _)); rintro e V9 ⟨rfl, hO9, hb9⟩; clear G8 hb8)
                | (have hmark := hO7; clear hmark; go_at_call 25; refine (L2.out _ _ xa xa x x ?_ ?_ ?_ ?_).mono ?_; (first | assumption | exact OB.on (by assumption) (below_alloc1 _ _)); (first | exact heap_alloc_new _ _ | exact (hb7.block _ (by first | (simp; done) | (simp; omega))).trans (heap_alloc_new _ _)); (first | exact HX.out _ (by assumption) | exact HX.out _ (OB.on (by assumption) (below_alloc1 _ _))); (first | exact HX.out _ (by assumption) | exact HX.out _ (OB.on (by assumption) (below_alloc1 _ _))); rintro e V8 ⟨⟨p8, rfl, hP8⟩, hO8, hb8⟩; have hc8 : Below V7.heap.size V7 V8 := (by first | exact hb8 | exact (below_alloc1 _ _).trans (hb8.mono (by simp))); have G8 : Hid (Pat V8 p7 (.many x 2 2) ∧ Pat V8 p8 (.cat (.cons x (.cons x .nil)))) := ⟨G7.out.on hc8, hP8⟩; clear G7 hP8 hc8 hb7)
                | (have hmark := hO6; clear hmark; go_at_call 24; refine (LM.out _ 2 2 ?_).mono ?_; (first | assumption | exact OB.on (by assumption) (below_alloc1 _ _)); rintro e V7 ⟨⟨p7, rfl, hP7⟩, hO7, hb7⟩; have G7 : Hid (Pat V7 p7 (.many x 2 2)) := hP7; clear hP7 hb6)
                | (have hmark := hO5; clear hmark; go_at_call 27; refine (LS1.out _ p1 p5 ?_ ?_ ?_).mono ?_; (first | assumption | exact OB.on (by assumption) (below_alloc1 _ _)); (first | exact G5.out.1 | exact G5.out.1.on (below_alloc1 _ _)); (first | exact G5.out.2 | exact G5.out.2.on (below_alloc1 _ _)); rintro e V6 ⟨rfl, hO6, hb6⟩; clear G5 hb5)
                | (have hmark := hO4; clear hmark; go_at_call 26; refine (LA.out _ _ p2 p4 (.cat .nil) (.cat (.cons x (.cons (.many x 0 (-1)) .nil))) ?_ ?_ ?_ ?_).mono ?_; (first | assumption | exact OB.on (by assumption) (below_alloc1 _ _)); (first | exact heap_alloc_new _ _ | exact (hb4.block _ (by first | (simp; done) | (simp; omega))).trans (heap_alloc_new _ _)); (first | exact G4.out.2.1 | exact G4.out.2.1.on (below_alloc1 _ _)); (first | exact G4.out.2.2 | exact G4.out.2.2.on (below_alloc1 _ _)); rintro e V5 ⟨⟨p5, rfl, hP5⟩, hO5, hb5⟩; have hc5 : Below V4.heap.size V4 V5 := (by first | exact hb5 | exact (below_alloc1 _ _).trans (hb5.mono (by simp))); have G5 : Hid (Pat V5 p1 (.many x 0 (-1)) ∧ Pat V5 p5 (.alt (.cons (.cat .nil) (.cons (.cat (.cons x (.cons (.many x 0 (-1)) .nil))) .nil)))) := ⟨G4.out.1.on hc5, hP5⟩; clear G4 hP5 hc5 hb4)
                | (have hmark := hO3; clear hmark; go_at_call 25; refine (L2.out _ _ xa p3 x (.many x 0 (-1)) ?_ ?_ ?_ ?_).mono ?_; (first | assumption | exact OB.on (by assumption) (below_alloc1 _ _)); (first | exact heap_alloc_new _ _ | exact (hb3.block _ (by first | (simp; done) | (simp; omega))).trans (heap_alloc_new _ _)); (first | exact HX.out _ (by assumption) | exact HX.out _ (OB.on (by assumption) (below_alloc1 _ _))); (first | exact G3.out.2.2 | exact G3.out.2.2.on (below_alloc1 _ _)); rintro e V4 ⟨⟨p4, rfl, hP4⟩, hO4, hb4⟩; have hc4 : Below V3.heap.size V3 V4 := (by first | exact hb4 | exact (below_alloc1 _ _).trans (hb4.mono (by simp))); have G4 : Hid (Pat V4 p1 (.many x 0 (-1)) ∧ Pat V4 p2 (.cat .nil) ∧ Pat V4 p4 (.cat (.cons x (.cons (.many x 0 (-1)) .nil)))) := ⟨G3.out.1.on hc4, G3.out.2.1.on hc4, hP4⟩; clear G3 hP4 hc4 hb3)
                | (have hmark := hO2; clear hmark; go_at_call 24; refine (LM.out _ 0 (-1) ?_).mono ?_; (first | assumption | exact OB.on (by assumption) (below_alloc1 _ _)); rintro e V3 ⟨⟨p3, rfl, hP3⟩, hO3, hb3⟩; have hc3 : Below V2.heap.size V2 V3 := (by first | exact hb3 | exact (below_alloc1 _ _).trans (hb3.mono (by simp))); have G3 : Hid (Pat V3 p1 (.many x 0 (-1)) ∧ Pat V3 p2 (.cat .nil) ∧ Pat V3 p3 (.many x 0 (-1))) := ⟨G2.out.1.on hc3, G2.out.2.on hc3, hP3⟩; clear G2 hP3 hc3 hb2)
                | (have hmark := hO1; clear hmark; go_at_call 25; refine (L0.out _ ?_).mono ?_; (first | assumption | exact OB.on (by assumption) (below_alloc1 _ _)); rintro e V2 ⟨⟨p2, rfl, hP2⟩, hO2, hb2⟩; have hc2 : Below V1.heap.size V1 V2 := (by first | exact hb2 | exact (below_alloc1 _ _).trans (hb2.mono (by simp))); have G2 : Hid (Pat V2 p1 (.many x 0 (-1)) ∧ Pat V2 p2 (.cat .nil)) := ⟨G1.out.on hc2, hP2⟩; clear G1 hP2 hc2 hb1)
                | (go_at_call 24; refine (LM.out _ 0 (-1) ?_).mono ?_; (first | assumption | exact OB.on (by assumption) (below_alloc1 _ _)); rintro e V1 ⟨⟨p1, rfl, hP1⟩, hO1, hb1⟩; have G1 : Hid (Pat V1 p1 (.many x 0 (-1))) := hP1; clear hP1))
            all_goals
              have HR21 : Hid (Below W7.heap.size W7 V21) := hO21.2.2.2.2.2.2.2
              clear hO21
              go_wp2_with fail
              case roundEnd => exact ⟨⟨k + 1, by go_num, by omega, H6.out.trans (HR21.out.mono H6.out.size)⟩, by simp [intOf]; omega⟩
          · have hkm : ¬ ((k : Int) < 2) := by omega
            have HBR : Hid (Below w.heap.size w wr) := by
              have h1 := HBT.out.trans (HB.out.mono HBT.out.size)
              exact HB8.out.trans (h1.mono HB8.out.size)
            clear hg
            go_wp2_with fail
            go_ret
            exact ⟨rfl, HBR.out⟩
  · have hti : (30 : Int) < (t.size : Int) := by omega
    clear ht
    have hb0 := below_alloc1 w (.cells #[.int .i64 place] 3)
    have HB0 : Hid (Below w.heap.size w (w.alloc (.cells #[.int .i64 place] 3))) := hb0
    clear hb0
    go_enter Tryz.func7, Tryz.ntmps7
    go_wp2_with fail
    go_ret
    exact ⟨rfl, HB0.out⟩

end Go.Proofs.YtjbdlihlcoldlaaGreatDoor.M
