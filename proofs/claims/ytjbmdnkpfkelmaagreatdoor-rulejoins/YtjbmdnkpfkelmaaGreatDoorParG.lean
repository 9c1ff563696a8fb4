/- Kinds in memory; the contract of setOrName. -/
import Derived.Test.YtjbmdnkpfkelmaaGreatDoorParF
namespace Go.Proofs.YtjbmdnkpfkelmaaGreatDoor.Q
open Go.RowKit Go.Shelf

/-- The blocks that a world does not hold yet. -/
def New (w : World) (b : Nat) : Prop := w.heap.size ≤ b

/-- An own row whose block is one of these. -/
def Row (ok : Nat → Prop) (w : World) (e : TypeId) (size : Nat) (v : Value) (n : Nat) (xs : List Value) : Prop :=
  w.ownsRow 0 e size v n xs ∧ ∀ j, v.ownBlock = some j → ok j

/-- A pointer leads to this kind, in such blocks. -/
def KAt (ok : Nat → Prop) (w : World) : Value → RP.K → Prop
  | v, .lit a X => ∃ b sv, v = .pointer (some ⟨b, 0, none⟩) ∧ ok b ∧ w.heap[b]? = some (.cells #[.int .i64 1, .int .i64 a, sv, .string ⟨#[]⟩, .pointer none, .pointer none] 68) ∧ Row ok w 85 2 sv X.length (flat2 X) ∧ RS.right X = true
  | v, .ref a x => ∃ b, v = .pointer (some ⟨b, 0, none⟩) ∧ ok b ∧ w.heap[b]? = some (.cells #[.int .i64 2, .int .i64 a, .slice none 0 0, .string ⟨x.toArray⟩, .pointer none, .pointer none] 68)
  | v, .bin code a l r => ∃ b lv rv, v = .pointer (some ⟨b, 0, none⟩) ∧ ok b ∧ w.heap[b]? = some (.cells #[.int .i64 code, .int .i64 a, .slice none 0 0, .string ⟨#[]⟩, lv, rv] 68) ∧ KAt ok w lv l ∧ KAt ok w rv r
  | v, .neg a k => ∃ b lv, v = .pointer (some ⟨b, 0, none⟩) ∧ ok b ∧ w.heap[b]? = some (.cells #[.int .i64 6, .int .i64 a, .slice none 0 0, .string ⟨#[]⟩, lv, .pointer none] 68) ∧ KAt ok w lv k

/-- Such blocks are as they were. -/
def Keeps (ok : Nat → Prop) (w w' : World) : Prop := ∀ b, ok b → b < w.heap.size → w'.heap[b]? = w.heap[b]?

theorem Keeps.grown {ok : Nat → Prop} {w w' : World} {g : Option Nat} (hg : w.grownBy w' g) (hp : ∀ b, ok b → some b ≠ g) : Keeps ok w w' :=
  fun b hb hl => hg.block b hl (hp b hb)

theorem Keeps.alloc (ok : Nat → Prop) (w : World) (o : Obj) : Keeps ok w (w.alloc o) := fun _ _ hl => heap_alloc_old w o hl

theorem Row.keep {ok : Nat → Prop} {w w' : World} {e : TypeId} {size : Nat} {v : Value} {n : Nat} {xs : List Value} (h : Row ok w e size v n xs) (hk : Keeps ok w w') : Row ok w' e size v n xs := by
  obtain ⟨⟨h1, h2 | ⟨g, cap, cur, rfl, hgl, hh, rest⟩⟩, ho⟩ := h
  · exact ⟨⟨h1, Or.inl h2⟩, ho⟩
  · exact ⟨⟨h1, Or.inr ⟨g, cap, cur, rfl, hgl, (hk g (ho g rfl) (lt_of_block hh)).trans hh, rest⟩⟩, ho⟩

theorem Row.mono {ok ok' : Nat → Prop} {w : World} {e : TypeId} {size : Nat} {v : Value} {n : Nat} {xs : List Value} (h : Row ok w e size v n xs) (hk : ∀ b, b < w.heap.size → ok b → ok' b) : Row ok' w e size v n xs :=
  ⟨h.1, fun j hj => hk j (h.1.lt j hj).2 (h.2 j hj)⟩

theorem Row.new {w w' : World} {e : TypeId} {size : Nat} {v : Value} {n : Nat} {xs : List Value} (h : w'.ownsRow w.heap.size e size v n xs) : Row (New w) w' e size v n xs :=
  ⟨owns_mono h (Nat.zero_le _), fun j hj => (h.lt j hj).1⟩

theorem KAt.keep {ok : Nat → Prop} {w w' : World} (hk : Keeps ok w w') : ∀ {k : RP.K} {v : Value}, KAt ok w v k → KAt ok w' v k := by
  intro k
  induction k with
  | lit a X =>
    rintro v ⟨b, sv, rfl, h1, h2, h3, h4⟩
    exact ⟨b, sv, rfl, h1, (hk b h1 (lt_of_block h2)).trans h2, h3.keep hk, h4⟩
  | ref a x =>
    rintro v ⟨b, rfl, h1, h2⟩
    exact ⟨b, rfl, h1, (hk b h1 (lt_of_block h2)).trans h2⟩
  | bin code a l r ihl ihr =>
    rintro v ⟨b, lv, rv, rfl, h1, h2, h3, h4⟩
    exact ⟨b, lv, rv, rfl, h1, (hk b h1 (lt_of_block h2)).trans h2, ihl h3, ihr h4⟩
  | neg a k ih =>
    rintro v ⟨b, lv, rfl, h1, h2, h3⟩
    exact ⟨b, lv, rfl, h1, (hk b h1 (lt_of_block h2)).trans h2, ih h3⟩

theorem KAt.mono {ok ok' : Nat → Prop} {w : World} (hk : ∀ b, b < w.heap.size → ok b → ok' b) : ∀ {k : RP.K} {v : Value}, KAt ok w v k → KAt ok' w v k := by
  intro k
  induction k with
  | lit a X =>
    rintro v ⟨b, sv, rfl, h1, h2, h3, h4⟩
    exact ⟨b, sv, rfl, hk b (lt_of_block h2) h1, h2, h3.mono hk, h4⟩
  | ref a x =>
    rintro v ⟨b, rfl, h1, h2⟩
    exact ⟨b, rfl, hk b (lt_of_block h2) h1, h2⟩
  | bin code a l r ihl ihr =>
    rintro v ⟨b, lv, rv, rfl, h1, h2, h3, h4⟩
    exact ⟨b, lv, rv, rfl, hk b (lt_of_block h2) h1, h2, ihl h3, ihr h4⟩
  | neg a k ih =>
    rintro v ⟨b, lv, rfl, h1, h2, h3⟩
    exact ⟨b, lv, rfl, hk b (lt_of_block h2) h1, h2, ih h3⟩

theorem Keeps.new {w W w' : World} {pb : Nat} (hl : pb < w.heap.size) (hg : W.grownBy w' (some pb)) : Keeps (New w) W w' :=
  Keeps.grown hg fun b hb e => by cases e; unfold New at hb; omega

theorem New.mono {w W : World} (h : w.heap.size ≤ W.heap.size) {n : Nat} : ∀ b, b < n → New W b → New w b := fun _ _ hb => Nat.le_trans h hb

theorem KT.grown {w w' : World} {pb : Nat} (h : KT w) (hg : w.grownBy w' (some pb)) (hp : 5 < pb) : KT w' := by
  have hb : ∀ j k, j ≤ 5 → w'.cell? ⟨j, k, none⟩ = w.cell? ⟨j, k, none⟩ := fun j k hj => World.cell?_of_block (a := ⟨j, k, none⟩) (hg.block j (by have := h.2.2.2; omega) (fun e => by cases e; omega))
  obtain ⟨h1, ⟨h2, h3⟩, ⟨m, h4⟩, h5⟩ := h
  refine ⟨(hb _ _ (by omega)).trans h1, ⟨?_, ?_⟩, ⟨m, (hb _ _ (by omega)).trans h4⟩, Nat.lt_of_lt_of_le h5 hg.size⟩
  · obtain ⟨t, p, h⟩ := h2; exact ⟨t, p, (hb _ _ (by omega)).trans h⟩
  · obtain ⟨t, p, h⟩ := h3; exact ⟨t, p, (hb _ _ (by omega)).trans h⟩

theorem setOf_right {t : List UInt8} {X : List RS.Rg} (h : setOf t = some X) : RS.right X = true := by
  unfold setOf at h
  split at h
  · rename_i hx
    cases h
    exact hx.choose_spec.1
  · cases h

set_option maxHeartbeats 1000000 in
set_option maxRecDepth 100000 in
theorem setOrName_any (pb : Nat) (t : RP.Tok) (r : List RP.Tok) (c : Nat) (ht : RP.TokOk t) (w : World) (hK : KT w) (h : PS pb (t :: r) c w) :
    Calls Tryz.prog 56 #[.pointer (some ⟨pb, 0, none⟩)] w (Step pb c w (RP.setOrNameP setOf c (t :: r)) fun k v w' => KAt (New w) w' v k) := by
  have hl := h.lt
  have hI := is_any 3 pb t r c w h
  by_cases h3 : t.kind = 3
  · have e3 : decide (t.kind = 3) = true := by simpa using h3
    rw [e3] at hI
    obtain ⟨tb, off, cap, c0, c1, f0, f1, hc, hcm, t0, t1, t2, -, -, -⟩ := h.open
    cases hS : setOf t.text with
    | none =>
      have hP := setParse_none t.text ht.1 hS w hK
      have HR : Hid (RP.setOrNameP setOf c (t :: r) = .error ⟨refuseE 3 t c, t.at_⟩) := by show _ = _; rw [RP.setOrNameP, if_pos h3, hS]; rfl
      have HPS : Hid (PS pb (t :: r) c w) := h
      generalize (⟨t.text.toArray⟩ : ByteArray) = y at t2 hP
      clear h h3 e3 hS hK ht
      go_enter Tryz.func56, Tryz.ntmps56
      go_wp2_with fail
      refine hI.mono ?_
      rintro e w' ⟨rfl, hw⟩
      obtain rfl := hw.symm
      clear hI
      go_wp2_with fail
      refine hP.mono ?_
      rintro e w1 ⟨rfl, hb1⟩
      have hF := refuse_any 3 pb t r c w1 (HPS.out.below hb1)
      clear hP
      go_wp2_with fail
      refine hF.mono ?_
      rintro e w2 ⟨⟨b, rfl, k1, k2, k3⟩, hb2⟩
      go_wp2_with fail
      exact ⟨rfl, Step.map HR.out (grown_below hb1 _) (grown_below hb2 _) ⟨b, rfl, k1, k2, k3⟩⟩
    | some X =>
      have hP := setParse_some t.text X ht.1 hS w hK
      have HR : Hid (RP.setOrNameP setOf c (t :: r) = .ok (.lit t.at_ X, r)) := by show _ = _; rw [RP.setOrNameP, if_pos h3, hS]
      have HX : Hid (RS.right X = true) := setOf_right hS
      have HPS : Hid (PS pb (t :: r) c w) := h
      have H3 : Hid (t.kind = 3) := h3
      generalize (⟨t.text.toArray⟩ : ByteArray) = y at t2 hP
      clear h h3 e3 hS hK ht
      go_enter Tryz.func56, Tryz.ntmps56
      go_wp2_with fail
      refine hI.mono ?_
      rintro e w' ⟨rfl, hw⟩
      obtain rfl := hw.symm
      clear hI
      go_wp2_with fail
      refine hP.mono ?_
      rintro e w1 ⟨⟨v, rfl, hown⟩, hb1⟩
      obtain ⟨ao, cp, hve⟩ := own_slice hown
      subst hve
      have hF := take_yes pb t r c 3 H3.out w1 (HPS.out.below hb1)
      unfold tokV at hF
      have HO : Hid (Row (New w) w1 85 2 (.slice ao X.length cp) X.length (flat2 X)) := Row.new hown
      have hs1 := hb1.size
      clear hP hown c0 c1 f0 f1 t0 t1 t2
      go_wp2_with fail
      refine hF.mono ?_
      rintro e w2 ⟨rfl, hP2, hg2⟩
      have HP2 : Hid (PS pb r c w2) := hP2
      have HO2 : Hid (Row (New w) w2 85 2 (.slice ao X.length cp) X.length (flat2 X)) := HO.out.keep (Keeps.new hl hg2)
      have hs2 := hg2.size
      clear hP2 hF
      go_wp2_with fail
      go_ret
      refine Step.ok HR.out (((grown_below hb1 _).trans hg2).trans (World.grownBy_alloc _ _ _)) (HP2.out.grown (World.grownBy_alloc _ _ _)) ?_
      exact ⟨w2.heap.size, _, rfl, (by unfold New; omega), heap_alloc_new _ _, HO2.out.keep (Keeps.alloc _ _ _), HX.out⟩
  · have e3 : decide (t.kind = 3) = false := by simpa using h3
    rw [e3] at hI
    have hN := name_any pb t r c (by have := ht.1; omega) w h
    obtain ⟨tb, off, cap, c0, c1, f0, f1, hc, hcm, t0, t1, t2, -, -, -⟩ := h.open
    cases hn : RP.nameP c (t :: r) with
    | error b =>
      rw [hn] at hN
      have HR : Hid (RP.setOrNameP setOf c (t :: r) = .error b) := by show _ = _; rw [RP.setOrNameP, if_neg h3, hn]
      clear h h3 e3 hn hK ht
      go_enter Tryz.func56, Tryz.ntmps56
      go_wp2_with fail
      refine hI.mono ?_
      rintro e w' ⟨rfl, hw⟩
      obtain rfl := hw.symm
      clear hI
      go_wp2_with fail
      refine hN.mono ?_
      rintro e w1 ⟨hg, b', rfl, k1, k2, k3⟩
      go_wp2_with fail
      exact ⟨rfl, Step.map HR.out ⟨rfl, rfl, rfl, Nat.le_refl _, fun _ _ _ => rfl⟩ hg ⟨b', rfl, k1, k2, k3⟩⟩
    | ok x =>
      obtain ⟨x, q⟩ := x
      rw [hn] at hN
      have HR : Hid (RP.setOrNameP setOf c (t :: r) = .ok (.ref t.at_ x, q)) := by show _ = _; rw [RP.setOrNameP, if_neg h3, hn]
      clear h h3 e3 hn hK ht
      go_enter Tryz.func56, Tryz.ntmps56
      go_wp2_with fail
      refine hI.mono ?_
      rintro e w' ⟨rfl, hw⟩
      obtain rfl := hw.symm
      clear hI
      go_wp2_with fail
      refine hN.mono ?_
      rintro e w1 ⟨hg, hP1, v, rfl, rfl⟩
      have HP1 : Hid (PS pb q c w1) := hP1
      have hs1 := hg.size
      clear hP1 hN c0 c1 f0 f1 t0 t1 t2
      go_wp2_with fail
      go_ret
      refine Step.ok HR.out (hg.trans (World.grownBy_alloc _ _ _)) (HP1.out.grown (World.grownBy_alloc _ _ _)) ?_
      exact ⟨w1.heap.size, rfl, (by unfold New; omega), heap_alloc_new _ _⟩

end Go.Proofs.YtjbmdnkpfkelmaaGreatDoor.Q
