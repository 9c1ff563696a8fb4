/- The contract of kind; both at every depth. -/
import Derived.Test.YtjbmdnkpfkelmaaGreatDoorParH
namespace RP

theorem kLoop_fuel {one : List Tok → Res K} (ho : Eats one) (a : Nat) : ∀ (f g : Nat) (k : K) (ts : List Tok), Fine ts → ts.length ≤ f → ts.length ≤ g → kLoop one a f k ts = kLoop one a g k ts := by
  intro f
  induction f with
  | zero => intro g k ts hf h1 _; obtain ⟨t, r, rfl⟩ := hf.cons; simp at h1
  | succ f ih =>
    intro g k ts hf h1 h2
    obtain ⟨t, q, rfl⟩ := hf.cons
    cases g with
    | zero => simp at h2
    | succ g =>
      rw [kLoop, kLoop]
      by_cases hc : codeOf (hd (t :: q)).text = 0
      · rw [if_pos hc, if_pos hc]
      · rw [if_neg hc, if_neg hc]
        have hq : Fine q := hf.next (.inr (fun e => hc (by simp only [hd, List.headD_cons]; rw [e]; rfl)))
        cases h3 : one (t :: q).tail with
        | error b => rfl
        | ok x =>
          obtain ⟨k2, r⟩ := x
          have := ho _ _ _ hq h3
          simp only [List.length_cons] at h1 h2
          exact ih g _ _ this.1 (by omega) (by omega)

end RP
namespace Go.Proofs.YtjbmdnkpfkelmaaGreatDoor.Q
open Go.RowKit Go.Shelf

/-- How many tokens are left. -/
def cnt (pb : Nat) (w : World) : Nat := match w.cell? ⟨pb, 0, none⟩ with | some (.slice _ n _) => n | _ => 0

theorem PS.cnt {pb : Nat} {ts : List RP.Tok} {c : Nat} {w : World} (h : PS pb ts c w) : cnt pb w = ts.length := by
  obtain ⟨tb, off, cap, h1, _⟩ := h
  have : w.cell? ⟨pb, 0, none⟩ = some (.slice (some ⟨tb, off, none⟩) ts.length cap) := by
    simp [World.cell?, h1]
  unfold Q.cnt
  rw [this]

set_option maxHeartbeats 1000000 in
set_option maxRecDepth 100000 in
theorem kind_of_one (d m : Nat) (h1 : KindC 47 d (fun c => RP.oneKindP setOf c m)) : KindC 38 d (fun c => RP.kindP (RP.oneKindP setOf c m)) := by
  intro pb c ts w hf h5 hK h
  dsimp only
  obtain ⟨t, r, rfl⟩ := hf.cons
  have hl := h.lt
  have hC := h1 pb c (t :: r) w hf h5 hK h
  dsimp only at hC
  obtain ⟨tb, off, cap, c0, c1, f0, f1, hc, hcm, t0, t1, t2, -, -, -⟩ := h.open
  have hE := RP.oneKindP_fine setOf c m
  cases hr : RP.oneKindP setOf c m (t :: r) with
  | error b =>
    have HR : Hid (RP.kindP (RP.oneKindP setOf c m) (t :: r) = .error b) := by show _ = _; rw [RP.kindP, hr]
    rw [hr] at hC
    clear h hK hf hr h1 hE
    go_enter Tryz.func38, Tryz.ntmps38
    go_wp2_with fail
    refine hC.mono ?_
    rintro e w2 ⟨hg2, b', rfl, k1, k2, k3⟩
    go_wp2_with fail
    exact ⟨rfl, Step.map HR.out ⟨rfl, rfl, rfl, Nat.le_refl _, fun _ _ _ => rfl⟩ hg2 ⟨b', rfl, k1, k2, k3⟩⟩
  | ok x =>
    obtain ⟨k, q⟩ := x
    have hqf := (hE _ _ _ hf hr).1
    have HR : Hid (RP.kindP (RP.oneKindP setOf c m) (t :: r) = RP.kLoop (RP.oneKindP setOf c m) t.at_ q.length k q) := by show _ = _; rw [RP.kindP, hr]; rfl
    rw [hr] at hC
    have HK : Hid (KT w) := hK
    have H1 : Hid (KindC 47 d (fun c => RP.oneKindP setOf c m)) := h1
    have HE : Hid (RP.Eats (RP.oneKindP setOf c m)) := hE
    clear h hK hf hr h1 hE
    obtain ⟨t3, q3, rfl⟩ := hqf.cons
    go_enter Tryz.func38, Tryz.ntmps38
    go_wp2_with fail
    refine hC.mono ?_
    rintro e w2 ⟨hg2, hp2, v, rfl, hv⟩
    have HP2 : Hid (PS pb (t3 :: q3) c w2) := hp2
    have HV : Hid (KAt (New w) w2 v k) := hv
    obtain ⟨tb, off, cap, c0, c1, f0, f1, hc, hcm, t0, t1, t2, -, -, -⟩ := hp2.open
    have hO := codeOf_any t3.text
    obtain ⟨vb, rfl⟩ := hv.ptr
    clear hp2 hv hC
    go_wp2_with fail
    refine (hO w2).mono ?_
    rintro e w3 ⟨rfl, hw⟩
    obtain rfl := hw.symm
    clear hO
    go_wp2_with fail
    go_loopw [6, 7] (fun v i wr => ∃ (kk : RP.K) (u : RP.Tok) (s : List RP.Tok), RP.Fine (u :: s) ∧ i = .int .i64 (RP.codeOf u.text : Nat) ∧ KAt (New w) wr v kk ∧ PS pb (u :: s) c wr ∧ w.grownBy wr (some pb) ∧ RP.kindP (RP.oneKindP setOf c m) (t :: r) = RP.kLoop (RP.oneKindP setOf c m) t.at_ (u :: s).length kk (u :: s)) (fun _ _ wr => cnt pb wr)
    case atStart => exact ⟨k, t3, q3, hqf, rfl, HV.out, HP2.out, hg2, HR.out⟩
    case round =>
      obtain ⟨kk, u, s, hfu, hi, hkv, hp, hg, hR⟩ := hrel
      obtain ⟨vb2, rfl⟩ := hkv.ptr
      by_cases hcode : RP.codeOf u.text = 0
      · have HR2 : Hid (RP.kindP (RP.oneKindP setOf c m) (t :: r) = .ok (kk, u :: s)) := by show _ = _; rw [hR, List.length_cons, RP.kLoop, if_pos (by exact hcode)]
        have HPr : Hid (PS pb (u :: s) c wr) := hp
        have HKr : Hid (KAt (New w) wr (.pointer (some ⟨vb2, 0, none⟩)) kk) := hkv
        rw [hcode] at hi
        subst hi
        clear hp hkv hR hcode
        go_wp2_with fail
        go_ret
        exact Step.ok HR2.out hg HPr.out HKr.out
      · have h4 : u.kind = 4 := (hfu.2 u (by simp)).2.2.2 hcode
        have hs : RP.Fine s := hfu.next (.inr (fun e => hcode (by rw [e]; rfl)))
        have hT := take_yes pb u s c 4 h4 wr hp
        unfold tokV at hT
        have hC := fun w' hk hp' => H1.out pb c s w' hs h5 hk hp'
        dsimp only at hC
        obtain ⟨n, hn⟩ : ∃ n, n = RP.codeOf u.text := ⟨_, rfl⟩
        rw [← hn] at hi hcode
        subst hi
        have hne : ((n : Int) == 0) = false := by simp; omega
        have hne' : (n : Int) ≠ 0 := by omega
        have hcnt := hp.cnt
        have hlr := hp.lt
        cases hr : RP.oneKindP setOf c m s with
        | error b =>
          have HR2 : Hid (RP.kindP (RP.oneKindP setOf c m) (t :: r) = .error b) := by show _ = _; rw [hR, List.length_cons, RP.kLoop, if_neg (by show ¬ RP.codeOf u.text = 0; rw [← hn]; exact hcode), List.tail_cons, hr]
          rw [hr] at hC
          have HKw := HK.out.grown hg h5
          have HKr : Hid (KT wr) := HKw
          clear hp hkv hR hcode HKw hn hr hcnt
          go_wp2_with fail
          refine hT.mono ?_
          rintro e w4 ⟨rfl, hp4, hg4⟩
          have hC1 := hC w4 (HKr.out.grown hg4 h5) hp4
          clear hp4 hT hC
          go_wp2_with fail
          refine hC1.mono ?_
          rintro e w5 ⟨hg5, b', rfl, k1, k2, k3⟩
          go_wp2_with fail
          exact ⟨rfl, Step.map HR2.out (hg.trans hg4) hg5 ⟨b', rfl, k1, k2, k3⟩⟩
        | ok x =>
          obtain ⟨k2, q2⟩ := x
          have he := HE.out _ _ _ hs hr
          have HR2 : Hid (RP.kindP (RP.oneKindP setOf c m) (t :: r) = RP.kLoop (RP.oneKindP setOf c m) t.at_ q2.length (.bin n t.at_ kk k2) q2) := by
            show _ = _
            rw [hR, List.length_cons, RP.kLoop, if_neg (by show ¬ RP.codeOf u.text = 0; rw [← hn]; exact hcode), List.tail_cons, hr, hn]
            exact RP.kLoop_fuel HE.out _ _ _ _ _ he.1 (by omega) (by omega)
          rw [hr] at hC
          have hq2 := he.1
          have hql := he.2
          obtain ⟨u2, s2, rfl⟩ := hq2.cons
          have HKw := HK.out.grown hg h5
          have HKr : Hid (KT wr) := HKw
          have HKk : Hid (KAt (New w) wr (.pointer (some ⟨vb2, 0, none⟩)) kk) := hkv
          have hO := codeOf_any u2.text
          clear hp hkv hR hcode HKw hn hr he
          go_wp2_with fail
          refine hT.mono ?_
          rintro e w4 ⟨rfl, hp4, hg4⟩
          have hC1 := hC w4 (HKr.out.grown hg4 h5) hp4
          clear hp4 hT hC
          go_wp2_with fail
          refine hC1.mono ?_
          rintro e w5 ⟨hg5, hp5, v5, rfl, hv5⟩
          obtain ⟨vb5, rfl⟩ := hv5.ptr
          have hgA : w5.grownBy (w5.alloc (.cells #[.int .i64 n, .int .i64 t.at_, .slice none 0 0, .string ⟨#[]⟩, .pointer (some ⟨vb2, 0, none⟩), .pointer (some ⟨vb5, 0, none⟩)] 68)) none := World.grownBy_alloc _ _ _
          have hgB : w5.grownBy (w5.alloc (.cells #[.int .i64 n, .int .i64 t.at_, .slice none 0 0, .string ⟨#[]⟩, .pointer (some ⟨vb2, 0, none⟩), .pointer (some ⟨vb5, 0, none⟩)] 68)) (some pb) := World.grownBy_alloc _ _ _
          have hp6 := hp5.grown hgA
          obtain ⟨tb, off, cap, c0, c1, f0, f1, hc, hcm, t0, t1, t2, -, -, -⟩ := hp6.open
          have HP6 : Hid (PS pb (u2 :: s2) c (w5.alloc (.cells #[.int .i64 n, .int .i64 t.at_, .slice none 0 0, .string ⟨#[]⟩, .pointer (some ⟨vb2, 0, none⟩), .pointer (some ⟨vb5, 0, none⟩)] 68))) := hp6
          have hs4 := hg4.size
          have hs5 := hg5.size
          have hsr := hg.size
          have HKV : Hid (KAt (New w) (w5.alloc (.cells #[.int .i64 n, .int .i64 t.at_, .slice none 0 0, .string ⟨#[]⟩, .pointer (some ⟨vb2, 0, none⟩), .pointer (some ⟨vb5, 0, none⟩)] 68)) (.pointer (some ⟨w5.heap.size, 0, none⟩)) (.bin n t.at_ kk k2)) :=
            ⟨w5.heap.size, _, _, rfl, (by unfold New; omega), heap_alloc_new _ _, ((HKk.out.keep (Keeps.new hl hg4)).keep (Keeps.new hl hg5)).keep (Keeps.alloc _ _ _), (hv5.mono (New.mono (by omega))).keep (Keeps.alloc _ _ _)⟩
          have HG : Hid (w.grownBy (w5.alloc (.cells #[.int .i64 n, .int .i64 t.at_, .slice none 0 0, .string ⟨#[]⟩, .pointer (some ⟨vb2, 0, none⟩), .pointer (some ⟨vb5, 0, none⟩)] 68)) (some pb)) := ((hg.trans hg4).trans hg5).trans hgB
          clear hp5 hv5 hC1 hgA hgB hp6
          go_wp2_with fail
          refine (hO _).mono ?_
          rintro e w6 ⟨rfl, hw⟩
          obtain rfl := hw.symm
          clear hO
          go_wp2_with fail
          refine ⟨⟨.bin n t.at_ kk k2, u2, s2, hq2, rfl, HKV.out, HP6.out, HG.out, HR2.out⟩, ?_⟩
          rw [HP6.out.cnt, hcnt]
          simp only [List.length_cons] at hql ⊢
          omega

/-- Both, at every depth. -/
theorem kinds_any : ∀ (m d : Nat), d + m = 9 → KindC 47 d (fun c => RP.oneKindP setOf c m) := by
  intro m
  induction m with
  | zero => intro d hd; obtain rfl : d = 9 := by omega
            exact oneKind_zero
  | succ m ih =>
    intro d hd
    have h := ih (d + 1) (by omega)
    exact oneKind_succ d m (by omega) h (kind_of_one _ _ h)

theorem kind_any (d m : Nat) (h : d + m = 9) : KindC 38 d (fun c => RP.kindP (RP.oneKindP setOf c m)) := kind_of_one d m (kinds_any m d h)

end Go.Proofs.YtjbmdnkpfkelmaaGreatDoor.Q
