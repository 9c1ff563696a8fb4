/- set.Parse at every text, and at what a set is written as. -/
import Derived.Test.YtjbmdnkpfkelmaaGreatDoorSParse
namespace Go.Proofs.YtjbmdnkpfkelmaaGreatDoor
open Go.RowKit Go.Shelf

theorem trimPrefix_le (s : List UInt8) (p : List UInt8) : (Lib.trimPrefix s p).length ≤ s.length := by unfold Lib.trimPrefix; split <;> simp
theorem trimSuffix_le (s : List UInt8) (p : List UInt8) : (Lib.trimSuffix s p).length ≤ s.length := by unfold Lib.trimSuffix; split <;> simp <;> omega

theorem inner_size (s : ByteArray) : (inner s).size ≤ s.size := by
  show (Lib.trimSuffix (Lib.trimPrefix s.data.toList [91]) [93]).toArray.size ≤ _
  have h1 := trimSuffix_le (Lib.trimPrefix s.data.toList [91]) [93]
  have h2 := trimPrefix_le s.data.toList [91]
  have h3 : s.data.toList.length = s.size := by simp
  simp
  omega

/-- Whatever the text is: an error, or the set that is written so. -/
theorem parse_all (s : ByteArray) (hs : s.size ≤ 5000) (w : World) (hE : EV w) (hM : ML w) (hT : TZ w) (h8 : 5 < w.heap.size) :
    Calls Tryz.prog 61 #[.string s] w fun e w' => (e = .returned (.tuple #[.slice none 0 0, .iface 56 (.int .i64 3)]) ∨
      ∃ v out, e = .returned (.tuple #[v, .nilIface]) ∧ out.length ≤ 5000 ∧ RS.right out = true ∧ bytesOf (RS.setText out) = s ∧ w'.ownsRow w.heap.size 85 2 v out.length (flat2 out)) ∧ Below w.heap.size w w' := by
  have hin := inner_size s
  refine (parse_core s (by omega) (fun pre t => pre.length + t.size ≤ 5000) (fun pre _ => pre.length ≤ 10000) (fun pre t h => by omega) (fun xs t h => by omega) (fun pre x h => h) ?_ (by simp; omega) w hE hM hT h8).mono ?_
  · intro pre t hz ht W he hm hw
    obtain ⟨c1, c2, c3⟩ := cut_len 32 t.data.toList
    have h3 : t.data.toList.length = t.size := by simp
    have c4 := c3 (fun e => ht (by have := congrArg List.length e; simpa using this))
    refine (one_all ⟨(Lib.cut t.data.toList [32]).1.toArray⟩ ?_ W he hm hw).mono ?_
    · show (Lib.cut t.data.toList [32]).1.toArray.size ≤ _
      simp; omega
    · rintro e W' ⟨⟨x, _, rfl⟩, hb⟩
      refine ⟨⟨x, ⟨by omega, ?_⟩, rfl⟩, hb⟩
      show (pre ++ [x]).length + (Lib.cut t.data.toList [32]).2.1.toArray.size ≤ 5000
      simp
      omega
  · rintro e w' ⟨⟨rfl, _⟩ | ⟨v, xs, rfl, hz, hr, ht, hown⟩, hb⟩
    · exact ⟨.inl rfl, hb⟩
    · exact ⟨.inr ⟨v, firsts xs, rfl, by unfold firsts; rw [List.length_map]; omega, hr, ht, hown⟩, hb⟩

theorem midText_pos (s : List RS.Rg) : ∀ k, RS.midText (k + 1) s = RS.midText 1 s := by
  induction s with
  | nil => intro k; rfl
  | cons r s ih =>
    intro k
    rw [RS.midText, RS.midText, ih (k + 1), ih 1]
    simp

theorem midText_cons (r q : RS.Rg) (s : List RS.Rg) : RS.midText 0 (r :: q :: s) = RS.rgText r ++ 32 :: RS.midText 0 (q :: s) := by
  rw [RS.midText, RS.midText, RS.midText, midText_pos s 1]
  simp

theorem midText_one (r : RS.Rg) : RS.midText 0 [r] = RS.rgText r := by simp [RS.midText]

theorem rgText_ne (r : RS.Rg) : RS.rgText r ≠ [] := by
  unfold RS.rgText
  intro e
  have := (List.append_eq_nil_iff.1 e).1
  have h := RS.hexF_length 16 r.1.toNat
  unfold RS.hex at this
  rw [this] at h
  simp at h

theorem rgText_not (r : RS.Rg) : (32 : UInt8) ∉ (RS.rgText r).map UInt8.ofNat := by
  refine not_mem_u8 32 (by omega) _ fun b hb => ⟨by have := rgText_lt r b hb; omega, ?_⟩
  unfold RS.rgText at hb
  rcases List.mem_append.1 hb with hb | hb
  · have := hexF_ge 16 _ b hb; omega
  · split at hb
    · simp at hb
    · rcases List.mem_cons.1 hb with rfl | hb
      · omega
      · have := hexF_ge 16 _ b hb; omega

/-- The first word of what is written, and what is left. -/
theorem cut_mid (r : RS.Rg) (s : List RS.Rg) : ∃ t, Lib.cut (bytesOf (RS.midText 0 (r :: s))).data.toList [32] = ((bytesOf (RS.rgText r)).data.toList, (bytesOf (RS.midText 0 s)).data.toList, t) := by
  cases s with
  | nil =>
    refine ⟨false, ?_⟩
    rw [midText_one, bytesOf_toList, bytesOf_toList]
    exact cut_none 32 _ (rgText_not r)
  | cons q s =>
    refine ⟨true, ?_⟩
    rw [midText_cons, bytesOf_toList, bytesOf_toList, bytesOf_toList, List.map_append, List.map_cons]
    exact cut_one 32 _ _ (rgText_not r)

theorem inner_text (x : List RS.Rg) : inner (bytesOf (RS.setText x)) = bytesOf (RS.midText 0 x) := by
  unfold inner
  rw [bytesOf_toList]
  have e : (RS.setText x).map UInt8.ofNat = 91 :: ((RS.midText 0 x).map UInt8.ofNat ++ [93]) := by simp [RS.setText]
  rw [e]
  have e1 : Lib.trimPrefix (91 :: ((RS.midText 0 x).map UInt8.ofNat ++ [93])) [91] = (RS.midText 0 x).map UInt8.ofNat ++ [93] := by
    unfold Lib.trimPrefix Lib.hasPrefix
    simp [List.isPrefixOf]
  rw [e1]
  have e2 : Lib.trimSuffix ((RS.midText 0 x).map UInt8.ofNat ++ [93]) [93] = (RS.midText 0 x).map UInt8.ofNat := by
    unfold Lib.trimSuffix Lib.hasSuffix
    rw [if_pos (by rw [List.isSuffixOf_iff_suffix]; exact ⟨_, rfl⟩)]
    simp
  rw [e2]
  rfl

theorem right_bounds {s : List RS.Rg} : ∀ {a : Int}, RS.rightFrom a s = true → -2 ≤ a → ∀ r ∈ s, 0 ≤ r.1 ∧ r.1 ≤ r.2 ∧ r.2 ≤ 1114111 := by
  induction s with
  | nil => intro a _ _ r hr; simp at hr
  | cons q s ih =>
    intro a h ha r hr
    rw [RS.rightFrom_cons] at h
    rcases List.mem_cons.1 hr with rfl | hr
    · omega
    · exact ih h.2.2.2 (by omega) r hr

def good (x : List RS.Rg) : List RX := x.map fun r => (r, true)

theorem firsts_good (x : List RS.Rg) : firsts (good x) = x := by
  unfold firsts good
  rw [List.map_map]
  exact List.map_id x

/-- What a set is written as is read as that set. -/
theorem parse_text (x : List RS.Rg) (hl : x.length ≤ 5000) (hx : RS.right x = true) (w : World) (hE : EV w) (hM : ML w) (hT : TZ w) (h8 : 5 < w.heap.size) :
    Calls Tryz.prog 61 #[.string (bytesOf (RS.setText x))] w fun e w' => (∃ v, e = .returned (.tuple #[v, .nilIface]) ∧ w'.ownsRow w.heap.size 85 2 v x.length (flat2 x)) ∧ Below w.heap.size w w' := by
  have hmid := RS.midText_length x 0
  have hst : (bytesOf (RS.setText x)).size ≤ 1000000 := by
    rw [bytesOf_size]
    simp [RS.setText]
    omega
  have hgl : (good x).length = x.length := by simp [good]
  have hbd := right_bounds hx (by omega)
  have hpost : ∀ post, (∃ pre, good x = pre ++ post) → post = good (firsts post) ∧ ∀ r ∈ firsts post, r ∈ x := by
    rintro post ⟨pre, e⟩
    have hm : ∀ y ∈ post, y.2 = true ∧ y.1 ∈ x := by
      intro y hy
      have : y ∈ good x := by rw [e]; exact List.mem_append_right _ hy
      unfold good at this
      obtain ⟨r, hr, rfl⟩ := List.mem_map.1 this
      exact ⟨rfl, hr⟩
    refine ⟨?_, ?_⟩
    · unfold good firsts
      rw [List.map_map]
      conv => lhs; rw [← List.map_id post]
      refine List.map_congr_left fun y hy => ?_
      obtain ⟨r, b⟩ := y
      have := (hm _ hy).1
      simp at this
      simp [this]
    · intro r hr
      unfold firsts at hr
      obtain ⟨y, hy, rfl⟩ := List.mem_map.1 hr
      exact (hm y hy).2
  refine (parse_core (bytesOf (RS.setText x)) hst (fun pre t => ∃ post, good x = pre ++ post ∧ t = bytesOf (RS.midText 0 (firsts post))) (fun pre y => ∃ post, good x = pre ++ y :: post) ?_ ?_ ?_ ?_ ?_ w hE hM hT h8).mono ?_
  · rintro pre t ⟨post, e, rfl⟩
    have h1 := RS.midText_length (firsts post) 0
    have h2 : (firsts post).length = post.length := by simp [firsts]
    have h3 := congrArg List.length e
    simp at h3
    rw [bytesOf_size]
    omega
  · rintro pre t ⟨post, e, _⟩
    have h3 := congrArg List.length e
    simp at h3
    omega
  · rintro pre y ⟨post, e⟩
    have h3 := congrArg List.length e
    simp at h3
    omega
  · rintro pre t ⟨post, e, rfl⟩ hne W he hm hw
    cases post with
    | nil => exact absurd rfl hne
    | cons y post =>
      obtain ⟨hg, hin⟩ := hpost (y :: post) ⟨pre, e⟩
      obtain ⟨⟨lo, hi⟩, b⟩ := y
      have hb : b = true := by
        have := hg
        simp [good, firsts] at this
        exact this.1
      subst hb
      have hr := hbd (lo, hi) (hin _ (by simp [firsts]))
      dsimp only at hr
      obtain ⟨t, hc⟩ := cut_mid (lo, hi) (firsts post)
      have hf : firsts (((lo, hi), true) :: post) = (lo, hi) :: firsts post := rfl
      rw [hf, hc]
      obtain ⟨l, rfl⟩ : ∃ l : Nat, lo = (l : Int) := ⟨lo.toNat, by omega⟩
      obtain ⟨h, rfl⟩ : ∃ h : Nat, hi = (h : Int) := ⟨hi.toNat, by omega⟩
      refine (one_text l h (by omega) (by omega) W he hm hw).mono ?_
      rintro e' W' ⟨⟨y, rfl, rfl⟩, hb⟩
      exact ⟨⟨_, ⟨⟨post, e⟩, post, by rw [e]; simp, rfl⟩, rfl⟩, hb⟩
  · refine ⟨good x, rfl, ?_⟩
    rw [inner_text, firsts_good]
  · have hzn : ∀ xs, (∃ post, good x = xs ++ post ∧ (⟨#[]⟩ : ByteArray) = bytesOf (RS.midText 0 (firsts post))) → firsts xs = x := by
      rintro xs ⟨post, e, hz⟩
      have hp : post = [] := by
        cases post with
        | nil => rfl
        | cons y post =>
          have hz2 := congrArg (fun b : ByteArray => b.data.toList) hz
          simp only [bytesOf_toList] at hz2
          have hf : firsts (y :: post) = y.1 :: firsts post := rfl
          rw [hf, RS.midText] at hz2
          have := rgText_ne y.1
          simp at hz2
          exact absurd hz2.1 this
      subst hp
      rw [List.append_nil] at e
      rw [← e]
      exact firsts_good x
    rintro e w' ⟨⟨rfl, ⟨pre, y, ⟨post, e⟩, hy⟩ | ⟨xs, hz, hno⟩⟩ | ⟨v, xs, rfl, hz, hr, ht, hown⟩, hb⟩
    · exfalso
      have : y ∈ good x := by rw [e]; simp
      unfold good at this
      obtain ⟨r, _, rfl⟩ := List.mem_map.1 this
      cases hy
    · exfalso
      rw [hzn xs hz] at hno
      exact hno ⟨hx, rfl⟩
    · rw [hzn xs hz] at hown
      exact ⟨⟨v, rfl, hown⟩, hb⟩

end Go.Proofs.YtjbmdnkpfkelmaaGreatDoor
