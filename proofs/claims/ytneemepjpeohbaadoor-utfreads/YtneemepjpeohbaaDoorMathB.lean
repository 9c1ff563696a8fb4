/- More plain mathematics of UTF-8: units lie one behind the other, and what stands ahead of an ASCII byte does not hang on what stands behind it. -/
import Derived.Test.YtneemepjpeohbaaDoorMath
namespace Go.Proofs.YtneemepjpeohbaaDoor.U8

def sumLen (us : List (Nat × Nat × Nat)) : Nat := (us.map (·.2.2)).sum

theorem dec_sum (l : List UInt8) : ∀ k, sumLen (dec l k) = l.length := by
  refine dec_induct (C := fun l => ∀ k, sumLen (dec l k) = l.length) (fun k => rfl) (fun l h ih k => ?_) l
  rw [dec_step h]
  have h1 := unit_len l h
  have h2 := ih (k + (unit l).2)
  rw [List.length_drop] at h2
  unfold sumLen at h2 ⊢
  rw [List.map_cons, List.sum_cons, h2]
  simp only
  omega

theorem dec_at (l : List UInt8) : ∀ k i (h : i < (dec l k).length), (dec l k)[i].2.1 = k + sumLen ((dec l k).take i) := by
  refine dec_induct (C := fun l => ∀ k i (h : i < (dec l k).length), (dec l k)[i].2.1 = k + sumLen ((dec l k).take i)) (fun k i h => by simp [dec_nil] at h) (fun l hl ih k i h => ?_) l
  have e := dec_step hl k
  have key : ∀ us, dec l k = us → ∀ (h : i < us.length), us[i].2.1 = k + sumLen (us.take i) → (dec l k)[i].2.1 = k + sumLen ((dec l k).take i) := by
    intro us hus h hh; subst hus; exact hh
  refine key _ e (by rw [← e]; exact h) ?_
  cases i with
  | zero => simp [sumLen]
  | succ i =>
    have h' : i < (dec (l.drop (unit l).2) (k + (unit l).2)).length := by rw [e] at h; simpa using h
    rw [List.getElem_cons_succ, ih _ i h', List.take_succ_cons]
    unfold sumLen
    rw [List.map_cons, List.sum_cons]
    simp only
    omega

theorem dec_lens (l : List UInt8) : ∀ k, ∀ u ∈ dec l k, 1 ≤ u.2.2 ∧ u.2.2 ≤ 4 := by
  refine dec_induct (C := fun l => ∀ k, ∀ u ∈ dec l k, 1 ≤ u.2.2 ∧ u.2.2 ≤ 4) (fun k u h => by simp [dec_nil] at h) (fun l hl ih k u h => ?_) l
  rw [dec_step hl] at h
  rcases List.mem_cons.1 h with rfl | h
  · have := unit_len l hl; exact ⟨this.1, this.2.1⟩
  · exact ih _ u h

theorem enc_tail (p : Nat) (_hp : isPt p = true) (i : Nat) (h0 : 0 < i) (h : i < (enc p).length) : 128 ≤ ((enc p)[i]).toNat := by
  rw [isPt_nat] at _hp
  have hl := enc_length p
  by_cases g1 : p < 128
  · have : lenOf p = 1 := by simp [lenOf, g1]
    omega
  by_cases g2 : p < 2048
  · have e : enc p = [UInt8.ofNat (192 + p / 64), UInt8.ofNat (128 + p % 64)] := by simp [enc, g1, g2]
    have : lenOf p = 2 := by simp [lenOf, g1, g2]
    obtain rfl : i = 1 := by omega
    simp only [e, List.getElem_cons_succ, List.getElem_cons_zero]
    rw [toNat_of (by omega)]; omega
  by_cases g3 : p < 65536
  · have e : enc p = [UInt8.ofNat (224 + p / 4096), UInt8.ofNat (128 + p / 64 % 64), UInt8.ofNat (128 + p % 64)] := by simp [enc, g1, g2, g3]
    have : lenOf p = 3 := by simp [lenOf, g1, g2, g3]
    rcases (show i = 1 ∨ i = 2 by omega) with rfl | rfl
    all_goals
      simp only [e, List.getElem_cons_succ, List.getElem_cons_zero]
      rw [toNat_of (by omega)]; omega
  · have e : enc p = [UInt8.ofNat (240 + p / 262144), UInt8.ofNat (128 + p / 4096 % 64), UInt8.ofNat (128 + p / 64 % 64), UInt8.ofNat (128 + p % 64)] := by simp [enc, g1, g2, g3]
    have : lenOf p = 4 := by simp [lenOf, g1, g2, g3]
    rcases (show i = 1 ∨ i = 2 ∨ i = 3 by omega) with rfl | rfl | rfl
    all_goals
      simp only [e, List.getElem_cons_succ, List.getElem_cons_zero]
      rw [toNat_of (by omega)]; omega

theorem first_none {l : List UInt8} (h : first l = none) (p : Nat) (hp : isPt p = true) : ¬ enc p <+: l := by
  rintro ⟨t, ht⟩
  rw [← ht, first_enc hp] at h
  cases h

theorem first_ahead {l : List UInt8} (hl : l ≠ []) (c : UInt8) (hc : c.toNat < 128) (t : List UInt8) : first (l ++ c :: t) = first l := by
  cases hf : first l with
  | some x =>
    obtain ⟨p, n⟩ := x
    obtain ⟨hp, ⟨r, hr⟩, hn⟩ := first_some hf
    rw [← hr, List.append_assoc, first_enc hp, hn]
  | none =>
    cases hg : first (l ++ c :: t) with
    | none => rfl
    | some x =>
      exfalso
      obtain ⟨p, n⟩ := x
      obtain ⟨hp, hpre, hn⟩ := first_some hg
      by_cases hlen : (enc p).length ≤ l.length
      · exact first_none hf p hp (List.prefix_of_prefix_length_le hpre (List.prefix_append _ _) hlen)
      · have h1 : l.length < (enc p).length := by omega
        have h2 := enc_tail p hp l.length (List.length_pos_iff.2 hl) h1
        have h3 : (enc p)[l.length]? = (l ++ c :: t)[l.length]? := by
          obtain ⟨r, hr⟩ := hpre
          rw [← hr, List.getElem?_append_left h1]
        rw [List.getElem?_append_right (Nat.le_refl _), Nat.sub_self, List.getElem?_eq_getElem h1] at h3
        simp at h3
        rw [h3] at h2
        omega

theorem unit_ahead {l : List UInt8} (hl : l ≠ []) (c : UInt8) (hc : c.toNat < 128) (t : List UInt8) : unit (l ++ c :: t) = unit l := by
  unfold unit; rw [first_ahead hl c hc t]

theorem unit_ascii (c : UInt8) (hc : c.toNat < 128) (t : List UInt8) : unit (c :: t) = (c.toNat, 1) := by
  have h : lenBy c.toNat = 1 := by simp [lenBy, hc]
  simp [unit, first, h]

theorem dec_ahead (c : UInt8) (hc : c.toNat < 128) (t : List UInt8) (l : List UInt8) : ∀ k, dec (l ++ c :: t) k = dec l k ++ (c.toNat, k + l.length, 1) :: dec t (k + l.length + 1) := by
  refine dec_induct (C := fun l => ∀ k, dec (l ++ c :: t) k = dec l k ++ (c.toNat, k + l.length, 1) :: dec t (k + l.length + 1)) (fun k => ?_) (fun l hl ih k => ?_) l
  · rw [List.nil_append, dec_step (by simp), unit_ascii c hc, dec_nil]
    simp
  · have h1 := unit_len l hl
    rw [dec_step (l := l ++ c :: t) (by simp), unit_ahead hl c hc t, dec_step hl, List.drop_append_of_le_length h1.2.2, ih, List.length_drop, List.cons_append]
    congr 2
    rw [show k + (unit l).2 + (l.length - (unit l).2) = k + l.length by omega]

end Go.Proofs.YtneemepjpeohbaaDoor.U8
