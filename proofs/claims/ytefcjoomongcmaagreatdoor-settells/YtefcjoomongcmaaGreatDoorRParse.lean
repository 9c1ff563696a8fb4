/- The document's ParseSet: of a text that a right set is written as that set; of all others ErrForm. -/
import Derived.Test.YtefcjoomongcmaaGreatDoorRText
import Derived.Test.YtefcjoomongcmaaGreatDoorRSpl
import Derived.Test.YtefcjoomongcmaaGreatDoorRPj
import Derived.Test.YtefcjoomongcmaaGreatDoorRHas
import Derived.Test.YtefcjoomongcmaaGreatDoorShelfD
import Derived.Test.YtefcjoomongcmaaGreatDoorShelfE
import Derived.Shelf.Strings.Split
import Derived.Shelf.Strings.SlTrimAscii
import Derived.Shelf.Unicode.PredsPay
namespace Go.Proofs.YtefcjoomongcmaaGreatDoor
open Go.RowKit Go.Shelf

/-- What of the library's tables the document's reading looks at. -/
def TB (w : World) : Prop := Lib.TabIs Tryz.prog w "strings.asciiSpace" .u8 Lib.asciiSpaceTab ∧ Lib.WhiteTab 1 w
theorem gSpace : Tryz.prog.globalNamed "strings.asciiSpace" = some 0 := by kernel_rfl
theorem TB.below {w w' : World} (h : TB w) (hb : Below w.heap.size w w') : TB w' := ⟨TabIs_below gSpace h.1 hb, WhiteTab_below h.2 hb⟩

theorem trim_any (s : ByteArray) (hs : s.size ≤ 1000000) (w : World) :
    Calls Tryz.prog 40 #[.string s, .string ⟨#[91, 93]⟩] w fun e w' => e = .returned (.string ⟨(Lib.trimS s.data.toList [91, 93]).toArray⟩) ∧ Below w.heap.size w w' :=
  Any.strings_Trim_laid Tryz.trimL (by kernel_rfl) s ⟨#[91, 93]⟩ w (by omega) (by decide) (ascii_of_all (by decide))

theorem fields_any (s : ByteArray) (hs : s.size ≤ 1000000) (w : World) (hT : TB w) :
    Calls Tryz.prog 39 #[.string s] w fun e w' => ∃ A, e = .returned (.slice (some ⟨A, 0, none⟩) (Lib.fieldsD s.data.toList).length (Lib.fieldsD s.data.toList).length) ∧ w.heap.size ≤ A ∧
      w'.ownsRow w.heap.size 9 1 (.slice (some ⟨A, 0, none⟩) (Lib.fieldsD s.data.toList).length (Lib.fieldsD s.data.toList).length) (Lib.fieldsD s.data.toList).length ((Lib.fieldsD s.data.toList).map fun x => Value.string ⟨x.toArray⟩) ∧ Below w.heap.size w w' :=
  Any.strings_Fields_any Tryz.fieldsL (by kernel_rfl) (by kernel_rfl) (by kernel_rfl) s w (by omega) hT.1 hT.2

theorem split_any (s : ByteArray) (hs : s.size ≤ 1000000) (m : Int) (w : World) (hm : w.cell? ⟨7, 0, none⟩ = some (.int .i64 m)) :
    Calls Tryz.prog 41 #[.string s, .string ⟨#[45]⟩, .int .i64 3] w fun e w' =>
      e = .returned (.slice (some ⟨w.heap.size, 0, none⟩) (Lib.splitB ⟨#[45]⟩ 0 (min 3 (s.size + 1) - 1) s).length (min 3 (s.size + 1))) ∧ w' = w.alloc (.cells (Lib.cellsOf (Lib.splitB ⟨#[45]⟩ 0 (min 3 (s.size + 1) - 1) s) (min 3 (s.size + 1))) 9) :=
  Any.strings_SplitN Tryz.splitL (by kernel_rfl) s ⟨#[45]⟩ 3 m w (by omega) hm (by decide) (by decide) (by decide)

theorem ba_of {a : ByteArray} {l : List UInt8} (h : a.data.toList = l) : a = ⟨l.toArray⟩ := by
  apply ByteArray.ext
  simp [← h]

/-- SplitN at a word, '-', and the word again. -/
theorem split_word (t : ByteArray) (ht : t.size ≤ 1000) (w : World) (hM : ML w) :
    Calls Tryz.prog 41 #[.string ((t ++ (⟨#[45]⟩ : ByteArray)) ++ t), .string ⟨#[45]⟩, .int .i64 3] w fun e w' => ∃ (n c : Nat) (f g : ByteArray),
      e = .returned (.slice (some ⟨w.heap.size, 0, none⟩) n c) ∧ 2 ≤ n ∧ n ≤ 3 ∧ f.size ≤ 1000 ∧ g.size ≤ 3000 ∧ w'.cell? ⟨w.heap.size, 0, none⟩ = some (.string f) ∧ w'.cell? ⟨w.heap.size, 1, none⟩ = some (.string g) ∧
      (∀ r : RS.Rg, t = bytesOf (RS.rgText r) → f = bytesOf (RS.hex r.1.toNat) ∧ g = bytesOf (RS.hex r.2.toNat)) ∧ w.heap.size < w'.heap.size ∧ Below w.heap.size w w' := by
  obtain ⟨m, hm⟩ := hM
  obtain ⟨u, hu⟩ : ∃ u, u = (t ++ (⟨#[45]⟩ : ByteArray)) ++ t := ⟨_, rfl⟩
  have hud : u.data.toList = t.data.toList ++ 45 :: t.data.toList := by rw [hu]; simp [ByteArray.data_append]
  have hus : u.size = 2 * t.size + 1 := by rw [hu]; simp [ByteArray.size_append]; show t.size + 1 + t.size = _; omega
  have htl : t.data.toList.length = t.size := rfl
  rw [← hu]
  refine (split_any u (by omega) m w hm).mono ?_
  rintro e w' ⟨rfl, rfl⟩
  have hk : 1 ≤ min 3 (u.size + 1) - 1 := by omega
  obtain ⟨f, g, rest, hsp, hf, hg⟩ := two_parts t.data.toList _ hk
  have hd := Lib.splitB_data ⟨#[45]⟩ 0 (min 3 (u.size + 1) - 1) u
  rw [show (⟨#[45]⟩ : ByteArray).data.toList = [45] from rfl, hud, hsp] at hd
  have hlen := Lib.splitB_length_le ⟨#[45]⟩ 0 (min 3 (u.size + 1) - 1) u
  generalize hS : Lib.splitB ⟨#[45]⟩ 0 (min 3 (u.size + 1) - 1) u = S at hd hlen ⊢
  match S, hd, hlen with
  | a :: b :: S, hd, hlen =>
    simp only [List.map_cons, List.cons.injEq] at hd
    refine ⟨_, _, a, b, rfl, by simp, by simp at hlen ⊢; omega, ?_, ?_, ?_, ?_, ?_, by simp, (Below.refl _ w).alloc (Nat.le_refl _) _⟩
    · rw [← hd.1, Array.length_toList] at hf; show a.data.size ≤ 1000; omega
    · rw [← hd.2.1, Array.length_toList] at hg; show b.data.size ≤ 3000; omega
    · simp [Lib.cellsOf]
    · simp [Lib.cellsOf]
    · rintro r rfl
      have hk2 : min 3 (u.size + 1) - 1 = 2 := by
        have : 1 ≤ (bytesOf (RS.rgText r)).size := by
          rw [bytesOf_len]
          exact List.length_pos_iff.2 (rgText_ne r)
        omega
      obtain ⟨rest', h2⟩ := two_text r
      rw [hk2, bytesOf_toList, h2] at hsp
      simp only [List.cons.injEq] at hsp
      exact ⟨ba_of (hd.1.trans hsp.1.symm), ba_of (hd.2.1.trans hsp.2.1.symm)⟩

end Go.Proofs.YtefcjoomongcmaaGreatDoor
