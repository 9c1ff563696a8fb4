/- The closed texts that the laws read first: what they are. -/
import Derived.Test.YtjbdlihlcoldlaaGreatDoorG38
import Derived.Test.YtjbdlihlcoldlaaGreatDoorG28
import Derived.Test.YtjbdlihlcoldlaaGreatDoorG27
import Derived.KernelRfl
namespace Go.Proofs.YtjbdlihlcoldlaaGreatDoor.Q
open Go.RowKit Go.Shelf

/-- class a = [61-7a]; keep a: a; break:; -/
def meantS : List UInt8 := [99, 108, 97, 115, 115, 32, 97, 32, 61, 32, 91, 54, 49, 45, 55, 97, 93, 59, 32, 107, 101, 101, 112, 32, 97, 58, 32, 97, 59, 32, 98, 114, 101, 97, 107, 58, 59]
/-- class a = [61]; class b = a | [62]; keep b:; -/
def checkedS : List UInt8 := [99, 108, 97, 115, 115, 32, 97, 32, 61, 32, 91, 54, 49, 93, 59, 32, 99, 108, 97, 115, 115, 32, 98, 32, 61, 32, 97, 32, 124, 32, 91, 54, 50, 93, 59, 32, 107, 101, 101, 112, 32, 98, 58, 59]
/-- keep b:; -/
def missS : List UInt8 := [107, 101, 101, 112, 32, 98, 58, 59]
def ta : List UInt8 := [91, 54, 49, 45, 55, 97, 93]
def tb : List UInt8 := [91, 54, 49, 93]
def tc : List UInt8 := [91, 54, 50, 93]

def meantF (X : List RS.Rg) : RP.Fi := ⟨[⟨0, [97], .lit 10 X⟩], [⟨19, false, .one (.ref 24 [97]), .one (.ref 27 [97])⟩, ⟨30, true, .cat (RP.listOf []), .cat (RP.listOf [])⟩], true⟩
def checkedF (X Y : List RS.Rg) : RP.Fi := ⟨[⟨0, [97], .lit 10 X⟩, ⟨16, [98], .bin 3 26 (.ref 26 [97]) (.lit 30 Y)⟩], [⟨36, false, .one (.ref 41 [98]), .cat (RP.listOf [])⟩], true⟩
def missF : RP.Fi := ⟨[], [⟨0, false, .one (.ref 5 [98]), .cat (RP.listOf [])⟩], true⟩

theorem meant_parse (S : List UInt8 → Option (List RS.Rg)) (X : List RS.Rg) : RP.parseP (fun t => if t = ta then some X else S t) meantS = .ok (meantF X) := by
  kernel_rfl

theorem checked_parse (S : List UInt8 → Option (List RS.Rg)) (X Y : List RS.Rg) : RP.parseP (fun t => if t = tb then some X else if t = tc then some Y else S t) checkedS = .ok (checkedF X Y) := by
  kernel_rfl

theorem miss_parse (S : List UInt8 → Option (List RS.Rg)) : RP.parseP S missS = .ok missF := by
  kernel_rfl

theorem ta_is : setOf ta = some [(97, 122)] := setOf_is (by decide) (by decide)
theorem tb_is : setOf tb = some [(97, 97)] := setOf_is (by decide) (by decide)
theorem tc_is : setOf tc = some [(98, 98)] := setOf_is (by decide) (by decide)

theorem meant_of : RP.parseP setOf meantS = .ok (meantF [(97, 122)]) := by
  have e : setOf = fun t => if t = ta then some [(97, 122)] else setOf t := by
    funext t
    by_cases h1 : t = ta
    · rw [if_pos h1, h1, ta_is]
    · rw [if_neg h1]
  have := meant_parse setOf [(97, 122)]
  rw [← e] at this
  exact this

theorem checked_of : RP.parseP setOf checkedS = .ok (checkedF [(97, 97)] [(98, 98)]) := by
  have e : setOf = fun t => if t = tb then some [(97, 97)] else if t = tc then some [(98, 98)] else setOf t := by
    funext t
    by_cases h1 : t = tb
    · rw [if_pos h1, h1, tb_is]
    · rw [if_neg h1]
      by_cases h2 : t = tc
      · rw [if_pos h2, h2, tc_is]
      · rw [if_neg h2]
  have := checked_parse setOf [(97, 97)] [(98, 98)]
  rw [← e] at this
  exact this

theorem miss_of : RP.parseP setOf missS = .ok missF := miss_parse setOf

theorem meant_names : CK.namesL 9 7 (meantF [(97, 122)]).classes [] = .ok [([97], [(97, 122)])] := by kernel_rfl

theorem or_is : CK.orL [(97, 97)] [(98, 98)] = [(97, 98)] := by
  refine CK.orL_eq ⟨by decide, fun p => ?_⟩
  simp [RS.mem]
  omega

theorem checked_names : CK.namesL 9 7 (checkedF [(97, 97)] [(98, 98)]).classes [] = .ok [([97], [(97, 97)]), ([98], [(97, 98)])] := by
  have : CK.namesL 9 7 (checkedF [(97, 97)] [(98, 98)]).classes [] = .ok [([97], [(97, 97)]), ([98], CK.orL [(97, 97)] [(98, 98)])] := by kernel_rfl
  rw [this, or_is]

theorem miss_found : CK.checkF 9 7 missF = some (7, 5) := by kernel_rfl

end Go.Proofs.YtjbdlihlcoldlaaGreatDoor.Q
