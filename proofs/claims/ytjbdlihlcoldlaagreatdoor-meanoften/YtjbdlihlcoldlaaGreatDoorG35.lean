/- mean.Breaks. -/
import Derived.Test.YtjbdlihlcoldlaaGreatDoorG34
import Derived.Test.YtjbdlihlcoldlaaGreatDoorG16
import Derived.Test.YtjbdlihlcoldlaaGreatDoorG00
import Derived.Lib.ItoaNum
namespace Go.Proofs.YtjbdlihlcoldlaaGreatDoor.M
open Go.RowKit Go.Shelf Go.Proofs.YtjbdlihlcoldlaaGreatDoor.Q

/-- The places from one on at which it is said, of the first so many. -/
def insides (f : Nat → Bool) (k : Nat) : List Int := ((List.range k).filter fun j => decide (1 ≤ j) && f j).map fun (j : Nat) => (j : Int)

theorem insides_succ (f : Nat → Bool) (k : Nat) (hk : 1 ≤ k) : insides f (k + 1) = if f k then insides f k ++ [(k : Int)] else insides f k := by
  unfold insides
  rw [List.range_succ, List.filter_append, List.map_append]
  have : decide (1 ≤ k) = true := decide_eq_true hk
  cases h : f k <;> simp only [List.filter_cons, List.filter_nil, this, h] <;> simp

theorem insides_one (f : Nat → Bool) : insides f 1 = [] := by
  simp [insides]

theorem insides_len (f : Nat → Bool) (k : Nat) : (insides f k).length ≤ k := by
  unfold insides
  rw [List.length_map]
  exact Nat.le_trans (List.length_filter_le _ _) (by simp)

/-- Where there is a break, by what is said of each place. -/
def breaksOf (f : Nat → Bool) (n : Nat) : List Int := if n = 0 then [] else 0 :: insides f n ++ [(n : Int)]

theorem info3 : (Tryz.prog.info? 3).map (fun i => (i.zero, i.size, i.bytes)) = some (some (.int .i64 0), 1, 8) := by kernel_rfl

/-- A number more in an own row. -/
theorem own_more {B : Nat} {W : World} {v : Value} {l : List Int} (x : Int) (ho : W.ownsRow B 3 1 v l.length (ptsV l)) (hl : l.length ≤ 200000) (hB : B ≤ W.heap.size) :
    ∃ v' W2, (Builtin.append_ #[53, 53] 53 #[v, .slice (some ⟨W.heap.size, 0, none⟩) 1 1]).run Tryz.prog (W.alloc (.cells #[.int .i64 x] 3)) = .ok v' W2 ∧ W2.ownsRow B 3 1 v' (l ++ [x]).length (ptsV (l ++ [x])) ∧ Below B W W2 := by
  obtain ⟨i3, hi3, hz0, hz1, hz2⟩ := info_parts info3
  have hb0 : Below W.heap.size W (W.alloc (.cells #[.int .i64 x] 3)) := (Below.refl _ W).alloc (Nat.le_refl _) _
  obtain ⟨v', W2, hr, h2, h3, h4⟩ := append_where (P := Tryz.prog) (W.alloc (.cells #[.int .i64 x] 3)) B 53 53 3 i3 (.int .i64 0) 8 Tryz.underlying53 hi3 hz0 hz1 hz2 rfl _ _ _ (own_below ho hb0) ⟨W.heap.size, 0, none⟩ 1 (.int .i64 x) (by rw [World.cell?_alloc_at _ _ _ _ rfl]; rfl) rfl (by unfold maxLen; omega) (by omega) (by have := hb0.size; omega)
  refine ⟨v', W2, hr, ?_, (hb0.mono hB).grown h3 (by have := hb0.size; omega) (fun k hk => (ho.lt k hk).1)⟩
  rw [List.length_append, show ptsV (l ++ [x]) = ptsV l ++ [.int .i64 x] by simp [ptsV]]
  exact h2

theorem own_one (W : World) (x : Int) (B : Nat) (hB : B ≤ W.heap.size) : (W.alloc (.cells #[.int .i64 x] 3)).ownsRow B 3 1 (.slice (some ⟨W.heap.size, 0, none⟩) 1 1) 1 (ptsV [x]) :=
  ⟨rfl, .inr ⟨W.heap.size, 1, #[.int .i64 x], rfl, hB, heap_alloc_new _ _, Nat.le_refl _, by unfold maxLen; omega, rfl, rfl⟩⟩

/-- No row of parts in a file is too long. -/
def ShortF (f : RP.Fi) : Prop := ∀ r ∈ f.rules, ShortP r.before ∧ ShortP r.after

/-- What is said of each place. -/
noncomputable def sayS (T : CK.Tab) (pts : List Int) (f : RP.Fi) (i : Nat) : Bool := saysS (stoodS T pts f.rules) i f.els

set_option maxHeartbeats 4000000 in
set_option maxRecDepth 100000 in
theorem breaks_any (f : RP.Fi) (v uv : Value) (T : CK.Tab) (pts : List Int) (w : World) (h8 : 8 ≤ w.heap.size) (hz : TZ64 w) (hn : pts.length ≤ 63) (hu : UnAt w uv pts) (hA : FAt (fun _ => True) w v f) (hF : CK.FitF f) (hS : ShortF f)
    (hT : CK.namesL 9 7 f.classes [] = .ok T) (hM : CK.missR T f.rules = none) :
    Calls Tryz.prog 17 #[v, uv] w fun e w' => (∃ v', e = .returned (.tuple #[v', .nilIface]) ∧ IntsAt w'.heap.size w' v' (breaksOf (sayS T pts f) pts.length)) ∧ Below w.heap.size w w' := by
  have hchk : CK.checkF 9 7 f = none := by
    unfold CK.checkF
    rw [hT]
    dsimp only
    rw [hM]
    rfl
  have hNm := fun (W : World) (hW : FAt (fun _ => True) W v f) => names_any f v W hF hW
  rw [hT] at hNm
  have hCk := fun (W : World) (hW : FAt (fun _ => True) W v f) => check_any f v W hF hW
  rw [hchk] at hCk
  have HSF : Hid (CK.FitF f ∧ ShortF f) := ⟨hF, hS⟩
  have HA : Hid (FAt (fun _ => True) w v f) := hA
  have HU : Hid (UnAt w uv pts) := hu
  have HZ : Hid (TZ64 w ∧ 8 ≤ w.heap.size ∧ pts.length ≤ 63) := ⟨hz, h8, hn⟩
  have HSA : Hid (∀ i, sayS T pts f i = saysS (stoodS T pts f.rules) i f.els) := fun i => rfl
  have HSL : Hid ((stoodS T pts f.rules).length ≤ 1000) := by show _ ≤ _; rw [stoodS_len]; exact Nat.le_trans hF.2.2.2 (by omega)
  obtain ⟨cv, rv, vs, us, rfl, h1, h2, h3, h4⟩ := hA
  obtain ⟨co, cc, rfl, -, -⟩ := row_cells h1
  obtain ⟨ro, rc, rfl, -, -⟩ := row_cells h2
  have hbA := below_alloc1 w (.cells #[.slice co f.classes.length cc, .slice ro f.rules.length rc, .bool f.els] 26)
  have C1 := hCk _ (HA.out.below hbA)
  have HNM : Hid (∀ W, FAt (fun _ => True) W (.agg #[.slice co f.classes.length cc, .slice ro f.rules.length rc, .bool f.els]) f → Calls Tryz.prog 12 #[.agg #[.slice co f.classes.length cc, .slice ro f.rules.length rc, .bool f.els]] W (NamesSay W (.ok T))) := hNm
  have HRW : Hid (Row (fun _ => True) w 50 4 (.slice ro f.rules.length rc) f.rules.length us ∧ RsAt (fun _ => True) w us f.rules) := ⟨h2, h4⟩
  have hbox := heap_alloc_new w (.cells #[.slice co f.classes.length cc, .slice ro f.rules.length rc, .bool f.els] 26)
  have HBA : Hid (Below w.heap.size w _) := hbA
  have HBX : Hid (_ = _) := hbox
  obtain ⟨uo, uc, rfl, -, -, -⟩ := hu
  obtain ⟨n, hnn⟩ : ∃ n, n = pts.length := ⟨_, rfl⟩
  have HNN : Hid (n = pts.length) := hnn
  rw [← hnn] at HU hn ⊢
  obtain ⟨cn, hcn⟩ : ∃ n, n = f.classes.length := ⟨_, rfl⟩
  obtain ⟨rn, hrn⟩ : ∃ n, n = f.rules.length := ⟨_, rfl⟩
  obtain ⟨el, hel⟩ : ∃ b, b = f.els := ⟨_, rfl⟩
  have HEL : Hid (rn = f.rules.length ∧ el = f.els) := ⟨hrn, hel⟩
  simp only [← hcn, ← hrn, ← hel] at C1 HNM HBA HBX HA HRW ⊢
  obtain ⟨qf, hqf⟩ : ∃ q, q = sayS T pts f := ⟨_, rfl⟩
  have HQF : Hid (∀ i, saysS (stoodS T pts f.rules) i el = qf i) := fun i => by rw [hqf, HEL.out.2]; rfl
  rw [← hqf]
  clear h1 h2 h3 h4 hNm hCk hF hS hz h8 hchk hbox hbA hcn hrn hel hnn hqf HSA hT hM
  generalize hWA : w.alloc (.cells #[.slice co cn cc, .slice ro rn rc, .bool el] 26) = WA at *
  have c0 := cell_of_row _ _ 0 _ _ _ HBX.out
  have c1 := cell_of_row _ _ 1 _ _ _ HBX.out
  have c2 := cell_of_row _ _ 2 _ _ _ HBX.out
  go_enter Tryz.func17, Tryz.ntmps17
  go_wp2_with fail
  refine C1.mono ?_
  rintro e w1 ⟨hb1, rfl⟩
  have HB1 : Hid (Below w.heap.size w w1) := HBA.out.trans (hb1.mono HBA.out.size)
  have hbox1 := (hb1.block w.heap.size (by exact lt_of_block HBX.out)).trans HBX.out
  have c0 := cell_of_row _ _ 0 _ _ _ hbox1
  have c1 := cell_of_row _ _ 1 _ _ _ hbox1
  have c2 := cell_of_row _ _ 2 _ _ _ hbox1
  have HBX1 : Hid (_ = _) := hbox1
  have C2 := HNM.out w1 (HA.out.below HB1.out)
  clear C1 HBX hb1 hbox1 HNM HBA hWA
  go_wp2_with fail
  refine C2.mono ?_
  rintro e w2 ⟨hb2, mv, rfl, hm⟩
  have HM : Hid (NmAt w2.heap.size w2 mv T) := hm
  obtain ⟨mb, _, _, rfl, -⟩ := hm
  have HB2 : Hid (Below w.heap.size w w2) := HB1.out.trans (hb2.mono HB1.out.size)
  have hbox2 := (hb2.block w.heap.size (by exact lt_of_block HBX1.out)).trans HBX1.out
  have c0 := cell_of_row _ _ 0 _ _ _ hbox2
  have c1 := cell_of_row _ _ 1 _ _ _ hbox2
  have c2 := cell_of_row _ _ 2 _ _ _ hbox2
  have HBX2 : Hid (_ = _) := hbox2
  clear C2 HBX1 hb2 hbox2 HA
  by_cases hn0 : n = 0
  · subst hn0
    go_wp2_with fail
    go_ret2
    exact ⟨⟨_, rfl, none, 0, rfl, fun h => absurd rfl h⟩, HB2.out⟩
  · have hz : ((n : Int) == 0) = false := by simp; omega
    have C3 := allStanding_any T pts f.rules (.slice ro rn rc) (.map (some mb)) (.slice uo n uc) us w2 (by have := HB2.out.size; have := HZ.out.2.1; omega) (HZ.out.1.below HB2.out (by have := HZ.out.2.1; omega)) HZ.out.2.2 (HU.out.below HB2.out) HM.out
      (by rw [← HEL.out.1]; exact HRW.out.1.keep (keepsB HB2.out)) (RsAt.keep (keepsB HB2.out) HRW.out.2) HSF.out.1.2.1 HSF.out.2 (Nat.le_trans HSF.out.1.2.2.2 (by omega))
    go_wp2_with fail
    refine C3.mono ?_
    rintro e w3 ⟨⟨sv, rfl, hsd⟩, hb3⟩
    have HSD : Hid (SdRow w2.heap.size w3 sv (stoodS T pts f.rules)) := hsd
    obtain ⟨sc, sp, _, rfl, -⟩ := hsd.cells
    have HB3 : Hid (Below w.heap.size w w3) := HB2.out.trans (hb3.mono HB2.out.size)
    have hbox3 := (hb3.block w.heap.size (by exact lt_of_block HBX2.out)).trans HBX2.out
    have HBX3 : Hid (w3.heap[w.heap.size]? = _) := hbox3
    generalize (stoodS T pts f.rules) = L at HSD HSL HQF
    obtain ⟨ln, hln⟩ : ∃ n, n = L.length := ⟨_, rfl⟩
    rw [← hln] at HSD ⊢
    clear C3 HBX2 hb3 hbox3 hsd HRW HSF HM c0 c1 c2 hln
    go_wp2_with fail
    have HBA : Hid (Below w3.heap.size w3 (w3.alloc (.cells #[.int .i64 0] 3))) := below_alloc1 _ _
    have HOA : Hid ((w3.alloc (.cells #[.int .i64 0] 3)).ownsRow w3.heap.size 3 1 (.slice (some ⟨w3.heap.size, 0, none⟩) 1 1) 1 (ptsV [0])) := own_one w3 0 _ (Nat.le_refl _)
    go_loopw [10, 11] (fun v ix wr => ∃ k : Nat, ix = .int .i64 k ∧ 1 ≤ k ∧ k ≤ n ∧ wr.ownsRow w3.heap.size 3 1 v (0 :: insides qf k).length (ptsV (0 :: insides qf k)) ∧ Below w3.heap.size w3 wr) (fun _ ix _ => n - (intOf ix).toNat)
    case atStart =>
      refine ⟨1, rfl, Nat.le_refl _, by omega, ?_, HBA.out⟩
      rw [insides_one]; exact HOA.out
    case round =>
      obtain ⟨k, rfl, hk1, hkn, hown, hb⟩ := hrel
      have HB : Hid (Below w3.heap.size w3 wr) := hb
      have HO : Hid (wr.ownsRow w3.heap.size 3 1 u10 (0 :: insides qf k).length (ptsV (0 :: insides qf k))) := hown
      have hil := insides_len qf k
      have hrl : (0 :: insides qf k).length ≤ 200000 := by rw [List.length_cons]; omega
      have HRL : Hid ((0 :: insides qf k).length ≤ 200000) := hrl
      by_cases hlt : k < n
      · have C4 := says_any L _ k el (by omega) w2.heap.size wr (HSD.out.below HB.out) (by have := HSL.out; omega)
        rw [HQF.out k] at C4
        have HI : Hid (insides qf (k + 1) = if qf k then insides qf k ++ [(k : Int)] else insides qf k) := insides_succ qf k hk1
        have hboxr := (hb.block w.heap.size (by exact lt_of_block HBX3.out)).trans HBX3.out
        have c0 := cell_of_row _ _ 0 _ _ _ hboxr
        have c1 := cell_of_row _ _ 1 _ _ _ hboxr
        have c2 := cell_of_row _ _ 2 _ _ _ hboxr
        generalize qf k = q at C4 HI
        have hkz : (k : Int) < (n : Int) := by omega
        clear hb hown hil hrl hboxr
        go_wp2_with fail
        refine C4.mono ?_
        rintro e w4 ⟨rfl, hb4⟩
        have hB4 : Below w3.heap.size w3 w4 := HB.out.trans (hb4.mono HB.out.size)
        have hO4 := own_below HO.out hb4
        obtain ⟨v', W2, hr, h2, h3⟩ := own_more (k : Int) hO4 HRL.out hB4.size
        have HR : Hid _ := hr
        have HO2 : Hid (W2.ownsRow w3.heap.size 3 1 v' ((0 :: insides qf k) ++ [(k : Int)]).length (ptsV ((0 :: insides qf k) ++ [(k : Int)]))) := h2
        have HO1 : Hid (w4.ownsRow w3.heap.size 3 1 u10 (0 :: insides qf k).length (ptsV (0 :: insides qf k))) := hO4
        have HB3' : Hid (Below w3.heap.size w3 W2) := hB4.trans h3
        have HB4 : Hid (Below w3.heap.size w3 w4) := hB4
        clear h2 h3 hr hb4 hB4 hO4 C4 c0 c1 c2
        cases q with
        | true =>
          go_wp2_with (at_builtin; refine Lib.wpList_append_run _ rfl _ _ _ _ rfl _ _ rfl rfl _ _ HR.out ?_)
          case roundEnd => exact ⟨⟨k + 1, by go_num, by omega, by omega, by rw [HI.out]; exact HO2.out, HB3'.out⟩, by simp [intOf]; omega⟩
        | false =>
          go_wp2_with fail
          case roundEnd => exact ⟨⟨k + 1, by go_num, by omega, by omega, by rw [HI.out]; exact HO1.out, HB4.out⟩, by simp [intOf]; omega⟩
      · obtain rfl : k = n := by omega
        obtain ⟨v', W2, hr, h2, h3⟩ := own_more (k : Int) hown hrl hb.size
        have HR : Hid _ := hr
        have HB3' : Hid (Below w.heap.size w W2) := HB3.out.trans ((hb.trans h3).mono HB3.out.size)
        have HO2 : Hid (W2.ownsRow w3.heap.size 3 1 v' ((0 :: insides qf k) ++ [(k : Int)]).length (ptsV ((0 :: insides qf k) ++ [(k : Int)]))) := h2
        have hkz : ¬ ((k : Int) < (k : Int)) := by omega
        clear h2 h3 hr hb hown hil hrl
        go_wp2_with (at_builtin; refine Lib.wpList_append_run _ rfl _ _ _ _ rfl _ _ rfl rfl _ _ HR.out ?_)
        go_ret2
        refine ⟨⟨_, rfl, ?_⟩, HB3'.out⟩
        unfold breaksOf
        rw [if_neg hn0]
        exact ints_of_own HO2.out

end Go.Proofs.YtjbdlihlcoldlaaGreatDoor.M

namespace RP

def setT (X : List RS.Rg) : List UInt8 := (RS.setText X).map UInt8.ofNat

def markT (c : Nat) : List UInt8 := if c = 3 then [32, 124, 32] else if c = 4 then [32, 38, 32] else if c = 5 then [32, 45, 32] else []

def K.code : K → Nat
  | .lit _ _ => 1
  | .ref _ _ => 2
  | .bin c _ _ _ => c
  | .neg _ _ => 6

def oneT (c : Nat) (t : List UInt8) : List UInt8 := if markT c = [] then t else 40 :: (t ++ [41])

def K.text : K → List UInt8
  | .lit _ X => setT X
  | .ref _ x => x
  | .bin c _ l r => l.text ++ markT c ++ oneT r.code r.text
  | .neg _ k => 126 :: oneT k.code k.text

/-- Kinds as they can be read. -/
def K.Ok : K → Prop
  | .lit _ X => X.length ≤ 10000
  | .ref _ x => x.length ≤ 10
  | .bin c _ l r => (c = 3 ∨ c = 4 ∨ c = 5) ∧ l.Ok ∧ r.Ok
  | .neg _ k => k.Ok

def timesT (lo hi : Int) : List UInt8 :=
  if lo = 0 ∧ hi < 0 then [42]
  else if lo = 1 ∧ hi < 0 then [43]
  else if lo = 0 ∧ hi = 1 then [63]
  else 123 :: (Go.Lib.itoa lo ++ (if hi = lo then [] else 44 :: (if hi < 0 then [] else Go.Lib.itoa hi)) ++ [125])

def Pt.code : Pt → Nat
  | .one _ => 1
  | .any => 2
  | .edge => 3
  | .cat _ => 4
  | .alt _ => 5
  | .many _ _ _ => 6
  | .nil => 0
  | .cons _ _ => 0

def btw (c : Nat) : List UInt8 := if c = 4 then [32] else if c = 5 then [32, 124, 32] else []

def wrapT (c : Nat) (p : Pt) (t : List UInt8) : List UInt8 := if p.code = 5 ∨ (p.code = 4 ∧ c ≠ 5) then 40 :: (t ++ [41]) else t

/-- A pattern's text; that of patterns in a row, in one of that code, the first of them or not. -/
def Pt.txt : Pt → Nat → Bool → List UInt8
  | .one k, _, _ => k.text
  | .any, _, _ => [46]
  | .edge, _, _ => [36]
  | .cat ps, _, _ => ps.txt 4 true
  | .alt ps, _, _ => ps.txt 5 true
  | .many p lo hi, _, _ => wrapT 6 p (p.txt 0 true) ++ timesT lo hi
  | .nil, _, _ => []
  | .cons p ps, c, f => (if f then [] else btw c) ++ wrapT c p (p.txt 0 true) ++ ps.txt c false

def Pt.text (p : Pt) : List UInt8 := p.txt 0 true

/-- Patterns as they can be read: row: these are such in a row. -/
def Pt.Ok : Pt → Bool → Prop
  | .one k, b => b = false ∧ k.Ok
  | .any, b => b = false
  | .edge, b => b = false
  | .cat ps, b => b = false ∧ ps.Ok true
  | .alt ps, b => b = false ∧ ps.Ok true
  | .many p lo hi, b => b = false ∧ p.Ok false ∧ 0 ≤ lo ∧ lo ≤ 12 ∧ -1 ≤ hi ∧ hi ≤ 12
  | .nil, b => b = true
  | .cons p ps, b => b = true ∧ p.Ok false ∧ ps.Ok true

def sideT (p : Pt) : List UInt8 := if p.text = [] then [] else 32 :: p.text

def Ru.text (r : Ru) : List UInt8 := (if r.brk then wBreak else wKeep) ++ sideT r.before ++ [32, 58] ++ sideT r.after ++ [59, 10]

/-- class  -/
def wClassB : List UInt8 := [99, 108, 97, 115, 115, 32]

def Cl.text (c : Cl) : List UInt8 := wClassB ++ c.name ++ [32, 61, 32] ++ c.kind.text ++ [59, 10]

def wElseKeep : List UInt8 := [101, 108, 115, 101, 32, 107, 101, 101, 112, 59, 10]

def rulesT (rs : List Ru) : List UInt8 := rs.flatMap Ru.text
def classesT (cs : List Cl) : List UInt8 := cs.flatMap Cl.text

def Fi.text (f : Fi) : List UInt8 := classesT f.classes ++ rulesT f.rules ++ (if f.els then [] else wElseKeep)

def Ru.Ok (r : Ru) : Prop := r.before.Ok false ∧ r.after.Ok false
def Fi.Ok (f : Fi) : Prop := (∀ c ∈ f.classes, c.kind.Ok) ∧ (∀ r ∈ f.rules, r.Ok) ∧ f.text.length ≤ 900000

end RP

namespace RP

/-- What of a token is not its place. -/
def E (t : Tok) : Nat × List UInt8 := (t.kind, t.text)

def wt : List Tok → Nat
  | [] => 0
  | t :: r => t.text.length + 100 + wt r

theorem wt_append : ∀ a b : List Tok, wt (a ++ b) = wt a + wt b
  | [], b => by simp [wt]
  | t :: a, b => by rw [List.cons_append, wt, wt, wt_append a b]; omega

/-- No token is too long. -/
def Lt (ts : List Tok) : Prop := ∀ t ∈ ts, t.text.length ≤ 5000

theorem Lt.drop {z s : List Tok} (h : Lt (z ++ s)) : Lt s := fun t ht => h t (by simp [ht])

variable {α β γ δ ε ζ : Type}

/-- A family of readings: la: they look at the token behind; st: they take some. -/
def GoodF (la st : Bool) (T0 : γ → δ) (L0 : γ → Nat) (O0 : γ → Prop) (T : α → ε) (L : α → Nat) (O : α → Prop) (g : γ → List Tok → Res α) : Prop :=
  ∀ x ts y s, g x ts = .ok (y, s) →
    (∃ z, ts = z ++ s ∧ (st = true → z ≠ [])) ∧
    (Lt ts → O0 x → L y + wt s ≤ L0 x + wt ts ∧ O y) ∧
    ∀ p q r, ts = p ++ q → s = r ++ q → (la = true → r ≠ []) → ∀ x2 p2 q2, T0 x = T0 x2 → p.map E = p2.map E →
      ∃ y2 r2, g x2 (p2 ++ q2) = .ok (y2, r2 ++ q2) ∧ T y = T y2 ∧ r.map E = r2.map E

abbrev u0 : Unit → Unit := fun _ => ()
abbrev l0 : γ → Nat := fun _ => 0
abbrev o0 : γ → Prop := fun _ => True

/-- One reading. -/
def Good (la st : Bool) (T : α → ε) (L : α → Nat) (O : α → Prop) (f : List Tok → Res α) : Prop := GoodF la st u0 l0 o0 T L O (fun _ : Unit => f)

theorem cons_of {t : Tok} {p p2 : List Tok} (h : (t :: p).map E = p2.map E) : ∃ t2 p3, p2 = t2 :: p3 ∧ E t = E t2 ∧ p.map E = p3.map E := by
  cases p2 with
  | nil => simp at h
  | cons t2 p3 => simp at h; exact ⟨t2, p3, rfl, h.1, h.2⟩

theorem len_of {p p2 : List Tok} (h : p.map E = p2.map E) : p.length = p2.length := by
  have := congrArg List.length h
  simpa using this

theorem hd_of {p p2 q q2 : List Tok} (h : p.map E = p2.map E) (hp : p ≠ []) : E (hd (p ++ q)) = E (hd (p2 ++ q2)) := by
  cases p with
  | nil => exact absurd rfl hp
  | cons t p =>
    obtain ⟨t2, p3, rfl, h1, _⟩ := cons_of h
    exact h1

/-- A reading of one token. -/
theorem good_tok {T : α → ε} {L : α → Nat} {O : α → Prop} {f : List Tok → Res α} (F : Tok → Except Bad α) (h0 : ∀ v, f [] ≠ .ok v)
    (hf : ∀ t r, f (t :: r) = match F t with | .error b => .error b | .ok x => .ok (x, r))
    (hF : ∀ t t2 x, E t = E t2 → F t = .ok x → ∃ x2, F t2 = .ok x2 ∧ T x = T x2)
    (hL : ∀ t x, t.text.length ≤ 5000 → F t = .ok x → L x ≤ t.text.length + 100 ∧ O x) : Good false true T L O f := by
  intro _ ts y s h
  dsimp only at h
  cases ts with
  | nil => exact absurd h (h0 _)
  | cons t r =>
    rw [hf] at h
    cases hx : F t with
    | error b => rw [hx] at h; cases h
    | ok x =>
      rw [hx] at h
      cases h
      refine ⟨⟨[t], rfl, by simp⟩, fun hl _ => ?_, ?_⟩
      · have := hL t _ (hl t (by simp)) hx
        exact ⟨by rw [wt]; omega, this.2⟩
      · intro p q r' hp hs _ _ p2 q2 _ hE
        cases p with
        | nil =>
          have h1 := congrArg List.length hp
          have h2 := congrArg List.length hs
          simp at h1 h2
          omega
        | cons t' p =>
          simp at hp
          obtain ⟨rfl, rfl⟩ := hp
          have := List.append_cancel_right hs
          subst this
          obtain ⟨t2, p3, rfl, h1, h2⟩ := cons_of hE
          obtain ⟨x2, h3, h4⟩ := hF t t2 _ h1 hx
          refine ⟨x2, p3, ?_, h4, h2⟩
          dsimp only
          rw [List.cons_append, hf, h3]

def ret (v : γ → α) (x : γ) (ts : List Tok) : Res α := .ok (v x, ts)

theorem good_ret {T0 : γ → δ} {L0 : γ → Nat} {O0 : γ → Prop} {T : α → ε} {L : α → Nat} {O : α → Prop} (v : γ → α) (hT : ∀ x x2, T0 x = T0 x2 → T (v x) = T (v x2)) (hL : ∀ x, O0 x → L (v x) ≤ L0 x ∧ O (v x)) :
    GoodF false false T0 L0 O0 T L O (ret v) := by
  intro x ts y s h
  cases h
  refine ⟨⟨[], rfl, by simp⟩, fun _ ho => ⟨by have := (hL x ho).1; omega, (hL x ho).2⟩, ?_⟩
  rintro p q r rfl hs _ x2 p2 q2 h1 h2
  have := List.append_cancel_right hs
  subst this
  exact ⟨v x2, p2, rfl, hT _ _ h1, h2⟩

def bnd (f : List Tok → Res α) (g : α → List Tok → Res β) (ts : List Tok) : Res β :=
  match f ts with
  | .error b => .error b
  | .ok (x, r) => g x r

theorem good_bnd {la1 st1 la2 st2 la st : Bool} {T0 : γ → δ} {L0 : γ → Nat} {O0 : γ → Prop} {T1 : α → ε} {L1 : α → Nat} {O1 : α → Prop} {T2 : β → ζ} {L2 : β → Nat} {O2 : β → Prop}
    {f : List Tok → Res α} {g : γ → α → List Tok → Res β} (hf : Good la1 st1 T1 L1 O1 f)
    (hg : GoodF la2 st2 (fun xy : γ × α => (T0 xy.1, T1 xy.2)) (fun xy => L0 xy.1 + L1 xy.2) (fun xy => O0 xy.1 ∧ O1 xy.2) T2 L2 O2 (fun xy => g xy.1 xy.2))
    (hla : la = (la2 || (la1 && !st2))) (hst : st = (st1 || st2)) : GoodF la st T0 L0 O0 T2 L2 O2 (fun x => bnd f (g x)) := by
  intro x ts y s h
  dsimp only [bnd] at h
  cases h1 : f ts with
  | error b => rw [h1] at h; cases h
  | ok v =>
    obtain ⟨x1, s1⟩ := v
    rw [h1] at h
    dsimp only at h
    obtain ⟨⟨z1, hz1, hs1⟩, hl1, hc1⟩ := hf () ts x1 s1 h1
    obtain ⟨⟨z2, hz2, hs2⟩, hl2, hc2⟩ := hg (x, x1) s1 y s h
    refine ⟨⟨z1 ++ z2, by rw [hz1, hz2, List.append_assoc], fun hh => ?_⟩, fun hlt ho => ?_, ?_⟩
    · rw [hst] at hh
      cases st1 with
      | true => have := hs1 rfl; simp [this]
      | false => simp at hh; have := hs2 hh; simp [this]
    · have a1 := hl1 hlt trivial
      have a2 := hl2 (by rw [hz1] at hlt; exact hlt.drop) ⟨ho, a1.2⟩
      exact ⟨by have h5 := a1.1; have h6 := a2.1; simp only [l0] at h5 h6; omega, a2.2⟩
    · intro p q r hp hs hr x2 p2 q2 hT hE
      have e1 : s1 = (z2 ++ r) ++ q := by rw [hz2, hs, List.append_assoc]
      obtain ⟨y1, r1, k1, k2, k3⟩ := hc1 p q (z2 ++ r) hp e1 (fun hh => by
        rw [hla, hh] at hr
        cases st2 with
        | true => have := hs2 rfl; simp [this]
        | false => have := hr (by simp); simp [this]) () p2 q2 rfl hE
      obtain ⟨y2, r2, m1, m2, m3⟩ := hc2 (z2 ++ r) q r e1 hs (fun hh => hr (by rw [hla, hh]; rfl)) (x2, y1) r1 q2 (by dsimp only; rw [hT, k2]) k3
      refine ⟨y2, r2, ?_, m2, m3⟩
      dsimp only [bnd]
      dsimp only at k1
      rw [k1]
      exact m1

/-- One behind the other. -/
theorem good_cmp {la1 st1 la2 st2 la st : Bool} {T0 : γ → δ} {L0 : γ → Nat} {O0 : γ → Prop} {T1 : α → ε} {L1 : α → Nat} {O1 : α → Prop} {T2 : β → ζ} {L2 : β → Nat} {O2 : β → Prop}
    {f : γ → List Tok → Res α} {g : α → List Tok → Res β} (hf : GoodF la1 st1 T0 L0 O0 T1 L1 O1 f) (hg : GoodF la2 st2 T1 L1 O1 T2 L2 O2 g)
    (hla : la = (la2 || (la1 && !st2))) (hst : st = (st1 || st2)) : GoodF la st T0 L0 O0 T2 L2 O2 (fun x => bnd (f x) g) := by
  intro x ts y s h
  dsimp only [bnd] at h
  cases h1 : f x ts with
  | error b => rw [h1] at h; cases h
  | ok v =>
    obtain ⟨x1, s1⟩ := v
    rw [h1] at h
    dsimp only at h
    obtain ⟨⟨z1, hz1, hs1⟩, hl1, hc1⟩ := hf x ts x1 s1 h1
    obtain ⟨⟨z2, hz2, hs2⟩, hl2, hc2⟩ := hg x1 s1 y s h
    refine ⟨⟨z1 ++ z2, by rw [hz1, hz2, List.append_assoc], fun hh => ?_⟩, fun hlt ho => ?_, ?_⟩
    · rw [hst] at hh
      cases st1 with
      | true => have := hs1 rfl; simp [this]
      | false => simp at hh; have := hs2 hh; simp [this]
    · have a1 := hl1 hlt ho
      have a2 := hl2 (by rw [hz1] at hlt; exact hlt.drop) a1.2
      exact ⟨by have h5 := a1.1; have h6 := a2.1; omega, a2.2⟩
    · intro p q r hp hs hr x2 p2 q2 hT hE
      have e1 : s1 = (z2 ++ r) ++ q := by rw [hz2, hs, List.append_assoc]
      obtain ⟨y1, r1, k1, k2, k3⟩ := hc1 p q (z2 ++ r) hp e1 (fun hh => by
        rw [hla, hh] at hr
        cases st2 with
        | true => have := hs2 rfl; simp [this]
        | false => have := hr (by simp); simp [this]) x2 p2 q2 hT hE
      obtain ⟨y2, r2, m1, m2, m3⟩ := hc2 (z2 ++ r) q r e1 hs (fun hh => hr (by rw [hla, hh]; rfl)) y1 r1 q2 k2 k3
      refine ⟨y2, r2, ?_, m2, m3⟩
      dsimp only [bnd]
      rw [k1]
      exact m1

/-- The same family, told by others. -/
theorem GoodF.pre {la st : Bool} {T0 : γ → δ} {L0 : γ → Nat} {O0 : γ → Prop} {T : α → ε} {L : α → Nat} {O : α → Prop} {g : γ → List Tok → Res α} (h : GoodF la st T0 L0 O0 T L O g)
    {T0' : β → ζ} {L0' : β → Nat} {O0' : β → Prop} (φ : β → γ) (hT : ∀ x x2, T0' x = T0' x2 → T0 (φ x) = T0 (φ x2)) (hL : ∀ x, O0' x → L0 (φ x) ≤ L0' x ∧ O0 (φ x)) :
    GoodF la st T0' L0' O0' T L O (fun x => g (φ x)) := by
  intro x ts y s hx
  obtain ⟨k1, k2, k3⟩ := h (φ x) ts y s hx
  refine ⟨k1, fun a b => ⟨by have := (k2 a (hL x b).2).1; have := (hL x b).1; omega, (k2 a (hL x b).2).2⟩, ?_⟩
  intro p q r hp hq hr x2 p2 q2 h1 hE
  exact k3 p q r hp hq hr (φ x2) p2 q2 (hT _ _ h1) hE

theorem good_ite {la1 st1 la2 st2 la st : Bool} {T0 : γ → δ} {L0 : γ → Nat} {O0 : γ → Prop} {T : α → ε} {L : α → Nat} {O : α → Prop} {g h : γ → List Tok → Res α} (P : Tok → Prop) [DecidablePred P] (hP : ∀ t t2, E t = E t2 → (P t ↔ P t2))
    (hg : GoodF la1 st1 T0 L0 O0 T L O g) (hh : GoodF la2 st2 T0 L0 O0 T L O h) (hla : la = (la1 || la2 || !st1 || !st2)) (hst : st = (st1 && st2)) :
    GoodF la st T0 L0 O0 T L O (fun x ts => if P (hd ts) then g x ts else h x ts) := by
  intro x ts y s hx
  dsimp only at hx
  by_cases hp : P (hd ts)
  · rw [if_pos hp] at hx
    obtain ⟨⟨z, hz, hs⟩, hl, hc⟩ := hg x ts y s hx
    refine ⟨⟨z, hz, fun e => hs (by rw [hst] at e; simp at e; exact e.1)⟩, hl, ?_⟩
    intro p q r hpq hsr hr x2 p2 q2 hT hE
    have hpn : p ≠ [] := by
      have e : p = z ++ r := List.append_cancel_right (by rw [← hpq, hz, hsr, List.append_assoc])
      rw [e]
      cases st1 with
      | true => have := hs rfl; simp [this]
      | false => have := hr (by rw [hla]; simp); simp [this]
    obtain ⟨y2, r2, k1, k2, k3⟩ := hc p q r hpq hsr (fun e => hr (by rw [hla, e]; simp)) x2 p2 q2 hT hE
    refine ⟨y2, r2, ?_, k2, k3⟩
    dsimp only
    rw [if_pos ((hP _ _ (hd_of hE hpn)).1 (by rw [← hpq]; exact hp))]
    exact k1
  · rw [if_neg hp] at hx
    obtain ⟨⟨z, hz, hs⟩, hl, hc⟩ := hh x ts y s hx
    refine ⟨⟨z, hz, fun e => hs (by rw [hst] at e; simp at e; exact e.2)⟩, hl, ?_⟩
    intro p q r hpq hsr hr x2 p2 q2 hT hE
    have hpn : p ≠ [] := by
      have e : p = z ++ r := List.append_cancel_right (by rw [← hpq, hz, hsr, List.append_assoc])
      rw [e]
      cases st2 with
      | true => have := hs rfl; simp [this]
      | false => have := hr (by rw [hla]; simp); simp [this]
    obtain ⟨y2, r2, k1, k2, k3⟩ := hc p q r hpq hsr (fun e => hr (by rw [hla, e]; simp)) x2 p2 q2 hT hE
    refine ⟨y2, r2, ?_, k2, k3⟩
    dsimp only
    rw [if_neg (fun e => hp (by rw [hpq]; exact (hP _ _ (hd_of hE hpn)).2 e))]
    exact k1

/-- A token of that text is taken. -/
def nextR (a : List UInt8) (ts : List Tok) : Res Unit := if (hd ts).text = a then .ok ((), ts.tail) else .error ⟨0, 0⟩

theorem good_next {a : List UInt8} (ha : a ≠ []) : Good false true (fun _ : Unit => ()) (fun _ => 100) (fun _ => True) (nextR a) := by
  refine good_tok (fun t => if t.text = a then .ok () else .error ⟨0, 0⟩) ?_ ?_ ?_ ?_
  · intro v h
    unfold nextR at h
    rw [if_neg (fun e => ha (by rw [← e]; rfl))] at h
    cases h
  · intro t r
    unfold nextR
    show (if t.text = a then _ else _) = _
    by_cases h : t.text = a
    · rw [if_pos h, if_pos h]; rfl
    · rw [if_neg h, if_neg h]
  · intro t t2 x hE h
    have e : t.text = t2.text := congrArg Prod.snd hE
    by_cases h1 : t.text = a
    · exact ⟨(), by rw [if_pos (by rw [← e]; exact h1)], rfl⟩
    · rw [if_neg h1] at h; cases h
  · intro t x _ _
    exact ⟨by omega, trivial⟩

/-- Where the next token is of that text it is taken, and one goes on so; else so. -/
theorem good_acc {la1 st1 la2 st2 la st : Bool} {T0 : γ → δ} {L0 : γ → Nat} {O0 : γ → Prop} {T : α → ε} {L : α → Nat} {O : α → Prop} {g h : γ → List Tok → Res α} (a : List UInt8) (ha : a ≠ [])
    (hg : GoodF la1 st1 T0 (fun x => L0 x + 100) O0 T L O g) (hh : GoodF la2 st2 T0 L0 O0 T L O h) (hla : la = (la1 || la2 || !st2)) (hst : st = st2) :
    GoodF la st T0 L0 O0 T L O (fun x ts => if (hd ts).text = a then g x ts.tail else h x ts) := by
  have h1 : GoodF la1 true T0 L0 O0 T L O (fun x => bnd (nextR a) (fun _ => g x)) :=
    good_bnd (la2 := la1) (st2 := st1) (good_next ha) (by
      intro xy ts y s hx
      obtain ⟨k1, k2, k3⟩ := hg xy.1 ts y s hx
      refine ⟨k1, fun a b => k2 a b.1, ?_⟩
      intro p q r hp hs hr x2 p2 q2 hT hE
      exact k3 p q r hp hs hr x2.1 p2 q2 (by simpa using hT) hE) (by simp) (by simp)
  have h2 := good_ite (la := la) (st := st) (fun t => t.text = a) (fun t t2 hE => by have e : t.text = t2.text := congrArg Prod.snd hE; rw [e]) h1 hh (by rw [hla]; simp) (by rw [hst]; simp)
  have e : (fun (x : γ) (ts : List Tok) => if (hd ts).text = a then g x ts.tail else h x ts) = fun x ts => if (fun t : Tok => t.text = a) (hd ts) then (fun x => bnd (nextR a) (fun _ => g x)) x ts else h x ts := by
    funext x ts
    dsimp only
    by_cases hp : (hd ts).text = a
    · rw [if_pos hp, if_pos hp]
      unfold bnd nextR
      rw [if_pos hp]
    · rw [if_neg hp, if_neg hp]
  rw [e]
  exact h2

/-- More is allowed. -/
theorem GoodF.weak {la st la' st' : Bool} {T0 : γ → δ} {L0 L0' : γ → Nat} {O0 : γ → Prop} {T : α → ε} {L L' : α → Nat} {O : α → Prop} {g : γ → List Tok → Res α} (h : GoodF la st T0 L0 O0 T L O g)
    (hla : la = true → la' = true) (hst : st' = true → st = true) (hL0 : ∀ x, L0 x ≤ L0' x) (hL : ∀ x, L' x ≤ L x) : GoodF la' st' T0 L0' O0 T L' O g := by
  intro x ts y s hx
  obtain ⟨⟨z, hz, hs⟩, k2, k3⟩ := h x ts y s hx
  refine ⟨⟨z, hz, fun e => hs (hst e)⟩, fun a b => ⟨by have := (k2 a b).1; have := hL0 x; have := hL y; omega, (k2 a b).2⟩, fun p q r hp hq hr => k3 p q r hp hq fun e => hr (hla e)⟩

/-- Of no family. -/
theorem Good.fam {la st : Bool} {T : α → ε} {L : α → Nat} {O : α → Prop} {f : List Tok → Res α} (h : Good la st T L O f) {T0 : γ → δ} {O0 : γ → Prop} : GoodF la st T0 l0 O0 T L O (fun _ => f) := by
  intro x ts y s hx
  obtain ⟨k1, k2, k3⟩ := h () ts y s hx
  exact ⟨k1, fun a _ => k2 a trivial, fun p q r hp hq hr x2 p2 q2 _ hE => k3 p q r hp hq hr () p2 q2 rfl hE⟩

/-- So often as there is something. -/
def loopR (P : Tok → Prop) [DecidablePred P] (body : γ → List Tok → Res γ) : Nat → γ → List Tok → Res γ
  | 0, x, ts => .ok (x, ts)
  | f + 1, x, ts => if P (hd ts) then (match body x ts with | .error b => .error b | .ok (y, r) => loopR P body f y r) else .ok (x, ts)

theorem loop_good {la : Bool} {T : γ → δ} {L : γ → Nat} {O : γ → Prop} (P : Tok → Prop) [DecidablePred P] (hP : ∀ t t2, E t = E t2 → (P t ↔ P t2)) {body : γ → List Tok → Res γ} (hb : GoodF la true T L O T L O body) :
    ∀ (f : Nat) (x : γ) (ts : List Tok) (y : γ) (s : List Tok), ts.length ≤ f → loopR P body f x ts = .ok (y, s) →
      (∃ z, ts = z ++ s) ∧ (Lt ts → O x → L y + wt s ≤ L x + wt ts ∧ O y) ∧
      ∀ p q r, ts = p ++ q → s = r ++ q → r ≠ [] → ∀ f2 x2 p2 q2, (p2 ++ q2).length ≤ f2 → T x = T x2 → p.map E = p2.map E →
        ∃ y2 r2, loopR P body f2 x2 (p2 ++ q2) = .ok (y2, r2 ++ q2) ∧ T y = T y2 ∧ r.map E = r2.map E := by
  intro f
  induction f with
  | zero =>
    intro x ts y s hl h
    have ht : ts = [] := List.length_eq_zero_iff.1 (by omega)
    subst ht
    cases h
    refine ⟨⟨[], rfl⟩, fun _ ho => ⟨Nat.le_refl _, ho⟩, ?_⟩
    intro p q r hp hs hr
    simp at hs
    exact absurd hs.1 hr
  | succ f ih =>
    intro x ts y s hl h
    rw [loopR] at h
    by_cases hp : P (hd ts)
    · rw [if_pos hp] at h
      cases h1 : body x ts with
      | error b => rw [h1] at h; cases h
      | ok v =>
        obtain ⟨x1, s1⟩ := v
        rw [h1] at h
        dsimp only at h
        obtain ⟨⟨z1, hz1, hs1⟩, hl1, hc1⟩ := hb x ts x1 s1 h1
        have hz1n := hs1 rfl
        have hlz : 0 < z1.length := List.length_pos_iff.2 hz1n
        obtain ⟨⟨z2, hz2⟩, hl2, hc2⟩ := ih x1 s1 y s (by rw [hz1, List.length_append] at hl; omega) h
        refine ⟨⟨z1 ++ z2, by rw [hz1, hz2, List.append_assoc]⟩, fun hlt ho => ?_, ?_⟩
        · have a1 := hl1 hlt ho
          have a2 := hl2 (by rw [hz1] at hlt; exact hlt.drop) a1.2
          exact ⟨by have := a1.1; have := a2.1; omega, a2.2⟩
        · intro p q r hpq hs hr f2 x2 p2 q2 hf2 hT hE
          have e1 : s1 = (z2 ++ r) ++ q := by rw [hz2, hs, List.append_assoc]
          have hpe : p = z1 ++ (z2 ++ r) := List.append_cancel_right (bs := q) (by rw [← hpq, hz1, e1]; simp only [List.append_assoc])
          have hpn : p ≠ [] := by rw [hpe]; exact fun e => hz1n (List.append_eq_nil_iff.1 e).1
          obtain ⟨y1, r1, k1, k2, k3⟩ := hc1 p q (z2 ++ r) hpq e1 (fun _ e => hr (List.append_eq_nil_iff.1 e).2) x2 p2 q2 hT hE
          have l1 := len_of hE
          have l2 := len_of k3
          have l3 := congrArg List.length hpe
          rw [List.length_append] at l3 hf2
          cases f2 with
          | zero => have : 0 < p.length := List.length_pos_iff.2 hpn; omega
          | succ f2 =>
            obtain ⟨y2, r2, m1, m2, m3⟩ := hc2 (z2 ++ r) q r e1 hs hr f2 y1 r1 q2 (by rw [List.length_append]; omega) k2 k3
            refine ⟨y2, r2, ?_, m2, m3⟩
            rw [loopR, if_pos ((hP _ _ (hd_of hE hpn)).1 (by rw [← hpq]; exact hp)), k1]
            exact m1
    · rw [if_neg hp] at h
      cases h
      refine ⟨⟨[], rfl⟩, fun _ ho => ⟨Nat.le_refl _, ho⟩, ?_⟩
      intro p q r hpq hs hr f2 x2 p2 q2 hf2 hT hE
      have hpr : p = r := List.append_cancel_right (by rw [← hpq, hs])
      subst hpr
      have l1 := len_of hE
      have : 0 < p.length := List.length_pos_iff.2 hr
      rw [List.length_append] at hf2
      cases f2 with
      | zero => omega
      | succ f2 =>
        refine ⟨x2, p2, ?_, hT, hE⟩
        rw [loopR, if_neg (fun e => hp (by rw [hpq]; exact (hP _ _ (hd_of hE hr)).2 e))]

theorem good_loop {la : Bool} {T : γ → δ} {L : γ → Nat} {O : γ → Prop} (P : Tok → Prop) [DecidablePred P] (hP : ∀ t t2, E t = E t2 → (P t ↔ P t2)) {body : γ → List Tok → Res γ} (hb : GoodF la true T L O T L O body) :
    GoodF true false T L O T L O (fun x ts => loopR P body ts.length x ts) := by
  intro x ts y s h
  obtain ⟨⟨z, hz⟩, k2, k3⟩ := loop_good P hP hb ts.length x ts y s (Nat.le_refl _) h
  exact ⟨⟨z, hz, by simp⟩, k2, fun p q r hp hq hr x2 p2 q2 hT hE => k3 p q r hp hq (hr rfl) _ x2 p2 q2 (Nat.le_refl _) hT hE⟩

end RP

namespace RP

variable {α β γ δ ε ζ : Type}

/-- Sets as they are read: by their texts. -/
def SetS (S : List UInt8 → Option (List RS.Rg)) : Prop := ∀ t X, S t = some X → setT X = t ∧ X.length ≤ t.length

def tK (k : K) : List UInt8 × Nat := (k.text, k.code)
def tP (p : Pt) : List UInt8 × Nat := (p.text, p.code)

abbrev tU : Unit → Unit := fun _ => ()
abbrev lK (k : K) : Nat := k.text.length
abbrev lP (p : Pt) : Nat := p.text.length

theorem Etext {t t2 : Tok} (h : E t = E t2) : t.text = t2.text := congrArg Prod.snd h
theorem Ekind {t t2 : Tok} (h : E t = E t2) : t.kind = t2.kind := congrArg Prod.fst h

theorem oneT_len (c : Nat) (t : List UInt8) : (oneT c t).length ≤ t.length + 2 := by
  unfold oneT; split <;> simp

theorem markT_len (c : Nat) : (markT c).length ≤ 3 := by
  unfold markT; split; · simp
  split; · simp
  split <;> simp

/-- Where the next token is. -/
def peek (ts : List Tok) : Res Nat := .ok ((hd ts).at_, ts)

theorem peek_good : Good false false (fun _ : Nat => ()) (fun _ => 0) (fun _ => True) peek := by
  intro _ ts y s h
  cases h
  refine ⟨⟨[], rfl, by simp⟩, fun _ _ => ⟨Nat.le_refl _, trivial⟩, ?_⟩
  rintro p q r rfl hs _ _ p2 q2 _ hE
  have := List.append_cancel_right hs
  subst this
  exact ⟨_, p2, rfl, rfl, hE⟩

def markR (c : Nat) (x : List UInt8) (ts : List Tok) : Res Unit :=
  match markP c x ts with
  | .error b => .error b
  | .ok r => .ok ((), r)

theorem mark_good (c : Nat) (x : List UInt8) : Good false true tU (fun _ => 100) (fun _ => True) (markR c x) := by
  refine good_tok (fun t => if t.text = x then .ok () else .error (refuse c 3 t)) ?_ ?_ ?_ ?_
  · intro v h; cases h
  · intro t r
    unfold markR markP
    dsimp only
    by_cases h : t.text = x
    · rw [if_pos h, if_pos h]
    · rw [if_neg h, if_neg h]
  · intro t t2 y hE h
    by_cases h1 : t.text = x
    · exact ⟨(), by rw [if_pos (by rw [← Etext hE]; exact h1)], rfl⟩
    · rw [if_neg h1] at h; cases h
  · intro t y _ _
    exact ⟨by omega, trivial⟩

theorem breaks_good (c : Nat) : Good false true (fun b : Bool => b) (fun _ => 100) (fun _ => True) (breaksP c) := by
  refine good_tok (fun t => if t.kind = 6 then .ok true else if t.kind = 7 then .ok false else .error (refuse c 3 t)) ?_ ?_ ?_ ?_
  · intro v h; cases h
  · intro t r
    unfold breaksP
    dsimp only
    by_cases h : t.kind = 6
    · rw [if_pos h, if_pos h]
    · rw [if_neg h, if_neg h]
      by_cases h7 : t.kind = 7
      · rw [if_pos h7, if_pos h7]
      · rw [if_neg h7, if_neg h7]
  · intro t t2 y hE h
    have e := Ekind hE
    by_cases h1 : t.kind = 6
    · rw [if_pos h1] at h
      cases h
      exact ⟨true, by rw [if_pos (by omega)], rfl⟩
    · rw [if_neg h1] at h
      by_cases h2 : t.kind = 7
      · rw [if_pos h2] at h
        cases h
        exact ⟨false, by rw [if_neg (by omega), if_pos (by omega)], rfl⟩
      · rw [if_neg h2] at h; cases h
  · intro t y _ _
    exact ⟨by omega, trivial⟩

theorem number_good (c : Nat) : Good false true (fun n : Nat => n) (fun _ => 100) (fun n => n ≤ 12) (numberP c) := by
  refine good_tok (fun t => if t.kind = 2 then (if 12 < numVal t.text then .error (refuse c 4 t) else .ok (numVal t.text)) else .error (refuse c 3 t)) ?_ ?_ ?_ ?_
  · intro v h; cases h
  · intro t r
    unfold numberP
    dsimp only
    by_cases h : t.kind = 2
    · rw [if_pos h, if_pos h]
      by_cases h7 : 12 < numVal t.text
      · rw [if_pos h7, if_pos h7]
      · rw [if_neg h7, if_neg h7]
    · rw [if_neg h, if_neg h]
  · intro t t2 y hE h
    have e := Ekind hE
    have e2 := Etext hE
    try dsimp only at h ⊢
    rw [← e, ← e2]
    by_cases h1 : t.kind = 2
    · rw [if_pos h1] at h ⊢
      by_cases h2 : 12 < numVal t.text
      · rw [if_pos h2] at h; cases h
      · rw [if_neg h2] at h ⊢
        exact ⟨y, h, rfl⟩
    · rw [if_neg h1] at h; cases h
  · intro t y _ h
    try dsimp only at h
    refine ⟨by omega, ?_⟩
    by_cases h1 : t.kind = 2
    · rw [if_pos h1] at h
      by_cases h2 : 12 < numVal t.text
      · rw [if_pos h2] at h; cases h
      · rw [if_neg h2] at h; cases h; omega
    · rw [if_neg h1] at h; cases h

theorem setOrName_good {S : List UInt8 → Option (List RS.Rg)} (hS : SetS S) (c : Nat) : Good false true tK (fun k => k.text.length + 100) K.Ok (setOrNameP S c) := by
  refine good_tok (fun t => if t.kind = 3 then (match S t.text with | none => .error (refuse c 3 t) | some X => .ok (.lit t.at_ X)) else if t.kind = 1 then (if 10 < t.text.length then .error (refuse c 4 t) else .ok (.ref t.at_ t.text)) else .error (refuse c 3 t)) ?_ ?_ ?_ ?_
  · intro v h; cases h
  · intro t r
    unfold setOrNameP nameP
    dsimp only
    by_cases h : t.kind = 3
    · rw [if_pos h, if_pos h]
      cases S t.text <;> rfl
    · rw [if_neg h, if_neg h]
      by_cases h1 : t.kind = 1
      · rw [if_pos h1, if_pos h1]
        by_cases h2 : 10 < t.text.length
        · rw [if_pos h2, if_pos h2]
        · rw [if_neg h2, if_neg h2]
      · rw [if_neg h1, if_neg h1]
  · intro t t2 y hE h
    have e := Ekind hE
    have e2 := Etext hE
    try dsimp only at h ⊢
    rw [← e, ← e2]
    by_cases h3 : t.kind = 3
    · rw [if_pos h3] at h ⊢
      cases hX : S t.text with
      | none => rw [hX] at h; cases h
      | some X => rw [hX] at h; cases h; exact ⟨_, rfl, rfl⟩
    · rw [if_neg h3] at h ⊢
      by_cases h1 : t.kind = 1
      · rw [if_pos h1] at h ⊢
        by_cases h2 : 10 < t.text.length
        · rw [if_pos h2] at h; cases h
        · rw [if_neg h2] at h ⊢
          cases h
          exact ⟨_, rfl, rfl⟩
      · rw [if_neg h1] at h; cases h
  · intro t y hl h
    try dsimp only at h
    by_cases h3 : t.kind = 3
    · rw [if_pos h3] at h
      cases hX : S t.text with
      | none => rw [hX] at h; cases h
      | some X =>
        rw [hX] at h
        cases h
        have := hS _ _ hX
        refine ⟨?_, ?_⟩
        · show (setT X).length + 100 ≤ _
          rw [this.1]
          omega
        · show X.length ≤ 10000
          omega
    · rw [if_neg h3] at h
      by_cases h1 : t.kind = 1
      · rw [if_pos h1] at h
        by_cases h2 : 10 < t.text.length
        · rw [if_pos h2] at h; cases h
        · rw [if_neg h2] at h
          cases h
          exact ⟨Nat.le_refl _, (show t.text.length ≤ 10 by omega)⟩
      · rw [if_neg h1] at h; cases h

/-- A mark between kinds. -/
def codeR (ts : List Tok) : Res Nat := if codeOf (hd ts).text = 0 then .error ⟨0, 0⟩ else .ok (codeOf (hd ts).text, ts.tail)

theorem code_good : Good false true (fun n : Nat => n) (fun _ => 100) (fun n => n = 3 ∨ n = 4 ∨ n = 5) codeR := by
  refine good_tok (fun t => if codeOf t.text = 0 then .error ⟨0, 0⟩ else .ok (codeOf t.text)) ?_ ?_ ?_ ?_
  · intro v h
    have : codeR [] = .error ⟨0, 0⟩ := rfl
    rw [this] at h
    cases h
  · intro t r
    show (if codeOf t.text = 0 then _ else _) = _
    by_cases h : codeOf t.text = 0
    · rw [if_pos h, if_pos h]
    · rw [if_neg h, if_neg h]; rfl
  · intro t t2 y hE h
    try dsimp only at h ⊢
    rw [← Etext hE]
    exact ⟨y, h, rfl⟩
  · intro t y _ h
    try dsimp only at h
    refine ⟨by omega, ?_⟩
    by_cases h0 : codeOf t.text = 0
    · rw [if_pos h0] at h; cases h
    · rw [if_neg h0] at h
      cases h
      unfold codeOf at h0 ⊢
      split
      · exact .inl rfl
      split
      · exact .inr (.inl rfl)
      split
      · exact .inr (.inr rfl)
      · rename_i a b c
        rw [if_neg a, if_neg b, if_neg c] at h0
        exact absurd rfl h0

def kBody (one : List Tok → Res K) (x : Nat × K) : List Tok → Res (Nat × K) := bnd codeR fun code => bnd one fun k2 => ret (fun _ : Unit => (x.1, K.bin code x.1 x.2 k2)) ()

theorem kLoop_eq (one : List Tok → Res K) (a : Nat) : ∀ (f : Nat) (k : K) (ts : List Tok), kLoop one a f k ts = match loopR (fun t => codeOf t.text ≠ 0) (kBody one) f (a, k) ts with
    | .error b => .error b
    | .ok (y, s) => .ok (y.2, s) := by
  intro f
  induction f with
  | zero => intro k ts; rfl
  | succ f ih =>
    intro k ts
    rw [kLoop, loopR]
    by_cases h : codeOf (hd ts).text = 0
    · rw [if_pos h, if_neg (by simpa using h)]
    · rw [if_neg h, if_pos h]
      unfold kBody bnd codeR ret
      rw [if_neg h]
      dsimp only
      cases one ts.tail with
      | error b => rfl
      | ok v => obtain ⟨k2, r⟩ := v; exact ih _ _

abbrev tNK (x : Nat × K) : List UInt8 × Nat := tK x.2
abbrev lNK (x : Nat × K) : Nat := x.2.text.length
abbrev oNK (x : Nat × K) : Prop := x.2.Ok

theorem kBody_good {one : List Tok → Res K} {la st : Bool} (h1 : Good la st tK lK K.Ok one) : GoodF la true tNK lNK oNK tNK lNK oNK (kBody one) := by
  refine good_bnd (la2 := la) (st2 := st) code_good ?_ (by simp) (by simp)
  refine good_bnd (la2 := false) (st2 := false) h1 ?_ (by simp) (by simp)
  refine good_ret (γ := ((Nat × K) × Nat) × K) (fun x => (x.1.1.1, K.bin x.1.2 x.1.1.1 x.1.1.2 x.2)) ?_ ?_
  · rintro ⟨⟨⟨a, k⟩, n⟩, k2⟩ ⟨⟨⟨a', k'⟩, n'⟩, k2'⟩ h
    simp only [tNK, tK, Prod.mk.injEq] at h ⊢
    obtain ⟨⟨⟨h1, h2⟩, h3⟩, h4, h5⟩ := h
    subst h3
    exact ⟨by rw [K.text, K.text, h1, h4, h5], rfl⟩
  · rintro ⟨⟨⟨a, k⟩, n⟩, k2⟩ ⟨⟨h1, h2⟩, h3⟩
    refine ⟨?_, h2, h1, h3⟩
    have := oneT_len k2.code k2.text
    have := markT_len n
    simp only [lNK, lK, K.text, List.length_append]
    omega

theorem kind_good {one : List Tok → Res K} {la st : Bool} (h1 : Good la st tK lK K.Ok one) : Good true st tK lK K.Ok (kindP one) := by
  have e : kindP one = bnd peek fun a => bnd one fun k => bnd (fun r => loopR (fun t => codeOf t.text ≠ 0) (kBody one) r.length (a, k) r) fun y => ret (fun _ : Unit => y.2) () := by
    funext ts
    unfold kindP bnd peek
    dsimp only
    cases one ts with
    | error b => rfl
    | ok v =>
      obtain ⟨k, r⟩ := v
      dsimp only
      rw [kLoop_eq]
      cases loopR (fun t => codeOf t.text ≠ 0) (kBody one) r.length ((hd ts).at_, k) r <;> rfl
  rw [e]
  have hl : GoodF true false tNK lNK oNK tNK lNK oNK (fun x ts => loopR (fun t => codeOf t.text ≠ 0) (kBody one) ts.length x ts) := good_loop _ (fun t t2 hE => by rw [Etext hE]) (kBody_good h1)
  refine good_bnd (γ := Unit) (la2 := true) (st2 := st) peek_good ?_ (by simp) (by simp)
  refine good_bnd (γ := Unit × Nat) (la2 := true) (st2 := false) h1 ?_ (by cases la <;> rfl) (by simp)
  have hc : GoodF true false tNK lNK oNK tK lK K.Ok (fun x => bnd (fun ts => loopR (fun t => codeOf t.text ≠ 0) (kBody one) ts.length x ts) fun y => ret (fun _ : Unit => y.2) ()) :=
    good_cmp (la2 := false) (st2 := false) hl (good_ret (γ := Nat × K) (fun x => x.2) (fun _ _ h => h) fun x ho => ⟨Nat.le_refl _, ho⟩) rfl rfl
  refine hc.pre (fun x : (Unit × Nat) × K => (x.1.2, x.2)) (fun x x2 h => ?_) (fun x ho => ⟨?_, ho.2⟩)
  · simp only [Prod.mk.injEq, true_and] at h
    exact h
  · simp only [lNK, lK]; omega

theorem oneKind_good {S : List UInt8 → Option (List RS.Rg)} (hS : SetS S) (c : Nat) : ∀ m, Good false true tK lK K.Ok (oneKindP S c m) := by
  intro m
  induction m with
  | zero => intro _ ts y s h; dsimp only at h; rw [oneKindP] at h; cases h
  | succ m ih =>
    have e : oneKindP S c (m + 1) = bnd peek fun a ts => if (hd ts).text = [126] then (bnd (oneKindP S c m) fun k => ret (fun _ : Unit => K.neg a k) ()) ts.tail
        else if (hd ts).text = [40] then (bnd (kindP (oneKindP S c m)) fun k => bnd (markR c [41]) fun _ => ret (fun _ : Unit => k) ()) ts.tail else setOrNameP S c ts := by
      funext ts
      rw [oneKindP]
      unfold bnd peek markR ret
      dsimp only
      by_cases h1 : (hd ts).text = [126]
      · rw [if_pos h1, if_pos h1]
        cases oneKindP S c m ts.tail <;> rfl
      · rw [if_neg h1, if_neg h1]
        by_cases h2 : (hd ts).text = [40]
        · rw [if_pos h2, if_pos h2]
          cases kindP (oneKindP S c m) ts.tail with
          | error b => rfl
          | ok v =>
            obtain ⟨k, r⟩ := v
            dsimp only
            cases markP c [41] r <;> rfl
        · rw [if_neg h2, if_neg h2]
    rw [e]
    refine good_bnd (γ := Unit) (la2 := false) (st2 := true) peek_good ?_ (by simp) (by simp)
    refine good_acc (la1 := false) (st1 := true) (la2 := false) (st2 := true) [126] (by simp) ?_ ?_ rfl rfl
    · refine good_bnd (la2 := false) (st2 := false) ih ?_ rfl rfl
      refine good_ret (γ := (Unit × Nat) × K) (fun x => K.neg x.1.2 x.2) ?_ ?_
      · rintro ⟨⟨⟨⟩, a⟩, k⟩ ⟨⟨⟨⟩, a'⟩, k'⟩ h
        simp only [tK, Prod.mk.injEq, true_and] at h ⊢
        exact ⟨by rw [K.text, K.text, h.1, h.2], rfl⟩
      · rintro ⟨⟨⟨⟩, a⟩, k⟩ ⟨_, h⟩
        refine ⟨?_, h⟩
        have := oneT_len k.code k.text
        simp only [lK, K.text, List.length_cons]
        omega
    · refine good_acc (la1 := false) (st1 := true) (la2 := false) (st2 := true) [40] (by simp) ?_ ?_ rfl rfl
      · refine good_bnd (la2 := false) (st2 := true) (kind_good ih) ?_ rfl rfl
        refine good_bnd (la2 := false) (st2 := false) (mark_good c [41]) ?_ rfl rfl
        refine good_ret (γ := ((Unit × Nat) × K) × Unit) (fun x => x.1.2) ?_ ?_
        · rintro ⟨⟨⟨⟨⟩, a⟩, k⟩, ⟨⟩⟩ ⟨⟨⟨⟨⟩, a'⟩, k'⟩, ⟨⟩⟩ h
          simpa using h
        · rintro ⟨⟨⟨⟨⟩, a⟩, k⟩, ⟨⟩⟩ ⟨⟨_, h⟩, _⟩
          exact ⟨by simp only [lK]; omega, h⟩
      · exact (Good.fam (setOrName_good hS c)).weak (fun h => h) (fun h => h) (fun x => by simp) (fun x => by simp only [lK]; omega)

end RP
