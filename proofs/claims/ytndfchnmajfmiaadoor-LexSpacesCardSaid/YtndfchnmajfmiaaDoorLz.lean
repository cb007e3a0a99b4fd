/- What the row's condition on the listed variables gives: the classes, the powers of ten, an error; strings and tokens that came in, opened. -/
import Derived.Test.YtndfchnmajfmiaaDoorRw
import Derived.LaidMore
import Derived.ProofKit
import Derived.Stop.Joined
import Derived.MakeChecks
import Derived.Lib.LaidTab
import Derived.ChangeMaps5
namespace Go.Proofs.YtndfchnmajfmiaaDoor
open Go.ChangeShapes Go.WideShapes Go.ChangeAt Go.RowKit Go.Deep

abbrev laidL : List (String × DataW Unit) := [("math/bits.deBruijn32tab", Rows.laid_math_bits_deBruijn32tab), ("math/bits.deBruijn64tab", Rows.laid_math_bits_deBruijn64tab), ("internal/strconv.uint64pow10", Rows.laid_internal_strconv_uint64pow10), ("strconv.ErrRange", Rows.laid_strconv_ErrRange), ("strconv.ErrSyntax", Rows.laid_strconv_ErrSyntax), ("kinesphere/lex.classes", Rows.laid_kinesphere_lex_classes)]

def clsTab : List Int := (List.range 128).map fun i => ((cls (UInt8.ofNat i) : Nat) : Int)
theorem laid_cls : (Rows.laid_kinesphere_lex_classes : DataW Unit) = Lib.tabData .u8 clsTab := by rfl
theorem laid_pow : (Rows.laid_internal_strconv_uint64pow10 : DataW Unit) = Lib.tabData .u64 Lib.pow10Tab := by rfl
theorem g_cls : Tryd.prog.globalNamed "kinesphere/lex.classes" = some 0 := by kernel_rfl
theorem g_rng : Tryd.prog.globalNamed "strconv.ErrRange" = some 4 := by kernel_rfl
theorem g_db : Tryd.prog.globalNamed "math/bits.deBruijn64tab" = some 6 := by kernel_rfl
def dbTab : List Int := [0, 1, 56, 2, 57, 49, 28, 3, 61, 58, 42, 50, 38, 29, 17, 4, 62, 47, 59, 36, 45, 43, 51, 22, 53, 39, 33, 30, 24, 18, 12, 5, 63, 55, 48, 27, 60, 41, 37, 16, 46, 35, 44, 21, 52, 32, 23, 11, 54, 26, 40, 15, 34, 20, 31, 10, 25, 14, 19, 9, 13, 8, 7, 6]
theorem laid_db : (Rows.laid_math_bits_deBruijn64tab : DataW Unit) = Lib.tabData .u8 dbTab := by rfl

/-- An interface value that reads as one of a type's holds one. -/
theorem iface_of {P : Program} {w : World} {t : TypeId} {ms : Array (String × TypeId)} {fuel : Nat} {v : Value} {n : String} {d : DataW Unit} {p : List MemPlace} (ht : P.underlying t = some (.interface ms))
    (h : DataW.trod (fun _ => ()) P w 0 (fun _ => true) false fuel t [v] = some (.iface n d, p)) : ∃ te pe, v = .iface te pe := by
  cases fuel with
  | zero => simp [DataW.trod] at h
  | succ k => cases v <;> simp [DataW.trod, ht] at h <;> exact ⟨_, _, rfl⟩

theorem kw_of_laid {W : World} (h : laidMetH Tryd.prog laidL W) : KW W := by
  rw [MakeChecks.laidMetH_plain _ _ _ (by kernel_rfl)] at h
  obtain ⟨ps, ⟨g0, t0, cs0, f0, p0, q0, hg0, ht0, hv0, hd0, ⟨g1, t1, cs1, f1, p1, q1, hg1, ht1, hv1, hd1, ⟨g2, t2, cs2, f2, p2, q2, hg2, ht2, hv2, hd2, ⟨g3, t3, cs3, f3, p3, q3, hg3, ht3, hv3, hd3, ⟨g4, t4, cs4, f4, p4, q4, hg4, ht4, hv4, hd4, ⟨g5, t5, cs5, f5, p5, q5, hg5, ht5, hv5, hd5, -, -⟩, -⟩, -⟩, -⟩, -⟩, -⟩, -, -⟩ := h
  obtain rfl := Option.some.inj (gPow.symm.trans hg2)
  obtain rfl := Option.some.inj (g_rng.symm.trans hg3)
  obtain rfl := Option.some.inj (g_cls.symm.trans hg5)
  obtain rfl := Option.some.inj (g_db.symm.trans hg1)
  obtain rfl := Option.some.inj ((show (Tryd.prog.globals[2]?).map (·.type) = some 89 by kernel_rfl).symm.trans ht2)
  obtain rfl := Option.some.inj ((show (Tryd.prog.globals[4]?).map (·.type) = some 62 by kernel_rfl).symm.trans ht3)
  obtain rfl := Option.some.inj ((show (Tryd.prog.globals[0]?).map (·.type) = some 66 by kernel_rfl).symm.trans ht5)
  obtain rfl := Option.some.inj ((show (Tryd.prog.globals[6]?).map (·.type) = some 106 by kernel_rfl).symm.trans ht1)
  rw [laid_pow] at hd2
  rw [laid_cls] at hd5
  rw [laid_db] at hd1
  have e2 := Lib.cells_of_tab Tryd.underlying89 Tryd.underlying76 (by kernel_rfl) (by kernel_rfl) hd2
  have e5 := Lib.cells_of_tab Tryd.underlying66 Tryd.underlying5 (by kernel_rfl) (by kernel_rfl) hd5
  have e1 := Lib.cells_of_tab Tryd.underlying106 Tryd.underlying5 (by kernel_rfl) (by kernel_rfl) hd1
  refine ⟨fun c hc => ?_, ?_, ?_, ?_⟩
  · have h1 := World.var?_cell hg5 hv5 c.toNat
    rw [h1, ← Array.getElem?_toList, e5]
    simp only [clsTab, List.map_map, List.getElem?_map]
    rw [List.getElem?_range hc]
    simp
  · have h1 := World.var?_cell hg3 hv3 0
    have hl : ∃ v, cs3.toList = [v] := by
      cases f3 with
      | zero => simp [DataW.trod] at hd3
      | succ k =>
        match hcs : cs3.toList with
        | [v] => exact ⟨v, rfl⟩
        | [] => rw [hcs] at hd3; simp [DataW.trod, Tryd.underlying62] at hd3
        | a :: b :: r => rw [hcs] at hd3; cases a <;> simp [DataW.trod, Tryd.underlying62] at hd3
    obtain ⟨v, hv⟩ := hl
    rw [hv] at hd3
    obtain ⟨te, pe, rfl⟩ := iface_of Tryd.underlying62 hd3
    exact ⟨te, pe, by rw [h1, ← Array.getElem?_toList, hv]; rfl⟩
  · unfold Lib.TabIs
    rw [hv2, ← e2]
  · have h1 := World.var?_cell hg1 hv1 0
    rw [← Array.getElem?_toList, e1] at h1
    have := World.block_lt_of_cell? W ⟨6, 0, none⟩ (u := .int .u8 0) h1
    exact this

theorem okWide_sliceV {w : World} {P : Program} {r : Reach} {b0 : Nat} {t e : TypeId} {v : Value} (ht : P.underlying t = some (.slice e)) (h : Value.okWide P w r b0 t v) : v.cells = #[v] := by
  simp only [Value.okWide, ht, Cell.okWide] at h
  cases v <;> simp_all [Cell.ok, Value.cells]
theorem addr_none {w : World} {a : Addr} {v : Value} (h : w.cell? a = some v) : a.spot = none := by
  unfold World.cell? at h
  split at h
  · split at h
    · cases h
    · rename_i hs
      cases h' : a.spot with
      | none => rfl
      | some _ => simp [h'] at hs
  · cases h

theorem openS {H : Type} {enc : TypeId × Value → H} {sp : Nat → Bool} {r : Reach} {b0 : Nat} {W : World} {v : Value} {d : DataW H} {p : List MemPlace} (hv : Value.okWide Tryd.prog W r b0 9 v)
    (h : DataW.Trod enc Tryd.prog W 0 sp true 9 v d p) : ∃ s : ByteArray, v = .string s ∧ s.size ≤ 9223372036854775807 := by
  obtain ⟨s, rfl, -, -, hs⟩ := Go.ChangeMaps.open_string Tryd.underlying9 hv h
  exact ⟨s, rfl, hs⟩
/-- A string that came in, and the reading. -/
theorem openS' {H : Type} {enc : TypeId × Value → H} {sp : Nat → Bool} {r : Reach} {b0 : Nat} {W : World} {v : Value} {d : DataW H} {p : List MemPlace} (hv : Value.okWide Tryd.prog W r b0 9 v)
    (h : DataW.Trod enc Tryd.prog W 0 sp true 9 v d p) : ∃ s : ByteArray, v = .string s ∧ d = .lit (.string s.data.toList) := by
  obtain ⟨s, rfl, rfl, -, -⟩ := Go.ChangeMaps.open_string Tryd.underlying9 hv h
  exact ⟨s, rfl, rfl⟩
theorem reach_le {n : Nat} (h : n ≤ reachBytes) : n ≤ 140737488355328 := by
  have : reachBytes ≤ 140737488355328 := by decide
  omega
end Go.Proofs.YtndfchnmajfmiaaDoor
