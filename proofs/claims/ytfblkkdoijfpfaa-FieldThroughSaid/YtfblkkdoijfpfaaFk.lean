/- sane: the chapter's examples hold. -/
import Derived.Test.YtfblkkdoijfpfaaFj
import Derived.Deep.DeepCutAuto
import Derived.Laws.MakeOwn
namespace Go.Proofs.Ytfblkkdoijfpfaa
open Go.RowKit

theorem I64.lit {n : Int} (h : (decide (-9223372036854775808 ≤ n) && decide (n ≤ 9223372036854775807)) = true) : I64 n := by
  unfold I64
  simpa using h
theorem At_eq {l : List (Int × Int)} {t x y : Int} {n : Nat} (hn : l.length = n) (h : atV l t = x ∧ atE l = y) (hm : l.length ≤ 9223372036854775807) (ht : I64 t) (w : World) (A : Option Addr) (c : Nat) (hR : PR w (· < w.heap.size) A l) :
    Calls Try.prog 18 #[.slice A n c, .int .i64 t] w fun e w' => e = .returned (.tuple #[.int .i64 x, .int .i64 y]) ∧ Below w.heap.size w w' := by
  subst hn
  rw [← h.1, ← h.2]
  exact At_any l hm t ht w A c hR
theorem Inv_eq {n x y : Int} (h : invV n = x ∧ invE n = y) (w : World) : Calls Try.prog 8 #[.int .i64 n] w fun e w' => e = .returned (.tuple #[.int .i64 x, .int .i64 y]) ∧ w' = w := by
  rw [← h.1, ← h.2]
  exact Inverse_any n w
/-- Two points that the call has made. -/
theorem PR.two {x y x' y' : Int} (h1 : I64 x) (h2 : I64 y) (h3 : I64 x') (h4 : I64 y') (w : World) (t : TypeId) : PR (w.alloc (.cells #[.int .i64 x, .int .i64 y, .int .i64 x', .int .i64 y'] t)) (· < (w.alloc (.cells #[.int .i64 x, .int .i64 y, .int .i64 x', .int .i64 y'] t)).heap.size) (some ⟨w.heap.size, 0, none⟩) [(x, y), (x', y')] := by
  intro _
  refine ⟨w.heap.size, 0, rfl, by simp, fun i hi => ?_⟩
  match i, hi with
  | 0, _ => exact ⟨by rw [World.cell?_alloc_at _ _ _ _ rfl]; rfl, by rw [World.cell?_alloc_at _ _ _ _ rfl]; rfl, h1, h2⟩
  | 1, _ => exact ⟨by rw [World.cell?_alloc_at _ _ _ _ rfl]; rfl, by rw [World.cell?_alloc_at _ _ _ _ rfl]; rfl, h3, h4⟩

theorem made65 : ∃ X : Array Value, (∀ w, (Instr.makeSlice 31 (.int .i64 65) (.int .i64 65)).run Try.prog w = .ok (.slice (some ⟨w.heap.size, 0, none⟩) 65 65) (w.alloc (.cells X 35))) ∧ ∀ j, j < 130 → X[j]? = some (.int .i64 0) := by
  have hinfo : (Try.prog.info? 35).map (fun i => (i.zero, i.size, i.bytes)) = some (some (.agg #[.int .i64 0, .int .i64 0]), 2, 16) := by kernel_rfl
  obtain ⟨i, hi, hzz⟩ := Option.map_eq_some_iff.1 hinfo
  simp only [Prod.mk.injEq] at hzz
  obtain ⟨hz, hs, hb⟩ := hzz
  refine ⟨madeCells #[.int .i64 0, .int .i64 0] 130, fun w => ?_, fun j hj => ?_⟩
  · have h := run_make (P := Try.prog) w 31 35 i _ Try.underlying31 hi hz .i64 .i64 65 65 (by decide) (by decide) (by rw [hb]; decide) (by decide)
    rw [hs] at h
    exact h
  · unfold madeCells
    rw [Array.getElem?_map, Array.getElem?_range, if_pos hj]
    rcases Nat.mod_two_eq_zero_or_one j with e | e <;> simp [e]
theorem PR.zeros {X : Array Value} (h : ∀ j, j < 130 → X[j]? = some (.int .i64 0)) (w : World) (t : TypeId) : PR (w.alloc (.cells X t)) (· < (w.alloc (.cells X t)).heap.size) (some ⟨w.heap.size, 0, none⟩) (List.replicate 65 (0, 0)) := by
  intro _
  refine ⟨w.heap.size, 0, rfl, by simp, fun i hi => ?_⟩
  simp only [List.length_replicate] at hi
  simp only [List.getElem_replicate, Nat.zero_add]
  exact ⟨(cellAt (i := i * 2) (World.alloc_heap_new w _) (h _ (by omega))), (cellAt (i := i * 2 + 1) (World.alloc_heap_new w _) (h _ (by omega))), I64.lit rfl, I64.lit rfl⟩
theorem IR.three {a b c : Int} (ha : I64 a) (hb : I64 b) (hc : I64 c) (w : World) (t : TypeId) : IR (w.alloc (.cells #[.int .i64 a, .int .i64 b, .int .i64 c] t)) (· < (w.alloc (.cells #[.int .i64 a, .int .i64 b, .int .i64 c] t)).heap.size) (some ⟨w.heap.size, 0, none⟩) [a, b, c] := by
  intro _
  refine ⟨w.heap.size, 0, rfl, by simp, fun i hi => ?_⟩
  match i, hi with
  | 0, _ => exact ⟨by rw [World.cell?_alloc_at _ _ _ _ rfl]; rfl, ha⟩
  | 1, _ => exact ⟨by rw [World.cell?_alloc_at _ _ _ _ rfl]; rfl, hb⟩
  | 2, _ => exact ⟨by rw [World.cell?_alloc_at _ _ _ _ rfl]; rfl, hc⟩
theorem Value_eq {l : List Int} {t x : Int} {n : Nat} (hn : l.length = n) (h : vlF l t = x) (hm : l.length ≤ 9223372036854775807) (w : World) (a : Option Addr) (cap : Nat) (hR : IR w (· < w.heap.size) a l) :
    Calls Try.prog 19 #[.slice a n cap, .int .i64 t] w fun e w' => e = .returned (.int .i64 x) ∧ Below w.heap.size w w' := by
  subst hn
  rw [← h]
  exact Value_any l t hm w a cap hR
theorem Mod_eq {n x : Int} (h : md n = x) (w : World) : Calls Try.prog 10 #[.int .i64 n] w fun e w' => e = .returned (.int .i64 x) ∧ w' = w := h ▸ Mod_any n w
theorem Mul_eq {a b x : Int} (h : mulF a b = x) (w : World) : Calls Try.prog 14 #[.int .i64 a, .int .i64 b] w fun e w' => e = .returned (.int .i64 x) ∧ w' = w := h ▸ Mul_any a b w
theorem Add_eq {a b x : Int} (h : addF a b = x) (ha : I64 a) (hb : I64 b) (w : World) : Calls Try.prog 12 #[.int .i64 a, .int .i64 b] w fun e w' => e = .returned (.int .i64 x) ∧ Below w.heap.size w w' := h ▸ Add_any a b ha hb w

set_option maxRecDepth 100000 in
set_option maxHeartbeats 4000000 in
theorem sane_any (w : World) : Calls Try.prog 7 #[] w fun e w' => e = .returned (.bool true) ∧ Below w.heap.size w w' := by
  go_enter Try.func7, Try.ntmps7
  go_wp2_with fail
  refine (Inv_eq inv_ex.1 _).mono ?_
  rintro e w1 ⟨rfl, rfl⟩
  go_wp2_with fail
  refine (Inv_eq inv_ex.2.1 _).mono ?_
  rintro e w1 ⟨rfl, rfl⟩
  go_wp2_with fail
  refine (Inv_eq inv_ex.2.2 _).mono ?_
  rintro e w1 ⟨rfl, rfl⟩
  have hb := Lib.hid (bel1 w1 (.cells #[.int .i64 1, .int .i64 3, .int .i64 2, .int .i64 5] 35))
  have hl := Lib.hid (PR.two (I64.lit rfl) (I64.lit rfl) (I64.lit rfl) (I64.lit rfl) w1 35 : PR (w1.alloc (.cells #[.int .i64 1, .int .i64 3, .int .i64 2, .int .i64 5] 35)) _ _ lineL)
  go_wp2_with fail
  refine (At_eq (n := 2) rfl line_at (by decide) (I64.lit rfl) _ _ _ hl.out).mono ?_
  rintro e w2 ⟨rfl, hb2⟩
  replace hb := Lib.hid (hb.out.trans (hb2.mono hb.out.size))
  clear hl hb2
  go_wp2_with fail
  refine (At_eq (l := []) (n := 0) rfl nil_at (by decide) (I64.lit rfl) _ _ _ (PR.nil _ _ _)).mono ?_
  rintro e w3 ⟨rfl, hb2⟩
  replace hb := Lib.hid (hb.out.trans (hb2.mono hb.out.size))
  clear hb2
  have hl := Lib.hid (PR.two (I64.lit rfl) (I64.lit rfl) (I64.lit rfl) (I64.lit rfl) w3 35 : PR (w3.alloc (.cells #[.int .i64 1, .int .i64 5, .int .i64 (-1073741788), .int .i64 5] 35)) _ _ dupL)
  replace hb := Lib.hid (hb.out.trans ((bel1 w3 (.cells #[.int .i64 1, .int .i64 5, .int .i64 (-1073741788), .int .i64 5] 35)).mono hb.out.size))
  go_wp2_with fail
  refine (At_eq (n := 2) rfl dup_at (by decide) (I64.lit rfl) _ _ _ hl.out).mono ?_
  rintro e w4 ⟨rfl, hb2⟩
  replace hb := Lib.hid (hb.out.trans (hb2.mono hb.out.size))
  clear hl hb2
  obtain ⟨X, hmk, hX⟩ := made65
  have hl := Lib.hid (PR.zeros hX w4 35)
  replace hb := Lib.hid (hb.out.trans ((bel1 w4 (.cells X 35)).mono hb.out.size))
  clear hX
  go_wp2_with fail
  refine (At_eq (n := 65) (by simp) (long_at (by simp) 0) (by simp) (I64.lit rfl) _ _ _ hl.out).mono ?_
  rintro e w5 ⟨rfl, hb2⟩
  replace hb := Lib.hid (hb.out.trans (hb2.mono hb.out.size))
  clear hl hb2 hmk
  go_wp2_with fail
  refine (Mod_eq md_ex.1 _).mono ?_
  rintro e w6 ⟨rfl, rfl⟩
  go_wp2_with fail
  refine (Mul_eq md_ex.2.1 _).mono ?_
  rintro e w6 ⟨rfl, rfl⟩
  go_wp2_with fail
  refine (Add_eq md_ex.2.2 (I64.lit rfl) (I64.lit rfl) _).mono ?_
  rintro e w7 ⟨rfl, hb2⟩
  replace hb := Lib.hid (hb.out.trans (hb2.mono hb.out.size))
  clear hb2
  have hl := Lib.hid (IR.three (a := 1) (b := 2) (c := 3) (I64.lit rfl) (I64.lit rfl) (I64.lit rfl) w7 3)
  replace hb := Lib.hid (hb.out.trans ((bel1 w7 (.cells #[.int .i64 1, .int .i64 2, .int .i64 3] 3)).mono hb.out.size))
  go_wp2_with fail
  refine (Value_eq (n := 3) rfl val_ex.1 (by decide) _ _ _ hl.out).mono ?_
  rintro e w8 ⟨rfl, hb2⟩
  replace hb := Lib.hid (hb.out.trans (hb2.mono hb.out.size))
  clear hl hb2
  go_wp2_with fail
  refine (Value_eq (l := []) (n := 0) rfl val_ex.2 (by decide) _ _ _ (IR.nil _ _ _)).mono ?_
  rintro e w9 ⟨rfl, hb2⟩
  replace hb := Lib.hid (hb.out.trans (hb2.mono hb.out.size))
  clear hb2
  go_wp2_with fail
  go_ret
  exact ⟨rfl, hb.out⟩
end Go.Proofs.Ytfblkkdoijfpfaa
