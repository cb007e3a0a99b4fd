/- sane: the chapter's examples. -/
import Derived.Test.YtndfchnmajfmiaaDoorRs
namespace Go.Proofs.YtndfchnmajfmiaaDoor
open Go.RowKit

theorem x1 : lexL [115, 117, 109, 32, 51, 48, 59] = .ok [⟨1, [115, 117, 109], 0, 0⟩, ⟨2, [], 30, 4⟩, ⟨3, [59], 0, 6⟩] := by rfl
theorem x2 : lexL [48, 48, 55] = .error 0 := by rfl
theorem x3 : lexL [49, 48, 57, 57, 53, 49, 49, 54, 50, 55, 55, 55, 54] = .ok [⟨2, [], 1099511627776, 0⟩] := by rfl
theorem x4 : lexL [97, 32, 47, 47, 32, 98] = .ok [⟨1, [97], 0, 0⟩] := by rfl
theorem x5 : lexL [97, 32, 36] = .error 2 := by rfl
theorem x6 : lexL [97, 61, 49] = .ok [⟨1, [97], 0, 0⟩, ⟨3, [61], 0, 1⟩, ⟨2, [], 1, 2⟩] := by rfl
theorem x7 : lexL [] = .ok [] := by rfl
theorem y0 : textL [⟨1, [97], 0, 0⟩, ⟨3, [61], 0, 1⟩, ⟨2, [], 1, 2⟩] = [97, 32, 61, 32, 49] := by
  have h : Lib.itoa 1 = [49] := by unfold Lib.itoa; rw [if_neg (by decide)]; exact Lib.decDigits_one (by decide)
  unfold textL
  have e1 : spell ⟨1, [97], 0, 0⟩ = [97] := by rfl
  have e2 : spell ⟨3, [61], 0, 1⟩ = [61] := by rfl
  have e3 : spell ⟨2, [], 1, 2⟩ = [49] := by unfold spell; rw [if_pos rfl]; exact h
  rw [List.map_cons, List.map_cons, List.map_cons, List.map_nil, e1, e2, e3]
  rfl
theorem y1 : textE [⟨1, [97], 0, 0⟩, ⟨3, [61], 0, 1⟩, ⟨2, [], 1, 2⟩] = ([97, 32, 61, 32, 49], 0) := by
  unfold textE
  rw [if_pos (by rfl), y0]
theorem y2 : textE [⟨0, [], 0, 0⟩] = ([], 30) := by rfl

/-- Lex of a source that is written out: its tokens. -/
theorem Lex_lit (l : List UInt8) (hl : l.length ≤ 65536) {m : List Tk} (h : lexL l = .ok m) (w : World) (hK : KW w) :
    Calls Tryd.prog 12 #[.string ⟨l.toArray⟩] w fun e w' => ∃ A c, e = .returned (.tuple #[.slice A m.length c, .int .i64 0, .int .i64 0]) ∧ m.length ≤ c ∧ TR w' w'.heap.size A m ∧ Below w.heap.size w w' := by
  have := Lex_any ⟨l.toArray⟩ hl w hK
  refine this.mono fun e w' he => ?_
  unfold LexPost at he
  rw [list_data, h] at he
  obtain ⟨v, rfl, hto, hb⟩ := he
  obtain ⟨A, c, rfl, hc, hr⟩ := hto.form
  exact ⟨A, c, rfl, hc, hr, hb⟩
/-- Lex of a source that is written out: its error. -/
theorem Lex_bad (l : List UInt8) (hl : l.length ≤ 65536) {p : Nat} (h : lexL l = .error p) (w : World) (hK : KW w) :
    Calls Tryd.prog 12 #[.string ⟨l.toArray⟩] w fun e w' => e = .returned (.tuple #[.slice none 0 0, .int .i64 (p : Nat), .int .i64 30]) ∧ Below w.heap.size w w' := by
  have := Lex_any ⟨l.toArray⟩ hl w hK
  refine this.mono fun e w' he => ?_
  unfold LexPost at he
  rw [list_data, h] at he
  exact he

/-- Equal and Same behind whatever leaves the lists alone. -/
theorem Equal_at {w0 W : World} {N0 : Nat} {a b : List Tk} {A B : Option Addr} {c d : Nat} (ha : a.length ≤ 9223372036854775807) (hb : b.length ≤ 9223372036854775807) (hr : TR w0 N0 A a) (hq : TR w0 N0 B b) (h : Below N0 w0 W) (hN : N0 ≤ W.heap.size) :
    Calls Tryd.prog 14 #[.slice A a.length c, .slice B b.length d] W fun e W' => e = .returned (.bool (equalL a b)) ∧ Below N0 w0 W' :=
  (Equal_any a b ha hb W A B c d ((hr.below h (Nat.le_refl _)).mono hN) ((hq.below h (Nat.le_refl _)).mono hN)).mono fun _ _ ⟨h1, h2⟩ => ⟨h1, h.trans (h2.mono hN)⟩
theorem Same_at {w0 W : World} {N0 : Nat} {a b : List Tk} {A B : Option Addr} {c d : Nat} (ha : a.length ≤ 9223372036854775807) (hb : b.length ≤ 9223372036854775807) (hr : TR w0 N0 A a) (hq : TR w0 N0 B b) (h : Below N0 w0 W) (hN : N0 ≤ W.heap.size) :
    Calls Tryd.prog 18 #[.slice A a.length c, .slice B b.length d] W fun e W' => e = .returned (.bool (sameL a b)) ∧ Below N0 w0 W' :=
  (Same_any a b ha hb W A B c d ((hr.below h (Nat.le_refl _)).mono hN) ((hq.below h (Nat.le_refl _)).mono hN)).mono fun _ _ ⟨h1, h2⟩ => ⟨h1, h.trans (h2.mono hN)⟩
/-- A block of tokens that was just made. -/
theorem TR.new (w : World) (m : List Tk) (cs : Array Value) (t : TypeId) (h : cs.toList = flatT m) : TR (w.alloc (.cells cs t)) (w.heap.size + 1) (some ⟨w.heap.size, 0, none⟩) m := by
  intro hp
  refine ⟨w.heap.size, 0, rfl, Nat.lt_succ_self _, fun i hi => ?_⟩
  obtain ⟨h0, h1, h2, h3⟩ := flatT_get m i hi
  have k : ∀ j u, (flatT m)[j]? = some u → (w.alloc (.cells cs t)).cell? ⟨w.heap.size, j, none⟩ = some u := fun j u hu => by
    rw [cell_of_row _ w.heap.size j _ _ _ (heap_alloc_new w _), ← Array.getElem?_toList, h, hu]
  rw [Nat.zero_add]
  exact ⟨k _ _ h0, k _ _ h1, k _ _ h2, k _ _ h3⟩

theorem TR.step {w w' : World} {A : Option Addr} {m : List Tk} (h : TR w w.heap.size A m) (hb : Below w.heap.size w w') : TR w' w'.heap.size A m := (h.below hb (Nat.le_refl _)).mono hb.size

set_option maxRecDepth 100000 in
set_option maxHeartbeats 4000000 in
theorem sane_any (w : World) (hK : KW w) : Calls Tryd.prog 11 #[] w fun e w' => e = .returned (.bool true) ∧ Below w.heap.size w w' := by
  have hKH := Lib.hid hK
  clear hK
  go_enter Tryd.func11, Tryd.ntmps11
  go_wp2_with fail
  refine (Lex_lit _ (by decide) x1 _ hKH.out).mono ?_
  rintro e w1 ⟨A1, c1, rfl, -, r1, hb1⟩
  have rA := Lib.hid r1
  have hB := hb1
  clear r1 hb1
  go_wp2_with fail
  have hn := bnew w1 (.cells #[.int .i64 1, .string ⟨#[115, 117, 109]⟩, .int .i64 0, .int .i64 0, .int .i64 2, .string ⟨#[]⟩, .int .i64 30, .int .i64 4, .int .i64 3, .string ⟨#[59]⟩, .int .i64 0, .int .i64 6] 35)
  have rB := TR.new w1 [⟨1, [115, 117, 109], 0, 0⟩, ⟨2, [], 30, 4⟩, ⟨3, [59], 0, 6⟩] #[.int .i64 1, .string ⟨#[115, 117, 109]⟩, .int .i64 0, .int .i64 0, .int .i64 2, .string ⟨#[]⟩, .int .i64 30, .int .i64 4, .int .i64 3, .string ⟨#[59]⟩, .int .i64 0, .int .i64 6] 35 rfl
  rw [show w1.heap.size + 1 = (w1.alloc (.cells #[.int .i64 1, .string ⟨#[115, 117, 109]⟩, .int .i64 0, .int .i64 0, .int .i64 2, .string ⟨#[]⟩, .int .i64 30, .int .i64 4, .int .i64 3, .string ⟨#[59]⟩, .int .i64 0, .int .i64 6] 35)).heap.size by simp] at rB
  have rA := Lib.hid (rA.out.step hn)
  have rB := Lib.hid rB
  have hB := hB.trans (hn.mono hB.size)
  clear hn
  refine (Lex_bad _ (by decide) x2 _ (hKH.out.step hB)).mono ?_
  rintro e w2 ⟨rfl, hb⟩
  have rA := Lib.hid (rA.out.step hb)
  have rB := Lib.hid (rB.out.step hb)
  have hB := hB.trans (hb.mono hB.size)
  clear hb
  go_wp2_with fail
  refine (Lex_lit _ (by decide) x3 _ (hKH.out.step hB)).mono ?_
  rintro e w3 ⟨A3, c3, rfl, -, r3, hb⟩
  have rA := Lib.hid (rA.out.step hb)
  have rB := Lib.hid (rB.out.step hb)
  have rC := Lib.hid r3
  have hB := hB.trans (hb.mono hB.size)
  clear hb r3
  go_wp2_with fail
  refine (Lex_lit _ (by decide) x4 _ (hKH.out.step hB)).mono ?_
  rintro e w4 ⟨A4, c4, rfl, -, r4, hb⟩
  have rA := Lib.hid (rA.out.step hb)
  have rB := Lib.hid (rB.out.step hb)
  have rC := Lib.hid (rC.out.step hb)
  have rD := Lib.hid r4
  have hB := hB.trans (hb.mono hB.size)
  clear hb r4
  go_wp2_with fail
  refine (Lex_bad _ (by decide) x5 _ (hKH.out.step hB)).mono ?_
  rintro e w5 ⟨rfl, hb⟩
  have rA := Lib.hid (rA.out.step hb)
  have rB := Lib.hid (rB.out.step hb)
  have rC := Lib.hid (rC.out.step hb)
  have rD := Lib.hid (rD.out.step hb)
  have hB := hB.trans (hb.mono hB.size)
  clear hb
  go_wp2_with fail
  refine (Lex_lit _ (by decide) x6 _ (hKH.out.step hB)).mono ?_
  rintro e w6 ⟨A6, c6, rfl, -, r6, hb⟩
  have rA := Lib.hid (rA.out.step hb)
  have rB := Lib.hid (rB.out.step hb)
  have rC := Lib.hid (rC.out.step hb)
  have rD := Lib.hid (rD.out.step hb)
  have rE := Lib.hid r6
  have hB := hB.trans (hb.mono hB.size)
  clear hb r6
  go_wp2_with fail
  refine (Text_any [⟨1, [97], 0, 0⟩, ⟨3, [61], 0, 1⟩, ⟨2, [], 1, 2⟩] (by decide) (by intro t ht; simp only [List.mem_cons, List.not_mem_nil, or_false] at ht; rcases ht with rfl | rfl | rfl <;> (unfold OkT; simp)) (fun _ => by rw [y0]; decide) _ (hKH.out.step hB) A6 c6 rE.out).mono ?_
  rintro e w7 ⟨rfl, hb⟩
  rw [y1]
  have rA := Lib.hid (rA.out.step hb)
  have rB := Lib.hid (rB.out.step hb)
  have rC := Lib.hid (rC.out.step hb)
  have rD := Lib.hid (rD.out.step hb)
  have rE := Lib.hid (rE.out.step hb)
  have hB := hB.trans (hb.mono hB.size)
  clear hb
  go_wp2_with fail
  refine (Lex_lit _ (by decide) x7 _ (hKH.out.step hB)).mono ?_
  rintro e w8 ⟨A8, c8, rfl, -, -, hb⟩
  have rA := Lib.hid (rA.out.step hb)
  have rB := Lib.hid (rB.out.step hb)
  have rC := Lib.hid (rC.out.step hb)
  have rD := Lib.hid (rD.out.step hb)
  have rE := Lib.hid (rE.out.step hb)
  have hB := hB.trans (hb.mono hB.size)
  clear hb
  go_wp2_with fail
  have hn := bnew w8 (.cells #[.int .i64 0, .string ⟨#[]⟩, .int .i64 0, .int .i64 0] 35)
  have rF := TR.new w8 [⟨0, [], 0, 0⟩] #[.int .i64 0, .string ⟨#[]⟩, .int .i64 0, .int .i64 0] 35 rfl
  rw [show w8.heap.size + 1 = (w8.alloc (.cells #[.int .i64 0, .string ⟨#[]⟩, .int .i64 0, .int .i64 0] 35)).heap.size by simp] at rF
  have rA := Lib.hid (rA.out.step hn)
  have rB := Lib.hid (rB.out.step hn)
  have rC := Lib.hid (rC.out.step hn)
  have rD := Lib.hid (rD.out.step hn)
  have rE := Lib.hid (rE.out.step hn)
  have hB := hB.trans (hn.mono hB.size)
  clear hn
  refine (Text_any [⟨0, [], 0, 0⟩] (by decide) (by intro t ht; simp only [List.mem_cons, List.not_mem_nil, or_false] at ht; subst ht; unfold OkT; simp) (fun _ => by decide) _ (hKH.out.step hB) _ _ rF).mono ?_
  rintro e w9 ⟨rfl, hb⟩
  rw [y2]
  have rA := (rA.out.step hb)
  have rB := (rB.out.step hb)
  have rC := (rC.out.step hb)
  have rD := (rD.out.step hb)
  have rE := (rE.out.step hb)
  have hB := hB.trans (hb.mono hB.size)
  clear hb rF
  have rA := Lib.hid rA
  have rB := Lib.hid rB
  have rE := Lib.hid rE
  have zz := hB.size
  obtain ⟨bC, oC, rfl, lC, cC⟩ := rC (by decide)
  obtain ⟨bD, oD, rfl, lD, cD⟩ := rD (by decide)
  obtain ⟨-, -, hC2, -⟩ := cC 0 (by decide)
  obtain ⟨-, hD1, -, -⟩ := cD 0 (by decide)
  simp only [List.getElem_cons_zero, Nat.zero_mul, Nat.add_zero] at hC2 hD1
  have rDD := Lib.hid rD
  clear rC rD cC cD
  go_wp2_with fail
  refine (Equal_at (by decide) (by decide) rA.out rB.out (Below.refl _ _) (Nat.le_refl _)).mono ?_
  rintro e w10 ⟨rfl, hb⟩
  rw [show equalL [⟨1, [115, 117, 109], 0, 0⟩, ⟨2, [], 30, 4⟩, ⟨3, [59], 0, 6⟩] [⟨1, [115, 117, 109], 0, 0⟩, ⟨2, [], 30, 4⟩, ⟨3, [59], 0, 6⟩] = true by rfl]
  have hC2 := (hb.cell (p := ⟨bC, oC + 2, none⟩) lC).trans hC2
  have hD1 := (hb.cell (p := ⟨bD, oD + 1, none⟩) lD).trans hD1
  have rE := Lib.hid (rE.out.step hb)
  have rDD := Lib.hid (rDD.out.step hb)
  have hB := hB.trans (hb.mono hB.size)
  go_wp2_with fail
  refine (Name_list [66, 95, 49, 50] (by decide) _ (hKH.out.step hB)).mono ?_
  rintro e w11 ⟨rfl, rfl⟩
  rw [show nameB [66, 95, 49, 50] = true by rfl]
  go_wp2_with fail
  refine (Name_list [95, 49, 50] (by decide) _ (hKH.out.step hB)).mono ?_
  rintro e w11 ⟨rfl, rfl⟩
  rw [show nameB [95, 49, 50] = false by rfl]
  go_wp2_with fail
  refine (Same_at (by decide) (by decide) rDD.out rE.out (Below.refl _ _) (Nat.le_refl _)).mono ?_
  rintro e w11 ⟨rfl, hb⟩
  rw [show sameL [⟨1, [97], 0, 0⟩] [⟨1, [97], 0, 0⟩, ⟨3, [61], 0, 1⟩, ⟨2, [], 1, 2⟩] = false by rfl]
  have rDD := Lib.hid (rDD.out.step hb)
  have hB := hB.trans (hb.mono hB.size)
  go_wp2_with fail
  have hn := bnew w11 (.cells #[.int .i64 1, .string ⟨#[97]⟩, .int .i64 0, .int .i64 9] 35)
  have rF := TR.new w11 [⟨1, [97], 0, 9⟩] #[.int .i64 1, .string ⟨#[97]⟩, .int .i64 0, .int .i64 9] 35 rfl
  rw [show w11.heap.size + 1 = (w11.alloc (.cells #[.int .i64 1, .string ⟨#[97]⟩, .int .i64 0, .int .i64 9] 35)).heap.size by simp] at rF
  refine (Same_at (by decide) (by decide) (rDD.out.step hn) rF (Below.refl _ _) (Nat.le_refl _)).mono ?_
  rintro e w12 ⟨rfl, hb⟩
  rw [show sameL [⟨1, [97], 0, 0⟩] [⟨1, [97], 0, 9⟩] = true by rfl]
  have hB := (hB.trans (hn.mono hB.size)).trans (hb.mono (by have := hB.size; simp; omega))
  go_wp2_with fail
  go_ret
  exact ⟨rfl, hB⟩
end Go.Proofs.YtndfchnmajfmiaaDoor
