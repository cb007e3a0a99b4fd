/- Text. -/
import Derived.Test.YtndfchnmajfmiaaDoorVd
import Derived.Laws.MakeOwn
namespace Go.Proofs.YtndfchnmajfmiaaDoor
open Go.RowKit

/-- A token whose text and number lie in an int's bounds. -/
def OkT (t : Tk) : Prop := t.s.length ≤ 9223372036854775807 ∧ (-9223372036854775808 ≤ t.n ∧ t.n ≤ 9223372036854775807)
/-- The text of tokens, and the error. -/
def textE (l : List Tk) : List UInt8 × Int := if l.all validB then (textL l, 0) else ([], 30)

theorem make_strs (n : Nat) (hn : n ≤ 1000000) (W : World) : (Instr.makeSlice 40 (.int .i64 n) (.int .i64 n)).run Tryd.prog W = .ok (.slice (some ⟨W.heap.size, 0, none⟩) n n) (W.alloc (.cells (madeCells #[.string ⟨#[]⟩] n) 9)) := by
  obtain ⟨i0, hi0, hz0, hz1, hz2⟩ := info_parts (show (Tryd.prog.info? 9).map (fun i => (i.zero, i.size, i.bytes)) = some (some (.string ⟨#[]⟩), 1, 16) by kernel_rfl)
  have h := run_make (P := Tryd.prog) W 40 9 i0 (.string ⟨#[]⟩) Tryd.underlying40 hi0 hz0 .i64 .i64 n n (by omega) (by omega) (by rw [hz2]; omega) (by omega)
  rw [hz1] at h
  simpa [Value.cells] using h

/-- A block of strings, of which the first k are spelled. -/
def StrB (w : World) (g : Nat) (l : List Tk) (k : Nat) : Prop := ∃ cs : Array Value, w.heap[g]? = some (.cells cs 9 (0, 0)) ∧ cs.size = l.length ∧ (∀ v ∈ cs.toList, ∃ s, v = .string s) ∧ ∀ j (h : j < l.length), j < k → cs[j]? = some (.string ⟨(spell l[j]).toArray⟩)
theorem StrB.below {w w' : World} {g k : Nat} {l : List Tk} (h : StrB w g l k) (hb : Below w.heap.size w w') : StrB w' g l k := by
  obtain ⟨cs, h1, h2⟩ := h
  exact ⟨cs, (hb.block g (Array.getElem?_eq_some_iff.1 h1).1).trans h1, h2⟩
theorem StrB.cell {w : World} {g k : Nat} {l : List Tk} (h : StrB w g l k) {j : Nat} (hj : j < l.length) : (∃ s, w.cell? ⟨g, j, none⟩ = some (.string s)) ∧ w.frozen? ⟨g, j, none⟩ = false := by
  obtain ⟨cs, h1, h2, h3, -⟩ := h
  refine ⟨?_, by simp [World.frozen?, h1]⟩
  obtain ⟨s, hs⟩ := h3 cs[j] (by simp)
  exact ⟨s, by rw [cell_of_row w g j _ _ _ h1, Array.getElem?_eq_getElem (by omega), hs]⟩
theorem StrB.set {w : World} {g k : Nat} {l : List Tk} (h : StrB w g l k) (hk : k < l.length) : StrB (w.setCell ⟨g, k, none⟩ (.string ⟨(spell l[k]).toArray⟩)) g l (k + 1) := by
  obtain ⟨cs, h1, h2, h3, h4⟩ := h
  refine ⟨cs.setIfInBounds k (.string ⟨(spell l[k]).toArray⟩), ?_, by simpa using h2, ?_, fun j hj hjk => ?_⟩
  · simp [World.setCell, Array.getElem?_modify, h1]
  · intro v hv
    rw [Array.toList_setIfInBounds] at hv
    rcases List.mem_or_eq_of_mem_set hv with hv | rfl
    · exact h3 v hv
    · exact ⟨_, rfl⟩
  · by_cases he : k = j
    · subst he
      simp [h2, hk]
    · rw [Array.getElem?_setIfInBounds_ne he]
      exact h4 j hj (by omega)
theorem StrB.new (w : World) (l : List Tk) : StrB (w.alloc (.cells (madeCells #[.string ⟨#[]⟩] l.length) 9)) w.heap.size l 0 := by
  refine ⟨_, heap_alloc_new w _, size_madeCells _ _, fun v hv => ?_, fun j _ hj => absurd hj (by omega)⟩
  simp only [madeCells, Array.toList_map, List.mem_map] at hv
  obtain ⟨i, -, rfl⟩ := hv
  refine ⟨⟨#[]⟩, ?_⟩
  simp [Nat.mod_one]

theorem all_valid {l : List Tk} {k : Nat} (hk : k < l.length) (h : validB l[k] = false) : l.all validB = false := by
  rw [Bool.eq_false_iff]
  intro h'
  have := List.all_eq_true.1 h' _ (List.getElem_mem hk)
  rw [h] at this
  cases this

set_option maxRecDepth 100000 in
set_option maxHeartbeats 1600000 in
theorem Text_any (l : List Tk) (hl : l.length ≤ 100000) (hok : ∀ t ∈ l, OkT t) (htext : l.all validB = true → (textL l).length ≤ 1000000000) (w : World) (hK : KW w) (A : Option Addr) (c : Nat) (hr : TR w w.heap.size A l) :
    Calls Tryd.prog 16 #[.slice A l.length c] w fun e w' => e = .returned (.tuple #[.string ⟨(textE l).1.toArray⟩, .int .i64 (textE l).2]) ∧ Below w.heap.size w w' := by
  have hmk := make_strs l.length (by omega)
  have hKH := Lib.hid hK
  have hrH := Lib.hid hr
  have hokH := Lib.hid hok
  have htH := Lib.hid htext
  clear hK hr hok htext
  go_enter Tryd.func16, Tryd.ntmps16
  go_wp2_with fail
  go_loopw [12] (fun i wr => ∃ k : Nat, k ≤ l.length ∧ i = .int .i64 k ∧ (∀ j (h : j < l.length), j < k → validB l[j] = true) ∧ StrB wr w.heap.size l k ∧ Below w.heap.size w wr) (fun i _ => l.length - (intOf i).toNat)
  case atStart => exact ⟨0, Nat.zero_le _, rfl, fun _ _ h => absurd h (by omega), StrB.new w l, bnew w _⟩
  case round =>
    obtain ⟨k, hk, rfl, hva, hst, hb⟩ := hrel
    have hvaH := Lib.hid hva
    clear hva
    by_cases hlt : k < l.length
    · obtain ⟨b, off, rfl, hbB, hcells⟩ := (hrH.out.below hb (Nat.le_refl _)) (by omega)
      obtain ⟨c0, c1, c2, c3⟩ := hcells k hlt
      have hz := hb.size
      have hKr := hKH.out.step hb
      have hok := hokH.out l[k] (List.getElem_mem hlt)
      have hset := Lib.hid (fun (W : World) (h : StrB W w.heap.size l k) => h.set hlt)
      have hallf := Lib.hid (fun h => all_valid (l := l) hlt h)
      have hvs := Lib.hid (fun (h : validB l[k] = true) j (hj : j < l.length) (hjk : j < k + 1) => show validB l[j] = true by
        by_cases e : j = k
        · subst e; exact h
        · exact hvaH.out j hj (by omega))
      clear hcells hvaH
      generalize l[k] = t at *
      have hV := Lib.hid (valid_any t (by have := hok.1; omega))
      have hT := Lib.hid (textOf_any t hok.2)
      clear hok
      go_wp2_with fail
      refine (hV.out _ (hKr.al _)).mono ?_
      rintro e w1 ⟨rfl, hb1⟩
      have hb1' := hb1
      simp only [World.size_alloc] at hb1'
      have hB1 := hb.trans ((unbox hb1').mono hz)
      have hst1 := hst.below (unbox hb1')
      have hS1 := (S4.new wr (.int .i64 t.k) (.string ⟨t.s.toArray⟩) (.int .i64 t.n) (.int .i64 t.p) 35).of hb1' (Nat.lt_succ_self _)
      clear hb1 hb1' hst
      cases hv : validB t with
      | false =>
        have hf : Hid (textE l = ([], 30)) := by show textE l = _; unfold textE; rw [hallf.out hv]; rfl
        go_wp2_with fail
        go_ret2
        rw [hf.out]
        exact ⟨rfl, hB1⟩
      | true =>
        have hvsH := Lib.hid (hvs.out hv)
        obtain ⟨d0, d1, d2, d3⟩ := hS1
        clear hv c0 c1 c2 c3
        go_wp2_with fail
        refine (hT.out _ (hKH.out.step hB1)).mono ?_
        rintro e w2 ⟨rfl, hb2⟩
        have hB2 := hB1.trans (hb2.mono hB1.size)
        have hst2 := hst1.below hb2
        obtain ⟨⟨so, hs1⟩, hs2⟩ := hst2.cell hlt
        have hst3 := Lib.hid (hset.out _ hst2)
        clear hb2 hst1 hst2 d0 d1 d2 d3 hset
        go_wp2_with fail
        go_roundw
        case rel => exact ⟨k + 1, by omega, by go_num, hvsH.out, hst3.out, hB2.setCell (Nat.le_refl _) _⟩
        case measure => simp [intOf]; omega
    · have hkl : k = l.length := by omega
      subst hkl
      have hall : l.all validB = true := by
        rw [List.all_eq_true]
        intro t ht
        obtain ⟨j, hj, rfl⟩ := List.getElem_of_mem ht
        exact hvaH.out j hj hj
      have hf : Hid (textE l = (textL l, 0)) := by show textE l = _; unfold textE; rw [hall]; rfl
      have htA := Lib.hid (htH.out hall)
      clear hall
      have hz := hb.size
      obtain ⟨cs, h1, h2, -, h4⟩ := hst
      have hlt : w.heap.size < wr.heap.size := (Array.getElem?_eq_some_iff.1 h1).1
      by_cases h0 : 0 < l.length
      · have hJ := Tryd.strings_Join w.heap.size 0 l.length (l.map fun t => ⟨(spell t).toArray⟩) ⟨#[32]⟩ wr (fun j x hx => by
          rw [List.getElem?_map] at hx
          obtain ⟨t, ht, rfl⟩ := Option.map_eq_some_iff.1 hx
          obtain ⟨hj, rfl⟩ := List.getElem?_eq_some_iff.1 ht
          rw [Nat.zero_add, cell_of_row wr _ j _ _ _ h1]
          exact h4 j hj hj) hlt (by simp; omega) (by simp) (by
          have := htA.out
          unfold textL at this
          rw [List.map_map, show ((fun x : ByteArray => x.data.toList) ∘ fun t => (⟨(spell t).toArray⟩ : ByteArray)) = spell from by funext t; exact list_data _]
          exact Nat.le_trans this (by omega))
        rw [List.map_map, show ((fun x : ByteArray => x.data.toList) ∘ fun t => (⟨(spell t).toArray⟩ : ByteArray)) = spell from by funext t; exact list_data _, List.length_map] at hJ
        have hJH := Lib.hid hJ
        clear hJ h1 h4
        go_wp2_with fail
        refine hJH.out.mono ?_
        rintro e w1 ⟨rfl, hb1⟩
        go_wp2_with fail
        go_ret2
        rw [hf.out]
        exact ⟨rfl, hb.trans (hb1.mono hz)⟩
      · have hl0 : l = [] := List.eq_nil_of_length_eq_zero (by omega)
        subst hl0
        clear h1 h4
        go_wp2_with fail
        refine (Tryd.strings_Join_none _ _ _ _).mono ?_
        rintro e w1 ⟨rfl, rfl⟩
        go_wp2_with fail
        go_ret2
        rw [hf.out]
        exact ⟨rfl, hb⟩
end Go.Proofs.YtndfchnmajfmiaaDoor
