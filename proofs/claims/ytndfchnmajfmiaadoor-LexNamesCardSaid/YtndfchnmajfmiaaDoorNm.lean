/- LexNames: the law. -/
import Derived.Test.YtndfchnmajfmiaaDoorSa
import Derived.Test.YtndfchnmajfmiaaDoorPl
namespace Go.Proofs.YtndfchnmajfmiaaDoor
open Go.RowKit

theorem textE_name (s : List UInt8) : textE [⟨1, s, 0, 0⟩] = if nameB s = true then (s, 0) else ([], 30) := by
  unfold textE
  have : ([⟨1, s, 0, 0⟩] : List Tk).all validB = nameB s := by simp [validB]
  rw [this]
  by_cases h : nameB s = true
  · rw [if_pos h, if_pos h]; simp [textL, spell, Lib.join]
  · rw [if_neg h, if_neg h]

set_option maxRecDepth 100000 in
set_option maxHeartbeats 3200000 in
theorem names_any (S : List UInt8) (hs : S.length ≤ 9223372036854775807) (w : World) (hK : KW w) : Calls Tryd.prog 10 #[.string ⟨S.toArray⟩] w fun e w' => e = .returned (.bool true) ∧ Below w.heap.size w w' := by
  have hKH := Lib.hid hK
  clear hK
  have hsz : (⟨S.toArray⟩ : ByteArray).size = S.length := rfl
  have hszH := Lib.hid hsz
  clear hsz
  by_cases hlen : S.length ≤ 1000
  · have hN := Lib.hid (fun W (hW : KW W) => Name_list S hs W hW)
    have hT := Lib.hid (fun W (hW : KW W) A c (hr : TR W W.heap.size A [⟨1, S, 0, 0⟩]) => Text_any [⟨1, S, 0, 0⟩] (by simp) (by intro t ht; simp only [List.mem_singleton] at ht; subst ht; exact ⟨by show S.length ≤ _; omega, by simp⟩) (by simp [textL, spell, Lib.join]; omega) W hW A c hr)
    have hlen' : ¬ (1000 : Int) < S.length := by omega
    cases hx : lexL S with
    | error p =>
      have hb : nameB S = false := by
        cases h : nameB S with
        | false => rfl
        | true => rw [lexL_name h] at hx; cases hx
      have hL := Lib.hid (fun W (hW : KW W) => Lex_bad S (by omega) hx W hW)
      have hE : Hid (textE [⟨1, S, 0, 0⟩] = ([], 30)) := by show textE _ = _; rw [textE_name, if_neg (by rw [hb]; decide)]
      have hbH := Lib.hid hb
      clear hb hx
      go_enter Tryd.func10, Tryd.ntmps10
      go_wp2_with fail
      refine (sane_any _ hKH.out).mono ?_
      rintro e w1 ⟨rfl, hB⟩
      go_wp2_with fail
      refine (hL.out _ (hKH.out.step hB)).mono ?_
      rintro e w2 ⟨rfl, hb⟩
      have hB := hB.trans (hb.mono hB.size)
      go_wp2_with fail
      have hn := bnew w2 (.cells #[.int .i64 1, .string ⟨S.toArray⟩, .int .i64 0, .int .i64 0] 35)
      have rF := TR.new w2 [⟨1, S, 0, 0⟩] #[.int .i64 1, .string ⟨S.toArray⟩, .int .i64 0, .int .i64 0] 35 rfl
      rw [show w2.heap.size + 1 = (w2.alloc (.cells #[.int .i64 1, .string ⟨S.toArray⟩, .int .i64 0, .int .i64 0] 35)).heap.size by simp] at rF
      have hB := hB.trans (hn.mono hB.size)
      refine (hT.out _ (hKH.out.step hB) _ _ rF).mono ?_
      rintro e w3 ⟨rfl, hb⟩
      rw [hE.out]
      have hB := hB.trans (hb.mono hB.size)
      clear rF
      go_wp2_with fail
      refine (hN.out _ (hKH.out.step hB)).mono ?_
      rintro e w4 ⟨rfl, rfl⟩
      rw [hbH.out]
      go_wp2_with fail
      go_ret
      exact ⟨rfl, hB⟩
    | ok m =>
      have hL := Lib.hid (fun W (hW : KW W) => Lex_lit S (by omega) hx W hW)
      cases hb : nameB S with
      | true =>
        have hm : m = [⟨1, S, 0, 0⟩] := by rw [lexL_name hb] at hx; injection hx with hx; exact hx.symm
        subst hm
        have hE : Hid (textE [⟨1, S, 0, 0⟩] = (S, 0)) := by show textE _ = _; rw [textE_name, if_pos hb]
        have hbH := Lib.hid hb
        clear hb hx
        go_enter Tryd.func10, Tryd.ntmps10
        go_wp2_with fail
        refine (sane_any _ hKH.out).mono ?_
        rintro e w1 ⟨rfl, hB⟩
        go_wp2_with fail
        refine (hL.out _ (hKH.out.step hB)).mono ?_
        rintro e w2 ⟨A, c, rfl, -, hr, hb⟩
        have hB := hB.trans (hb.mono hB.size)
        obtain ⟨b, o, rfl, hlb, hc⟩ := hr (by simp)
        obtain ⟨c0, c1, c2, c3⟩ := hc 0 (by simp)
        simp only [List.getElem_cons_zero, Nat.zero_mul, Nat.add_zero] at c0 c1 c2 c3
        clear hr hc
        go_wp2_with fail
        have hn := bnew w2 (.cells #[.int .i64 1, .string ⟨S.toArray⟩, .int .i64 0, .int .i64 0] 35)
        have rF := TR.new w2 [⟨1, S, 0, 0⟩] #[.int .i64 1, .string ⟨S.toArray⟩, .int .i64 0, .int .i64 0] 35 rfl
        rw [show w2.heap.size + 1 = (w2.alloc (.cells #[.int .i64 1, .string ⟨S.toArray⟩, .int .i64 0, .int .i64 0] 35)).heap.size by simp] at rF
        have hB := hB.trans (hn.mono hB.size)
        refine (hT.out _ (hKH.out.step hB) _ _ rF).mono ?_
        rintro e w3 ⟨rfl, hb⟩
        rw [hE.out]
        have hB := hB.trans (hb.mono hB.size)
        clear rF
        go_wp2_with fail
        refine (hN.out _ (hKH.out.step hB)).mono ?_
        rintro e w4 ⟨rfl, rfl⟩
        rw [hbH.out]
        go_wp2_with fail
        go_ret
        exact ⟨rfl, hB⟩
      | false =>
        have hE : Hid (textE [⟨1, S, 0, 0⟩] = ([], 30)) := by show textE _ = _; rw [textE_name, if_neg (by rw [hb]; decide)]
        have hbH := Lib.hid hb
        by_cases h1 : m.length = 1
        · match m, h1 with
          | [t], _ =>
            have hv := lexL_valid hx t (by simp)
            cases hk : (t.k == 1) with
            | false =>
              clear hb hx
              go_enter Tryd.func10, Tryd.ntmps10
              go_wp2_with fail
              refine (sane_any _ hKH.out).mono ?_
              rintro e w1 ⟨rfl, hB⟩
              go_wp2_with fail
              refine (hL.out _ (hKH.out.step hB)).mono ?_
              rintro e w2 ⟨A, c, rfl, -, hr, hb⟩
              have hB := hB.trans (hb.mono hB.size)
              obtain ⟨b, o, rfl, hlb, hc⟩ := hr (by simp)
              obtain ⟨c0, c1, c2, c3⟩ := hc 0 (by simp)
              simp only [List.getElem_cons_zero, Nat.zero_mul, Nat.add_zero] at c0 c1 c2 c3
              clear hr hc
              go_wp2_with fail
              have hn := bnew w2 (.cells #[.int .i64 1, .string ⟨S.toArray⟩, .int .i64 0, .int .i64 0] 35)
              have rF := TR.new w2 [⟨1, S, 0, 0⟩] #[.int .i64 1, .string ⟨S.toArray⟩, .int .i64 0, .int .i64 0] 35 rfl
              rw [show w2.heap.size + 1 = (w2.alloc (.cells #[.int .i64 1, .string ⟨S.toArray⟩, .int .i64 0, .int .i64 0] 35)).heap.size by simp] at rF
              have hB := hB.trans (hn.mono hB.size)
              refine (hT.out _ (hKH.out.step hB) _ _ rF).mono ?_
              rintro e w3 ⟨rfl, hb⟩
              rw [hE.out]
              have hB := hB.trans (hb.mono hB.size)
              clear rF
              go_wp2_with fail
              refine (hN.out _ (hKH.out.step hB)).mono ?_
              rintro e w4 ⟨rfl, rfl⟩
              rw [hbH.out]
              go_wp2_with fail
              go_ret
              exact ⟨rfl, hB⟩
            | true =>
              have hts : (t.s == S) = false := by
                rw [beq_eq_false_iff_ne]
                rintro rfl
                rw [(valid_name hv (by simpa using hk)).1] at hb
                cases hb
              clear hb hx
              go_enter Tryd.func10, Tryd.ntmps10
              go_wp2_with fail
              refine (sane_any _ hKH.out).mono ?_
              rintro e w1 ⟨rfl, hB⟩
              go_wp2_with fail
              refine (hL.out _ (hKH.out.step hB)).mono ?_
              rintro e w2 ⟨A, c, rfl, -, hr, hb⟩
              have hB := hB.trans (hb.mono hB.size)
              obtain ⟨b, o, rfl, hlb, hc⟩ := hr (by simp)
              obtain ⟨c0, c1, c2, c3⟩ := hc 0 (by simp)
              simp only [List.getElem_cons_zero, Nat.zero_mul, Nat.add_zero] at c0 c1 c2 c3
              clear hr hc
              go_wp2_with fail
              have hn := bnew w2 (.cells #[.int .i64 1, .string ⟨S.toArray⟩, .int .i64 0, .int .i64 0] 35)
              have rF := TR.new w2 [⟨1, S, 0, 0⟩] #[.int .i64 1, .string ⟨S.toArray⟩, .int .i64 0, .int .i64 0] 35 rfl
              rw [show w2.heap.size + 1 = (w2.alloc (.cells #[.int .i64 1, .string ⟨S.toArray⟩, .int .i64 0, .int .i64 0] 35)).heap.size by simp] at rF
              have hB := hB.trans (hn.mono hB.size)
              refine (hT.out _ (hKH.out.step hB) _ _ rF).mono ?_
              rintro e w3 ⟨rfl, hb⟩
              rw [hE.out]
              have hB := hB.trans (hb.mono hB.size)
              clear rF
              go_wp2_with fail
              refine (hN.out _ (hKH.out.step hB)).mono ?_
              rintro e w4 ⟨rfl, rfl⟩
              rw [hbH.out]
              go_wp2_with fail
              go_ret
              exact ⟨rfl, hB⟩
        · have h1' : ((m.length : Int) == 1) = false := by rw [beq_eq_false_iff_ne]; omega
          clear hb hx h1
          go_enter Tryd.func10, Tryd.ntmps10
          go_wp2_with fail
          refine (sane_any _ hKH.out).mono ?_
          rintro e w1 ⟨rfl, hB⟩
          go_wp2_with fail
          refine (hL.out _ (hKH.out.step hB)).mono ?_
          rintro e w2 ⟨A, c, rfl, -, -, hb⟩
          have hB := hB.trans (hb.mono hB.size)
          go_wp2_with fail
          have hn := bnew w2 (.cells #[.int .i64 1, .string ⟨S.toArray⟩, .int .i64 0, .int .i64 0] 35)
          have rF := TR.new w2 [⟨1, S, 0, 0⟩] #[.int .i64 1, .string ⟨S.toArray⟩, .int .i64 0, .int .i64 0] 35 rfl
          rw [show w2.heap.size + 1 = (w2.alloc (.cells #[.int .i64 1, .string ⟨S.toArray⟩, .int .i64 0, .int .i64 0] 35)).heap.size by simp] at rF
          have hB := hB.trans (hn.mono hB.size)
          refine (hT.out _ (hKH.out.step hB) _ _ rF).mono ?_
          rintro e w3 ⟨rfl, hb⟩
          rw [hE.out]
          have hB := hB.trans (hb.mono hB.size)
          clear rF
          go_wp2_with fail
          refine (hN.out _ (hKH.out.step hB)).mono ?_
          rintro e w4 ⟨rfl, rfl⟩
          rw [hbH.out]
          go_wp2_with fail
          go_ret
          exact ⟨rfl, hB⟩
  · have hlen' : (1000 : Int) < S.length := by omega
    go_enter Tryd.func10, Tryd.ntmps10
    go_wp2_with fail
    refine (sane_any _ hKH.out).mono ?_
    rintro e w1 ⟨rfl, hB⟩
    go_wp2_with fail
    go_ret
    exact ⟨rfl, hB⟩
theorem names_s (s : ByteArray) (hs : s.size ≤ 9223372036854775807) (w : World) (hK : KW w) : Calls Tryd.prog 10 #[.string s] w fun e w' => e = .returned (.bool true) ∧ Below w.heap.size w w' := by
  have := names_any s.data.toList hs w hK
  rw [data_list] at this
  exact this
end Go.Proofs.YtndfchnmajfmiaaDoor
