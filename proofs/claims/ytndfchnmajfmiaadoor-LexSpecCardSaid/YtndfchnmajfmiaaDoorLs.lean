/- LexSpec: the law, walked. -/
import Derived.Test.YtndfchnmajfmiaaDoorRl
import Derived.Test.YtndfchnmajfmiaaDoorTl
namespace Go.Proofs.YtndfchnmajfmiaaDoor
open Go.RowKit

set_option maxRecDepth 100000 in
set_option maxHeartbeats 1600000 in
theorem Lex_long (s : ByteArray) (hs : 65536 < s.size) (w : World) : Calls Tryd.prog 12 #[.string s] w fun e w' => e = .returned (.tuple #[.slice none 0 0, .int .i64 0, .int .i64 2]) ∧ Below w.heap.size w w' := by
  have hs' : (65536 : Int) < s.size := by omega
  go_enter_defers Tryd.func12, Tryd.ntmps12
  go_wp2_with fail
  have hb : Below (w.heap.size + 3) (((w.alloc (.cells #[.slice none 0 0] 23)).alloc (.cells #[.int .i64 0] 3)).alloc (.cells #[.int .i64 2] 24)) (((w.alloc (.cells #[.slice none 0 0] 23)).alloc (.cells #[.int .i64 0] 3)).alloc (.cells #[.int .i64 2] 24)) := Below.refl _ _
  obtain ⟨⟨⟨gx, -⟩, ⟨gy, -⟩, gz, -⟩, hbw⟩ := three hb
  refine ⟨.tuple #[.slice none 0 0, .int .i64 0, .int .i64 2], lex_result _ _ w.heap.size _ _ _ rfl rfl rfl gx gy gz, rfl, hbw⟩
set_option maxRecDepth 100000 in
set_option maxHeartbeats 1600000 in
theorem rLex_long (s : ByteArray) (hs : 65536 < s.size) (w : World) : Calls Tryd.prog 13 #[.string s] w fun e w' => e = .returned (.tuple #[.slice none 0 0, .int .i64 0, .int .i64 2]) ∧ w = w' := by
  have hs' : (65536 : Int) < s.size := by omega
  go_enter Tryd.func13, Tryd.ntmps13
  go_wp2_with fail
  go_ret3
  exact ⟨rfl, rfl⟩

set_option maxRecDepth 100000 in
set_option maxHeartbeats 3200000 in
theorem spec_law (s : ByteArray) (hs : s.size ≤ 140737488355328) (w : World) (hK : KW w) :
    Calls Tryd.prog 3 #[.string s] w fun e w' => e = .returned (.bool true) ∧ Below w.heap.size w w' := by
  have hKH := Lib.hid hK
  clear hK
  go_enter Tryd.func3, Tryd.ntmps3
  go_wp2_with fail
  refine (sane_any _ hKH.out).mono ?_
  rintro e w1 ⟨rfl, hB⟩
  by_cases h7 : s.size ≤ 70000
  · have h7' : ¬ (70000 : Int) < s.size := by omega
    have hnil := Lib.hid (fun W => Equal_any [] [] (by simp) (by simp) W none none 0 0 (TR.nil _ _ _) (TR.nil _ _ _))
    by_cases h6 : s.size ≤ 65536
    · have hlr : s.data.toList.length = s.size := rfl
      have hR := Lib.hid (fun W => rLex_any s h6 W)
      cases hx : lexL s.data.toList with
      | error p =>
        have hL := Lib.hid (fun W (hW : KW W) => Lex_er s h6 hx W hW)
        have hxH := Lib.hid hx
        clear hx
        go_wp2_with fail
        refine (hL.out _ (hKH.out.step hB)).mono ?_
        rintro e w2 ⟨rfl, hb⟩
        have hB := hB.trans (hb.mono hB.size)
        clear hb
        go_wp2_with fail
        refine (hR.out _).mono ?_
        intro e w3 he
        rw [LexPost, hxH.out] at he
        obtain ⟨rfl, hb⟩ := he
        have hB := hB.trans (hb.mono hB.size)
        clear hb
        go_wp2_with fail
        refine (hnil.out _).mono ?_
        rintro e w4 ⟨rfl, hb⟩
        have hB := hB.trans (hb.mono hB.size)
        rw [show equalL [] [] = true from rfl]
        clear hb
        go_wp2_with fail
        go_ret
        exact ⟨rfl, hB⟩
      | ok m =>
        have hL := Lib.hid (fun W (hW : KW W) => Lex_ok s h6 hx W hW)
        have hml := (lexL_short hx).2
        have hml2 : m.length ≤ 9223372036854775807 := by omega
        have hE := Lib.hid (fun W A B c d (hr : TR W W.heap.size A m) (hq : TR W W.heap.size B m) => Equal_any m m hml2 hml2 W A B c d hr hq)
        have heq := Lib.hid (equalL_refl m)
        have hxH := Lib.hid hx
        clear hx hml hlr
        go_wp2_with fail
        refine (hL.out _ (hKH.out.step hB)).mono ?_
        rintro e w2 ⟨A2, c2, rfl, -, r2, hb⟩
        have hB := hB.trans (hb.mono hB.size)
        have r2 := Lib.hid r2
        clear hb
        go_wp2_with fail
        refine (hR.out _).mono ?_
        intro e w3 he
        rw [LexPost, hxH.out] at he
        obtain ⟨v3, rfl, hto, hb⟩ := he
        obtain ⟨A3, c3, rfl, -, r3⟩ := hto.form
        have hB := hB.trans (hb.mono hB.size)
        have r2 := Lib.hid (r2.out.step hb)
        have r3 := Lib.hid r3
        clear hb hto
        go_wp2_with fail
        refine (hE.out _ _ _ _ _ r2.out r3.out).mono ?_
        rintro e w4 ⟨rfl, hb⟩
        rw [heq.out]
        have hB := hB.trans (hb.mono hB.size)
        clear hb
        go_wp2_with fail
        go_ret
        exact ⟨rfl, hB⟩
    · have hL := Lib.hid (fun W => Lex_long s (by omega) W)
      have hR := Lib.hid (fun W => rLex_long s (by omega) W)
      go_wp2_with fail
      refine (hL.out _).mono ?_
      rintro e w2 ⟨rfl, hb⟩
      have hB := hB.trans (hb.mono hB.size)
      clear hb
      go_wp2_with fail
      refine (hR.out _).mono ?_
      rintro e w3 ⟨rfl, rfl⟩
      go_wp2_with fail
      refine (hnil.out _).mono ?_
      rintro e w4 ⟨rfl, hb⟩
      have hB := hB.trans (hb.mono hB.size)
      rw [show equalL [] [] = true from rfl]
      clear hb
      go_wp2_with fail
      go_ret
      exact ⟨rfl, hB⟩
  · have h7' : (70000 : Int) < s.size := by omega
    go_wp2_with fail
    go_ret
    exact ⟨rfl, hB⟩
end Go.Proofs.YtndfchnmajfmiaaDoor
