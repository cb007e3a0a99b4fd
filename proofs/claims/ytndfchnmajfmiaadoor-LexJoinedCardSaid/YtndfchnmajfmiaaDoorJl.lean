/- LexJoined: the law, walked. -/
import Derived.Test.YtndfchnmajfmiaaDoorJn
namespace Go.Proofs.YtndfchnmajfmiaaDoor
open Go.RowKit

set_option maxRecDepth 100000 in
set_option maxHeartbeats 6400000 in
theorem joined_law (a b : ByteArray) (ha : a.size ≤ 140737488355328) (hb : b.size ≤ 140737488355328) (w : World) (hK : KW w) : Calls Tryd.prog 7 #[.string a, .string b] w fun e w' => e = .returned (.bool true) ∧ Below w.heap.size w w' := by
  have hKH := Lib.hid hK
  clear hK
  have haz : Hid (a.data.toList.length = a.size) := rfl
  have hbz : Hid (b.data.toList.length = b.size) := rfl
  by_cases hlen : a.size + b.size ≤ 3000
  · have hlen' : ¬ (3000 : Int) < (a.size : Int) + b.size := by omega
    have hj := lexL_joined a.data.toList b.data.toList
    have z3 : (a ++ ⟨#[10]⟩ ++ b).size ≤ 65536 := by have e : (a ++ ⟨#[10]⟩ ++ b).data.toList.length = (a ++ ⟨#[10]⟩ ++ b).size := rfl; rw [← e, ba_append, ba_append, List.length_append, List.length_append]; have := haz.out; have := hbz.out; simp only [List.length_cons, List.length_nil]; omega
    have e3 : (a ++ ⟨#[10]⟩ ++ b).data.toList = a.data.toList ++ 10 :: b.data.toList := by rw [ba_append, ba_append, List.append_assoc]; rfl
    cases hx : lexL a.data.toList with
    | error q =>
      have h3 : lexL (a ++ ⟨#[10]⟩ ++ b).data.toList = .error q := by rw [e3, hj, hx]
      have L1 := Lib.hid (fun W (hW : KW W) => Lex_er a (by omega) hx W hW)
      have L3 := Lib.hid (fun W (hW : KW W) => Lex_er _ z3 h3 W hW)
      clear hj z3 e3 hx h3
      cases hy : lexL b.data.toList with
      | error q2 =>
        have L2 := Lib.hid (fun W (hW : KW W) => Lex_er b (by omega) hy W hW)
        clear hy
        go_enter Tryd.func7, Tryd.ntmps7
        go_wp2_with fail
        refine (sane_any _ hKH.out).mono ?_
        rintro e w1 ⟨rfl, hB⟩
        go_wp2_with fail
        refine (L1.out _ (hKH.out.step hB)).mono ?_
        rintro e w2 ⟨rfl, hb⟩
        have hB := hB.trans (hb.mono hB.size)
        go_wp2_with fail
        refine (L2.out _ (hKH.out.step hB)).mono ?_
        rintro e w3 ⟨rfl, hb⟩
        have hB := hB.trans (hb.mono hB.size)
        go_wp2_with fail
        refine (L3.out _ (hKH.out.step hB)).mono ?_
        rintro e w4 ⟨rfl, hb⟩
        have hB := hB.trans (hb.mono hB.size)
        go_wp2_with fail
        go_ret
        exact ⟨rfl, hB⟩
      | ok y =>
        have L2 := Lib.hid (fun W (hW : KW W) => Lex_ok b (by omega) hy W hW)
        clear hy
        go_enter Tryd.func7, Tryd.ntmps7
        go_wp2_with fail
        refine (sane_any _ hKH.out).mono ?_
        rintro e w1 ⟨rfl, hB⟩
        go_wp2_with fail
        refine (L1.out _ (hKH.out.step hB)).mono ?_
        rintro e w2 ⟨rfl, hb⟩
        have hB := hB.trans (hb.mono hB.size)
        go_wp2_with fail
        refine (L2.out _ (hKH.out.step hB)).mono ?_
        rintro e w3 ⟨A, c, rfl, -, -, hb⟩
        have hB := hB.trans (hb.mono hB.size)
        go_wp2_with fail
        refine (L3.out _ (hKH.out.step hB)).mono ?_
        rintro e w4 ⟨rfl, hb⟩
        have hB := hB.trans (hb.mono hB.size)
        go_wp2_with fail
        go_ret
        exact ⟨rfl, hB⟩
    | ok x =>
      have L1 := Lib.hid (fun W (hW : KW W) => Lex_okN a (by omega) hx W hW)
      have hxs := (lexL_short hx).2
      cases hy : lexL b.data.toList with
      | error q2 =>
        have h3 : lexL (a ++ ⟨#[10]⟩ ++ b).data.toList = .error (q2 + (a.data.toList.length + 1)) := by rw [e3, hj, hx, hy]
        rw [haz.out] at h3
        have L2 := Lib.hid (fun W (hW : KW W) => Lex_er b (by omega) hy W hW)
        have L3 := Lib.hid (fun W (hW : KW W) => Lex_er _ z3 h3 W hW)
        have hq := (lexL_error hy).1
        have hbz' := hbz.out
        have hq' : q2 < 3000 := by omega
        have heq : (((q2 + (a.size + 1) : Nat) : Int) == (q2 : Int) + a.size + 1) = true := by rw [beq_iff_eq]; omega
        clear hj z3 e3 hx h3 hy hq hxs hbz'
        go_enter Tryd.func7, Tryd.ntmps7
        go_wp2_with fail
        refine (sane_any _ hKH.out).mono ?_
        rintro e w1 ⟨rfl, hB⟩
        go_wp2_with fail
        refine (L1.out _ (hKH.out.step hB)).mono ?_
        rintro e w2 ⟨A, c, rfl, -, -, hb⟩
        have hB := hB.trans (hb.mono hB.size)
        go_wp2_with fail
        refine (L2.out _ (hKH.out.step hB)).mono ?_
        rintro e w3 ⟨rfl, hb⟩
        have hB := hB.trans (hb.mono hB.size)
        go_wp2_with fail
        refine (L3.out _ (hKH.out.step hB)).mono ?_
        rintro e w4 ⟨rfl, hb⟩
        have hB := hB.trans (hb.mono hB.size)
        go_wp2_with fail
        go_ret
        exact ⟨rfl, hB⟩
      | ok y =>
        have h3 : lexL (a ++ ⟨#[10]⟩ ++ b).data.toList = .ok (x ++ y.map (shiftT (a.data.toList.length + 1))) := by rw [e3, hj, hx, hy]
        rw [haz.out] at h3
        have hys := (lexL_short hy).2
        have hyt := lexR_tokens _ b.data.toList 0 y (Nat.le_refl _) hy
        have L2 := Lib.hid (fun W (hW : KW W) => Lex_okN b (by omega) hy W hW)
        have L3 := Lib.hid (fun W (hW : KW W) => Lex_okN _ z3 h3 W hW)
        have haz' := haz.out
        have hbz' := hbz.out
        have hxl : x.length ≤ 3000 := by omega
        have hyl : y.length ≤ 3000 := by omega
        have hyp := Lib.hid (fun t (ht : t ∈ y) => show 0 ≤ t.p ∧ t.p ≤ 3000 by have := hyt t ht; omega)
        clear hj z3 e3 hx h3 hy hxs hys hyt haz' hbz'
        go_enter Tryd.func7, Tryd.ntmps7
        go_wp2_with fail
        refine (sane_any _ hKH.out).mono ?_
        rintro e w1 ⟨rfl, hB⟩
        go_wp2_with fail
        refine (L1.out _ (hKH.out.step hB)).mono ?_
        rintro e w2 ⟨A1, c1, rfl, n1, r1, hb⟩
        have hB := hB.trans (hb.mono hB.size)
        have r1 := Lib.hid r1
        have n1 := Lib.hid n1
        clear hb
        go_wp2_with fail
        refine (L2.out _ (hKH.out.step hB)).mono ?_
        rintro e w3 ⟨A2, c2, rfl, n2, r2, hb⟩
        have hB := hB.trans (hb.mono hB.size)
        have r1 := Lib.hid (r1.out.step hb)
        have r2 := Lib.hid r2
        clear hb n2
        go_wp2_with fail
        refine (L3.out _ (hKH.out.step hB)).mono ?_
        rintro e w4 ⟨A3, c3, rfl, n3, r3, hb⟩
        have hB := hB.trans (hb.mono hB.size)
        have r1 := Lib.hid (r1.out.step hb)
        have r2 := Lib.hid (r2.out.step hb)
        have r3 := Lib.hid r3
        clear hb n3
        have ht := Lib.hid (TO.fresh w4)
        have hn := bnew w4 (.cells #[] 35)
        go_wp2_with (at_builtin; refine app_toks rfl _ _ rfl w4.heap.size _ [] x rfl ht.out A1 c1 n1.out rfl (r1.out.step hn) (by simp; omega) (by simp) ?_; intro v5 w5 hto hb5)
        have hb5 := hn.trans hb5
        rw [List.nil_append] at hto
        have hto := Lib.hid hto
        clear hn
        go_wp2_with fail
        go_loopw [14, 87] (fun v i wr => ∃ k : Nat, k ≤ y.length ∧ i = .int .i64 k ∧ TO wr w4.heap.size v (x ++ (y.take k).map (shiftT (a.size + 1))) ∧ Below w4.heap.size w4 wr) (fun _ i _ => y.length - (intOf i).toNat)
        case atStart => exact ⟨0, Nat.zero_le _, rfl, by rw [List.take_zero, List.map_nil, List.append_nil]; exact hto.out, hb5⟩
        case round =>
          obtain ⟨k, hk, rfl, hv, hbr⟩ := hrel
          clear hb5 hto ht
          by_cases hlt : k < y.length
          · obtain ⟨bb, o, rfl, hbb, hc⟩ := (r2.out.below hbr (Nat.le_refl _)) (by omega)
            obtain ⟨d0, d1, d2, d3⟩ := hc k hlt
            have hz := hbr.size
            have hp := hyp.out y[k] (List.getElem_mem hlt)
            have hst := Lib.hid (shift_take y k (a.size + 1) hlt)
            clear hc
            generalize y[k] = t at *
            have hpp : (t.p + ((a.size : Int) + 1)) = (shiftT (a.size + 1) t).p := by unfold shiftT; simp
            have hppH := Lib.hid hpp
            clear hpp
            have hv' := Lib.hid (hv.below (bnew wr (.cells #[.int .i64 (shiftT (a.size + 1) t).k, .string ⟨(shiftT (a.size + 1) t).s.toArray⟩, .int .i64 (shiftT (a.size + 1) t).n, .int .i64 (shiftT (a.size + 1) t).p] 35)))
            have hlk : (x ++ (y.take k).map (shiftT (a.size + 1))).length ≤ 100000000 := by simp; omega
            clear hv
            go_wp2_with (at_builtin; rw [hppH.out]; refine app_tok rfl _ _ rfl w4.heap.size _ (x ++ (y.take k).map (shiftT (a.size + 1))) rfl hv'.out (shiftT (a.size + 1) t) (by rw [World.size_alloc]; rfl) hlk (by simp; omega) ?_; intro v' w6 hto6 hb6 hz6)
            have hto6 := Lib.hid hto6
            go_roundw
            case rel => exact ⟨k + 1, by omega, by go_num, by rw [hst.out, ← List.append_assoc]; exact hto6.out, (hbr.alloc hz _).trans hb6⟩
            case measure => simp [intOf]; omega
          · have hky : k = y.length := by omega
            subst hky
            obtain ⟨A6, c6, rfl, -, r6⟩ := hv.form
            rw [List.take_length] at r6
            have hll : (x ++ (y.take y.length).map (shiftT (a.size + 1))).length = (x ++ y.map (shiftT (a.size + 1))).length := by rw [List.take_length]
            rw [hll]
            have r6 := Lib.hid r6
            have r3 := Lib.hid (r3.out.step hbr)
            have hB := hB.trans (hbr.mono hB.size)
            clear hv hll
            have hE := Equal_at (a := x ++ y.map (shiftT (a.size + 1))) (b := x ++ y.map (shiftT (a.size + 1))) (c := c3) (d := c6) (by simp; omega) (by simp; omega) r3.out r6.out (Below.refl _ _) (Nat.le_refl _)
            rw [List.length_append, List.length_map, equalL_refl] at hE
            have hEH := Lib.hid hE
            clear hE
            go_wp2_with fail
            refine hEH.out.mono ?_
            rintro e w7 ⟨rfl, hb7⟩
            have hB := hB.trans (hb7.mono hB.size)
            go_wp2_with fail
            go_ret
            exact ⟨rfl, hB⟩
  · have hlen' : (3000 : Int) < (a.size : Int) + b.size := by omega
    go_enter Tryd.func7, Tryd.ntmps7
    go_wp2_with fail
    refine (sane_any _ hKH.out).mono ?_
    rintro e w1 ⟨rfl, hB⟩
    go_wp2_with fail
    go_ret
    exact ⟨rfl, hB⟩
end Go.Proofs.YtndfchnmajfmiaaDoor
