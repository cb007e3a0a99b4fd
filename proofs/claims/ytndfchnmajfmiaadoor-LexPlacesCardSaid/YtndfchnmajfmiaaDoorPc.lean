/- LexPlaces: the law, walked. -/
import Derived.Test.YtndfchnmajfmiaaDoorRl
import Derived.Test.YtndfchnmajfmiaaDoorBl
namespace Go.Proofs.YtndfchnmajfmiaaDoor
open Go.RowKit

set_option maxRecDepth 100000 in
set_option maxHeartbeats 1600000 in
theorem spelled_any (t : Tk) (hv : validB t = true) (w : World) : Calls Tryd.prog 23 #[tkV t] w fun e w' => e = .returned (.string ⟨(spell t).toArray⟩) ∧ Below w.heap.size w w' := by
  have hb := Lib.hid (bnew w (.cells #[.int .i64 t.k, .string ⟨t.s.toArray⟩, .int .i64 t.n, .int .i64 t.p] 35))
  cases h2 : (t.k == 2) with
  | false =>
    have hsp : Hid (t.s = spell t) := (spell_word h2).symm
    have h2' : (t.k != 2) = true := by simpa using h2
    unfold tkV
    go_enter Tryd.func23, Tryd.ntmps23
    go_wp2_with fail
    go_ret
    exact ⟨retStr (by rw [hsp.out]), hb.out⟩
  | true =>
    obtain ⟨n1, n2, n3⟩ := spell_num (by simpa using h2) hv
    have h2' : (t.k != 2) = false := by simpa using h2
    obtain ⟨u0, hu0⟩ : ∃ u0 : Nat, t.n = u0 := ⟨t.n.toNat, by omega⟩
    rw [hu0] at n1 n2 n3 hb
    rw [Int.toNat_natCast] at n3
    have n3H := Lib.hid n3
    clear n3 hv
    unfold tkV
    rw [hu0]
    clear hu0
    go_enter Tryd.func23, Tryd.ntmps23
    go_wp2_with fail
    go_loopw [3, 4] (fun a b wr => ∃ (u : Nat) (rest : List UInt8), u ≤ 1099511627776 ∧ b = .int .i64 u ∧ a = .string ⟨rest.toArray⟩ ∧ Lib.decDigits u0 = Lib.decDigits u ++ rest ∧ Below w.heap.size w wr) (fun _ b _ => (intOf b).toNat)
    case atStart => exact ⟨u0, [], by omega, rfl, rfl, by simp, hb.out⟩
    case round =>
      obtain ⟨u, rest, hu1, rfl, rfl, he, hbr⟩ := hrel
      have hrl : rest.length ≤ 1099511627777 := by
        have h1 := congrArg List.length he
        have h2 := dec_len u0 u0 (Nat.le_refl _)
        rw [List.length_append] at h1
        omega
      have heH := Lib.hid he
      have hcv := fun W => dec_conv u (48 + (u : Int) % 10) rfl W
      have hz := hbr.size
      clear he
      by_cases h10 : u < 10
      · have h10' : (u : Int) < 10 := by omega
        have hd : Hid (Lib.decDigits u = [dgB u]) := by show Lib.decDigits u = _; rw [Lib.decDigits, dif_pos (by omega)]; unfold dgB; rw [Nat.mod_eq_of_lt (by omega)]
        go_wp2_with fail
        go_ret
        exact ⟨retStr (by rw [n3H.out, heH.out, hd.out]; try simp), hbr.alloc hz _⟩
      · have h10' : ¬ (u : Int) < 10 := by omega
        have hd : Hid (Lib.decDigits u = Lib.decDigits (u / 10) ++ [dgB u]) := by show Lib.decDigits u = _; rw [Lib.decDigits, dif_neg (by omega)]; rfl
        go_wp2_with fail
        go_roundw
        case rel => exact ⟨u / 10, dgB u :: rest, by omega, by go_num, by rw [str_cons], by rw [heH.out, hd.out]; simp, hbr.alloc hz _⟩
        case measure => simp [intOf]; omega

theorem take_drop_cons {s : ByteArray} {q e : Nat} (h : e < q) (hq : q ≤ s.size) : (s.data.toList.take q).drop e = (s[e]'(by omega)) :: (s.data.toList.take q).drop (e + 1) := by
  have hl : s.data.toList.length = s.size := rfl
  have he : e < (s.data.toList.take q).length := by rw [List.length_take]; omega
  rw [List.drop_eq_getElem_cons he, List.getElem_take]
  rfl
theorem scan_ten {c : Bool} {b : UInt8} (h : b = 10) {r : List UInt8} : scan c (b :: r) = scan false r := by
  subst h
  rw [scan]
  rfl
theorem scan_in {b : UInt8} (h : ¬ b = 10) {r : List UInt8} : scan true (b :: r) = scan true r := by
  have hb : (b != 10) = true := by simpa using h
  rw [scan, hb]
  rfl
theorem scan_slash {s : ByteArray} {q e : Nat} {b : UInt8} {c : Bool} (h : b = 47) (hq : q ≤ s.size) (hs : scan false (b :: (s.data.toList.take q).drop (e + 1)) = some c) :
    ∃ h1 : e + 1 < q, (s[e + 1]'(by omega)) = 47 ∧ scan true ((s.data.toList.take q).drop (e + 1)) = some c := by
  subst h
  have hl : s.data.toList.length = s.size := rfl
  rw [scan] at hs
  have hsp : spaceB 47 = false := rfl
  rw [hsp, show ((47 : UInt8) != 10) = true from rfl, show ((47 : UInt8) == 47) = true from rfl] at hs
  simp only [Bool.true_and, Bool.false_or, Bool.or_false] at hs
  by_cases h1 : e + 1 < q
  · rw [take_drop_cons h1 hq] at hs ⊢
    by_cases h2 : (s[e + 1]'(by omega)) = 47
    · refine ⟨h1, h2, ?_⟩
      rw [h2] at hs ⊢
      exact hs
    · rw [if_neg (by simpa using h2)] at hs
      cases hs
  · rw [List.drop_of_length_le (by rw [List.length_take]; omega)] at hs
    cases hs
theorem scan_plain {b : UInt8} {c : Bool} {r : List UInt8} (_ : ¬ b = 10) (h47 : ¬ b = 47) (hs : scan false (b :: r) = some c) : spaceB b = true ∧ scan false r = some c := by
  rw [scan, show (b == 47) = false by simpa using h47] at hs
  simp only [Bool.false_and, Bool.or_false, Bool.and_false, Bool.false_or] at hs
  cases hsp : spaceB b with
  | true => rw [hsp] at hs; exact ⟨rfl, hs⟩
  | false => rw [hsp] at hs; cases hs

/-- The gap at a place of a source, and what follows it. -/
theorem gap_at {s : ByteArray} {p : Nat} {m : List Tk} (hp : p ≤ s.size) (h : lexR (s.data.toList.drop p) p = .ok m) :
    ∃ q c, p ≤ q ∧ q ≤ s.size ∧ scan false ((s.data.toList.take q).drop p) = some c ∧ ((q = s.size ∧ m = []) ∨
      (c = false ∧ ∃ t m', m = t :: m' ∧ t.p = (q : Nat) ∧ 1 ≤ (spell t).length ∧ q + (spell t).length ≤ s.size ∧ s.extract q (q + (spell t).length) = ⟨(spell t).toArray⟩ ∧ lexR (s.data.toList.drop (q + (spell t).length)) (q + (spell t).length) = .ok m')) := by
  obtain ⟨g, rest, c, e1, e2, e3⟩ := lexR_gap _ _ p m (Nat.le_refl _) h
  have hl : s.data.toList.length = s.size := rfl
  have hlen := congrArg List.length e1
  rw [List.length_drop, List.length_append] at hlen
  have hg : (s.data.toList.take (p + g.length)).drop p = g := by
    rw [List.drop_take, e1, Nat.add_sub_cancel_left, List.take_left]
  have hrest : s.data.toList.drop (p + g.length) = rest := by
    rw [← List.drop_drop, e1, List.drop_left]
  refine ⟨p + g.length, c, by omega, by omega, by rw [hg]; exact e2, ?_⟩
  rcases e3 with ⟨f1, f2⟩ | ⟨f1, t, m', r, f2, f3, f4, f5, f6⟩
  · left
    rw [f1, List.length_nil] at hlen
    exact ⟨by omega, f2⟩
  · right
    have hrl := congrArg List.length f2
    rw [List.length_append] at hrl
    refine ⟨f1, t, m', f4, f5, f3, by omega, ?_, ?_⟩
    · rw [sub_eq, hrest, f2, Nat.add_sub_cancel_left, List.take_left]
    · rw [← List.drop_drop, hrest, f2, List.drop_left]
      exact f6

set_option maxRecDepth 100000 in
set_option maxHeartbeats 12800000 in
theorem places_law (s : ByteArray) (hs : s.size ≤ 140737488355328) (w : World) (hK : KW w) :
    Calls Tryd.prog 6 #[.string s] w fun e w' => e = .returned (.bool true) ∧ Below w.heap.size w w' := by
  have hKH := Lib.hid hK
  clear hK
  have hSp := Lib.hid rSpace_any
  have hlen : Hid (s.data.toList.length = s.size) := rfl
  go_enter Tryd.func6, Tryd.ntmps6
  go_wp2_with fail
  refine (sane_any _ hKH.out).mono ?_
  rintro e w1 ⟨rfl, hB⟩
  by_cases h3 : s.size ≤ 3000
  · have h3' : ¬ (3000 : Int) < s.size := by omega
    cases hx : lexL s.data.toList with
    | error x =>
      have hL := Lib.hid (fun W (hW : KW W) => Lex_er s (by omega) hx W hW)
      clear hx
      go_wp2_with fail
      refine (hL.out _ (hKH.out.step hB)).mono ?_
      rintro e w2 ⟨rfl, hb⟩
      have hB := hB.trans (hb.mono hB.size)
      clear hb
      go_wp2_with fail
      go_ret
      exact ⟨rfl, hB⟩
    | ok m =>
      have hL := Lib.hid (fun W (hW : KW W) => Lex_ok s (by omega) hx W hW)
      have hmv := Lib.hid (lexL_valid hx)
      have hml : m.length ≤ 3000 := by have := (lexL_short hx).2; rw [hlen.out] at this; omega
      have hx0 : lexR (s.data.toList.drop 0) 0 = .ok (m.drop 0) := hx
      have hx0 := Lib.hid hx0
      clear hx
      go_wp2_with fail
      refine (hL.out _ (hKH.out.step hB)).mono ?_
      rintro e w2 ⟨A, cp, rfl, -, hr, hb⟩
      have hBx := hB.trans (hb.mono hB.size)
      have hrH := Lib.hid hr
      clear hb hr hL hB
      go_wp2_with fail
      go_loopw [6, 7] (fun i kk wr => ∃ (k p : Nat), k ≤ m.length ∧ p ≤ s.size ∧ i = .int .i64 p ∧ kk = .int .i64 k ∧ Hid (lexR (s.data.toList.drop p) p = .ok (m.drop k)) ∧ Below w2.heap.size w2 wr) (fun _ kk _ => m.length + 1 - (intOf kk).toNat)
      case atStart => exact ⟨0, 0, Nat.zero_le _, Nat.zero_le _, rfl, rfl, by simpa using hx0, Below.refl _ _⟩
      case round =>
        obtain ⟨k, p, hk, hp, rfl, rfl, hlx, hb⟩ := hrel
        clear hx0
        obtain ⟨q, c, hpq, hqs, hsc, hcase⟩ := gap_at hp hlx.out
        have hsc := Lib.hid hsc
        clear hlx
        by_cases hlt : k < m.length
        · rw [List.drop_eq_getElem_cons hlt] at hcase
          rcases hcase with ⟨-, h0⟩ | ⟨rfl, t, m', hm, htp, h1, hql, hex, hnx⟩
          · cases h0
          · injection hm with hm1 hm2
            subst hm1 hm2
            obtain ⟨b, off, rfl, hbB, hcells⟩ := (hrH.out.below hb (Nat.le_refl _)) (by omega)
            obtain ⟨c0, c1, c2, c3⟩ := hcells k hlt
            have hva := hmv.out m[k] (List.getElem_mem hlt)
            rw [htp] at c3
            have hnext := Lib.hid hnx
            clear hcells hnx
            have hSl := spelled_any m[k] hva
            have htk : tkV m[k] = .agg #[.int .i64 m[k].k, .string ⟨m[k].s.toArray⟩, .int .i64 m[k].n, .int .i64 (q : Int)] := by unfold tkV; rw [htp]
            rw [htk] at hSl
            have hSl := Lib.hid hSl
            have h10 : ((spell m[k]).length == 0) = false := by rw [beq_eq_false_iff_ne]; omega
            have hi1 : (0 : Int) ≤ k := by omega
            have hi2 : (k : Int) < m.length := by omega
            have hkl : ((k : Int) == m.length) = false := by rw [beq_eq_false_iff_ne]; omega
            have hl0 : (((spell m[k]).length : Int) == 0) = false := by rw [beq_eq_false_iff_ne]; omega
            have hql' : ¬ (s.size : Int) < (q : Int) + (spell m[k]).length := by omega
            have hsq : s.size ≤ 9223372036854775807 := by omega
            have hqp : ¬ (q : Int) < p := by omega
            clear hva htp htk
            generalize m[k] = t at *
            go_wp2_with fail
            go_loop [6, 9] (fun i cm => ∃ (e : Nat) (c' : Bool), p ≤ e ∧ e ≤ q ∧ i = .int .i64 e ∧ cm = .bool c' ∧ Hid (scan c' ((s.data.toList.take q).drop e) = some false)) (fun i _ => q - (intOf i).toNat)
            case atStart => exact ⟨p, false, Nat.le_refl _, hpq, rfl, rfl, hsc⟩
            case round =>
              obtain ⟨e, c', hpe, heq, rfl, rfl, hse⟩ := hrel
              by_cases hel : e < q
              · have hes : e < s.size := by omega
                have hsplit : (s.data.toList.take q).drop e = s[e] :: (s.data.toList.take q).drop (e + 1) := take_drop_cons hel hqs
                have hst := hse.out
                rw [hsplit] at hst
                clear hsplit hse
                by_cases h10 : s[e] = 10
                · have n10 : ((s[e].toNat : Int) != 10) = false := byte_eq (by rw [h10]; rfl)
                  have hsT : Hid (spaceB s[e] = true) := by show spaceB s[e] = true; rw [h10]; rfl
                  rw [scan_ten h10] at hst
                  have hstH := Lib.hid hst
                  clear hst h10
                  cases c' with
                  | true =>
                    go_wp2_with fail
                    refine (hSp.out s[e] _).mono ?_
                    rintro x w1 ⟨rfl, rfl⟩
                    rw [hsT.out]
                    go_wp2_with fail
                    go_round
                    case rel => exact ⟨e + 1, false, by omega, hel, by go_num, rfl, hstH⟩
                    case measure => simp [intOf]; omega
                  | false =>
                    go_wp2_with fail
                    refine (hSp.out s[e] _).mono ?_
                    rintro x w1 ⟨rfl, rfl⟩
                    rw [hsT.out]
                    go_wp2_with fail
                    go_round
                    case rel => exact ⟨e + 1, false, by omega, hel, by go_num, rfl, hstH⟩
                    case measure => simp [intOf]; omega
                · have n10 : ((s[e].toNat : Int) != 10) = true := byte_ne (by simpa using h10)
                  cases c' with
                  | true =>
                    rw [scan_in h10] at hst
                    have hstH := Lib.hid hst
                    clear hst h10
                    go_wp2_with fail
                    go_round
                    case rel => exact ⟨e + 1, true, by omega, hel, by go_num, rfl, hstH⟩
                    case measure => simp [intOf]; omega
                  | false =>
                    by_cases h47 : s[e] = 47
                    · have c47 := slash_eq h47
                      obtain ⟨hel1, h472, hst2⟩ := scan_slash h47 hqs hst
                      have c472 := slash_eq h472
                      have hstH := Lib.hid hst2
                      have hel1' : (e : Int) + 1 < q := by omega
                      have hes1 : e + 1 < s.size := by omega
                      clear hst hst2 h10 h47 h472
                      go_wp2_with fail
                      go_round
                      case rel => exact ⟨e + 1, true, by omega, hel, by go_num, rfl, hstH⟩
                      case measure => simp [intOf]; omega
                    · have c47 := slash_ne h47
                      obtain ⟨hsp, hst2⟩ := scan_plain h10 h47 hst
                      have hstH := Lib.hid hst2
                      have hsT := Lib.hid hsp
                      clear hst hst2 h10 h47 hsp
                      go_wp2_with fail
                      refine (hSp.out s[e] _).mono ?_
                      rintro x w1 ⟨rfl, rfl⟩
                      rw [hsT.out]
                      go_wp2_with fail
                      go_round
                      case rel => exact ⟨e + 1, false, by omega, hel, by go_num, rfl, hstH⟩
                      case measure => simp [intOf]; omega
              · obtain rfl : e = q := by omega
                have hcc : c' = false := by
                  have := hse.out
                  rw [List.drop_of_length_le (by rw [List.length_take]; omega), scan] at this
                  exact Option.some.inj this
                subst hcc
                clear hse hel
                go_wp2_with fail
                refine (hSl.out _).mono ?_
                rintro x w3 ⟨rfl, hb3⟩
                have hb4 := hb.trans (hb3.mono hb.size)
                clear hb3 c0 c1 c2 c3
                generalize hzz : spell t = z at *
                go_wp2_with fail
                go_roundw
                case rel => exact ⟨k + 1, e + z.length, by omega, by omega, by go_num, by go_num, hnext, hb4⟩
                case measure => simp [intOf]; omega
        · obtain rfl : k = m.length := by omega
          rw [List.drop_length] at hcase
          rcases hcase with ⟨hqe, -⟩ | ⟨-, t, m', hm, -⟩
          · have hkl : ((m.length : Int) == m.length) = true := by simp
            have hqi : (s.size : Int) = q := by rw [hqe]
            have hqp : ¬ (q : Int) < p := by omega
            clear hqe
            go_wp2_with fail
            go_loop [6, 9] (fun i cm => ∃ (e : Nat) (c' : Bool), p ≤ e ∧ e ≤ q ∧ i = .int .i64 e ∧ cm = .bool c' ∧ Hid (scan c' ((s.data.toList.take q).drop e) = some c)) (fun i _ => q - (intOf i).toNat)
            case atStart => exact ⟨p, false, Nat.le_refl _, hpq, rfl, rfl, hsc⟩
            case round =>
              obtain ⟨e, c', hpe, heq, rfl, rfl, hse⟩ := hrel
              by_cases hel : e < q
              · have hes : e < s.size := by omega
                have hsplit : (s.data.toList.take q).drop e = s[e] :: (s.data.toList.take q).drop (e + 1) := take_drop_cons hel hqs
                have hst := hse.out
                rw [hsplit] at hst
                clear hsplit hse
                by_cases h10 : s[e] = 10
                · have n10 : ((s[e].toNat : Int) != 10) = false := byte_eq (by rw [h10]; rfl)
                  have hsT : Hid (spaceB s[e] = true) := by show spaceB s[e] = true; rw [h10]; rfl
                  rw [scan_ten h10] at hst
                  have hstH := Lib.hid hst
                  clear hst h10
                  cases c' with
                  | true =>
                    go_wp2_with fail
                    refine (hSp.out s[e] _).mono ?_
                    rintro x w1 ⟨rfl, rfl⟩
                    rw [hsT.out]
                    go_wp2_with fail
                    go_round
                    case rel => exact ⟨e + 1, false, by omega, hel, by go_num, rfl, hstH⟩
                    case measure => simp [intOf]; omega
                  | false =>
                    go_wp2_with fail
                    refine (hSp.out s[e] _).mono ?_
                    rintro x w1 ⟨rfl, rfl⟩
                    rw [hsT.out]
                    go_wp2_with fail
                    go_round
                    case rel => exact ⟨e + 1, false, by omega, hel, by go_num, rfl, hstH⟩
                    case measure => simp [intOf]; omega
                · have n10 : ((s[e].toNat : Int) != 10) = true := byte_ne (by simpa using h10)
                  cases c' with
                  | true =>
                    rw [scan_in h10] at hst
                    have hstH := Lib.hid hst
                    clear hst h10
                    go_wp2_with fail
                    go_round
                    case rel => exact ⟨e + 1, true, by omega, hel, by go_num, rfl, hstH⟩
                    case measure => simp [intOf]; omega
                  | false =>
                    by_cases h47 : s[e] = 47
                    · have c47 := slash_eq h47
                      obtain ⟨hel1, h472, hst2⟩ := scan_slash h47 hqs hst
                      have c472 := slash_eq h472
                      have hstH := Lib.hid hst2
                      have hel1' : (e : Int) + 1 < q := by omega
                      have hes1 : e + 1 < s.size := by omega
                      clear hst hst2 h10 h47 h472
                      go_wp2_with fail
                      go_round
                      case rel => exact ⟨e + 1, true, by omega, hel, by go_num, rfl, hstH⟩
                      case measure => simp [intOf]; omega
                    · have c47 := slash_ne h47
                      obtain ⟨hsp, hst2⟩ := scan_plain h10 h47 hst
                      have hstH := Lib.hid hst2
                      have hsT := Lib.hid hsp
                      clear hst hst2 h10 h47 hsp
                      go_wp2_with fail
                      refine (hSp.out s[e] _).mono ?_
                      rintro x w1 ⟨rfl, rfl⟩
                      rw [hsT.out]
                      go_wp2_with fail
                      go_round
                      case rel => exact ⟨e + 1, false, by omega, hel, by go_num, rfl, hstH⟩
                      case measure => simp [intOf]; omega
              · obtain rfl : e = q := by omega
                have hcc : c' = c := by
                  have := hse.out
                  rw [List.drop_of_length_le (by rw [List.length_take]; omega), scan] at this
                  exact Option.some.inj this
                subst hcc
                clear hse hel
                go_wp2_with fail
                go_ret
                exact ⟨rfl, hBx.trans (hb.mono hBx.size)⟩
          · cases hm
  · have h3' : (3000 : Int) < s.size := by omega
    go_wp2_with fail
    go_ret
    exact ⟨rfl, hB⟩
end Go.Proofs.YtndfchnmajfmiaaDoor
