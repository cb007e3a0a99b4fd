/- The reference's Lex. -/
import Derived.Test.YtndfchnmajfmiaaDoorRk
namespace Go.Proofs.YtndfchnmajfmiaaDoor
open Go.RowKit

theorem byte_ne {c : UInt8} (h : (c != 10) = true) : ((c.toNat : Int) != 10) = true := by
  rw [bne_iff_ne] at h ⊢
  intro e
  exact h (UInt8.toNat_inj.1 (by show c.toNat = 10; omega))
theorem byte_eq {c : UInt8} (h : (c != 10) = false) : ((c.toNat : Int) != 10) = false := by
  rw [bne_eq_false_iff_eq] at h ⊢
  rw [h]; rfl
theorem slash_eq {c : UInt8} (h : c = 47) : ((c.toNat : Int) == 47) = true := by rw [h]; rfl
theorem slash_ne {c : UInt8} (h : ¬ c = 47) : ((c.toNat : Int) == 47) = false := by
  rw [beq_eq_false_iff_ne]
  intro e
  exact h (UInt8.toNat_inj.1 (by show c.toNat = 47; omega))

set_option maxRecDepth 100000 in
set_option maxHeartbeats 12800000 in
theorem rLex_any (s : ByteArray) (hs : s.size ≤ 65536) (w : World) : Calls Tryd.prog 13 #[.string s] w (LexPost s.data.toList w) := by
  have hlen : Hid (s.data.toList.length = s.size) := rfl
  have hSp := Lib.hid rSpace_any
  have hLe := Lib.hid rLetter_any
  have hPa := Lib.hid rpart_any
  have hFi := Lib.hid rFigure_any
  have hSi := Lib.hid rSign_any
  have hs' : ¬ (65536 : Int) < s.size := by omega
  go_enter Tryd.func13, Tryd.ntmps13
  go_wp2_with fail
  go_loopw [5, 6] (fun v i wr => ∃ (k : Nat) (m : List Tk), k ≤ s.size ∧ i = .int .i64 k ∧ m.length ≤ k ∧ Hid (lexL s.data.toList = pre m (lexR (s.data.toList.drop k) k)) ∧ TO wr w.heap.size v m ∧ Below w.heap.size w wr) (fun _ i _ => s.size - (intOf i).toNat)
  case atStart => exact ⟨0, [], Nat.zero_le _, rfl, Nat.le_refl _, by show _ = _; rw [List.drop_zero, pre_nil]; rfl, TO.fresh w, bnew w _⟩
  case round =>
    obtain ⟨k, m, hk, rfl, hml, he, hto, hb⟩ := hrel
    have htoH := Lib.hid hto
    clear hto
    by_cases hlt : k < s.size
    · cases hs0 : spaceB s[k] with
      | true =>
        have hsT := Lib.hid hs0
        have hpc := piece_space (s.data.toList.drop (k + 1)) k hs0
        rw [← drop_at s hlt] at hpc
        have hstep : Hid (lexL s.data.toList = pre m (lexR (s.data.toList.drop (k + 1)) (k + 1))) := by
          have := at_step he.out hpc
          rw [show m ++ (none : Option Tk).toList = m from List.append_nil m] at this
          exact this
        clear hs0 hpc
        go_wp2_with fail
        refine (hSp.out s[k] _).mono ?_
        rintro x w1 ⟨rfl, rfl⟩
        rw [hsT.out]
        go_wp2_with fail
        go_roundw
        case rel => exact ⟨k + 1, m, by omega, by go_num, by omega, hstep, htoH.out, hb⟩
        case measure => simp [intOf]; omega
      | false =>
        have hsF := Lib.hid hs0
        by_cases h47 : s[k] = 47
        · have c47 := slash_eq h47
          by_cases hk1 : k + 1 < s.size
          · by_cases h472 : s[k + 1] = 47
            · have c472 := slash_eq h472
              have hpc : piece (s.data.toList.drop k) k = some (run (· != 10) (s.data.toList.drop k), none) := by
                rw [drop_at s hlt, drop_at s hk1, h47, h472]
                exact piece_note _ _
              have hrp : 1 ≤ run (· != 10) (s.data.toList.drop k) := (piece_pos hpc).1
              have hrl : run (· != 10) (s.data.toList.drop k) ≤ s.size - k := by have := run_le (· != 10) (s.data.toList.drop k); rw [List.length_drop, hlen.out] at this; exact this
              have hpcH := Lib.hid hpc
              have hrpH := Lib.hid hrp
              have hrlH := Lib.hid hrl
              clear hpc hs0 h47 h472 hrp hrl
              go_wp2_with fail
              refine (hSp.out s[k] _).mono ?_
              rintro x w1 ⟨rfl, rfl⟩
              rw [hsF.out]
              go_wp2_with fail
              go_loop [6] (fun i => ∃ e : Nat, k ≤ e ∧ e ≤ k + run (· != 10) (s.data.toList.drop k) ∧ i = .int .i64 e) (fun i => s.size - (intOf i).toNat)
              case atStart => exact ⟨k, Nat.le_refl _, by omega, rfl⟩
              case round =>
                obtain ⟨e, hke, her, rfl⟩ := hrel
                by_cases hel : e < s.size
                · cases hp : (s[e] != 10) with
                  | true =>
                    have her2 := run_lt2 (p := (· != 10)) hke her hel hp
                    have hp' : ((s[e].toNat : Int) != 10) = true := byte_ne hp
                    clear hp
                    go_wp2_with fail
                    go_round
                    case rel => exact ⟨e + 1, by omega, her2, by go_num⟩
                    case measure => simp [intOf]; omega
                  | false =>
                    have hp' : ((s[e].toNat : Int) != 10) = false := byte_eq hp
                    have hee := run_stop2 hke her (fun _ => hp)
                    have hX : run (· != 10) (s.data.toList.drop k) = e - k := by omega
                    rw [hX] at hpcH
                    have hke2 : k < e := by have := hrpH.out; omega
                    have hes : e ≤ s.size := by have := hrlH.out; omega
                    have hstep : Hid (lexL s.data.toList = pre m (lexR (s.data.toList.drop e) e)) := by
                      have := at_step he.out hpcH.out
                      rw [show k + (e - k) = e by omega] at this
                      rw [show m ++ (none : Option Tk).toList = m from List.append_nil m] at this
                      exact this
                    clear hpcH hX hee her
                    go_wp2_with fail
                    go_roundw
                    case rel => exact ⟨e, m, hes, rfl, by omega, hstep, htoH.out, hb⟩
                    case measure => simp [intOf]; omega
                · have hee := run_stop2 hke her (fun h => absurd h hel)
                  have hX : run (· != 10) (s.data.toList.drop k) = e - k := by omega
                  rw [hX] at hpcH
                  have hke2 : k < e := by have := hrpH.out; omega
                  have hes : e ≤ s.size := by have := hrlH.out; omega
                  have hstep : Hid (lexL s.data.toList = pre m (lexR (s.data.toList.drop e) e)) := by
                    have := at_step he.out hpcH.out
                    rw [show k + (e - k) = e by omega] at this
                    rw [show m ++ (none : Option Tk).toList = m from List.append_nil m] at this
                    exact this
                  clear hpcH hX hee her
                  go_wp2_with fail
                  go_roundw
                  case rel => exact ⟨e, m, hes, rfl, by omega, hstep, htoH.out, hb⟩
                  case measure => simp [intOf]; omega
            · have c472 := slash_ne h472
              have hcN : Hid (¬ (s[k] = 47 ∧ (s.data.toList.drop (k + 1)).head? = some 47)) := by
                intro h
                rw [drop_at s hk1] at h
                have := h.2
                simp only [List.head?_cons, Option.some.injEq] at this
                exact h472 this
              have hlF : Hid (letterB s[k] = false) := by show _ = _; rw [h47]; rfl
              have hdF : Hid (digitB s[k] = false) := by show _ = _; rw [h47]; rfl
              clear hs0 h47 h472
              go_wp2_with fail
              refine (hSp.out s[k] _).mono ?_
              rintro x w1 ⟨rfl, rfl⟩
              rw [hsF.out]
              have hpc := piece_sign (r := s.data.toList.drop (k + 1)) k hsF.out hlF.out hdF.out hcN.out
              rw [← drop_at s hlt] at hpc
              have hpcH := Lib.hid hpc
              clear hpc
              cases hg : signB s[k] with
              | true =>
                have hstep : Hid (lexL s.data.toList = pre (m ++ [⟨3, [s[k]], 0, k⟩]) (lexR (s.data.toList.drop (k + 1)) (k + 1))) := at_step he.out (hpcH.out.trans (if_pos hg))
                have hgT := Lib.hid hg
                have hex : s.extract k (k + 1) = ⟨([s[k]] : List UInt8).toArray⟩ := by
                  rw [sub_eq, drop_at s hlt, show k + 1 - k = 1 by omega]
                  rfl
                have hexH := Lib.hid hex
                clear hex hg hpcH
                go_wp2_with fail
                refine (hLe.out s[k] _).mono ?_
                rintro x w1 ⟨rfl, rfl⟩
                rw [hlF.out]
                go_wp2_with fail
                refine (hFi.out s[k] _).mono ?_
                rintro x w1 ⟨rfl, rfl⟩
                rw [hdF.out]
                go_wp2_with fail
                refine (hSi.out s[k] _).mono ?_
                rintro x w1 ⟨rfl, rfl⟩
                rw [hgT.out]
                have hlk : m.length ≤ 100000000 := by omega
                have hz := hb.size
                go_wp2_with (at_builtin; rw [hexH.out]; refine app_tok rfl _ _ rfl w.heap.size _ m rfl htoH.out ⟨3, [s[k]], 0, k⟩ rfl hlk hz ?_; intro v' w6 hto6 hb6 hz6)
                have hto6 := Lib.hid hto6
                go_roundw
                case rel => exact ⟨k + 1, m ++ [⟨3, [s[k]], 0, k⟩], by omega, by go_num, by simp; omega, hstep, hto6.out, hb.trans hb6⟩
                case measure => simp [intOf]; omega
              | false =>
                have hfin : Hid (lexL s.data.toList = .error k) := at_err he.out (by rw [hlen.out]; exact hlt) (hpcH.out.trans (if_neg (by rw [hg]; decide)))
                have hgF := Lib.hid hg
                clear hg hpcH
                go_wp2_with fail
                refine (hLe.out s[k] _).mono ?_
                rintro x w1 ⟨rfl, rfl⟩
                rw [hlF.out]
                go_wp2_with fail
                refine (hFi.out s[k] _).mono ?_
                rintro x w1 ⟨rfl, rfl⟩
                rw [hdF.out]
                go_wp2_with fail
                refine (hSi.out s[k] _).mono ?_
                rintro x w1 ⟨rfl, rfl⟩
                rw [hgF.out]
                go_wp2_with fail
                go_ret3
                show LexPost _ _ _ _
                rw [LexPost, hfin.out]
                exact ⟨rfl, hb⟩
          · have hk1' : ¬ ((k : Int) + 1 < s.size) := by omega
            have hcN : Hid (¬ (s[k] = 47 ∧ (s.data.toList.drop (k + 1)).head? = some 47)) := by
              intro h
              rw [List.drop_of_length_le (by rw [hlen.out]; omega)] at h
              cases h.2
            have hlF : Hid (letterB s[k] = false) := by show _ = _; rw [h47]; rfl
            have hdF : Hid (digitB s[k] = false) := by show _ = _; rw [h47]; rfl
            clear hs0 h47
            go_wp2_with fail
            refine (hSp.out s[k] _).mono ?_
            rintro x w1 ⟨rfl, rfl⟩
            rw [hsF.out]
            have hpc := piece_sign (r := s.data.toList.drop (k + 1)) k hsF.out hlF.out hdF.out hcN.out
            rw [← drop_at s hlt] at hpc
            have hpcH := Lib.hid hpc
            clear hpc
            cases hg : signB s[k] with
            | true =>
              have hstep : Hid (lexL s.data.toList = pre (m ++ [⟨3, [s[k]], 0, k⟩]) (lexR (s.data.toList.drop (k + 1)) (k + 1))) := at_step he.out (hpcH.out.trans (if_pos hg))
              have hgT := Lib.hid hg
              have hex : s.extract k (k + 1) = ⟨([s[k]] : List UInt8).toArray⟩ := by
                rw [sub_eq, drop_at s hlt, show k + 1 - k = 1 by omega]
                rfl
              have hexH := Lib.hid hex
              clear hex hg hpcH
              go_wp2_with fail
              refine (hLe.out s[k] _).mono ?_
              rintro x w1 ⟨rfl, rfl⟩
              rw [hlF.out]
              go_wp2_with fail
              refine (hFi.out s[k] _).mono ?_
              rintro x w1 ⟨rfl, rfl⟩
              rw [hdF.out]
              go_wp2_with fail
              refine (hSi.out s[k] _).mono ?_
              rintro x w1 ⟨rfl, rfl⟩
              rw [hgT.out]
              have hlk : m.length ≤ 100000000 := by omega
              have hz := hb.size
              go_wp2_with (at_builtin; rw [hexH.out]; refine app_tok rfl _ _ rfl w.heap.size _ m rfl htoH.out ⟨3, [s[k]], 0, k⟩ rfl hlk hz ?_; intro v' w6 hto6 hb6 hz6)
              have hto6 := Lib.hid hto6
              go_roundw
              case rel => exact ⟨k + 1, m ++ [⟨3, [s[k]], 0, k⟩], by omega, by go_num, by simp; omega, hstep, hto6.out, hb.trans hb6⟩
              case measure => simp [intOf]; omega
            | false =>
              have hfin : Hid (lexL s.data.toList = .error k) := at_err he.out (by rw [hlen.out]; exact hlt) (hpcH.out.trans (if_neg (by rw [hg]; decide)))
              have hgF := Lib.hid hg
              clear hg hpcH
              go_wp2_with fail
              refine (hLe.out s[k] _).mono ?_
              rintro x w1 ⟨rfl, rfl⟩
              rw [hlF.out]
              go_wp2_with fail
              refine (hFi.out s[k] _).mono ?_
              rintro x w1 ⟨rfl, rfl⟩
              rw [hdF.out]
              go_wp2_with fail
              refine (hSi.out s[k] _).mono ?_
              rintro x w1 ⟨rfl, rfl⟩
              rw [hgF.out]
              go_wp2_with fail
              go_ret3
              show LexPost _ _ _ _
              rw [LexPost, hfin.out]
              exact ⟨rfl, hb⟩
        · have c47 := slash_ne h47
          have hcN : Hid (¬ (s[k] = 47 ∧ (s.data.toList.drop (k + 1)).head? = some 47)) := fun h => h47 h.1
          clear h47
          cases hl : letterB s[k] with
          | true =>
            have hlT := Lib.hid hl
            have hpc := piece_letter (r := s.data.toList.drop (k + 1)) k hs0 hl
            have hrp : 1 ≤ run partB (s.data.toList.drop k) := by rw [drop_at s hlt, run_pos (by unfold partB; rw [hl]; rfl)]; omega
            have hrl : run partB (s.data.toList.drop k) ≤ s.size - k := by have := run_le partB (s.data.toList.drop k); rw [List.length_drop, hlen.out] at this; exact this
            rw [← drop_at s hlt] at hpc
            have hpcH := Lib.hid hpc
            have hrpH := Lib.hid hrp
            have hrlH := Lib.hid hrl
            clear hpc hs0 hl hrp hrl
            go_wp2_with fail
            refine (hSp.out s[k] _).mono ?_
            rintro x w1 ⟨rfl, rfl⟩
            rw [hsF.out]
            go_wp2_with fail
            refine (hLe.out s[k] _).mono ?_
            rintro x w1 ⟨rfl, rfl⟩
            rw [hlT.out]
            go_wp2_with fail
            go_loop [6] (fun i => ∃ e : Nat, k ≤ e ∧ e ≤ k + run partB (s.data.toList.drop k) ∧ i = .int .i64 e) (fun i => s.size - (intOf i).toNat)
            case atStart => exact ⟨k, Nat.le_refl _, by omega, rfl⟩
            case round =>
              obtain ⟨e, hke, her, rfl⟩ := hrel
              by_cases hel : e < s.size
              · cases hp : partB s[e] with
                | true =>
                  have her2 := run_lt2 hke her hel hp
                  have hpH := Lib.hid hp
                  clear hp
                  go_wp2_with fail
                  refine (hPa.out s[e] _).mono ?_
                  rintro x w1 ⟨rfl, rfl⟩
                  rw [hpH.out]
                  go_wp2_with fail
                  go_round
                  case rel => exact ⟨e + 1, by omega, her2, by go_num⟩
                  case measure => simp [intOf]; omega
                | false =>
                  have hpH := Lib.hid hp
                  have hee := run_stop2 hke her (fun _ => hp)
                  have hX : run partB (s.data.toList.drop k) = e - k := by omega
                  rw [hX] at hpcH
                  have hXd := sub_at s (k := k) (e := e)
                  have hexH := Lib.hid (sub_eq s (k := k) (e := e))
                  have hN := rName_any (s.extract k e) (by have := congrArg List.length hXd; rw [List.length_take, List.length_drop] at this; have h2 : (s.extract k e).data.toList.length = (s.extract k e).size := rfl; have h3 := hlen.out; omega)
                  rw [hXd] at hN
                  have hNH := Lib.hid hN
                  have hke2 : k < e := by have := hrpH.out; omega
                  have hes : e ≤ s.size := by have := hrlH.out; omega
                  clear hXd hN hX hee her
                  generalize hXX : (s.data.toList.drop k).take (e - k) = X at *
                  clear hXX
                  cases hnm : nameB X with
                  | true =>
                    have hstep : Hid (lexL s.data.toList = pre (m ++ [⟨1, X, 0, k⟩]) (lexR (s.data.toList.drop e) e)) := by
                      have := at_step he.out (hpcH.out.trans (if_pos hnm))
                      rw [show k + (e - k) = e by omega] at this
                      exact this
                    have hnmH := Lib.hid hnm
                    clear hnm hpcH
                    go_wp2_with fail
                    refine (hPa.out s[e] _).mono ?_
                    rintro x w1 ⟨rfl, rfl⟩
                    rw [hpH.out]
                    go_wp2_with fail
                    refine (hNH.out _).mono ?_
                    rintro x w1 ⟨rfl, rfl⟩
                    rw [hnmH.out]
                    have hlk : m.length ≤ 100000000 := by omega
                    have hz := hb.size
                    go_wp2_with (at_builtin; rw [hexH.out]; refine app_tok rfl _ _ rfl w.heap.size _ m rfl htoH.out ⟨1, X, 0, k⟩ rfl hlk hz ?_; intro v' w6 hto6 hb6 hz6)
                    have hto6 := Lib.hid hto6
                    go_roundw
                    case rel => exact ⟨e, m ++ [⟨1, X, 0, k⟩], hes, rfl, by simp; omega, hstep, hto6.out, hb.trans hb6⟩
                    case measure => simp [intOf]; omega
                  | false =>
                    have hfin : Hid (lexL s.data.toList = .error k) := at_err he.out (by rw [hlen.out]; exact hlt) (hpcH.out.trans (if_neg (by rw [hnm]; decide)))
                    have hnmH := Lib.hid hnm
                    clear hnm hpcH
                    go_wp2_with fail
                    refine (hPa.out s[e] _).mono ?_
                    rintro x w1 ⟨rfl, rfl⟩
                    rw [hpH.out]
                    go_wp2_with fail
                    refine (hNH.out _).mono ?_
                    rintro x w1 ⟨rfl, rfl⟩
                    rw [hnmH.out]
                    go_wp2_with fail
                    go_ret3
                    show LexPost _ _ _ _
                    rw [LexPost, hfin.out]
                    exact ⟨rfl, hb⟩
              · have hee := run_stop2 hke her (fun h => absurd h hel)
                have hX : run partB (s.data.toList.drop k) = e - k := by omega
                rw [hX] at hpcH
                have hXd := sub_at s (k := k) (e := e)
                have hexH := Lib.hid (sub_eq s (k := k) (e := e))
                have hN := rName_any (s.extract k e) (by have := congrArg List.length hXd; rw [List.length_take, List.length_drop] at this; have h2 : (s.extract k e).data.toList.length = (s.extract k e).size := rfl; have h3 := hlen.out; omega)
                rw [hXd] at hN
                have hNH := Lib.hid hN
                have hke2 : k < e := by have := hrpH.out; omega
                have hes : e ≤ s.size := by have := hrlH.out; omega
                clear hXd hN hX hee her
                generalize hXX : (s.data.toList.drop k).take (e - k) = X at *
                clear hXX
                cases hnm : nameB X with
                | true =>
                  have hstep : Hid (lexL s.data.toList = pre (m ++ [⟨1, X, 0, k⟩]) (lexR (s.data.toList.drop e) e)) := by
                    have := at_step he.out (hpcH.out.trans (if_pos hnm))
                    rw [show k + (e - k) = e by omega] at this
                    exact this
                  have hnmH := Lib.hid hnm
                  clear hnm hpcH
                  go_wp2_with fail
                  refine (hNH.out _).mono ?_
                  rintro x w1 ⟨rfl, rfl⟩
                  rw [hnmH.out]
                  have hlk : m.length ≤ 100000000 := by omega
                  have hz := hb.size
                  go_wp2_with (at_builtin; rw [hexH.out]; refine app_tok rfl _ _ rfl w.heap.size _ m rfl htoH.out ⟨1, X, 0, k⟩ rfl hlk hz ?_; intro v' w6 hto6 hb6 hz6)
                  have hto6 := Lib.hid hto6
                  go_roundw
                  case rel => exact ⟨e, m ++ [⟨1, X, 0, k⟩], hes, rfl, by simp; omega, hstep, hto6.out, hb.trans hb6⟩
                  case measure => simp [intOf]; omega
                | false =>
                  have hfin : Hid (lexL s.data.toList = .error k) := at_err he.out (by rw [hlen.out]; exact hlt) (hpcH.out.trans (if_neg (by rw [hnm]; decide)))
                  have hnmH := Lib.hid hnm
                  clear hnm hpcH
                  go_wp2_with fail
                  refine (hNH.out _).mono ?_
                  rintro x w1 ⟨rfl, rfl⟩
                  rw [hnmH.out]
                  go_wp2_with fail
                  go_ret3
                  show LexPost _ _ _ _
                  rw [LexPost, hfin.out]
                  exact ⟨rfl, hb⟩
          | false =>
            have hlF := Lib.hid hl
            cases hd : digitB s[k] with
            | true =>
              have hdT := Lib.hid hd
              have hpc := piece_digit (r := s.data.toList.drop (k + 1)) k hs0 hl hd
              have hrp : 1 ≤ run digitB (s.data.toList.drop k) := by rw [drop_at s hlt, run_pos hd]; omega
              have hrl : run digitB (s.data.toList.drop k) ≤ s.size - k := by have := run_le digitB (s.data.toList.drop k); rw [List.length_drop, hlen.out] at this; exact this
              rw [← drop_at s hlt] at hpc
              have hpcH := Lib.hid hpc
              have hrpH := Lib.hid hrp
              have hrlH := Lib.hid hrl
              clear hpc hs0 hl hd hrp hrl
              go_wp2_with fail
              refine (hSp.out s[k] _).mono ?_
              rintro x w1 ⟨rfl, rfl⟩
              rw [hsF.out]
              go_wp2_with fail
              refine (hLe.out s[k] _).mono ?_
              rintro x w1 ⟨rfl, rfl⟩
              rw [hlF.out]
              go_wp2_with fail
              refine (hFi.out s[k] _).mono ?_
              rintro x w1 ⟨rfl, rfl⟩
              rw [hdT.out]
              go_wp2_with fail
              go_loop [6] (fun i => ∃ e : Nat, k ≤ e ∧ e ≤ k + run digitB (s.data.toList.drop k) ∧ i = .int .i64 e) (fun i => s.size - (intOf i).toNat)
              case atStart => exact ⟨k, Nat.le_refl _, by omega, rfl⟩
              case round =>
                obtain ⟨e, hke, her, rfl⟩ := hrel
                by_cases hel : e < s.size
                · cases hp : digitB s[e] with
                  | true =>
                    have her2 := run_lt2 hke her hel hp
                    have hpH := Lib.hid hp
                    clear hp
                    go_wp2_with fail
                    refine (hFi.out s[e] _).mono ?_
                    rintro x w1 ⟨rfl, rfl⟩
                    rw [hpH.out]
                    go_wp2_with fail
                    go_round
                    case rel => exact ⟨e + 1, by omega, her2, by go_num⟩
                    case measure => simp [intOf]; omega
                  | false =>
                    have hpH := Lib.hid hp
                    have hee := run_stop2 hke her (fun _ => hp)
                    have hX : run digitB (s.data.toList.drop k) = e - k := by omega
                    have hall := run_all digitB (s.data.toList.drop k)
                    rw [hX] at hpcH hall
                    have hXd := sub_at s (k := k) (e := e)
                    have hXz : (s.extract k e).size = e - k := by
                      have := congrArg List.length hXd
                      rw [List.length_take, List.length_drop] at this
                      have h2 : (s.extract k e).data.toList.length = (s.extract k e).size := rfl
                      have h3 := hlen.out
                      have := hrlH.out
                      omega
                    have hke2 : k < e := by have := hrpH.out; omega
                    have hes : e ≤ s.size := by have := hrlH.out; omega
                    have hN := rnumber_any (s.extract k e) (by omega) (by omega) (by rw [hXd]; exact hall)
                    rw [hXd] at hN
                    have hNH := Lib.hid hN
                    clear hXd hN hX hee her hall hXz
                    generalize hXX : (s.data.toList.drop k).take (e - k) = X at *
                    clear hXX
                    cases hnm : numOk X with
                    | true =>
                      have hstep : Hid (lexL s.data.toList = pre (m ++ [⟨2, [], num X, k⟩]) (lexR (s.data.toList.drop e) e)) := by
                        have := at_step he.out (hpcH.out.trans (if_pos hnm))
                        rw [show k + (e - k) = e by omega] at this
                        exact this
                      rw [hnm] at hNH
                      clear hnm hpcH
                      go_wp2_with fail
                      refine (hFi.out s[e] _).mono ?_
                      rintro x w1 ⟨rfl, rfl⟩
                      rw [hpH.out]
                      go_wp2_with fail
                      refine (hNH.out _).mono ?_
                      rintro x w1 ⟨⟨z, rfl, hz⟩, hb1⟩
                      obtain rfl := hz trivial
                      have hlk : m.length ≤ 100000000 := by omega
                      have hz := hb.size
                      have hto1 := Lib.hid (htoH.out.below hb1)
                      have hB1 := hb.trans (hb1.mono hz)
                      have hz1 := hB1.size
                      go_wp2_with (at_builtin; refine app_tok rfl _ _ rfl w.heap.size _ m rfl hto1.out ⟨2, [], num X, k⟩ rfl hlk hz1 ?_; intro v' w6 hto6 hb6 hz6)
                      have hto6 := Lib.hid hto6
                      go_roundw
                      case rel => exact ⟨e, m ++ [⟨2, [], num X, k⟩], hes, rfl, by simp; omega, hstep, hto6.out, hB1.trans hb6⟩
                      case measure => simp [intOf]; omega
                    | false =>
                      have hfin : Hid (lexL s.data.toList = .error k) := at_err he.out (by rw [hlen.out]; exact hlt) (hpcH.out.trans (if_neg (by rw [hnm]; decide)))
                      rw [hnm] at hNH
                      clear hnm hpcH
                      go_wp2_with fail
                      refine (hFi.out s[e] _).mono ?_
                      rintro x w1 ⟨rfl, rfl⟩
                      rw [hpH.out]
                      go_wp2_with fail
                      refine (hNH.out _).mono ?_
                      rintro x w1 ⟨⟨z, rfl, -⟩, hb1⟩
                      have hB1 := hb.trans (hb1.mono hb.size)
                      go_wp2_with fail
                      go_ret3
                      show LexPost _ _ _ _
                      rw [LexPost, hfin.out]
                      exact ⟨rfl, hB1⟩
                · have hee := run_stop2 hke her (fun h => absurd h hel)
                  have hX : run digitB (s.data.toList.drop k) = e - k := by omega
                  have hall := run_all digitB (s.data.toList.drop k)
                  rw [hX] at hpcH hall
                  have hXd := sub_at s (k := k) (e := e)
                  have hXz : (s.extract k e).size = e - k := by
                    have := congrArg List.length hXd
                    rw [List.length_take, List.length_drop] at this
                    have h2 : (s.extract k e).data.toList.length = (s.extract k e).size := rfl
                    have h3 := hlen.out
                    have := hrlH.out
                    omega
                  have hke2 : k < e := by have := hrpH.out; omega
                  have hes : e ≤ s.size := by have := hrlH.out; omega
                  have hN := rnumber_any (s.extract k e) (by omega) (by omega) (by rw [hXd]; exact hall)
                  rw [hXd] at hN
                  have hNH := Lib.hid hN
                  clear hXd hN hX hee her hall hXz
                  generalize hXX : (s.data.toList.drop k).take (e - k) = X at *
                  clear hXX
                  cases hnm : numOk X with
                  | true =>
                    have hstep : Hid (lexL s.data.toList = pre (m ++ [⟨2, [], num X, k⟩]) (lexR (s.data.toList.drop e) e)) := by
                      have := at_step he.out (hpcH.out.trans (if_pos hnm))
                      rw [show k + (e - k) = e by omega] at this
                      exact this
                    rw [hnm] at hNH
                    clear hnm hpcH
                    go_wp2_with fail
                    refine (hNH.out _).mono ?_
                    rintro x w1 ⟨⟨z, rfl, hz⟩, hb1⟩
                    obtain rfl := hz trivial
                    have hlk : m.length ≤ 100000000 := by omega
                    have hz := hb.size
                    have hto1 := Lib.hid (htoH.out.below hb1)
                    have hB1 := hb.trans (hb1.mono hz)
                    have hz1 := hB1.size
                    go_wp2_with (at_builtin; refine app_tok rfl _ _ rfl w.heap.size _ m rfl hto1.out ⟨2, [], num X, k⟩ rfl hlk hz1 ?_; intro v' w6 hto6 hb6 hz6)
                    have hto6 := Lib.hid hto6
                    go_roundw
                    case rel => exact ⟨e, m ++ [⟨2, [], num X, k⟩], hes, rfl, by simp; omega, hstep, hto6.out, hB1.trans hb6⟩
                    case measure => simp [intOf]; omega
                  | false =>
                    have hfin : Hid (lexL s.data.toList = .error k) := at_err he.out (by rw [hlen.out]; exact hlt) (hpcH.out.trans (if_neg (by rw [hnm]; decide)))
                    rw [hnm] at hNH
                    clear hnm hpcH
                    go_wp2_with fail
                    refine (hNH.out _).mono ?_
                    rintro x w1 ⟨⟨z, rfl, -⟩, hb1⟩
                    have hB1 := hb.trans (hb1.mono hb.size)
                    go_wp2_with fail
                    go_ret3
                    show LexPost _ _ _ _
                    rw [LexPost, hfin.out]
                    exact ⟨rfl, hB1⟩
            | false =>
              have hdF := Lib.hid hd
              clear hs0 hl hd
              go_wp2_with fail
              refine (hSp.out s[k] _).mono ?_
              rintro x w1 ⟨rfl, rfl⟩
              rw [hsF.out]
              have hpc := piece_sign (r := s.data.toList.drop (k + 1)) k hsF.out hlF.out hdF.out hcN.out
              rw [← drop_at s hlt] at hpc
              have hpcH := Lib.hid hpc
              clear hpc
              cases hg : signB s[k] with
              | true =>
                have hstep : Hid (lexL s.data.toList = pre (m ++ [⟨3, [s[k]], 0, k⟩]) (lexR (s.data.toList.drop (k + 1)) (k + 1))) := at_step he.out (hpcH.out.trans (if_pos hg))
                have hgT := Lib.hid hg
                have hex : s.extract k (k + 1) = ⟨([s[k]] : List UInt8).toArray⟩ := by
                  rw [sub_eq, drop_at s hlt, show k + 1 - k = 1 by omega]
                  rfl
                have hexH := Lib.hid hex
                clear hex hg hpcH
                go_wp2_with fail
                refine (hLe.out s[k] _).mono ?_
                rintro x w1 ⟨rfl, rfl⟩
                rw [hlF.out]
                go_wp2_with fail
                refine (hFi.out s[k] _).mono ?_
                rintro x w1 ⟨rfl, rfl⟩
                rw [hdF.out]
                go_wp2_with fail
                refine (hSi.out s[k] _).mono ?_
                rintro x w1 ⟨rfl, rfl⟩
                rw [hgT.out]
                have hlk : m.length ≤ 100000000 := by omega
                have hz := hb.size
                go_wp2_with (at_builtin; rw [hexH.out]; refine app_tok rfl _ _ rfl w.heap.size _ m rfl htoH.out ⟨3, [s[k]], 0, k⟩ rfl hlk hz ?_; intro v' w6 hto6 hb6 hz6)
                have hto6 := Lib.hid hto6
                go_roundw
                case rel => exact ⟨k + 1, m ++ [⟨3, [s[k]], 0, k⟩], by omega, by go_num, by simp; omega, hstep, hto6.out, hb.trans hb6⟩
                case measure => simp [intOf]; omega
              | false =>
                have hfin : Hid (lexL s.data.toList = .error k) := at_err he.out (by rw [hlen.out]; exact hlt) (hpcH.out.trans (if_neg (by rw [hg]; decide)))
                have hgF := Lib.hid hg
                clear hg hpcH
                go_wp2_with fail
                refine (hLe.out s[k] _).mono ?_
                rintro x w1 ⟨rfl, rfl⟩
                rw [hlF.out]
                go_wp2_with fail
                refine (hFi.out s[k] _).mono ?_
                rintro x w1 ⟨rfl, rfl⟩
                rw [hdF.out]
                go_wp2_with fail
                refine (hSi.out s[k] _).mono ?_
                rintro x w1 ⟨rfl, rfl⟩
                rw [hgF.out]
                go_wp2_with fail
                go_ret3
                show LexPost _ _ _ _
                rw [LexPost, hfin.out]
                exact ⟨rfl, hb⟩
    · have hfin : Hid (lexL s.data.toList = .ok m) := at_end he.out (by rw [hlen.out]; omega)
      obtain ⟨A0, c0, rfl, -, -⟩ := htoH.out.form
      go_wp2_with fail
      go_ret3
      show LexPost _ _ _ _
      rw [LexPost, hfin.out]
      exact ⟨_, rfl, htoH.out, hb⟩
end Go.Proofs.YtndfchnmajfmiaaDoor
