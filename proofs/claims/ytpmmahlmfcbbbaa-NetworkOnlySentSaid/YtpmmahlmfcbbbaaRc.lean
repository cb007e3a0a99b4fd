/- The reference's Cut: the contract. -/
import Derived.Test.YtpmmahlmfcbbbaaN4
import Derived.Test.YtpmmahlmfcbbbaaNg
namespace Go.Proofs.Ytpmmahlmfcbbbaa
open Go.RowKit

/-- The links of one row, as far as m. -/
def rowL (x m : Nat) : List (Int × Int) := ((List.range m).filter fun y => decide (x < y)).map fun (y : Nat) => ((x : Int), (y : Int))
def doneL (f : Int × Int → Bool) (x : Nat) : List (Int × Int) := ((List.range x).flatMap fun x => rowL x 24).filter f
def partL (f : Int × Int → Bool) (x m : Nat) : List (Int × Int) := doneL f x ++ (rowL x m).filter f
theorem part_start (f : Int × Int → Bool) (x : Nat) : partL f x (x + 1) = doneL f x := by
  have h : rowL x (x + 1) = [] := by
    unfold rowL
    rw [List.filter_eq_nil_iff.2 (fun y hy => by have := List.mem_range.1 hy; simp; omega)]
    rfl
  unfold partL
  rw [h]
  simp
theorem part_end (f : Int × Int → Bool) (x : Nat) : partL f x 24 = doneL f (x + 1) := by
  unfold partL doneL
  rw [List.range_succ (n := x), List.flatMap_append, List.filter_append]
  simp
theorem part_step (f : Int × Int → Bool) {x m : Nat} (h : x < m) : partL f x (m + 1) = partL f x m ++ (if f ((x : Int), (m : Int)) = true then [((x : Int), (m : Int))] else []) := by
  unfold partL rowL
  rw [List.range_succ (n := m), List.filter_append, List.map_append, List.filter_append, List.append_assoc]
  congr 2
  rw [List.filter_cons, if_pos (by simpa using h)]
  simp [List.filter_cons]
theorem done_all (l : List (Int × Int)) (k : Int × Int) (on : Bool) : doneL (fun x => if x = k then on else l.contains x) 24 = cutL l k on := rfl
/-- The row of links so far. -/
structure RL (w1 : World) (A : Option Addr) (m cap : Nat) (L : List (Int × Int)) (wr : World) : Prop where
  bel : Below w1.heap.size w1 wr
  len : m = L.length
  own : wr.ownsRow w1.heap.size 55 2 (.slice A m cap) m (LV L)
  nil : m = 0 → (.slice A m cap : Value) = .slice none 0 0
theorem RL.step {w1 : World} {A : Option Addr} {m cap : Nat} {L : List (Int × Int)} {w w' : World} (h : RL w1 A m cap L w) (hb : Below w.heap.size w w') : RL w1 A m cap L w' := ⟨h.bel.trans (hb.mono h.bel.size), h.len, ownsRow_below h.own hb, h.nil⟩

set_option maxRecDepth 100000 in
set_option maxHeartbeats 8000000 in
theorem rCut_lt (n : Nt) (a b : Int) (on : Bool) (hab : a < b) (w : World) (A A' : Option Addr) (c c' : Nat) (S : Nat → Prop) (hS : ∀ b, S b → b < w.heap.size) (hd : NR w S A c A' c' n) :
    Calls Try.prog 19 #[.agg #[.slice A n.q.length c, .slice A' n.ap.length c'], .int .i64 a, .int .i64 b, .bool on] w (NtPost S (cutN n a b on) w) := by
  have hdh := Lib.hid hd
  clear hd
  have kN := heap_alloc_new w (.cells #[.slice A n.q.length c, .slice A' n.ap.length c'] 25)
  have hbV1 := bnew w (.cells #[.slice A n.q.length c, .slice A' n.ap.length c'] 25)
  obtain ⟨V1, hV1⟩ : ∃ V, (w).alloc (.cells #[.slice A n.q.length c, .slice A' n.ap.length c'] 25) = V := ⟨_, rfl⟩
  have hsV1 : V1.heap.size = w.heap.size + 1 := by rw [← hV1]; simp
  rw [hV1] at kN hbV1
  have kX := heap_alloc_new V1 (.cells #[.slice none 0 0, .slice none 0 0] 25)
  have hbV2 := bnew V1 (.cells #[.slice none 0 0, .slice none 0 0] 25)
  obtain ⟨V2, hV2⟩ : ∃ V, (V1).alloc (.cells #[.slice none 0 0, .slice none 0 0] 25) = V := ⟨_, rfl⟩
  have hsV2 : V2.heap.size = w.heap.size + 2 := by rw [← hV2]; simp; omega
  rw [hV2] at kX hbV2
  replace kN := blk_step kN hbV2
  rw [hsV1] at kX
  have hBV : Below w.heap.size w V2 := (hbV1).trans (hbV2.mono (by omega))
  clear hbV1 hbV2
  have hC := Lib.hid (rCheck_any n V2 A A' c c' w.heap.size (by omega) ((hdh.out.mono hS).keep (Kept.below hBV)))
  have hP := Lib.hid (Site_any a)
  have hQ := Lib.hid (Site_any b)
  replace hBV := Lib.hid hBV
  replace kN := Lib.hid kN
  replace kX := Lib.hid kX
  replace hV1 := Lib.hid hV1
  replace hV2 := Lib.hid hV2
  replace hsV2 := Lib.hid hsV2
  clear hsV1
  go_enter Try.func19, Try.ntmps19
  go_wp2_with fail
  rw [hV1.out, hV2.out]
  refine hC.out.mono ?_
  rintro e w1 ⟨rfl, hb⟩
  replace kN := Lib.hid (blk_step kN.out hb)
  replace kX := Lib.hid (blk_step kX.out hb)
  have hB1 := Lib.hid (hBV.out.trans (hb.mono hBV.out.size))
  have hsz1 := hb.size
  rw [hsV2.out] at hsz1
  clear hb hC hV1 hV2
  have x0 : w1.cell? ⟨w.heap.size + 1, 0, none⟩ = _ := cell_of_row w1 _ 0 _ _ _ kX.out
  have x1 : w1.cell? ⟨w.heap.size + 1, 1, none⟩ = _ := cell_of_row w1 _ 1 _ _ _ kX.out
  have fX := fun i => frozen_of_row w1 _ i _ _ kX.out
  rcases nchk_eq n with ⟨h1, h2⟩ | ⟨h1, h2⟩
  case inr =>
    rw [h2]
    have hv := Lib.hid (cutN_bad (a := a) (b := b) (on := on) h1)
    clear h1 h2
    go_wp2_with fail
    exact bodyPost_ret (v := .tuple #[.agg #[.slice none 0 0, .slice none 0 0], .int .i64 60]) (by simp [results, Try.results19, go_sem, x0, x1, fX]) rfl (NtPost.fail hv.out ((hB1.out.setCell (by simp) _).setCell (by simp) _) rfl)
  case inl =>
    rw [h2]
    have hnt := Lib.hid h1
    clear h1 h2
    go_wp2_with fail
    refine (hP.out _).mono ?_
    rintro e w1 ⟨rfl, rfl⟩
    cases hpa : isP a with
    | false =>
      have hv := Lib.hid (cutN_arg (on := on) hnt.out (show areP a b = false by unfold areP; rw [hpa]; rfl))
      clear hpa
      go_wp2_with fail
      exact bodyPost_ret (v := .tuple #[.agg #[.slice none 0 0, .slice none 0 0], .int .i64 1]) (by simp [results, Try.results19, go_sem, x0, x1, fX]) rfl (NtPost.fail hv.out ((hB1.out.setCell (by simp) _).setCell (by simp) _) rfl)
    | true =>
      go_wp2_with fail
      refine (hQ.out _).mono ?_
      rintro e w1 ⟨rfl, rfl⟩
      cases hpb : isP b with
      | false =>
        have hv := Lib.hid (cutN_arg (on := on) hnt.out (show areP a b = false by unfold areP; rw [hpa, hpb]; rfl))
        clear hpa hpb
        go_wp2_with fail
        exact bodyPost_ret (v := .tuple #[.agg #[.slice none 0 0, .slice none 0 0], .int .i64 1]) (by simp [results, Try.results19, go_sem, x0, x1, fX]) rfl (NtPost.fail hv.out ((hB1.out.setCell (by simp) _).setCell (by simp) _) rfl)
      | true =>
        have har : areP a b = true := by unfold areP; rw [hpa, hpb]; simp; omega
        have hne : (a == b) = false := by simp only [beq_eq_false_iff_ne, ne_eq]; omega
        have hv := Lib.hid (cutN_ok (on := on) hnt.out har)
        have hk := Lib.hid (show linkP a b = (a, b) by unfold linkP; rw [Int.min_eq_left (by omega), Int.max_eq_right (by omega)])
        have hmin : min a b = a := by rw [Int.min_eq_left (by omega)]
        have hmax : max a b = b := by rw [Int.max_eq_right (by omega)]
        obtain ⟨k, hkk⟩ : ∃ k, linkP a b = k := ⟨_, rfl⟩
        rw [hkk] at hv hk
        obtain ⟨f, hf⟩ : ∃ f : Int × Int → Bool, (fun x => if x = k then on else n.ap.contains x) = f := ⟨_, rfl⟩
        have hfin := Lib.hid (show doneL f 24 = cutL n.ap k on by rw [← hf]; exact done_all _ _ _)
        have hfl : ∀ x y : Nat, x < y → f ((x : Int), (y : Int)) = if ((x : Int), (y : Int)) = k then on else cutB n x y := fun x y hxy => by
          rw [← hf]
          unfold cutB
          rw [show linkP (x : Int) (y : Int) = ((x : Int), (y : Int)) by unfold linkP; rw [Int.min_eq_left (by omega), Int.max_eq_right (by omega)]]
        replace hfl := Lib.hid hfl
        clear hpa hpb har hf hkk x0 x1 fX
        go_wp2_with fail
        go_loopw [10, 11, 12, 13] (fun v x _ _ wr => ∃ (xx m : Nat) (Av : Option Addr) (cv : Nat), xx ≤ 24 ∧ x = .int .i64 xx ∧ v = .slice Av m cv ∧ m ≤ 24 * xx ∧ Hid (RL w1 Av m cv (doneL f xx) wr)) (fun _ x _ _ _ => 24 - (intOf x).toNat)
        case atStart => exact ⟨0, 0, none, 0, Nat.zero_le _, rfl, rfl, Nat.zero_le _, Below.refl _ _, rfl, World.ownsRow_nil _ _ _ _, fun _ => rfl⟩
        case round =>
          obtain ⟨xx, m, Av, cv, hx, rfl, rfl, hle, hR⟩ := hrel
          by_cases hxl : xx < 24
          · have hw1 : IntKind.i64.wrap ((xx : Int) + 1) = (xx : Int) + 1 := IntWalk.i64_in _ (by omega)
            have hxl' : (xx : Int) < 24 := by omega
            go_wp2_with fail
            go_loopw [10, 12, 13] (fun v y _ wr => ∃ (yy m : Nat) (Av : Option Addr) (cv : Nat), xx < yy ∧ yy ≤ 24 ∧ y = .int .i64 yy ∧ v = .slice Av m cv ∧ m ≤ 24 * xx + yy ∧ Hid (RL w1 Av m cv (partL f xx yy) wr)) (fun _ y _ _ => 24 - (intOf y).toNat)
            case atStart => exact ⟨xx + 1, m, Av, cv, by omega, by omega, by go_num, rfl, by omega, by rw [part_start]; exact hR⟩
            case round =>
              clear hR hle
              obtain ⟨yy, m, Av, cv, hxy, hy, rfl, rfl, hle, hR⟩ := hrel
              by_cases hlt : yy < 24
              · have hlt' : (yy : Int) < 24 := by omega
                have hbr := hB1.out.trans (hR.out.bel.mono hB1.out.size)
                have kNr := blk_step kN.out hR.out.bel
                have y0 : wr.cell? ⟨w.heap.size, 0, none⟩ = _ := cell_of_row wr _ 0 _ _ _ kNr
                have y1 : wr.cell? ⟨w.heap.size, 1, none⟩ = _ := cell_of_row wr _ 1 _ _ _ kNr
                have hcon := IsCut_any n xx yy wr A A' c c' w.heap.size hbr.size ((hdh.out.mono hS).keep (Kept.below hbr))
                obtain ⟨u, hu⟩ : ∃ u, cutB n (xx : Int) (yy : Int) = u := ⟨_, rfl⟩
                rw [hu] at hcon
                have hff := hfl.out xx yy hxy
                rw [hu] at hff
                replace hff := Lib.hid hff
                replace hcon := Lib.hid hcon
                have hw2 : IntKind.i64.wrap ((yy : Int) + 1) = (yy : Int) + 1 := IntWalk.i64_in _ (by omega)
                clear hbr kNr hu
                go_wp2_with fail
                refine hcon.out.mono ?_
                rintro e w2 ⟨rfl, hb⟩
                have hR2 := Lib.hid (hR.out.step hb)
                clear y0 y1 hb hcon hR
                by_cases e1 : (xx : Int) = a
                · by_cases e2 : (yy : Int) = b
                  · have hfk := hff.out
                    rw [if_pos (show ((xx : Int), (yy : Int)) = k by rw [hk.out, e1, e2])] at hfk
                    have g1 : ((xx : Int) == a) = true := by rw [e1]; simp
                    have g2 : ((yy : Int) == b) = true := by rw [e2]; simp
                    clear e1 e2 hff
                    cases on with
                    | false =>
                      have hg := hfk
                      clear hfk
                      have hnx := Lib.hid (show RL w1 Av m cv (partL f xx (yy + 1)) w2 by rw [part_step f hxy, if_neg (by rw [hg]; decide), List.append_nil]; exact hR2.out)
                      clear hg hR2
                      go_wp2_with fail
                      go_roundw
                      case rel => exact ⟨yy + 1, m, Av, cv, by omega, by omega, by go_num, rfl, by omega, hnx.out⟩
                      case measure => simp [intOf]; omega
                    | true =>
                      have hg := hfk
                      clear hfk
                      have hbA := bnew w2 (.cells #[.int .i64 (xx : Int), .int .i64 (yy : Int)] 55)
                      have hkA := heap_alloc_new w2 (.cells #[.int .i64 (xx : Int), .int .i64 (yy : Int)] 55)
                      have hR3 := hR2.out.step hbA
                      have hsz3 := hR3.bel.size
                      obtain ⟨v', W1, hr, ho, hgw, hb1, -, -⟩ := append_link (w2.alloc (.cells #[.int .i64 (xx : Int), .int .i64 (yy : Int)] 55)) w1.heap.size 23 (.slice Av m cv) m (LV (partL f xx yy)) hR3.own hR3.nil w2.heap.size ((xx : Int), (yy : Int)) hkA (by omega) hsz3
                      have hpe : partL f xx (yy + 1) = partL f xx yy ++ [((xx : Int), (yy : Int))] := by rw [part_step f hxy, if_pos hg]
                      obtain ⟨g', cap', rfl⟩ := ownsRow_succ ho
                      have hnx := Lib.hid (show RL w1 (some ⟨g', 0, none⟩) (m + 1) cap' (partL f xx (yy + 1)) W1 from ⟨hR3.bel.trans hb1, by rw [hpe, List.length_append, hR3.len]; rfl, by rw [hpe, LV_append]; exact ho, fun h => by omega⟩)
                      replace hr := Lib.hid hr
                      clear hg hR2 hbA hkA hR3 hsz3 ho hgw hb1 hpe
                      go_wp2_with (at_builtin; refine Lib.wpList_append_run _ rfl _ _ _ _ rfl _ _ rfl rfl _ _ hr.out ?_)
                      go_roundw
                      case rel => exact ⟨yy + 1, m + 1, _, cap', by omega, by omega, by go_num, rfl, by omega, hnx.out⟩
                      case measure => simp [intOf]; omega
                  · have hfk := hff.out
                    rw [if_neg (show ¬ ((xx : Int), (yy : Int)) = k from fun h => by rw [hk.out] at h; exact e2 (congrArg (·.2) h))] at hfk
                    have g1 : ((xx : Int) == a) = true := by rw [e1]; simp
                    have g2 : ((yy : Int) == b) = false := by simpa using e2
                    clear e1 e2 hff
                    cases u with
                    | false =>
                      have hg := hfk
                      clear hfk
                      have hnx := Lib.hid (show RL w1 Av m cv (partL f xx (yy + 1)) w2 by rw [part_step f hxy, if_neg (by rw [hg]; decide), List.append_nil]; exact hR2.out)
                      clear hg hR2
                      go_wp2_with fail
                      go_roundw
                      case rel => exact ⟨yy + 1, m, Av, cv, by omega, by omega, by go_num, rfl, by omega, hnx.out⟩
                      case measure => simp [intOf]; omega
                    | true =>
                      have hg := hfk
                      clear hfk
                      have hbA := bnew w2 (.cells #[.int .i64 (xx : Int), .int .i64 (yy : Int)] 55)
                      have hkA := heap_alloc_new w2 (.cells #[.int .i64 (xx : Int), .int .i64 (yy : Int)] 55)
                      have hR3 := hR2.out.step hbA
                      have hsz3 := hR3.bel.size
                      obtain ⟨v', W1, hr, ho, hgw, hb1, -, -⟩ := append_link (w2.alloc (.cells #[.int .i64 (xx : Int), .int .i64 (yy : Int)] 55)) w1.heap.size 23 (.slice Av m cv) m (LV (partL f xx yy)) hR3.own hR3.nil w2.heap.size ((xx : Int), (yy : Int)) hkA (by omega) hsz3
                      have hpe : partL f xx (yy + 1) = partL f xx yy ++ [((xx : Int), (yy : Int))] := by rw [part_step f hxy, if_pos hg]
                      obtain ⟨g', cap', rfl⟩ := ownsRow_succ ho
                      have hnx := Lib.hid (show RL w1 (some ⟨g', 0, none⟩) (m + 1) cap' (partL f xx (yy + 1)) W1 from ⟨hR3.bel.trans hb1, by rw [hpe, List.length_append, hR3.len]; rfl, by rw [hpe, LV_append]; exact ho, fun h => by omega⟩)
                      replace hr := Lib.hid hr
                      clear hg hR2 hbA hkA hR3 hsz3 ho hgw hb1 hpe
                      go_wp2_with (at_builtin; refine Lib.wpList_append_run _ rfl _ _ _ _ rfl _ _ rfl rfl _ _ hr.out ?_)
                      go_roundw
                      case rel => exact ⟨yy + 1, m + 1, _, cap', by omega, by omega, by go_num, rfl, by omega, hnx.out⟩
                      case measure => simp [intOf]; omega
                · have hfk := hff.out
                  rw [if_neg (show ¬ ((xx : Int), (yy : Int)) = k from fun h => by rw [hk.out] at h; exact e1 (congrArg (·.1) h))] at hfk
                  have g1 : ((xx : Int) == a) = false := by simpa using e1
                  clear e1 hff
                  cases u with
                  | false =>
                    have hg := hfk
                    clear hfk
                    have hnx := Lib.hid (show RL w1 Av m cv (partL f xx (yy + 1)) w2 by rw [part_step f hxy, if_neg (by rw [hg]; decide), List.append_nil]; exact hR2.out)
                    clear hg hR2
                    go_wp2_with fail
                    go_roundw
                    case rel => exact ⟨yy + 1, m, Av, cv, by omega, by omega, by go_num, rfl, by omega, hnx.out⟩
                    case measure => simp [intOf]; omega
                  | true =>
                    have hg := hfk
                    clear hfk
                    have hbA := bnew w2 (.cells #[.int .i64 (xx : Int), .int .i64 (yy : Int)] 55)
                    have hkA := heap_alloc_new w2 (.cells #[.int .i64 (xx : Int), .int .i64 (yy : Int)] 55)
                    have hR3 := hR2.out.step hbA
                    have hsz3 := hR3.bel.size
                    obtain ⟨v', W1, hr, ho, hgw, hb1, -, -⟩ := append_link (w2.alloc (.cells #[.int .i64 (xx : Int), .int .i64 (yy : Int)] 55)) w1.heap.size 23 (.slice Av m cv) m (LV (partL f xx yy)) hR3.own hR3.nil w2.heap.size ((xx : Int), (yy : Int)) hkA (by omega) hsz3
                    have hpe : partL f xx (yy + 1) = partL f xx yy ++ [((xx : Int), (yy : Int))] := by rw [part_step f hxy, if_pos hg]
                    obtain ⟨g', cap', rfl⟩ := ownsRow_succ ho
                    have hnx := Lib.hid (show RL w1 (some ⟨g', 0, none⟩) (m + 1) cap' (partL f xx (yy + 1)) W1 from ⟨hR3.bel.trans hb1, by rw [hpe, List.length_append, hR3.len]; rfl, by rw [hpe, LV_append]; exact ho, fun h => by omega⟩)
                    replace hr := Lib.hid hr
                    clear hg hR2 hbA hkA hR3 hsz3 ho hgw hb1 hpe
                    go_wp2_with (at_builtin; refine Lib.wpList_append_run _ rfl _ _ _ _ rfl _ _ rfl rfl _ _ hr.out ?_)
                    go_roundw
                    case rel => exact ⟨yy + 1, m + 1, _, cap', by omega, by omega, by go_num, rfl, by omega, hnx.out⟩
                    case measure => simp [intOf]; omega
              · obtain rfl : yy = 24 := by omega
                have hR5 := Lib.hid (show RL w1 Av m cv (doneL f (xx + 1)) wr by rw [← part_end]; exact hR.out)
                clear hR
                go_wp2_with fail
                go_roundw
                case rel => exact ⟨xx + 1, m, Av, cv, by omega, by go_num, rfl, by omega, hR5.out⟩
                case measure => simp [intOf]; omega
          · obtain rfl : xx = 24 := by omega
            rw [hfin.out] at hR
            obtain ⟨L, hL⟩ : ∃ L, cutL n.ap k on = L := ⟨_, rfl⟩
            have hmem := Lib.hid (show ∀ x ∈ L, I64 x.1 ∧ I64 x.2 from fun x hx => by
              rw [← hL] at hx
              have h := okP_iff.1 ((cutL_mem _ _ _ _).1 hx).1
              unfold I64
              omega)
            rw [hL] at hR hv
            clear hL hfin hfl
            obtain rfl : m = L.length := hR.out.len
            have kN3 := blk_step kN.out hR.out.bel
            have kX3 := blk_step kX.out hR.out.bel
            have hB3 := hB1.out.trans (hR.out.bel.mono hB1.out.size)
            have hsz3 := hR.out.bel.size
            have hrow := LR.ofRow (R := fun _ => True) hR.out.own (fun _ _ => trivial) hmem.out
            have y0 : wr.cell? ⟨w.heap.size, 0, none⟩ = _ := cell_of_row wr _ 0 _ _ _ kN3
            have y1 : wr.cell? ⟨w.heap.size, 1, none⟩ = _ := cell_of_row wr _ 1 _ _ _ kN3
            have x0 : wr.cell? ⟨w.heap.size + 1, 0, none⟩ = _ := cell_of_row wr _ 0 _ _ _ kX3
            have x1 : wr.cell? ⟨w.heap.size + 1, 1, none⟩ = _ := cell_of_row wr _ 1 _ _ _ kX3
            have fN := fun i => frozen_of_row wr _ i _ _ kN3
            have fX := fun i => frozen_of_row wr _ i _ _ kX3
            have hF := ((hB3.setCell (p := ⟨w.heap.size, 1, none⟩) (Nat.le_refl _) (.slice Av L.length cv)).setCell (p := ⟨w.heap.size + 1, 0, none⟩) (by simp) (.slice A n.q.length c)).setCell (p := ⟨w.heap.size + 1, 1, none⟩) (by simp) (.slice Av L.length cv)
            replace hB3 := Lib.hid hB3
            replace hF := Lib.hid hF
            replace hrow := Lib.hid hrow
            clear kN3 kX3 hR
            go_wp2_with fail
            refine bodyPost_ret (v := .tuple #[.agg #[.slice A n.q.length c, .slice Av L.length cv], .int .i64 0]) (by simp [results, Try.results19, go_sem, x0, x1, y0, y1, fX, fN]) rfl
              (NtPost.of hv.out hF.out A c Av cv (by simp) ⟨hdh.out.cap, hdh.out.max, hrow.out.1, hrow.out.2.1, (hdh.out.q.keep (Kept.of hS hF.out)).mono fun g hg => .inl hg, (hrow.out.2.2.keep (((Kept.set fun g hg => ?_).trans (Kept.set fun g hg => ?_)).trans (Kept.set fun g hg => ?_))).mono fun g hg => .inr ⟨by omega, by simpa using hg.1.2⟩⟩)
            · omega
            · omega
            · omega
set_option maxRecDepth 100000 in
set_option maxHeartbeats 8000000 in
theorem rCut_gt (n : Nt) (a b : Int) (on : Bool) (hab : b < a) (w : World) (A A' : Option Addr) (c c' : Nat) (S : Nat → Prop) (hS : ∀ b, S b → b < w.heap.size) (hd : NR w S A c A' c' n) :
    Calls Try.prog 19 #[.agg #[.slice A n.q.length c, .slice A' n.ap.length c'], .int .i64 a, .int .i64 b, .bool on] w (NtPost S (cutN n a b on) w) := by
  have hdh := Lib.hid hd
  clear hd
  have kN := heap_alloc_new w (.cells #[.slice A n.q.length c, .slice A' n.ap.length c'] 25)
  have hbV1 := bnew w (.cells #[.slice A n.q.length c, .slice A' n.ap.length c'] 25)
  obtain ⟨V1, hV1⟩ : ∃ V, (w).alloc (.cells #[.slice A n.q.length c, .slice A' n.ap.length c'] 25) = V := ⟨_, rfl⟩
  have hsV1 : V1.heap.size = w.heap.size + 1 := by rw [← hV1]; simp
  rw [hV1] at kN hbV1
  have kX := heap_alloc_new V1 (.cells #[.slice none 0 0, .slice none 0 0] 25)
  have hbV2 := bnew V1 (.cells #[.slice none 0 0, .slice none 0 0] 25)
  obtain ⟨V2, hV2⟩ : ∃ V, (V1).alloc (.cells #[.slice none 0 0, .slice none 0 0] 25) = V := ⟨_, rfl⟩
  have hsV2 : V2.heap.size = w.heap.size + 2 := by rw [← hV2]; simp; omega
  rw [hV2] at kX hbV2
  replace kN := blk_step kN hbV2
  rw [hsV1] at kX
  have hBV : Below w.heap.size w V2 := (hbV1).trans (hbV2.mono (by omega))
  clear hbV1 hbV2
  have hC := Lib.hid (rCheck_any n V2 A A' c c' w.heap.size (by omega) ((hdh.out.mono hS).keep (Kept.below hBV)))
  have hP := Lib.hid (Site_any a)
  have hQ := Lib.hid (Site_any b)
  replace hBV := Lib.hid hBV
  replace kN := Lib.hid kN
  replace kX := Lib.hid kX
  replace hV1 := Lib.hid hV1
  replace hV2 := Lib.hid hV2
  replace hsV2 := Lib.hid hsV2
  clear hsV1
  go_enter Try.func19, Try.ntmps19
  go_wp2_with fail
  rw [hV1.out, hV2.out]
  refine hC.out.mono ?_
  rintro e w1 ⟨rfl, hb⟩
  replace kN := Lib.hid (blk_step kN.out hb)
  replace kX := Lib.hid (blk_step kX.out hb)
  have hB1 := Lib.hid (hBV.out.trans (hb.mono hBV.out.size))
  have hsz1 := hb.size
  rw [hsV2.out] at hsz1
  clear hb hC hV1 hV2
  have x0 : w1.cell? ⟨w.heap.size + 1, 0, none⟩ = _ := cell_of_row w1 _ 0 _ _ _ kX.out
  have x1 : w1.cell? ⟨w.heap.size + 1, 1, none⟩ = _ := cell_of_row w1 _ 1 _ _ _ kX.out
  have fX := fun i => frozen_of_row w1 _ i _ _ kX.out
  rcases nchk_eq n with ⟨h1, h2⟩ | ⟨h1, h2⟩
  case inr =>
    rw [h2]
    have hv := Lib.hid (cutN_bad (a := a) (b := b) (on := on) h1)
    clear h1 h2
    go_wp2_with fail
    exact bodyPost_ret (v := .tuple #[.agg #[.slice none 0 0, .slice none 0 0], .int .i64 60]) (by simp [results, Try.results19, go_sem, x0, x1, fX]) rfl (NtPost.fail hv.out ((hB1.out.setCell (by simp) _).setCell (by simp) _) rfl)
  case inl =>
    rw [h2]
    have hnt := Lib.hid h1
    clear h1 h2
    go_wp2_with fail
    refine (hP.out _).mono ?_
    rintro e w1 ⟨rfl, rfl⟩
    cases hpa : isP a with
    | false =>
      have hv := Lib.hid (cutN_arg (on := on) hnt.out (show areP a b = false by unfold areP; rw [hpa]; rfl))
      clear hpa
      go_wp2_with fail
      exact bodyPost_ret (v := .tuple #[.agg #[.slice none 0 0, .slice none 0 0], .int .i64 1]) (by simp [results, Try.results19, go_sem, x0, x1, fX]) rfl (NtPost.fail hv.out ((hB1.out.setCell (by simp) _).setCell (by simp) _) rfl)
    | true =>
      go_wp2_with fail
      refine (hQ.out _).mono ?_
      rintro e w1 ⟨rfl, rfl⟩
      cases hpb : isP b with
      | false =>
        have hv := Lib.hid (cutN_arg (on := on) hnt.out (show areP a b = false by unfold areP; rw [hpa, hpb]; rfl))
        clear hpa hpb
        go_wp2_with fail
        exact bodyPost_ret (v := .tuple #[.agg #[.slice none 0 0, .slice none 0 0], .int .i64 1]) (by simp [results, Try.results19, go_sem, x0, x1, fX]) rfl (NtPost.fail hv.out ((hB1.out.setCell (by simp) _).setCell (by simp) _) rfl)
      | true =>
        have har : areP a b = true := by unfold areP; rw [hpa, hpb]; simp; omega
        have hne : (a == b) = false := by simp only [beq_eq_false_iff_ne, ne_eq]; omega
        have hv := Lib.hid (cutN_ok (on := on) hnt.out har)
        have hk := Lib.hid (show linkP a b = (b, a) by unfold linkP; rw [Int.min_eq_right (by omega), Int.max_eq_left (by omega)])
        have hmin : min a b = b := by rw [Int.min_eq_right (by omega)]
        have hmax : max a b = a := by rw [Int.max_eq_left (by omega)]
        obtain ⟨k, hkk⟩ : ∃ k, linkP a b = k := ⟨_, rfl⟩
        rw [hkk] at hv hk
        obtain ⟨f, hf⟩ : ∃ f : Int × Int → Bool, (fun x => if x = k then on else n.ap.contains x) = f := ⟨_, rfl⟩
        have hfin := Lib.hid (show doneL f 24 = cutL n.ap k on by rw [← hf]; exact done_all _ _ _)
        have hfl : ∀ x y : Nat, x < y → f ((x : Int), (y : Int)) = if ((x : Int), (y : Int)) = k then on else cutB n x y := fun x y hxy => by
          rw [← hf]
          unfold cutB
          rw [show linkP (x : Int) (y : Int) = ((x : Int), (y : Int)) by unfold linkP; rw [Int.min_eq_left (by omega), Int.max_eq_right (by omega)]]
        replace hfl := Lib.hid hfl
        clear hpa hpb har hf hkk x0 x1 fX
        go_wp2_with fail
        go_loopw [10, 11, 12, 13] (fun v x _ _ wr => ∃ (xx m : Nat) (Av : Option Addr) (cv : Nat), xx ≤ 24 ∧ x = .int .i64 xx ∧ v = .slice Av m cv ∧ m ≤ 24 * xx ∧ Hid (RL w1 Av m cv (doneL f xx) wr)) (fun _ x _ _ _ => 24 - (intOf x).toNat)
        case atStart => exact ⟨0, 0, none, 0, Nat.zero_le _, rfl, rfl, Nat.zero_le _, Below.refl _ _, rfl, World.ownsRow_nil _ _ _ _, fun _ => rfl⟩
        case round =>
          obtain ⟨xx, m, Av, cv, hx, rfl, rfl, hle, hR⟩ := hrel
          by_cases hxl : xx < 24
          · have hw1 : IntKind.i64.wrap ((xx : Int) + 1) = (xx : Int) + 1 := IntWalk.i64_in _ (by omega)
            have hxl' : (xx : Int) < 24 := by omega
            go_wp2_with fail
            go_loopw [10, 12, 13] (fun v y _ wr => ∃ (yy m : Nat) (Av : Option Addr) (cv : Nat), xx < yy ∧ yy ≤ 24 ∧ y = .int .i64 yy ∧ v = .slice Av m cv ∧ m ≤ 24 * xx + yy ∧ Hid (RL w1 Av m cv (partL f xx yy) wr)) (fun _ y _ _ => 24 - (intOf y).toNat)
            case atStart => exact ⟨xx + 1, m, Av, cv, by omega, by omega, by go_num, rfl, by omega, by rw [part_start]; exact hR⟩
            case round =>
              clear hR hle
              obtain ⟨yy, m, Av, cv, hxy, hy, rfl, rfl, hle, hR⟩ := hrel
              by_cases hlt : yy < 24
              · have hlt' : (yy : Int) < 24 := by omega
                have hbr := hB1.out.trans (hR.out.bel.mono hB1.out.size)
                have kNr := blk_step kN.out hR.out.bel
                have y0 : wr.cell? ⟨w.heap.size, 0, none⟩ = _ := cell_of_row wr _ 0 _ _ _ kNr
                have y1 : wr.cell? ⟨w.heap.size, 1, none⟩ = _ := cell_of_row wr _ 1 _ _ _ kNr
                have hcon := IsCut_any n xx yy wr A A' c c' w.heap.size hbr.size ((hdh.out.mono hS).keep (Kept.below hbr))
                obtain ⟨u, hu⟩ : ∃ u, cutB n (xx : Int) (yy : Int) = u := ⟨_, rfl⟩
                rw [hu] at hcon
                have hff := hfl.out xx yy hxy
                rw [hu] at hff
                replace hff := Lib.hid hff
                replace hcon := Lib.hid hcon
                have hw2 : IntKind.i64.wrap ((yy : Int) + 1) = (yy : Int) + 1 := IntWalk.i64_in _ (by omega)
                clear hbr kNr hu
                go_wp2_with fail
                refine hcon.out.mono ?_
                rintro e w2 ⟨rfl, hb⟩
                have hR2 := Lib.hid (hR.out.step hb)
                clear y0 y1 hb hcon hR
                by_cases e1 : (xx : Int) = b
                · by_cases e2 : (yy : Int) = a
                  · have hfk := hff.out
                    rw [if_pos (show ((xx : Int), (yy : Int)) = k by rw [hk.out, e1, e2])] at hfk
                    have g1 : ((xx : Int) == b) = true := by rw [e1]; simp
                    have g2 : ((yy : Int) == a) = true := by rw [e2]; simp
                    clear e1 e2 hff
                    cases on with
                    | false =>
                      have hg := hfk
                      clear hfk
                      have hnx := Lib.hid (show RL w1 Av m cv (partL f xx (yy + 1)) w2 by rw [part_step f hxy, if_neg (by rw [hg]; decide), List.append_nil]; exact hR2.out)
                      clear hg hR2
                      go_wp2_with fail
                      go_roundw
                      case rel => exact ⟨yy + 1, m, Av, cv, by omega, by omega, by go_num, rfl, by omega, hnx.out⟩
                      case measure => simp [intOf]; omega
                    | true =>
                      have hg := hfk
                      clear hfk
                      have hbA := bnew w2 (.cells #[.int .i64 (xx : Int), .int .i64 (yy : Int)] 55)
                      have hkA := heap_alloc_new w2 (.cells #[.int .i64 (xx : Int), .int .i64 (yy : Int)] 55)
                      have hR3 := hR2.out.step hbA
                      have hsz3 := hR3.bel.size
                      obtain ⟨v', W1, hr, ho, hgw, hb1, -, -⟩ := append_link (w2.alloc (.cells #[.int .i64 (xx : Int), .int .i64 (yy : Int)] 55)) w1.heap.size 23 (.slice Av m cv) m (LV (partL f xx yy)) hR3.own hR3.nil w2.heap.size ((xx : Int), (yy : Int)) hkA (by omega) hsz3
                      have hpe : partL f xx (yy + 1) = partL f xx yy ++ [((xx : Int), (yy : Int))] := by rw [part_step f hxy, if_pos hg]
                      obtain ⟨g', cap', rfl⟩ := ownsRow_succ ho
                      have hnx := Lib.hid (show RL w1 (some ⟨g', 0, none⟩) (m + 1) cap' (partL f xx (yy + 1)) W1 from ⟨hR3.bel.trans hb1, by rw [hpe, List.length_append, hR3.len]; rfl, by rw [hpe, LV_append]; exact ho, fun h => by omega⟩)
                      replace hr := Lib.hid hr
                      clear hg hR2 hbA hkA hR3 hsz3 ho hgw hb1 hpe
                      go_wp2_with (at_builtin; refine Lib.wpList_append_run _ rfl _ _ _ _ rfl _ _ rfl rfl _ _ hr.out ?_)
                      go_roundw
                      case rel => exact ⟨yy + 1, m + 1, _, cap', by omega, by omega, by go_num, rfl, by omega, hnx.out⟩
                      case measure => simp [intOf]; omega
                  · have hfk := hff.out
                    rw [if_neg (show ¬ ((xx : Int), (yy : Int)) = k from fun h => by rw [hk.out] at h; exact e2 (congrArg (·.2) h))] at hfk
                    have g1 : ((xx : Int) == b) = true := by rw [e1]; simp
                    have g2 : ((yy : Int) == a) = false := by simpa using e2
                    clear e1 e2 hff
                    cases u with
                    | false =>
                      have hg := hfk
                      clear hfk
                      have hnx := Lib.hid (show RL w1 Av m cv (partL f xx (yy + 1)) w2 by rw [part_step f hxy, if_neg (by rw [hg]; decide), List.append_nil]; exact hR2.out)
                      clear hg hR2
                      go_wp2_with fail
                      go_roundw
                      case rel => exact ⟨yy + 1, m, Av, cv, by omega, by omega, by go_num, rfl, by omega, hnx.out⟩
                      case measure => simp [intOf]; omega
                    | true =>
                      have hg := hfk
                      clear hfk
                      have hbA := bnew w2 (.cells #[.int .i64 (xx : Int), .int .i64 (yy : Int)] 55)
                      have hkA := heap_alloc_new w2 (.cells #[.int .i64 (xx : Int), .int .i64 (yy : Int)] 55)
                      have hR3 := hR2.out.step hbA
                      have hsz3 := hR3.bel.size
                      obtain ⟨v', W1, hr, ho, hgw, hb1, -, -⟩ := append_link (w2.alloc (.cells #[.int .i64 (xx : Int), .int .i64 (yy : Int)] 55)) w1.heap.size 23 (.slice Av m cv) m (LV (partL f xx yy)) hR3.own hR3.nil w2.heap.size ((xx : Int), (yy : Int)) hkA (by omega) hsz3
                      have hpe : partL f xx (yy + 1) = partL f xx yy ++ [((xx : Int), (yy : Int))] := by rw [part_step f hxy, if_pos hg]
                      obtain ⟨g', cap', rfl⟩ := ownsRow_succ ho
                      have hnx := Lib.hid (show RL w1 (some ⟨g', 0, none⟩) (m + 1) cap' (partL f xx (yy + 1)) W1 from ⟨hR3.bel.trans hb1, by rw [hpe, List.length_append, hR3.len]; rfl, by rw [hpe, LV_append]; exact ho, fun h => by omega⟩)
                      replace hr := Lib.hid hr
                      clear hg hR2 hbA hkA hR3 hsz3 ho hgw hb1 hpe
                      go_wp2_with (at_builtin; refine Lib.wpList_append_run _ rfl _ _ _ _ rfl _ _ rfl rfl _ _ hr.out ?_)
                      go_roundw
                      case rel => exact ⟨yy + 1, m + 1, _, cap', by omega, by omega, by go_num, rfl, by omega, hnx.out⟩
                      case measure => simp [intOf]; omega
                · have hfk := hff.out
                  rw [if_neg (show ¬ ((xx : Int), (yy : Int)) = k from fun h => by rw [hk.out] at h; exact e1 (congrArg (·.1) h))] at hfk
                  have g1 : ((xx : Int) == b) = false := by simpa using e1
                  clear e1 hff
                  cases u with
                  | false =>
                    have hg := hfk
                    clear hfk
                    have hnx := Lib.hid (show RL w1 Av m cv (partL f xx (yy + 1)) w2 by rw [part_step f hxy, if_neg (by rw [hg]; decide), List.append_nil]; exact hR2.out)
                    clear hg hR2
                    go_wp2_with fail
                    go_roundw
                    case rel => exact ⟨yy + 1, m, Av, cv, by omega, by omega, by go_num, rfl, by omega, hnx.out⟩
                    case measure => simp [intOf]; omega
                  | true =>
                    have hg := hfk
                    clear hfk
                    have hbA := bnew w2 (.cells #[.int .i64 (xx : Int), .int .i64 (yy : Int)] 55)
                    have hkA := heap_alloc_new w2 (.cells #[.int .i64 (xx : Int), .int .i64 (yy : Int)] 55)
                    have hR3 := hR2.out.step hbA
                    have hsz3 := hR3.bel.size
                    obtain ⟨v', W1, hr, ho, hgw, hb1, -, -⟩ := append_link (w2.alloc (.cells #[.int .i64 (xx : Int), .int .i64 (yy : Int)] 55)) w1.heap.size 23 (.slice Av m cv) m (LV (partL f xx yy)) hR3.own hR3.nil w2.heap.size ((xx : Int), (yy : Int)) hkA (by omega) hsz3
                    have hpe : partL f xx (yy + 1) = partL f xx yy ++ [((xx : Int), (yy : Int))] := by rw [part_step f hxy, if_pos hg]
                    obtain ⟨g', cap', rfl⟩ := ownsRow_succ ho
                    have hnx := Lib.hid (show RL w1 (some ⟨g', 0, none⟩) (m + 1) cap' (partL f xx (yy + 1)) W1 from ⟨hR3.bel.trans hb1, by rw [hpe, List.length_append, hR3.len]; rfl, by rw [hpe, LV_append]; exact ho, fun h => by omega⟩)
                    replace hr := Lib.hid hr
                    clear hg hR2 hbA hkA hR3 hsz3 ho hgw hb1 hpe
                    go_wp2_with (at_builtin; refine Lib.wpList_append_run _ rfl _ _ _ _ rfl _ _ rfl rfl _ _ hr.out ?_)
                    go_roundw
                    case rel => exact ⟨yy + 1, m + 1, _, cap', by omega, by omega, by go_num, rfl, by omega, hnx.out⟩
                    case measure => simp [intOf]; omega
              · obtain rfl : yy = 24 := by omega
                have hR5 := Lib.hid (show RL w1 Av m cv (doneL f (xx + 1)) wr by rw [← part_end]; exact hR.out)
                clear hR
                go_wp2_with fail
                go_roundw
                case rel => exact ⟨xx + 1, m, Av, cv, by omega, by go_num, rfl, by omega, hR5.out⟩
                case measure => simp [intOf]; omega
          · obtain rfl : xx = 24 := by omega
            rw [hfin.out] at hR
            obtain ⟨L, hL⟩ : ∃ L, cutL n.ap k on = L := ⟨_, rfl⟩
            have hmem := Lib.hid (show ∀ x ∈ L, I64 x.1 ∧ I64 x.2 from fun x hx => by
              rw [← hL] at hx
              have h := okP_iff.1 ((cutL_mem _ _ _ _).1 hx).1
              unfold I64
              omega)
            rw [hL] at hR hv
            clear hL hfin hfl
            obtain rfl : m = L.length := hR.out.len
            have kN3 := blk_step kN.out hR.out.bel
            have kX3 := blk_step kX.out hR.out.bel
            have hB3 := hB1.out.trans (hR.out.bel.mono hB1.out.size)
            have hsz3 := hR.out.bel.size
            have hrow := LR.ofRow (R := fun _ => True) hR.out.own (fun _ _ => trivial) hmem.out
            have y0 : wr.cell? ⟨w.heap.size, 0, none⟩ = _ := cell_of_row wr _ 0 _ _ _ kN3
            have y1 : wr.cell? ⟨w.heap.size, 1, none⟩ = _ := cell_of_row wr _ 1 _ _ _ kN3
            have x0 : wr.cell? ⟨w.heap.size + 1, 0, none⟩ = _ := cell_of_row wr _ 0 _ _ _ kX3
            have x1 : wr.cell? ⟨w.heap.size + 1, 1, none⟩ = _ := cell_of_row wr _ 1 _ _ _ kX3
            have fN := fun i => frozen_of_row wr _ i _ _ kN3
            have fX := fun i => frozen_of_row wr _ i _ _ kX3
            have hF := ((hB3.setCell (p := ⟨w.heap.size, 1, none⟩) (Nat.le_refl _) (.slice Av L.length cv)).setCell (p := ⟨w.heap.size + 1, 0, none⟩) (by simp) (.slice A n.q.length c)).setCell (p := ⟨w.heap.size + 1, 1, none⟩) (by simp) (.slice Av L.length cv)
            replace hB3 := Lib.hid hB3
            replace hF := Lib.hid hF
            replace hrow := Lib.hid hrow
            clear kN3 kX3 hR
            go_wp2_with fail
            refine bodyPost_ret (v := .tuple #[.agg #[.slice A n.q.length c, .slice Av L.length cv], .int .i64 0]) (by simp [results, Try.results19, go_sem, x0, x1, y0, y1, fX, fN]) rfl
              (NtPost.of hv.out hF.out A c Av cv (by simp) ⟨hdh.out.cap, hdh.out.max, hrow.out.1, hrow.out.2.1, (hdh.out.q.keep (Kept.of hS hF.out)).mono fun g hg => .inl hg, (hrow.out.2.2.keep (((Kept.set fun g hg => ?_).trans (Kept.set fun g hg => ?_)).trans (Kept.set fun g hg => ?_))).mono fun g hg => .inr ⟨by omega, by simpa using hg.1.2⟩⟩)
            · omega
            · omega
            · omega
set_option maxRecDepth 100000 in
set_option maxHeartbeats 8000000 in
theorem rCut_eq (n : Nt) (a b : Int) (on : Bool) (hab : a = b) (w : World) (A A' : Option Addr) (c c' : Nat) (S : Nat → Prop) (hS : ∀ b, S b → b < w.heap.size) (hd : NR w S A c A' c' n) :
    Calls Try.prog 19 #[.agg #[.slice A n.q.length c, .slice A' n.ap.length c'], .int .i64 a, .int .i64 b, .bool on] w (NtPost S (cutN n a b on) w) := by
  have hdh := Lib.hid hd
  replace hab := Lib.hid hab
  clear hd
  have kN := heap_alloc_new w (.cells #[.slice A n.q.length c, .slice A' n.ap.length c'] 25)
  have hbV1 := bnew w (.cells #[.slice A n.q.length c, .slice A' n.ap.length c'] 25)
  obtain ⟨V1, hV1⟩ : ∃ V, (w).alloc (.cells #[.slice A n.q.length c, .slice A' n.ap.length c'] 25) = V := ⟨_, rfl⟩
  have hsV1 : V1.heap.size = w.heap.size + 1 := by rw [← hV1]; simp
  rw [hV1] at kN hbV1
  have kX := heap_alloc_new V1 (.cells #[.slice none 0 0, .slice none 0 0] 25)
  have hbV2 := bnew V1 (.cells #[.slice none 0 0, .slice none 0 0] 25)
  obtain ⟨V2, hV2⟩ : ∃ V, (V1).alloc (.cells #[.slice none 0 0, .slice none 0 0] 25) = V := ⟨_, rfl⟩
  have hsV2 : V2.heap.size = w.heap.size + 2 := by rw [← hV2]; simp; omega
  rw [hV2] at kX hbV2
  replace kN := blk_step kN hbV2
  rw [hsV1] at kX
  have hBV : Below w.heap.size w V2 := (hbV1).trans (hbV2.mono (by omega))
  clear hbV1 hbV2
  have hC := Lib.hid (rCheck_any n V2 A A' c c' w.heap.size (by omega) ((hdh.out.mono hS).keep (Kept.below hBV)))
  have hP := Lib.hid (Site_any a)
  have hQ := Lib.hid (Site_any b)
  replace hBV := Lib.hid hBV
  replace kN := Lib.hid kN
  replace kX := Lib.hid kX
  replace hV1 := Lib.hid hV1
  replace hV2 := Lib.hid hV2
  replace hsV2 := Lib.hid hsV2
  clear hsV1
  go_enter Try.func19, Try.ntmps19
  go_wp2_with fail
  rw [hV1.out, hV2.out]
  refine hC.out.mono ?_
  rintro e w1 ⟨rfl, hb⟩
  replace kN := Lib.hid (blk_step kN.out hb)
  replace kX := Lib.hid (blk_step kX.out hb)
  have hB1 := Lib.hid (hBV.out.trans (hb.mono hBV.out.size))
  have hsz1 := hb.size
  rw [hsV2.out] at hsz1
  clear hb hC hV1 hV2
  have x0 : w1.cell? ⟨w.heap.size + 1, 0, none⟩ = _ := cell_of_row w1 _ 0 _ _ _ kX.out
  have x1 : w1.cell? ⟨w.heap.size + 1, 1, none⟩ = _ := cell_of_row w1 _ 1 _ _ _ kX.out
  have fX := fun i => frozen_of_row w1 _ i _ _ kX.out
  rcases nchk_eq n with ⟨h1, h2⟩ | ⟨h1, h2⟩
  case inr =>
    rw [h2]
    have hv := Lib.hid (cutN_bad (a := a) (b := b) (on := on) h1)
    clear h1 h2
    go_wp2_with fail
    exact bodyPost_ret (v := .tuple #[.agg #[.slice none 0 0, .slice none 0 0], .int .i64 60]) (by simp [results, Try.results19, go_sem, x0, x1, fX]) rfl (NtPost.fail hv.out ((hB1.out.setCell (by simp) _).setCell (by simp) _) rfl)
  case inl =>
    rw [h2]
    have hnt := Lib.hid h1
    clear h1 h2
    go_wp2_with fail
    refine (hP.out _).mono ?_
    rintro e w1 ⟨rfl, rfl⟩
    cases hpa : isP a with
    | false =>
      have hv := Lib.hid (cutN_arg (on := on) hnt.out (show areP a b = false by unfold areP; rw [hpa]; rfl))
      clear hpa
      go_wp2_with fail
      exact bodyPost_ret (v := .tuple #[.agg #[.slice none 0 0, .slice none 0 0], .int .i64 1]) (by simp [results, Try.results19, go_sem, x0, x1, fX]) rfl (NtPost.fail hv.out ((hB1.out.setCell (by simp) _).setCell (by simp) _) rfl)
    | true =>
      go_wp2_with fail
      refine (hQ.out _).mono ?_
      rintro e w1 ⟨rfl, rfl⟩
      cases hpb : isP b with
      | false =>
        have hv := Lib.hid (cutN_arg (on := on) hnt.out (show areP a b = false by unfold areP; rw [hpa, hpb]; rfl))
        clear hpa hpb
        go_wp2_with fail
        exact bodyPost_ret (v := .tuple #[.agg #[.slice none 0 0, .slice none 0 0], .int .i64 1]) (by simp [results, Try.results19, go_sem, x0, x1, fX]) rfl (NtPost.fail hv.out ((hB1.out.setCell (by simp) _).setCell (by simp) _) rfl)
      | true =>
        have hne : (a == b) = true := by rw [hab.out]; simp
        have hv := Lib.hid (cutN_arg (on := on) hnt.out (show areP a b = false by unfold areP; rw [hab.out]; simp))
        clear hpa hpb
        go_wp2_with fail
        exact bodyPost_ret (v := .tuple #[.agg #[.slice none 0 0, .slice none 0 0], .int .i64 1]) (by simp [results, Try.results19, go_sem, x0, x1, fX]) rfl (NtPost.fail hv.out ((hB1.out.setCell (by simp) _).setCell (by simp) _) rfl)
theorem rCut_any (n : Nt) (a b : Int) (on : Bool) (w : World) (A A' : Option Addr) (c c' : Nat) (S : Nat → Prop) (hS : ∀ b, S b → b < w.heap.size) (hd : NR w S A c A' c' n) :
    Calls Try.prog 19 #[.agg #[.slice A n.q.length c, .slice A' n.ap.length c'], .int .i64 a, .int .i64 b, .bool on] w (NtPost S (cutN n a b on) w) := by
  rcases Int.lt_trichotomy a b with h | h | h
  · exact rCut_lt n a b on h w A A' c c' S hS hd
  · exact rCut_eq n a b on h w A A' c c' S hS hd
  · exact rCut_gt n a b on h w A A' c c' S hS hd
end Go.Proofs.Ytpmmahlmfcbbbaa
