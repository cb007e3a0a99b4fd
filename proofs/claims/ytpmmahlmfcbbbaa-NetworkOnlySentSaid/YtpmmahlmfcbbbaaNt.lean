/- The reference's Check: the contract. -/
import Derived.Test.YtpmmahlmfcbbbaaNr
import Derived.Test.YtpmmahlmfcbbbaaRi
namespace Go.Proofs.Ytpmmahlmfcbbbaa
open Go.RowKit

set_option maxRecDepth 100000 in
set_option maxHeartbeats 800000 in
theorem rCheck_any (n : Nt) (w : World) (A A' : Option Addr) (c c' : Nat) (B : Nat) (hBw : B ≤ w.heap.size) (h : NR w (· < B) A c A' c' n) :
    Calls Try.prog 14 #[.agg #[.slice A n.q.length c, .slice A' n.ap.length c']] w fun e w' => e = .returned (.int .i64 (nchk n)) ∧ Below w.heap.size w w' := by
  have hB := Lib.hid (bnew w (.cells #[.slice A n.q.length c, .slice A' n.ap.length c'] 25))
  have hm := h.cap'
  have hm' := h.max'
  have hmq := h.cap
  have hmq' := h.max
  unfold maxLen at hm' hmq'
  have hh := Lib.hid h
  clear h
  by_cases h0 : (4096 : Int) < n.q.length
  · have hv := Lib.hid (nchk_no (ntB_big h0))
    go_enter Try.func14, Try.ntmps14
    go_wp2_with fail
    go_ret
    exact ⟨retI hv.out.symm, hB.out⟩
  · go_enter Try.func14, Try.ntmps14
    go_wp2_with fail
    go_loopw [3] (fun i wr => ∃ k : Nat, k ≤ n.q.length ∧ i = .int .i64 k ∧ Hid ((n.q.take k).all pkB = true) ∧ Below (w.heap.size + 1) (w.alloc (.cells #[.slice A n.q.length c, .slice A' n.ap.length c'] 25)) wr) (fun i _ => n.q.length - (intOf i).toNat)
    case atStart => exact ⟨0, Nat.zero_le _, rfl, rfl, Below.refl _ _⟩
    case round =>
      obtain ⟨k, hk, rfl, hall, hb⟩ := hrel
      obtain ⟨y0, y1⟩ := box2 hb
      by_cases hlt : k < n.q.length
      · obtain ⟨b, off, A1, c1, rfl, hs, hc0, hc1, hc2, hl1, hl2, -, hI⟩ := ((hh.out.q.keep (Kept.below (hB.out.mono hBw))).keep (Kept.below (hb.mono (by omega)))).at_ hlt
        have hn := Lib.hid (all_takeN pkB n.q k hlt)
        have ho := Lib.hid (all_noN pkB n.q k hlt)
        have hsz := hb.size
        simp only [World.size_alloc] at hsz
        have hbx := Lib.hid hb
        have hP := Lib.hid (fun W => rPacket_any n.q[k] W A1 c1)
        clear hb
        go_wp2_with fail
        refine (hP.out _).mono ?_
        rintro e w2 ⟨rfl, hb2⟩
        have hb3 := Lib.hid (hbx.out.trans (hb2.mono (by omega)))
        cases hx : pkB n.q[k] with
        | false =>
          have hv := Lib.hid (nchk_no (ntB_q (ho.out hx)))
          clear hx hb2
          go_wp2_with fail
          go_ret
          exact ⟨retI hv.out.symm, unbox hb3.out⟩
        | true =>
          have hnx := Lib.hid (show (n.q.take (k + 1)).all pkB = true by rw [hn.out, hall.out, hx]; rfl)
          clear hx hb2
          go_wp2_with fail
          go_roundw
          case rel => exact ⟨k + 1, by omega, by go_num, hnx.out, hb3.out⟩
          case measure => simp [intOf]; omega
      · have hqa := Lib.hid (show n.q.all pkB = true by have := hall.out; rwa [List.take_of_length_le (by omega)] at this)
        have hle : ¬ ((k : Int) < n.q.length) := by omega
        have hb4 := Lib.hid hb
        clear hlt hall hb
        go_wp2_with fail
        clear y0 y1
        go_loopw [4, 5] (fun i _ wr => ∃ k : Nat, k ≤ n.ap.length ∧ i = .int .i64 k ∧ Hid ((List.range k).all (apAt n.ap) = true) ∧ Below (w.heap.size + 1) (w.alloc (.cells #[.slice A n.q.length c, .slice A' n.ap.length c'] 25)) wr) (fun i _ _ => n.ap.length - (intOf i).toNat)
        case atStart => exact ⟨0, Nat.zero_le _, rfl, rfl, hb4.out⟩
        case round =>
          obtain ⟨q, hq, rfl, hall, hb⟩ := hrel
          obtain ⟨y0, y1⟩ := box2 hb
          by_cases hlt : q < n.ap.length
          · obtain ⟨b, off, rfl, hs, hc0, hc1, hI⟩ := ((hh.out.ap.keep (Kept.below (hB.out.mono hBw))).keep (Kept.below (hb.mono (by omega)))).at_ hlt
            have hn := Lib.hid (apAt_next n.ap q hall.out)
            have ho := Lib.hid (apB_no n.ap q hlt)
            have hqe := Lib.hid (apAt_eq n.ap q hlt)
            have hkp := Lib.hid (show okP n.ap[q] = (isP n.ap[q].1 && isP n.ap[q].2 && decide (n.ap[q].1 < n.ap[q].2)) from rfl)
            have hA := Lib.hid (Site_any n.ap[q].1)
            have hC := Lib.hid (Site_any n.ap[q].2)
            have hbx := Lib.hid hb
            clear hb
            go_wp2_with fail
            refine (hA.out _).mono ?_
            rintro e w2 ⟨rfl, rfl⟩
            cases hx : isP n.ap[q].1 with
            | false =>
              have hv := Lib.hid (nchk_no (ntB_ap (ho.out (by rw [hqe.out, hkp.out, hx]; rfl))))
              clear hx
              go_wp2_with fail
              go_ret
              exact ⟨retI hv.out.symm, (unbox hbx.out).alloc (by have := hbx.out.size; simp at this; omega) _⟩
            | true =>
              go_wp2_with fail
              refine (hC.out _).mono ?_
              rintro e w2 ⟨rfl, rfl⟩
              cases hy : isP n.ap[q].2 with
              | false =>
                have hv := Lib.hid (nchk_no (ntB_ap (ho.out (by rw [hqe.out, hkp.out, hy]; simp))))
                clear hx hy
                go_wp2_with fail
                go_ret
                exact ⟨retI hv.out.symm, (unbox hbx.out).alloc (by have := hbx.out.size; simp at this; omega) _⟩
              | true =>
                by_cases hz : n.ap[q].1 < n.ap[q].2
                · have hok := Lib.hid (show okP n.ap[q] = true by rw [hkp.out, hx, hy, decide_eq_true hz]; rfl)
                  clear hx hy
                  have hfin := Lib.hid (show Below (w.heap.size + 1) (w.alloc (.cells #[.slice A n.q.length c, .slice (some ⟨b, off, none⟩) n.ap.length c'] 25)) (wr.alloc (.cells #[.int .i64 n.ap[q].1, .int .i64 n.ap[q].2] 55)) from hbx.out.alloc (by have := hbx.out.size; simp at this; omega) _)
                  have hszr : w.heap.size < wr.heap.size := by have := hbx.out.size; simp at this; omega
                  have hz' : ¬ n.ap[q].2 ≤ n.ap[q].1 := by omega
                  obtain ⟨V, hV⟩ : ∃ V, V = wr.alloc (.cells #[.int .i64 n.ap[q].1, .int .i64 n.ap[q].2] 55) := ⟨_, rfl⟩
                  have hVb : Below wr.heap.size wr V := by rw [hV]; exact bnew wr _
                  have hVs : V.heap.size = wr.heap.size + 1 := by rw [hV]; simp
                  have hVc : V.cell? ⟨wr.heap.size, 0, none⟩ = some (.int .i64 n.ap[q].1) ∧ V.cell? ⟨wr.heap.size, 1, none⟩ = some (.int .i64 n.ap[q].2) := by
                    constructor <;> (rw [hV, World.cell?_alloc_at _ _ _ _ rfl]; rfl)
                  have hL : Hid (∀ W, Below V.heap.size V W → (W.cell? ⟨wr.heap.size, 0, none⟩ = some (.int .i64 n.ap[q].1) ∧ W.cell? ⟨wr.heap.size, 1, none⟩ = some (.int .i64 n.ap[q].2)) ∧ W.cell? ⟨w.heap.size, 1, none⟩ = some (.slice (some ⟨b, off, none⟩) n.ap.length c')) := fun W hW =>
                    ⟨⟨(hW.cell (p := ⟨wr.heap.size, 0, none⟩) (by simp; omega)).trans hVc.1, (hW.cell (p := ⟨wr.heap.size, 1, none⟩) (by simp; omega)).trans hVc.2⟩, ((hVb.trans (hW.mono (by omega))).cell (p := ⟨w.heap.size, 1, none⟩) (by simp; omega)).trans y1⟩
                  rw [← hV] at hfin
                  clear hVc
                  rcases Nat.eq_zero_or_pos q with h0 | h0
                  · have hnx := Lib.hid (hn.out (by rw [hqe.out, hok.out, decide_eq_true h0]; rfl))
                    have hk0 := Lib.hid (show ((q : Int) == 0) = true ∧ decide ((0 : Int) < q) = false ∧ ¬ 0 < q by subst h0; exact ⟨rfl, rfl, by omega⟩)
                    clear hn ho hqe hkp hok h0
                    generalize n.ap[q].1 = x0 at *
                    generalize n.ap[q].2 = x1 at *
                    go_wp2_with fail
                    rw [← hV]
                    clear hV
                    refine wp_region_pre 38 0 (fun W => Below V.heap.size V W) (fun W W' => Below W.heap.size W W')
                      (fun i v W => match i with
                        | 0 => v = .int .i64 (q : Int)
                        | 1 => v = .bool false
                        | 2 => v = .bool false
                        | 3 => v = undef
                        | 4 => v = undef
                        | 5 => v = undef
                        | 6 => v = undef
                        | 7 => v = undef
                        | 8 => v = undef
                        | 9 => v = undef
                        | 10 => v = undef
                        | 11 => v = undef
                        | 12 => v = undef
                        | 13 => v = undef
                        | 14 => v = undef
                        | 15 => v = undef
                        | 16 => v = undef
                        | 17 => v = undef
                        | 18 => v = undef
                        | 19 => v = undef
                        | 20 => v = undef
                        | 21 => v = undef
                        | 22 => v = undef
                        | 23 => v = undef
                        | 24 => v = undef
                        | 25 => v = undef
                        | 26 => v = undef
                        | 27 => v = undef
                        | 28 => v = undef
                        | 29 => v = undef
                        | 30 => v = undef
                        | 31 => v = undef
                        | 32 => v = undef
                        | 33 => v = undef
                        | 34 => v = undef
                        | 35 => v = undef
                        | 36 => v = undef
                        | 37 => v = .bool false
                        | _ => True) (fun _ => false)
                      (by kernel_rfl) (by kernel_rfl) (by kernel_rfl) (by kernel_rfl) (by kernel_rfl) (by kernel_rfl) (by kernel_rfl) ?_ (fun _ _ h => h.size) (dN (Below.refl _ _) 1) ?_ ?_
                    · intro i v W W' hb hF
                      match i, hF with
                      | 0, h => exact h
                      | 1, h => exact h
                      | 2, h => exact h
                      | 3, h => exact h
                      | 4, h => exact h
                      | 5, h => exact h
                      | 6, h => exact h
                      | 7, h => exact h
                      | 8, h => exact h
                      | 9, h => exact h
                      | 10, h => exact h
                      | 11, h => exact h
                      | 12, h => exact h
                      | 13, h => exact h
                      | 14, h => exact h
                      | 15, h => exact h
                      | 16, h => exact h
                      | 17, h => exact h
                      | 18, h => exact h
                      | 19, h => exact h
                      | 20, h => exact h
                      | 21, h => exact h
                      | 22, h => exact h
                      | 23, h => exact h
                      | 24, h => exact h
                      | 25, h => exact h
                      | 26, h => exact h
                      | 27, h => exact h
                      | 28, h => exact h
                      | 29, h => exact h
                      | 30, h => exact h
                      | 31, h => exact h
                      | 32, h => exact h
                      | 33, h => exact h
                      | 34, h => exact h
                      | 35, h => exact h
                      | 36, h => exact h
                      | 37, h => exact h
                      | _ + 38, _ => trivial
                    · refine ⟨?_, ?_, ?_, ?_, ?_, ?_, ?_, ?_, ?_, ?_, ?_, ?_, ?_, ?_, ?_, ?_, ?_, ?_, ?_, ?_, ?_, ?_, ?_, ?_, ?_, ?_, ?_, ?_, ?_, ?_, ?_, ?_, ?_, ?_, ?_, ?_, ?_, ?_, trivial⟩
                      · refine stepJ_any rfl fun ac W hAA hG hDD K hK => ?_
                        have h4 := hAA.getD (t := 4) (by kernel_rfl)
                        simp only [Array.getD_eq_getD_getElem?] at h4
                        rw [if_pos (by rfl)]
                        exact wp_val (v := .int .i64 (q : Int)) (w' := W) (by simp [execOp, Act.eval, h4, go_sem]) (hK _ _ hG (Below.refl _ _) rfl (fun h => by cases h))
                      · refine stepJ_any rfl fun ac W hAA hG hDD K hK => ?_
                        have h53 := hDD.get 0 53 _ rfl rfl (by kernel_rfl)
                        simp only [Array.getD_eq_getD_getElem?] at h53
                        have hk0 := hk0.out
                        rw [if_pos (by rfl)]
                        exact wp_val (v := .bool false) (w' := W) (by simp [execOp, Act.eval, h53, go_sem, hk0]) (hK _ _ hG (Below.refl _ _) rfl (fun h => by cases h))
                      · refine stepJ_any rfl fun ac W hAA hG hDD K hK => ?_
                        have h54 := hDD.get 1 54 _ rfl rfl (by kernel_rfl)
                        simp only [Array.getD_eq_getD_getElem?] at h54
                        rw [if_pos (by rfl)]
                        exact wp_val (v := .bool false) (w' := W) (by simp [execOp, Act.eval, h54, go_sem]) (hK _ _ hG (Below.refl _ _) rfl (fun h => by cases h))
                      · refine stepJ_any rfl fun ac W hAA hG hDD K hK => ?_
                        have hgd := hDD.get 2 55 _ rfl rfl (by kernel_rfl)
                        have hgd := slot_bool hgd
                        rw [if_neg (by simp [Region.wanted, yielded, hgd])]
                        exact hK undef W hG (Below.refl _ _) rfl (fun h => by cases h)
                      · refine stepJ_any rfl fun ac W hAA hG hDD K hK => ?_
                        have hgd := hDD.get 2 55 _ rfl rfl (by kernel_rfl)
                        have hgd := slot_bool hgd
                        rw [if_neg (by simp [Region.wanted, yielded, hgd])]
                        exact hK undef W hG (Below.refl _ _) rfl (fun h => by cases h)
                      · refine stepJ_any rfl fun ac W hAA hG hDD K hK => ?_
                        have hgd := hDD.get 2 55 _ rfl rfl (by kernel_rfl)
                        have hgd := slot_bool hgd
                        rw [if_neg (by simp [Region.wanted, yielded, hgd])]
                        exact hK undef W hG (Below.refl _ _) rfl (fun h => by cases h)
                      · refine stepJ_any rfl fun ac W hAA hG hDD K hK => ?_
                        have hgd := hDD.get 2 55 _ rfl rfl (by kernel_rfl)
                        have hgd := slot_bool hgd
                        rw [if_neg (by simp [Region.wanted, yielded, hgd])]
                        exact hK undef W hG (Below.refl _ _) rfl (fun h => by cases h)
                      · refine stepJ_any rfl fun ac W hAA hG hDD K hK => ?_
                        have hgd := hDD.get 2 55 _ rfl rfl (by kernel_rfl)
                        have hgd := slot_bool hgd
                        rw [if_neg (by simp [Region.wanted, yielded, hgd])]
                        exact hK undef W hG (Below.refl _ _) rfl (fun h => by cases h)
                      · refine stepJ_any rfl fun ac W hAA hG hDD K hK => ?_
                        have hgd := hDD.get 2 55 _ rfl rfl (by kernel_rfl)
                        have hgd := slot_bool hgd
                        rw [if_neg (by simp [Region.wanted, yielded, hgd])]
                        exact hK undef W hG (Below.refl _ _) rfl (fun h => by cases h)
                      · refine stepJ_any rfl fun ac W hAA hG hDD K hK => ?_
                        have hgd := hDD.get 2 55 _ rfl rfl (by kernel_rfl)
                        have hgd := slot_bool hgd
                        rw [if_neg (by simp [Region.wanted, yielded, hgd])]
                        exact hK undef W hG (Below.refl _ _) rfl (fun h => by cases h)
                      · refine stepJ_any rfl fun ac W hAA hG hDD K hK => ?_
                        have hgd := hDD.get 2 55 _ rfl rfl (by kernel_rfl)
                        have hgd := slot_bool hgd
                        rw [if_neg (by simp [Region.wanted, yielded, hgd])]
                        exact hK undef W hG (Below.refl _ _) rfl (fun h => by cases h)
                      · refine stepJ_any rfl fun ac W hAA hG hDD K hK => ?_
                        have hgd := hDD.get 2 55 _ rfl rfl (by kernel_rfl)
                        have hgd := slot_bool hgd
                        rw [if_neg (by simp [Region.wanted, yielded, hgd])]
                        exact hK undef W hG (Below.refl _ _) rfl (fun h => by cases h)
                      · refine stepJ_any rfl fun ac W hAA hG hDD K hK => ?_
                        have hgd := hDD.get 2 55 _ rfl rfl (by kernel_rfl)
                        have hgd := slot_bool hgd
                        rw [if_neg (by simp [Region.wanted, yielded, hgd])]
                        exact hK undef W hG (Below.refl _ _) rfl (fun h => by cases h)
                      · refine stepJ_any rfl fun ac W hAA hG hDD K hK => ?_
                        have hgd := hDD.get 2 55 _ rfl rfl (by kernel_rfl)
                        have hgd := slot_bool hgd
                        rw [if_neg (by simp [Region.wanted, yielded, hgd])]
                        exact hK undef W hG (Below.refl _ _) rfl (fun h => by cases h)
                      · refine stepJ_any rfl fun ac W hAA hG hDD K hK => ?_
                        have hgd := hDD.get 13 66 _ rfl rfl (by kernel_rfl)
                        have hgd := slot_undef hgd
                        rw [if_neg (by rcases hgd with hgd | hgd <;> simp [Region.wanted, yielded, hgd, undef])]
                        exact hK undef W hG (Below.refl _ _) rfl (fun h => by cases h)
                      · refine stepJ_any rfl fun ac W hAA hG hDD K hK => ?_
                        have hgd := hDD.get 13 66 _ rfl rfl (by kernel_rfl)
                        have hgd := slot_undef hgd
                        rw [if_neg (by rcases hgd with hgd | hgd <;> simp [Region.wanted, yielded, hgd, undef])]
                        exact hK undef W hG (Below.refl _ _) rfl (fun h => by cases h)
                      · refine stepJ_any rfl fun ac W hAA hG hDD K hK => ?_
                        have hgd := hDD.get 13 66 _ rfl rfl (by kernel_rfl)
                        have hgd := slot_undef hgd
                        rw [if_neg (by rcases hgd with hgd | hgd <;> simp [Region.wanted, yielded, hgd, undef])]
                        exact hK undef W hG (Below.refl _ _) rfl (fun h => by cases h)
                      · refine stepJ_any rfl fun ac W hAA hG hDD K hK => ?_
                        have hgd := hDD.get 13 66 _ rfl rfl (by kernel_rfl)
                        have hgd := slot_undef hgd
                        rw [if_neg (by rcases hgd with hgd | hgd <;> simp [Region.wanted, yielded, hgd, undef])]
                        exact hK undef W hG (Below.refl _ _) rfl (fun h => by cases h)
                      · refine stepJ_any rfl fun ac W hAA hG hDD K hK => ?_
                        have hgd := hDD.get 13 66 _ rfl rfl (by kernel_rfl)
                        have hgd := slot_undef hgd
                        rw [if_neg (by rcases hgd with hgd | hgd <;> simp [Region.wanted, yielded, hgd, undef])]
                        exact hK undef W hG (Below.refl _ _) rfl (fun h => by cases h)
                      · refine stepJ_any rfl fun ac W hAA hG hDD K hK => ?_
                        have hgd := hDD.get 13 66 _ rfl rfl (by kernel_rfl)
                        have hgd := slot_undef hgd
                        rw [if_neg (by rcases hgd with hgd | hgd <;> simp [Region.wanted, yielded, hgd, undef])]
                        exact hK undef W hG (Below.refl _ _) rfl (fun h => by cases h)
                      · refine stepJ_any rfl fun ac W hAA hG hDD K hK => ?_
                        have hgd := hDD.get 13 66 _ rfl rfl (by kernel_rfl)
                        have hgd := slot_undef hgd
                        rw [if_neg (by rcases hgd with hgd | hgd <;> simp [Region.wanted, yielded, hgd, undef])]
                        exact hK undef W hG (Below.refl _ _) rfl (fun h => by cases h)
                      · refine stepJ_any rfl fun ac W hAA hG hDD K hK => ?_
                        have hgd := hDD.get 13 66 _ rfl rfl (by kernel_rfl)
                        have hgd := slot_undef hgd
                        rw [if_neg (by rcases hgd with hgd | hgd <;> simp [Region.wanted, yielded, hgd, undef])]
                        exact hK undef W hG (Below.refl _ _) rfl (fun h => by cases h)
                      · refine stepJ_any rfl fun ac W hAA hG hDD K hK => ?_
                        have hgd := hDD.get 13 66 _ rfl rfl (by kernel_rfl)
                        have hgd := slot_undef hgd
                        rw [if_neg (by rcases hgd with hgd | hgd <;> simp [Region.wanted, yielded, hgd, undef])]
                        exact hK undef W hG (Below.refl _ _) rfl (fun h => by cases h)
                      · refine stepJ_any rfl fun ac W hAA hG hDD K hK => ?_
                        have hgd := hDD.get 13 66 _ rfl rfl (by kernel_rfl)
                        have hgd := slot_undef hgd
                        rw [if_neg (by rcases hgd with hgd | hgd <;> simp [Region.wanted, yielded, hgd, undef])]
                        exact hK undef W hG (Below.refl _ _) rfl (fun h => by cases h)
                      · refine stepJ_any rfl fun ac W hAA hG hDD K hK => ?_
                        have hgd := hDD.get 13 66 _ rfl rfl (by kernel_rfl)
                        have hgd := slot_undef hgd
                        rw [if_neg (by rcases hgd with hgd | hgd <;> simp [Region.wanted, yielded, hgd, undef])]
                        exact hK undef W hG (Below.refl _ _) rfl (fun h => by cases h)
                      · refine stepJ_any rfl fun ac W hAA hG hDD K hK => ?_
                        have hgd := hDD.get 24 77 _ rfl rfl (by kernel_rfl)
                        have hgd := slot_undef hgd
                        rw [if_neg (by rcases hgd with hgd | hgd <;> simp [Region.wanted, yielded, hgd, undef])]
                        exact hK undef W hG (Below.refl _ _) rfl (fun h => by cases h)
                      · refine stepJ_any rfl fun ac W hAA hG hDD K hK => ?_
                        have hgd := hDD.get 24 77 _ rfl rfl (by kernel_rfl)
                        have hgd := slot_undef hgd
                        rw [if_neg (by rcases hgd with hgd | hgd <;> simp [Region.wanted, yielded, hgd, undef])]
                        exact hK undef W hG (Below.refl _ _) rfl (fun h => by cases h)
                      · refine stepJ_any rfl fun ac W hAA hG hDD K hK => ?_
                        have hgd := hDD.get 24 77 _ rfl rfl (by kernel_rfl)
                        have hgd := slot_undef hgd
                        rw [if_neg (by rcases hgd with hgd | hgd <;> simp [Region.wanted, yielded, hgd, undef])]
                        exact hK undef W hG (Below.refl _ _) rfl (fun h => by cases h)
                      · refine stepJ_any rfl fun ac W hAA hG hDD K hK => ?_
                        have hgd := hDD.get 24 77 _ rfl rfl (by kernel_rfl)
                        have hgd := slot_undef hgd
                        rw [if_neg (by rcases hgd with hgd | hgd <;> simp [Region.wanted, yielded, hgd, undef])]
                        exact hK undef W hG (Below.refl _ _) rfl (fun h => by cases h)
                      · refine stepJ_any rfl fun ac W hAA hG hDD K hK => ?_
                        have hgd := hDD.get 24 77 _ rfl rfl (by kernel_rfl)
                        have hgd := slot_undef hgd
                        rw [if_neg (by rcases hgd with hgd | hgd <;> simp [Region.wanted, yielded, hgd, undef])]
                        exact hK undef W hG (Below.refl _ _) rfl (fun h => by cases h)
                      · refine stepJ_any rfl fun ac W hAA hG hDD K hK => ?_
                        have hgd := hDD.get 24 77 _ rfl rfl (by kernel_rfl)
                        have hgd := slot_undef hgd
                        rw [if_neg (by rcases hgd with hgd | hgd <;> simp [Region.wanted, yielded, hgd, undef])]
                        exact hK undef W hG (Below.refl _ _) rfl (fun h => by cases h)
                      · refine stepJ_any rfl fun ac W hAA hG hDD K hK => ?_
                        have hgd := hDD.get 24 77 _ rfl rfl (by kernel_rfl)
                        have hgd := slot_undef hgd
                        rw [if_neg (by rcases hgd with hgd | hgd <;> simp [Region.wanted, yielded, hgd, undef])]
                        exact hK undef W hG (Below.refl _ _) rfl (fun h => by cases h)
                      · refine stepJ_any rfl fun ac W hAA hG hDD K hK => ?_
                        have hgd := hDD.get 24 77 _ rfl rfl (by kernel_rfl)
                        have hgd := slot_undef hgd
                        rw [if_neg (by rcases hgd with hgd | hgd <;> simp [Region.wanted, yielded, hgd, undef])]
                        exact hK undef W hG (Below.refl _ _) rfl (fun h => by cases h)
                      · refine stepJ_any rfl fun ac W hAA hG hDD K hK => ?_
                        have hgd := hDD.get 24 77 _ rfl rfl (by kernel_rfl)
                        have hgd := slot_undef hgd
                        rw [if_neg (by rcases hgd with hgd | hgd <;> simp [Region.wanted, yielded, hgd, undef])]
                        exact hK undef W hG (Below.refl _ _) rfl (fun h => by cases h)
                      · refine stepJ_any rfl fun ac W hAA hG hDD K hK => ?_
                        have hgd := hDD.get 24 77 _ rfl rfl (by kernel_rfl)
                        have hgd := slot_undef hgd
                        rw [if_neg (by rcases hgd with hgd | hgd <;> simp [Region.wanted, yielded, hgd, undef])]
                        exact hK undef W hG (Below.refl _ _) rfl (fun h => by cases h)
                      · refine stepJ_any rfl fun ac W hAA hG hDD K hK => ?_
                        have hgd := hDD.get 13 66 _ rfl rfl (by kernel_rfl)
                        have hgd := slot_undef hgd
                        rw [if_neg (by rcases hgd with hgd | hgd <;> simp [Region.wanted, yielded, hgd, undef])]
                        exact hK undef W hG (Below.refl _ _) rfl (fun h => by cases h)
                      · refine stepJ_any rfl fun ac W hAA hG hDD K hK => ?_
                        have hgd := hDD.get 2 55 _ rfl rfl (by kernel_rfl)
                        have hgd := slot_bool hgd
                        rw [if_neg (by simp [Region.wanted, yielded, hgd])]
                        exact hK undef W hG (Below.refl _ _) rfl (fun h => by cases h)
                      · refine stepJ_any rfl fun ac W hAA hG hDD K hK => ?_
                        have h55 := hDD.get 2 55 _ rfl rfl (by kernel_rfl)
                        have h89 := hDD.get 36 89 _ rfl rfl (by kernel_rfl)
                        simp only [Array.getD_eq_getD_getElem?] at h55 h89
                        rw [if_pos (by rfl)]
                        exact wp_val (v := .bool false) (w' := W) (by simp [execOp, Act.eval, h55, h89, go_sem]) (hK _ _ hG (Below.refl _ _) rfl (fun h => by cases h))
                    intro fu T W9 hG hF hne hltb
                    have e53 : T 53 = .int .i64 (q : Int) := hF 0 _ rfl (by omega)
                    have e54 : T 54 = .bool false := hF 1 _ rfl (by omega)
                    have e55 : T 55 = .bool false := hF 2 _ rfl (by omega)
                    have e56 : T 56 = undef := hF 3 _ rfl (by omega)
                    have e57 : T 57 = undef := hF 4 _ rfl (by omega)
                    have e58 : T 58 = undef := hF 5 _ rfl (by omega)
                    have e59 : T 59 = undef := hF 6 _ rfl (by omega)
                    have e60 : T 60 = undef := hF 7 _ rfl (by omega)
                    have e61 : T 61 = undef := hF 8 _ rfl (by omega)
                    have e62 : T 62 = undef := hF 9 _ rfl (by omega)
                    have e63 : T 63 = undef := hF 10 _ rfl (by omega)
                    have e64 : T 64 = undef := hF 11 _ rfl (by omega)
                    have e65 : T 65 = undef := hF 12 _ rfl (by omega)
                    have e66 : T 66 = undef := hF 13 _ rfl (by omega)
                    have e67 : T 67 = undef := hF 14 _ rfl (by omega)
                    have e68 : T 68 = undef := hF 15 _ rfl (by omega)
                    have e69 : T 69 = undef := hF 16 _ rfl (by omega)
                    have e70 : T 70 = undef := hF 17 _ rfl (by omega)
                    have e71 : T 71 = undef := hF 18 _ rfl (by omega)
                    have e72 : T 72 = undef := hF 19 _ rfl (by omega)
                    have e73 : T 73 = undef := hF 20 _ rfl (by omega)
                    have e74 : T 74 = undef := hF 21 _ rfl (by omega)
                    have e75 : T 75 = undef := hF 22 _ rfl (by omega)
                    have e76 : T 76 = undef := hF 23 _ rfl (by omega)
                    have e77 : T 77 = undef := hF 24 _ rfl (by omega)
                    have e78 : T 78 = undef := hF 25 _ rfl (by omega)
                    have e79 : T 79 = undef := hF 26 _ rfl (by omega)
                    have e80 : T 80 = undef := hF 27 _ rfl (by omega)
                    have e81 : T 81 = undef := hF 28 _ rfl (by omega)
                    have e82 : T 82 = undef := hF 29 _ rfl (by omega)
                    have e83 : T 83 = undef := hF 30 _ rfl (by omega)
                    have e84 : T 84 = undef := hF 31 _ rfl (by omega)
                    have e85 : T 85 = undef := hF 32 _ rfl (by omega)
                    have e86 : T 86 = undef := hF 33 _ rfl (by omega)
                    have e87 : T 87 = undef := hF 34 _ rfl (by omega)
                    have e88 : T 88 = undef := hF 35 _ rfl (by omega)
                    have e89 : T 89 = undef := hF 36 _ rfl (by omega)
                    have e90 : T 90 = .bool false := hF 37 _ rfl (by omega)
                    clear hF hne hltb
                    simp only [List.take, fillT, List.setIfInBounds_toArray, List.set_cons_zero, List.set_cons_succ, e53, e54, e55, e56, e57, e58, e59, e60, e61, e62, e63, e64, e65, e66, e67, e68, e69, e70, e71, e72, e73, e74, e75, e76, e77, e78, e79, e80, e81, e82, e83, e84, e85, e86, e87, e88, e89, e90]
                    clear e53 e54 e55 e56 e57 e58 e59 e60 e61 e62 e63 e64 e65 e66 e67 e68 e69 e70 e71 e72 e73 e74 e75 e76 e77 e78 e79 e80 e81 e82 e83 e84 e85 e86 e87 e88 e89 e90
                    refine wpAny_done (by kernel_rfl) ?_ _
                    go_wp2_with fail
                    go_roundw
                    case rel => exact ⟨q + 1, by omega, by go_num, hnx.out, hfin.out.trans (hG.mono (by omega))⟩
                    case measure => simp [intOf]; omega
                  · obtain ⟨m, hm1⟩ : ∃ m, q = m + 1 := ⟨q - 1, by omega⟩
                    obtain ⟨b2, off2, e2, hs2, hd0, hd1, hI2⟩ := ((hh.out.ap.keep (Kept.below (hB.out.mono hBw))).keep (Kept.below (hbx.out.mono (by omega)))).at_ (i := m) (by omega)
                    simp only [Option.some.injEq, Addr.mk.injEq, and_true] at e2
                    obtain ⟨rfl, rfl⟩ := e2
                    obtain ⟨y, hy⟩ : ∃ y, y = n.ap[m] := ⟨_, rfl⟩
                    have hyd : n.ap.getD (q - 1) (0, 0) = y := by rw [hy, show q - 1 = m by omega]; simp [List.getD, show m < n.ap.length by omega]
                    rw [← hy] at hd0 hd1
                    clear hy hI2
                    have hk0 := Lib.hid (show 0 < q by omega)
                    have hks := Lib.hid (show IntKind.i64.wrap ((q : Int) - 1) = (m : Int) by rw [IntWalk.i64_in _ (by omega)]; omega)
                    have hix := Lib.hid (show m < n.ap.length by omega)
                    have hY : Hid (∀ W, Below V.heap.size V W → W.cell? ⟨b, off + m * 2, none⟩ = some (.int .i64 y.1) ∧ W.cell? ⟨b, off + m * 2 + 1, none⟩ = some (.int .i64 y.2)) := fun W hW => by
                      have hbV := hVb.trans (hW.mono (by omega))
                      exact ⟨(hbV.cell (p := ⟨b, off + m * 2, none⟩) (by simp; omega)).trans hd0, (hbV.cell (p := ⟨b, off + m * 2 + 1, none⟩) (by simp; omega)).trans hd1⟩
                    have hqq := Lib.hid (show apAt n.ap q = ltP y n.ap[q] by rw [hqe.out, hok.out, hyd, decide_eq_false (show ¬ q = 0 by omega)]; rfl)
                    have hlp := Lib.hid (show ltP y n.ap[q] = (decide (y.1 < n.ap[q].1) || (decide (y.1 = n.ap[q].1) && decide (y.2 < n.ap[q].2))) from rfl)
                    clear hqe hkp hok hyd hall hd0 hd1 hm1
                    generalize n.ap[q].1 = x0 at *
                    generalize n.ap[q].2 = x1 at *
                    by_cases c1 : x0 < y.1
                    · have f1 := Lib.hid c1
                      have hv := Lib.hid (nchk_no (ntB_ap (ho.out (by rw [hqq.out, hlp.out, decide_eq_false (show ¬ y.1 < x0 by omega), decide_eq_false (show ¬ y.1 = x0 by omega)]; rfl))))
                      clear hqq hlp hn ho
                      go_wp2_with fail
                      rw [← hV]
                      clear hV
                      refine wp_region_pre 38 0 (fun W => Below V.heap.size V W) (fun W W' => Below W.heap.size W W')
                        (fun i v W => match i with
                          | 0 => v = .int .i64 (q : Int)
                          | 1 => v = .bool true
                          | 2 => v = .bool true
                          | 3 => v = .pointer (some ⟨wr.heap.size, 0, none⟩)
                          | 4 => v = .int .i64 x0
                          | 5 => v = .pointer (some ⟨w.heap.size, 1, none⟩)
                          | 6 => v = .slice (some ⟨b, off, none⟩) n.ap.length c'
                          | 7 => v = .int .i64 (q : Int)
                          | 8 => v = .int .i64 (m : Int)
                          | 9 => v = .pointer (some ⟨b, off + m * 2, none⟩)
                          | 10 => v = .pointer (some ⟨b, off + m * 2, none⟩)
                          | 11 => v = .int .i64 y.1
                          | 12 => v = .bool true
                          | 13 => v = .bool true
                          | 14 => v = undef
                          | 15 => v = undef
                          | 16 => v = undef
                          | 17 => v = undef
                          | 18 => v = undef
                          | 19 => v = undef
                          | 20 => v = undef
                          | 21 => v = undef
                          | 22 => v = undef
                          | 23 => v = undef
                          | 24 => v = undef
                          | 25 => v = undef
                          | 26 => v = undef
                          | 27 => v = undef
                          | 28 => v = undef
                          | 29 => v = undef
                          | 30 => v = undef
                          | 31 => v = undef
                          | 32 => v = undef
                          | 33 => v = undef
                          | 34 => v = undef
                          | 35 => v = undef
                          | 36 => v = .bool true
                          | 37 => v = .bool true
                          | _ => True) (fun _ => false)
                        (by kernel_rfl) (by kernel_rfl) (by kernel_rfl) (by kernel_rfl) (by kernel_rfl) (by kernel_rfl) (by kernel_rfl) ?_ (fun _ _ h => h.size) (dN (Below.refl _ _) 1) ?_ ?_
                      · intro i v W W' hb hF
                        match i, hF with
                        | 0, h => exact h
                        | 1, h => exact h
                        | 2, h => exact h
                        | 3, h => exact h
                        | 4, h => exact h
                        | 5, h => exact h
                        | 6, h => exact h
                        | 7, h => exact h
                        | 8, h => exact h
                        | 9, h => exact h
                        | 10, h => exact h
                        | 11, h => exact h
                        | 12, h => exact h
                        | 13, h => exact h
                        | 14, h => exact h
                        | 15, h => exact h
                        | 16, h => exact h
                        | 17, h => exact h
                        | 18, h => exact h
                        | 19, h => exact h
                        | 20, h => exact h
                        | 21, h => exact h
                        | 22, h => exact h
                        | 23, h => exact h
                        | 24, h => exact h
                        | 25, h => exact h
                        | 26, h => exact h
                        | 27, h => exact h
                        | 28, h => exact h
                        | 29, h => exact h
                        | 30, h => exact h
                        | 31, h => exact h
                        | 32, h => exact h
                        | 33, h => exact h
                        | 34, h => exact h
                        | 35, h => exact h
                        | 36, h => exact h
                        | 37, h => exact h
                        | _ + 38, _ => trivial
                      · refine ⟨?_, ?_, ?_, ?_, ?_, ?_, ?_, ?_, ?_, ?_, ?_, ?_, ?_, ?_, ?_, ?_, ?_, ?_, ?_, ?_, ?_, ?_, ?_, ?_, ?_, ?_, ?_, ?_, ?_, ?_, ?_, ?_, ?_, ?_, ?_, ?_, ?_, ?_, trivial⟩
                        · refine stepJ_any rfl fun ac W hAA hG hDD K hK => ?_
                          have h4 := hAA.getD (t := 4) (by kernel_rfl)
                          simp only [Array.getD_eq_getD_getElem?] at h4
                          rw [if_pos (by rfl)]
                          exact wp_val (v := .int .i64 (q : Int)) (w' := W) (by simp [execOp, Act.eval, h4, go_sem]) (hK _ _ hG (Below.refl _ _) rfl (fun h => by cases h))
                        · refine stepJ_any rfl fun ac W hAA hG hDD K hK => ?_
                          have h53 := hDD.get 0 53 _ rfl rfl (by kernel_rfl)
                          simp only [Array.getD_eq_getD_getElem?] at h53
                          have hk0 := hk0.out
                          rw [if_pos (by rfl)]
                          exact wp_val (v := .bool true) (w' := W) (by simp [execOp, Act.eval, h53, go_sem, hk0]) (hK _ _ hG (Below.refl _ _) rfl (fun h => by cases h))
                        · refine stepJ_any rfl fun ac W hAA hG hDD K hK => ?_
                          have h54 := hDD.get 1 54 _ rfl rfl (by kernel_rfl)
                          simp only [Array.getD_eq_getD_getElem?] at h54
                          rw [if_pos (by rfl)]
                          exact wp_val (v := .bool true) (w' := W) (by simp [execOp, Act.eval, h54, go_sem]) (hK _ _ hG (Below.refl _ _) rfl (fun h => by cases h))
                        · refine stepJ_any rfl fun ac W hAA hG hDD K hK => ?_
                          have h5 := hAA.getD (t := 5) (by kernel_rfl)
                          have hgd := hDD.get 2 55 _ rfl rfl (by kernel_rfl)
                          have hgd := slot_bool hgd
                          simp only [Array.getD_eq_getD_getElem?] at h5
                          rw [if_pos (by simp [Region.wanted, yielded, hgd])]
                          exact wp_val (v := .pointer (some ⟨wr.heap.size, 0, none⟩)) (w' := W) (by simp [execOp, Act.eval, h5, go_sem]) (hK _ _ hG (Below.refl _ _) rfl (fun h => by cases h))
                        · refine stepJ_any rfl fun ac W hAA hG hDD K hK => ?_
                          have h56 := hDD.get 3 56 _ rfl rfl (by kernel_rfl)
                          have hgd := hDD.get 2 55 _ rfl rfl (by kernel_rfl)
                          have hgd := slot_bool hgd
                          simp only [Array.getD_eq_getD_getElem?] at h56
                          obtain ⟨⟨k0, k1⟩, k2⟩ := hL.out W hG
                          rw [if_pos (by simp [Region.wanted, yielded, hgd])]
                          exact wp_val (v := .int .i64 x0) (w' := W) (by simp [execOp, Act.eval, h56, go_sem, k0]) (hK _ _ hG (Below.refl _ _) rfl (fun h => by cases h))
                        · refine stepJ_any rfl fun ac W hAA hG hDD K hK => ?_
                          have h1 := hAA.getD (t := 1) (by kernel_rfl)
                          have hgd := hDD.get 2 55 _ rfl rfl (by kernel_rfl)
                          have hgd := slot_bool hgd
                          simp only [Array.getD_eq_getD_getElem?] at h1
                          rw [if_pos (by simp [Region.wanted, yielded, hgd])]
                          exact wp_val (v := .pointer (some ⟨w.heap.size, 1, none⟩)) (w' := W) (by simp [execOp, Act.eval, h1, go_sem]) (hK _ _ hG (Below.refl _ _) rfl (fun h => by cases h))
                        · refine stepJ_any rfl fun ac W hAA hG hDD K hK => ?_
                          have h58 := hDD.get 5 58 _ rfl rfl (by kernel_rfl)
                          have hgd := hDD.get 2 55 _ rfl rfl (by kernel_rfl)
                          have hgd := slot_bool hgd
                          simp only [Array.getD_eq_getD_getElem?] at h58
                          obtain ⟨⟨k0, k1⟩, k2⟩ := hL.out W hG
                          rw [if_pos (by simp [Region.wanted, yielded, hgd])]
                          exact wp_val (v := .slice (some ⟨b, off, none⟩) n.ap.length c') (w' := W) (by simp [execOp, Act.eval, h58, go_sem, k2]) (hK _ _ hG (Below.refl _ _) rfl (fun h => by cases h))
                        · refine stepJ_any rfl fun ac W hAA hG hDD K hK => ?_
                          have h4 := hAA.getD (t := 4) (by kernel_rfl)
                          have hgd := hDD.get 2 55 _ rfl rfl (by kernel_rfl)
                          have hgd := slot_bool hgd
                          simp only [Array.getD_eq_getD_getElem?] at h4
                          rw [if_pos (by simp [Region.wanted, yielded, hgd])]
                          exact wp_val (v := .int .i64 (q : Int)) (w' := W) (by simp [execOp, Act.eval, h4, go_sem]) (hK _ _ hG (Below.refl _ _) rfl (fun h => by cases h))
                        · refine stepJ_any rfl fun ac W hAA hG hDD K hK => ?_
                          have h60 := hDD.get 7 60 _ rfl rfl (by kernel_rfl)
                          have hgd := hDD.get 2 55 _ rfl rfl (by kernel_rfl)
                          have hgd := slot_bool hgd
                          simp only [Array.getD_eq_getD_getElem?] at h60
                          have hks := hks.out
                          rw [if_pos (by simp [Region.wanted, yielded, hgd])]
                          exact wp_val (v := .int .i64 (m : Int)) (w' := W) (by simp [execOp, Act.eval, h60, go_sem, hks]) (hK _ _ hG (Below.refl _ _) rfl (fun h => by cases h))
                        · refine stepJ_any rfl fun ac W hAA hG hDD K hK => ?_
                          have h59 := hDD.get 6 59 _ rfl rfl (by kernel_rfl)
                          have h61 := hDD.get 8 61 _ rfl rfl (by kernel_rfl)
                          have hgd := hDD.get 2 55 _ rfl rfl (by kernel_rfl)
                          have hgd := slot_bool hgd
                          simp only [Array.getD_eq_getD_getElem?] at h59 h61
                          have hix := hix.out
                          rw [if_pos (by simp [Region.wanted, yielded, hgd])]
                          exact wp_val (v := .pointer (some ⟨b, off + m * 2, none⟩)) (w' := W) (by simp [execOp, Act.eval, h59, h61, go_sem, hix]) (hK _ _ hG (Below.refl _ _) rfl (fun h => by cases h))
                        · refine stepJ_any rfl fun ac W hAA hG hDD K hK => ?_
                          have h62 := hDD.get 9 62 _ rfl rfl (by kernel_rfl)
                          have hgd := hDD.get 2 55 _ rfl rfl (by kernel_rfl)
                          have hgd := slot_bool hgd
                          simp only [Array.getD_eq_getD_getElem?] at h62
                          rw [if_pos (by simp [Region.wanted, yielded, hgd])]
                          exact wp_val (v := .pointer (some ⟨b, off + m * 2, none⟩)) (w' := W) (by simp [execOp, Act.eval, h62, go_sem]) (hK _ _ hG (Below.refl _ _) rfl (fun h => by cases h))
                        · refine stepJ_any rfl fun ac W hAA hG hDD K hK => ?_
                          have h63 := hDD.get 10 63 _ rfl rfl (by kernel_rfl)
                          have hgd := hDD.get 2 55 _ rfl rfl (by kernel_rfl)
                          have hgd := slot_bool hgd
                          simp only [Array.getD_eq_getD_getElem?] at h63
                          obtain ⟨k0, k1⟩ := hY.out W hG
                          rw [if_pos (by simp [Region.wanted, yielded, hgd])]
                          exact wp_val (v := .int .i64 y.1) (w' := W) (by simp [execOp, Act.eval, h63, go_sem, k0]) (hK _ _ hG (Below.refl _ _) rfl (fun h => by cases h))
                        · refine stepJ_any rfl fun ac W hAA hG hDD K hK => ?_
                          have h57 := hDD.get 4 57 _ rfl rfl (by kernel_rfl)
                          have h64 := hDD.get 11 64 _ rfl rfl (by kernel_rfl)
                          have hgd := hDD.get 2 55 _ rfl rfl (by kernel_rfl)
                          have hgd := slot_bool hgd
                          simp only [Array.getD_eq_getD_getElem?] at h57 h64
                          have f1 := f1.out
                          rw [if_pos (by simp [Region.wanted, yielded, hgd])]
                          exact wp_val (v := .bool true) (w' := W) (by simp [execOp, Act.eval, h57, h64, go_sem, f1]) (hK _ _ hG (Below.refl _ _) rfl (fun h => by cases h))
                        · refine stepJ_any rfl fun ac W hAA hG hDD K hK => ?_
                          have h65 := hDD.get 12 65 _ rfl rfl (by kernel_rfl)
                          have hgd := hDD.get 2 55 _ rfl rfl (by kernel_rfl)
                          have hgd := slot_bool hgd
                          simp only [Array.getD_eq_getD_getElem?] at h65
                          rw [if_pos (by simp [Region.wanted, yielded, hgd])]
                          exact wp_val (v := .bool true) (w' := W) (by simp [execOp, Act.eval, h65, go_sem]) (hK _ _ hG (Below.refl _ _) rfl (fun h => by cases h))
                        · refine stepJ_any rfl fun ac W hAA hG hDD K hK => ?_
                          have hgd := hDD.get 13 66 _ rfl rfl (by kernel_rfl)
                          have hgd := slot_bool hgd
                          rw [if_neg (by simp [Region.wanted, yielded, hgd])]
                          exact hK undef W hG (Below.refl _ _) rfl (fun h => by cases h)
                        · refine stepJ_any rfl fun ac W hAA hG hDD K hK => ?_
                          have hgd := hDD.get 13 66 _ rfl rfl (by kernel_rfl)
                          have hgd := slot_bool hgd
                          rw [if_neg (by simp [Region.wanted, yielded, hgd])]
                          exact hK undef W hG (Below.refl _ _) rfl (fun h => by cases h)
                        · refine stepJ_any rfl fun ac W hAA hG hDD K hK => ?_
                          have hgd := hDD.get 13 66 _ rfl rfl (by kernel_rfl)
                          have hgd := slot_bool hgd
                          rw [if_neg (by simp [Region.wanted, yielded, hgd])]
                          exact hK undef W hG (Below.refl _ _) rfl (fun h => by cases h)
                        · refine stepJ_any rfl fun ac W hAA hG hDD K hK => ?_
                          have hgd := hDD.get 13 66 _ rfl rfl (by kernel_rfl)
                          have hgd := slot_bool hgd
                          rw [if_neg (by simp [Region.wanted, yielded, hgd])]
                          exact hK undef W hG (Below.refl _ _) rfl (fun h => by cases h)
                        · refine stepJ_any rfl fun ac W hAA hG hDD K hK => ?_
                          have hgd := hDD.get 13 66 _ rfl rfl (by kernel_rfl)
                          have hgd := slot_bool hgd
                          rw [if_neg (by simp [Region.wanted, yielded, hgd])]
                          exact hK undef W hG (Below.refl _ _) rfl (fun h => by cases h)
                        · refine stepJ_any rfl fun ac W hAA hG hDD K hK => ?_
                          have hgd := hDD.get 13 66 _ rfl rfl (by kernel_rfl)
                          have hgd := slot_bool hgd
                          rw [if_neg (by simp [Region.wanted, yielded, hgd])]
                          exact hK undef W hG (Below.refl _ _) rfl (fun h => by cases h)
                        · refine stepJ_any rfl fun ac W hAA hG hDD K hK => ?_
                          have hgd := hDD.get 13 66 _ rfl rfl (by kernel_rfl)
                          have hgd := slot_bool hgd
                          rw [if_neg (by simp [Region.wanted, yielded, hgd])]
                          exact hK undef W hG (Below.refl _ _) rfl (fun h => by cases h)
                        · refine stepJ_any rfl fun ac W hAA hG hDD K hK => ?_
                          have hgd := hDD.get 13 66 _ rfl rfl (by kernel_rfl)
                          have hgd := slot_bool hgd
                          rw [if_neg (by simp [Region.wanted, yielded, hgd])]
                          exact hK undef W hG (Below.refl _ _) rfl (fun h => by cases h)
                        · refine stepJ_any rfl fun ac W hAA hG hDD K hK => ?_
                          have hgd := hDD.get 13 66 _ rfl rfl (by kernel_rfl)
                          have hgd := slot_bool hgd
                          rw [if_neg (by simp [Region.wanted, yielded, hgd])]
                          exact hK undef W hG (Below.refl _ _) rfl (fun h => by cases h)
                        · refine stepJ_any rfl fun ac W hAA hG hDD K hK => ?_
                          have hgd := hDD.get 13 66 _ rfl rfl (by kernel_rfl)
                          have hgd := slot_bool hgd
                          rw [if_neg (by simp [Region.wanted, yielded, hgd])]
                          exact hK undef W hG (Below.refl _ _) rfl (fun h => by cases h)
                        · refine stepJ_any rfl fun ac W hAA hG hDD K hK => ?_
                          have hgd := hDD.get 13 66 _ rfl rfl (by kernel_rfl)
                          have hgd := slot_bool hgd
                          rw [if_neg (by simp [Region.wanted, yielded, hgd])]
                          exact hK undef W hG (Below.refl _ _) rfl (fun h => by cases h)
                        · refine stepJ_any rfl fun ac W hAA hG hDD K hK => ?_
                          have hgd := hDD.get 24 77 _ rfl rfl (by kernel_rfl)
                          have hgd := slot_undef hgd
                          rw [if_neg (by rcases hgd with hgd | hgd <;> simp [Region.wanted, yielded, hgd, undef])]
                          exact hK undef W hG (Below.refl _ _) rfl (fun h => by cases h)
                        · refine stepJ_any rfl fun ac W hAA hG hDD K hK => ?_
                          have hgd := hDD.get 24 77 _ rfl rfl (by kernel_rfl)
                          have hgd := slot_undef hgd
                          rw [if_neg (by rcases hgd with hgd | hgd <;> simp [Region.wanted, yielded, hgd, undef])]
                          exact hK undef W hG (Below.refl _ _) rfl (fun h => by cases h)
                        · refine stepJ_any rfl fun ac W hAA hG hDD K hK => ?_
                          have hgd := hDD.get 24 77 _ rfl rfl (by kernel_rfl)
                          have hgd := slot_undef hgd
                          rw [if_neg (by rcases hgd with hgd | hgd <;> simp [Region.wanted, yielded, hgd, undef])]
                          exact hK undef W hG (Below.refl _ _) rfl (fun h => by cases h)
                        · refine stepJ_any rfl fun ac W hAA hG hDD K hK => ?_
                          have hgd := hDD.get 24 77 _ rfl rfl (by kernel_rfl)
                          have hgd := slot_undef hgd
                          rw [if_neg (by rcases hgd with hgd | hgd <;> simp [Region.wanted, yielded, hgd, undef])]
                          exact hK undef W hG (Below.refl _ _) rfl (fun h => by cases h)
                        · refine stepJ_any rfl fun ac W hAA hG hDD K hK => ?_
                          have hgd := hDD.get 24 77 _ rfl rfl (by kernel_rfl)
                          have hgd := slot_undef hgd
                          rw [if_neg (by rcases hgd with hgd | hgd <;> simp [Region.wanted, yielded, hgd, undef])]
                          exact hK undef W hG (Below.refl _ _) rfl (fun h => by cases h)
                        · refine stepJ_any rfl fun ac W hAA hG hDD K hK => ?_
                          have hgd := hDD.get 24 77 _ rfl rfl (by kernel_rfl)
                          have hgd := slot_undef hgd
                          rw [if_neg (by rcases hgd with hgd | hgd <;> simp [Region.wanted, yielded, hgd, undef])]
                          exact hK undef W hG (Below.refl _ _) rfl (fun h => by cases h)
                        · refine stepJ_any rfl fun ac W hAA hG hDD K hK => ?_
                          have hgd := hDD.get 24 77 _ rfl rfl (by kernel_rfl)
                          have hgd := slot_undef hgd
                          rw [if_neg (by rcases hgd with hgd | hgd <;> simp [Region.wanted, yielded, hgd, undef])]
                          exact hK undef W hG (Below.refl _ _) rfl (fun h => by cases h)
                        · refine stepJ_any rfl fun ac W hAA hG hDD K hK => ?_
                          have hgd := hDD.get 24 77 _ rfl rfl (by kernel_rfl)
                          have hgd := slot_undef hgd
                          rw [if_neg (by rcases hgd with hgd | hgd <;> simp [Region.wanted, yielded, hgd, undef])]
                          exact hK undef W hG (Below.refl _ _) rfl (fun h => by cases h)
                        · refine stepJ_any rfl fun ac W hAA hG hDD K hK => ?_
                          have hgd := hDD.get 24 77 _ rfl rfl (by kernel_rfl)
                          have hgd := slot_undef hgd
                          rw [if_neg (by rcases hgd with hgd | hgd <;> simp [Region.wanted, yielded, hgd, undef])]
                          exact hK undef W hG (Below.refl _ _) rfl (fun h => by cases h)
                        · refine stepJ_any rfl fun ac W hAA hG hDD K hK => ?_
                          have hgd := hDD.get 24 77 _ rfl rfl (by kernel_rfl)
                          have hgd := slot_undef hgd
                          rw [if_neg (by rcases hgd with hgd | hgd <;> simp [Region.wanted, yielded, hgd, undef])]
                          exact hK undef W hG (Below.refl _ _) rfl (fun h => by cases h)
                        · refine stepJ_any rfl fun ac W hAA hG hDD K hK => ?_
                          have hgd := hDD.get 13 66 _ rfl rfl (by kernel_rfl)
                          have hgd := slot_bool hgd
                          rw [if_neg (by simp [Region.wanted, yielded, hgd])]
                          exact hK undef W hG (Below.refl _ _) rfl (fun h => by cases h)
                        · refine stepJ_any rfl fun ac W hAA hG hDD K hK => ?_
                          have h66 := hDD.get 13 66 _ rfl rfl (by kernel_rfl)
                          have h88 := hDD.get 35 88 _ rfl rfl (by kernel_rfl)
                          have hgd := hDD.get 2 55 _ rfl rfl (by kernel_rfl)
                          have hgd := slot_bool hgd
                          simp only [Array.getD_eq_getD_getElem?] at h66 h88
                          rw [if_pos (by simp [Region.wanted, yielded, hgd])]
                          exact wp_val (v := .bool true) (w' := W) (by simp [execOp, Act.eval, h66, h88, go_sem]) (hK _ _ hG (Below.refl _ _) rfl (fun h => by cases h))
                        · refine stepJ_any rfl fun ac W hAA hG hDD K hK => ?_
                          have h55 := hDD.get 2 55 _ rfl rfl (by kernel_rfl)
                          have h89 := hDD.get 36 89 _ rfl rfl (by kernel_rfl)
                          simp only [Array.getD_eq_getD_getElem?] at h55 h89
                          rw [if_pos (by rfl)]
                          exact wp_val (v := .bool true) (w' := W) (by simp [execOp, Act.eval, h55, h89, go_sem]) (hK _ _ hG (Below.refl _ _) rfl (fun h => by cases h))
                      intro fu T W9 hG hF hne hltb
                      have e53 : T 53 = .int .i64 (q : Int) := hF 0 _ rfl (by omega)
                      have e54 : T 54 = .bool true := hF 1 _ rfl (by omega)
                      have e55 : T 55 = .bool true := hF 2 _ rfl (by omega)
                      have e56 : T 56 = .pointer (some ⟨wr.heap.size, 0, none⟩) := hF 3 _ rfl (by omega)
                      have e57 : T 57 = .int .i64 x0 := hF 4 _ rfl (by omega)
                      have e58 : T 58 = .pointer (some ⟨w.heap.size, 1, none⟩) := hF 5 _ rfl (by omega)
                      have e59 : T 59 = .slice (some ⟨b, off, none⟩) n.ap.length c' := hF 6 _ rfl (by omega)
                      have e60 : T 60 = .int .i64 (q : Int) := hF 7 _ rfl (by omega)
                      have e61 : T 61 = .int .i64 (m : Int) := hF 8 _ rfl (by omega)
                      have e62 : T 62 = .pointer (some ⟨b, off + m * 2, none⟩) := hF 9 _ rfl (by omega)
                      have e63 : T 63 = .pointer (some ⟨b, off + m * 2, none⟩) := hF 10 _ rfl (by omega)
                      have e64 : T 64 = .int .i64 y.1 := hF 11 _ rfl (by omega)
                      have e65 : T 65 = .bool true := hF 12 _ rfl (by omega)
                      have e66 : T 66 = .bool true := hF 13 _ rfl (by omega)
                      have e67 : T 67 = undef := hF 14 _ rfl (by omega)
                      have e68 : T 68 = undef := hF 15 _ rfl (by omega)
                      have e69 : T 69 = undef := hF 16 _ rfl (by omega)
                      have e70 : T 70 = undef := hF 17 _ rfl (by omega)
                      have e71 : T 71 = undef := hF 18 _ rfl (by omega)
                      have e72 : T 72 = undef := hF 19 _ rfl (by omega)
                      have e73 : T 73 = undef := hF 20 _ rfl (by omega)
                      have e74 : T 74 = undef := hF 21 _ rfl (by omega)
                      have e75 : T 75 = undef := hF 22 _ rfl (by omega)
                      have e76 : T 76 = undef := hF 23 _ rfl (by omega)
                      have e77 : T 77 = undef := hF 24 _ rfl (by omega)
                      have e78 : T 78 = undef := hF 25 _ rfl (by omega)
                      have e79 : T 79 = undef := hF 26 _ rfl (by omega)
                      have e80 : T 80 = undef := hF 27 _ rfl (by omega)
                      have e81 : T 81 = undef := hF 28 _ rfl (by omega)
                      have e82 : T 82 = undef := hF 29 _ rfl (by omega)
                      have e83 : T 83 = undef := hF 30 _ rfl (by omega)
                      have e84 : T 84 = undef := hF 31 _ rfl (by omega)
                      have e85 : T 85 = undef := hF 32 _ rfl (by omega)
                      have e86 : T 86 = undef := hF 33 _ rfl (by omega)
                      have e87 : T 87 = undef := hF 34 _ rfl (by omega)
                      have e88 : T 88 = undef := hF 35 _ rfl (by omega)
                      have e89 : T 89 = .bool true := hF 36 _ rfl (by omega)
                      have e90 : T 90 = .bool true := hF 37 _ rfl (by omega)
                      clear hF hne hltb
                      simp only [List.take, fillT, List.setIfInBounds_toArray, List.set_cons_zero, List.set_cons_succ, e53, e54, e55, e56, e57, e58, e59, e60, e61, e62, e63, e64, e65, e66, e67, e68, e69, e70, e71, e72, e73, e74, e75, e76, e77, e78, e79, e80, e81, e82, e83, e84, e85, e86, e87, e88, e89, e90]
                      clear e53 e54 e55 e56 e57 e58 e59 e60 e61 e62 e63 e64 e65 e66 e67 e68 e69 e70 e71 e72 e73 e74 e75 e76 e77 e78 e79 e80 e81 e82 e83 e84 e85 e86 e87 e88 e89 e90
                      refine wpAny_done (by kernel_rfl) ?_ _
                      go_wp2_with fail
                      go_ret
                      exact ⟨retI hv.out.symm, unbox (hfin.out.trans (hG.mono (by omega)))⟩
                    · have f1 := Lib.hid c1
                      by_cases c2 : x0 = y.1
                      · have f2 := Lib.hid c2
                        by_cases c3 : x1 ≤ y.2
                        · have f3 := Lib.hid c3
                          have hv := Lib.hid (nchk_no (ntB_ap (ho.out (by rw [hqq.out, hlp.out, decide_eq_false (show ¬ y.1 < x0 by omega), decide_eq_false (show ¬ y.2 < x1 by omega)]; simp))))
                          clear hqq hlp hn ho c2
                          go_wp2_with fail
                          rw [← hV]
                          clear hV
                          refine wp_region_pre 38 0 (fun W => Below V.heap.size V W) (fun W W' => Below W.heap.size W W')
                            (fun i v W => match i with
                              | 0 => v = .int .i64 (q : Int)
                              | 1 => v = .bool true
                              | 2 => v = .bool true
                              | 3 => v = .pointer (some ⟨wr.heap.size, 0, none⟩)
                              | 4 => v = .int .i64 x0
                              | 5 => v = .pointer (some ⟨w.heap.size, 1, none⟩)
                              | 6 => v = .slice (some ⟨b, off, none⟩) n.ap.length c'
                              | 7 => v = .int .i64 (q : Int)
                              | 8 => v = .int .i64 (m : Int)
                              | 9 => v = .pointer (some ⟨b, off + m * 2, none⟩)
                              | 10 => v = .pointer (some ⟨b, off + m * 2, none⟩)
                              | 11 => v = .int .i64 y.1
                              | 12 => v = .bool false
                              | 13 => v = .bool false
                              | 14 => v = .pointer (some ⟨wr.heap.size, 0, none⟩)
                              | 15 => v = .int .i64 x0
                              | 16 => v = .pointer (some ⟨w.heap.size, 1, none⟩)
                              | 17 => v = .slice (some ⟨b, off, none⟩) n.ap.length c'
                              | 18 => v = .int .i64 (q : Int)
                              | 19 => v = .int .i64 (m : Int)
                              | 20 => v = .pointer (some ⟨b, off + m * 2, none⟩)
                              | 21 => v = .pointer (some ⟨b, off + m * 2, none⟩)
                              | 22 => v = .int .i64 y.1
                              | 23 => v = .bool true
                              | 24 => v = .bool true
                              | 25 => v = .pointer (some ⟨wr.heap.size, 1, none⟩)
                              | 26 => v = .int .i64 x1
                              | 27 => v = .pointer (some ⟨w.heap.size, 1, none⟩)
                              | 28 => v = .slice (some ⟨b, off, none⟩) n.ap.length c'
                              | 29 => v = .int .i64 (q : Int)
                              | 30 => v = .int .i64 (m : Int)
                              | 31 => v = .pointer (some ⟨b, off + m * 2, none⟩)
                              | 32 => v = .pointer (some ⟨b, off + m * 2 + 1, none⟩)
                              | 33 => v = .int .i64 y.2
                              | 34 => v = .bool true
                              | 35 => v = .bool true
                              | 36 => v = .bool true
                              | 37 => v = .bool true
                              | _ => True) (fun _ => false)
                            (by kernel_rfl) (by kernel_rfl) (by kernel_rfl) (by kernel_rfl) (by kernel_rfl) (by kernel_rfl) (by kernel_rfl) ?_ (fun _ _ h => h.size) (dN (Below.refl _ _) 1) ?_ ?_
                          · intro i v W W' hb hF
                            match i, hF with
                            | 0, h => exact h
                            | 1, h => exact h
                            | 2, h => exact h
                            | 3, h => exact h
                            | 4, h => exact h
                            | 5, h => exact h
                            | 6, h => exact h
                            | 7, h => exact h
                            | 8, h => exact h
                            | 9, h => exact h
                            | 10, h => exact h
                            | 11, h => exact h
                            | 12, h => exact h
                            | 13, h => exact h
                            | 14, h => exact h
                            | 15, h => exact h
                            | 16, h => exact h
                            | 17, h => exact h
                            | 18, h => exact h
                            | 19, h => exact h
                            | 20, h => exact h
                            | 21, h => exact h
                            | 22, h => exact h
                            | 23, h => exact h
                            | 24, h => exact h
                            | 25, h => exact h
                            | 26, h => exact h
                            | 27, h => exact h
                            | 28, h => exact h
                            | 29, h => exact h
                            | 30, h => exact h
                            | 31, h => exact h
                            | 32, h => exact h
                            | 33, h => exact h
                            | 34, h => exact h
                            | 35, h => exact h
                            | 36, h => exact h
                            | 37, h => exact h
                            | _ + 38, _ => trivial
                          · refine ⟨?_, ?_, ?_, ?_, ?_, ?_, ?_, ?_, ?_, ?_, ?_, ?_, ?_, ?_, ?_, ?_, ?_, ?_, ?_, ?_, ?_, ?_, ?_, ?_, ?_, ?_, ?_, ?_, ?_, ?_, ?_, ?_, ?_, ?_, ?_, ?_, ?_, ?_, trivial⟩
                            · refine stepJ_any rfl fun ac W hAA hG hDD K hK => ?_
                              have h4 := hAA.getD (t := 4) (by kernel_rfl)
                              simp only [Array.getD_eq_getD_getElem?] at h4
                              rw [if_pos (by rfl)]
                              exact wp_val (v := .int .i64 (q : Int)) (w' := W) (by simp [execOp, Act.eval, h4, go_sem]) (hK _ _ hG (Below.refl _ _) rfl (fun h => by cases h))
                            · refine stepJ_any rfl fun ac W hAA hG hDD K hK => ?_
                              have h53 := hDD.get 0 53 _ rfl rfl (by kernel_rfl)
                              simp only [Array.getD_eq_getD_getElem?] at h53
                              have hk0 := hk0.out
                              rw [if_pos (by rfl)]
                              exact wp_val (v := .bool true) (w' := W) (by simp [execOp, Act.eval, h53, go_sem, hk0]) (hK _ _ hG (Below.refl _ _) rfl (fun h => by cases h))
                            · refine stepJ_any rfl fun ac W hAA hG hDD K hK => ?_
                              have h54 := hDD.get 1 54 _ rfl rfl (by kernel_rfl)
                              simp only [Array.getD_eq_getD_getElem?] at h54
                              rw [if_pos (by rfl)]
                              exact wp_val (v := .bool true) (w' := W) (by simp [execOp, Act.eval, h54, go_sem]) (hK _ _ hG (Below.refl _ _) rfl (fun h => by cases h))
                            · refine stepJ_any rfl fun ac W hAA hG hDD K hK => ?_
                              have h5 := hAA.getD (t := 5) (by kernel_rfl)
                              have hgd := hDD.get 2 55 _ rfl rfl (by kernel_rfl)
                              have hgd := slot_bool hgd
                              simp only [Array.getD_eq_getD_getElem?] at h5
                              rw [if_pos (by simp [Region.wanted, yielded, hgd])]
                              exact wp_val (v := .pointer (some ⟨wr.heap.size, 0, none⟩)) (w' := W) (by simp [execOp, Act.eval, h5, go_sem]) (hK _ _ hG (Below.refl _ _) rfl (fun h => by cases h))
                            · refine stepJ_any rfl fun ac W hAA hG hDD K hK => ?_
                              have h56 := hDD.get 3 56 _ rfl rfl (by kernel_rfl)
                              have hgd := hDD.get 2 55 _ rfl rfl (by kernel_rfl)
                              have hgd := slot_bool hgd
                              simp only [Array.getD_eq_getD_getElem?] at h56
                              obtain ⟨⟨k0, k1⟩, k2⟩ := hL.out W hG
                              rw [if_pos (by simp [Region.wanted, yielded, hgd])]
                              exact wp_val (v := .int .i64 x0) (w' := W) (by simp [execOp, Act.eval, h56, go_sem, k0]) (hK _ _ hG (Below.refl _ _) rfl (fun h => by cases h))
                            · refine stepJ_any rfl fun ac W hAA hG hDD K hK => ?_
                              have h1 := hAA.getD (t := 1) (by kernel_rfl)
                              have hgd := hDD.get 2 55 _ rfl rfl (by kernel_rfl)
                              have hgd := slot_bool hgd
                              simp only [Array.getD_eq_getD_getElem?] at h1
                              rw [if_pos (by simp [Region.wanted, yielded, hgd])]
                              exact wp_val (v := .pointer (some ⟨w.heap.size, 1, none⟩)) (w' := W) (by simp [execOp, Act.eval, h1, go_sem]) (hK _ _ hG (Below.refl _ _) rfl (fun h => by cases h))
                            · refine stepJ_any rfl fun ac W hAA hG hDD K hK => ?_
                              have h58 := hDD.get 5 58 _ rfl rfl (by kernel_rfl)
                              have hgd := hDD.get 2 55 _ rfl rfl (by kernel_rfl)
                              have hgd := slot_bool hgd
                              simp only [Array.getD_eq_getD_getElem?] at h58
                              obtain ⟨⟨k0, k1⟩, k2⟩ := hL.out W hG
                              rw [if_pos (by simp [Region.wanted, yielded, hgd])]
                              exact wp_val (v := .slice (some ⟨b, off, none⟩) n.ap.length c') (w' := W) (by simp [execOp, Act.eval, h58, go_sem, k2]) (hK _ _ hG (Below.refl _ _) rfl (fun h => by cases h))
                            · refine stepJ_any rfl fun ac W hAA hG hDD K hK => ?_
                              have h4 := hAA.getD (t := 4) (by kernel_rfl)
                              have hgd := hDD.get 2 55 _ rfl rfl (by kernel_rfl)
                              have hgd := slot_bool hgd
                              simp only [Array.getD_eq_getD_getElem?] at h4
                              rw [if_pos (by simp [Region.wanted, yielded, hgd])]
                              exact wp_val (v := .int .i64 (q : Int)) (w' := W) (by simp [execOp, Act.eval, h4, go_sem]) (hK _ _ hG (Below.refl _ _) rfl (fun h => by cases h))
                            · refine stepJ_any rfl fun ac W hAA hG hDD K hK => ?_
                              have h60 := hDD.get 7 60 _ rfl rfl (by kernel_rfl)
                              have hgd := hDD.get 2 55 _ rfl rfl (by kernel_rfl)
                              have hgd := slot_bool hgd
                              simp only [Array.getD_eq_getD_getElem?] at h60
                              have hks := hks.out
                              rw [if_pos (by simp [Region.wanted, yielded, hgd])]
                              exact wp_val (v := .int .i64 (m : Int)) (w' := W) (by simp [execOp, Act.eval, h60, go_sem, hks]) (hK _ _ hG (Below.refl _ _) rfl (fun h => by cases h))
                            · refine stepJ_any rfl fun ac W hAA hG hDD K hK => ?_
                              have h59 := hDD.get 6 59 _ rfl rfl (by kernel_rfl)
                              have h61 := hDD.get 8 61 _ rfl rfl (by kernel_rfl)
                              have hgd := hDD.get 2 55 _ rfl rfl (by kernel_rfl)
                              have hgd := slot_bool hgd
                              simp only [Array.getD_eq_getD_getElem?] at h59 h61
                              have hix := hix.out
                              rw [if_pos (by simp [Region.wanted, yielded, hgd])]
                              exact wp_val (v := .pointer (some ⟨b, off + m * 2, none⟩)) (w' := W) (by simp [execOp, Act.eval, h59, h61, go_sem, hix]) (hK _ _ hG (Below.refl _ _) rfl (fun h => by cases h))
                            · refine stepJ_any rfl fun ac W hAA hG hDD K hK => ?_
                              have h62 := hDD.get 9 62 _ rfl rfl (by kernel_rfl)
                              have hgd := hDD.get 2 55 _ rfl rfl (by kernel_rfl)
                              have hgd := slot_bool hgd
                              simp only [Array.getD_eq_getD_getElem?] at h62
                              rw [if_pos (by simp [Region.wanted, yielded, hgd])]
                              exact wp_val (v := .pointer (some ⟨b, off + m * 2, none⟩)) (w' := W) (by simp [execOp, Act.eval, h62, go_sem]) (hK _ _ hG (Below.refl _ _) rfl (fun h => by cases h))
                            · refine stepJ_any rfl fun ac W hAA hG hDD K hK => ?_
                              have h63 := hDD.get 10 63 _ rfl rfl (by kernel_rfl)
                              have hgd := hDD.get 2 55 _ rfl rfl (by kernel_rfl)
                              have hgd := slot_bool hgd
                              simp only [Array.getD_eq_getD_getElem?] at h63
                              obtain ⟨k0, k1⟩ := hY.out W hG
                              rw [if_pos (by simp [Region.wanted, yielded, hgd])]
                              exact wp_val (v := .int .i64 y.1) (w' := W) (by simp [execOp, Act.eval, h63, go_sem, k0]) (hK _ _ hG (Below.refl _ _) rfl (fun h => by cases h))
                            · refine stepJ_any rfl fun ac W hAA hG hDD K hK => ?_
                              have h57 := hDD.get 4 57 _ rfl rfl (by kernel_rfl)
                              have h64 := hDD.get 11 64 _ rfl rfl (by kernel_rfl)
                              have hgd := hDD.get 2 55 _ rfl rfl (by kernel_rfl)
                              have hgd := slot_bool hgd
                              simp only [Array.getD_eq_getD_getElem?] at h57 h64
                              have f1 := f1.out
                              rw [if_pos (by simp [Region.wanted, yielded, hgd])]
                              exact wp_val (v := .bool false) (w' := W) (by simp [execOp, Act.eval, h57, h64, go_sem, f1]) (hK _ _ hG (Below.refl _ _) rfl (fun h => by cases h))
                            · refine stepJ_any rfl fun ac W hAA hG hDD K hK => ?_
                              have h65 := hDD.get 12 65 _ rfl rfl (by kernel_rfl)
                              have hgd := hDD.get 2 55 _ rfl rfl (by kernel_rfl)
                              have hgd := slot_bool hgd
                              simp only [Array.getD_eq_getD_getElem?] at h65
                              rw [if_pos (by simp [Region.wanted, yielded, hgd])]
                              exact wp_val (v := .bool false) (w' := W) (by simp [execOp, Act.eval, h65, go_sem]) (hK _ _ hG (Below.refl _ _) rfl (fun h => by cases h))
                            · refine stepJ_any rfl fun ac W hAA hG hDD K hK => ?_
                              have h5 := hAA.getD (t := 5) (by kernel_rfl)
                              have hgd := hDD.get 13 66 _ rfl rfl (by kernel_rfl)
                              have hgd := slot_bool hgd
                              simp only [Array.getD_eq_getD_getElem?] at h5
                              rw [if_pos (by simp [Region.wanted, yielded, hgd])]
                              exact wp_val (v := .pointer (some ⟨wr.heap.size, 0, none⟩)) (w' := W) (by simp [execOp, Act.eval, h5, go_sem]) (hK _ _ hG (Below.refl _ _) rfl (fun h => by cases h))
                            · refine stepJ_any rfl fun ac W hAA hG hDD K hK => ?_
                              have h67 := hDD.get 14 67 _ rfl rfl (by kernel_rfl)
                              have hgd := hDD.get 13 66 _ rfl rfl (by kernel_rfl)
                              have hgd := slot_bool hgd
                              simp only [Array.getD_eq_getD_getElem?] at h67
                              obtain ⟨⟨k0, k1⟩, k2⟩ := hL.out W hG
                              rw [if_pos (by simp [Region.wanted, yielded, hgd])]
                              exact wp_val (v := .int .i64 x0) (w' := W) (by simp [execOp, Act.eval, h67, go_sem, k0]) (hK _ _ hG (Below.refl _ _) rfl (fun h => by cases h))
                            · refine stepJ_any rfl fun ac W hAA hG hDD K hK => ?_
                              have h1 := hAA.getD (t := 1) (by kernel_rfl)
                              have hgd := hDD.get 13 66 _ rfl rfl (by kernel_rfl)
                              have hgd := slot_bool hgd
                              simp only [Array.getD_eq_getD_getElem?] at h1
                              rw [if_pos (by simp [Region.wanted, yielded, hgd])]
                              exact wp_val (v := .pointer (some ⟨w.heap.size, 1, none⟩)) (w' := W) (by simp [execOp, Act.eval, h1, go_sem]) (hK _ _ hG (Below.refl _ _) rfl (fun h => by cases h))
                            · refine stepJ_any rfl fun ac W hAA hG hDD K hK => ?_
                              have h69 := hDD.get 16 69 _ rfl rfl (by kernel_rfl)
                              have hgd := hDD.get 13 66 _ rfl rfl (by kernel_rfl)
                              have hgd := slot_bool hgd
                              simp only [Array.getD_eq_getD_getElem?] at h69
                              obtain ⟨⟨k0, k1⟩, k2⟩ := hL.out W hG
                              rw [if_pos (by simp [Region.wanted, yielded, hgd])]
                              exact wp_val (v := .slice (some ⟨b, off, none⟩) n.ap.length c') (w' := W) (by simp [execOp, Act.eval, h69, go_sem, k2]) (hK _ _ hG (Below.refl _ _) rfl (fun h => by cases h))
                            · refine stepJ_any rfl fun ac W hAA hG hDD K hK => ?_
                              have h4 := hAA.getD (t := 4) (by kernel_rfl)
                              have hgd := hDD.get 13 66 _ rfl rfl (by kernel_rfl)
                              have hgd := slot_bool hgd
                              simp only [Array.getD_eq_getD_getElem?] at h4
                              rw [if_pos (by simp [Region.wanted, yielded, hgd])]
                              exact wp_val (v := .int .i64 (q : Int)) (w' := W) (by simp [execOp, Act.eval, h4, go_sem]) (hK _ _ hG (Below.refl _ _) rfl (fun h => by cases h))
                            · refine stepJ_any rfl fun ac W hAA hG hDD K hK => ?_
                              have h71 := hDD.get 18 71 _ rfl rfl (by kernel_rfl)
                              have hgd := hDD.get 13 66 _ rfl rfl (by kernel_rfl)
                              have hgd := slot_bool hgd
                              simp only [Array.getD_eq_getD_getElem?] at h71
                              have hks := hks.out
                              rw [if_pos (by simp [Region.wanted, yielded, hgd])]
                              exact wp_val (v := .int .i64 (m : Int)) (w' := W) (by simp [execOp, Act.eval, h71, go_sem, hks]) (hK _ _ hG (Below.refl _ _) rfl (fun h => by cases h))
                            · refine stepJ_any rfl fun ac W hAA hG hDD K hK => ?_
                              have h70 := hDD.get 17 70 _ rfl rfl (by kernel_rfl)
                              have h72 := hDD.get 19 72 _ rfl rfl (by kernel_rfl)
                              have hgd := hDD.get 13 66 _ rfl rfl (by kernel_rfl)
                              have hgd := slot_bool hgd
                              simp only [Array.getD_eq_getD_getElem?] at h70 h72
                              have hix := hix.out
                              rw [if_pos (by simp [Region.wanted, yielded, hgd])]
                              exact wp_val (v := .pointer (some ⟨b, off + m * 2, none⟩)) (w' := W) (by simp [execOp, Act.eval, h70, h72, go_sem, hix]) (hK _ _ hG (Below.refl _ _) rfl (fun h => by cases h))
                            · refine stepJ_any rfl fun ac W hAA hG hDD K hK => ?_
                              have h73 := hDD.get 20 73 _ rfl rfl (by kernel_rfl)
                              have hgd := hDD.get 13 66 _ rfl rfl (by kernel_rfl)
                              have hgd := slot_bool hgd
                              simp only [Array.getD_eq_getD_getElem?] at h73
                              rw [if_pos (by simp [Region.wanted, yielded, hgd])]
                              exact wp_val (v := .pointer (some ⟨b, off + m * 2, none⟩)) (w' := W) (by simp [execOp, Act.eval, h73, go_sem]) (hK _ _ hG (Below.refl _ _) rfl (fun h => by cases h))
                            · refine stepJ_any rfl fun ac W hAA hG hDD K hK => ?_
                              have h74 := hDD.get 21 74 _ rfl rfl (by kernel_rfl)
                              have hgd := hDD.get 13 66 _ rfl rfl (by kernel_rfl)
                              have hgd := slot_bool hgd
                              simp only [Array.getD_eq_getD_getElem?] at h74
                              obtain ⟨k0, k1⟩ := hY.out W hG
                              rw [if_pos (by simp [Region.wanted, yielded, hgd])]
                              exact wp_val (v := .int .i64 y.1) (w' := W) (by simp [execOp, Act.eval, h74, go_sem, k0]) (hK _ _ hG (Below.refl _ _) rfl (fun h => by cases h))
                            · refine stepJ_any rfl fun ac W hAA hG hDD K hK => ?_
                              have h68 := hDD.get 15 68 _ rfl rfl (by kernel_rfl)
                              have h75 := hDD.get 22 75 _ rfl rfl (by kernel_rfl)
                              have hgd := hDD.get 13 66 _ rfl rfl (by kernel_rfl)
                              have hgd := slot_bool hgd
                              simp only [Array.getD_eq_getD_getElem?] at h68 h75
                              have f2 := f2.out
                              rw [if_pos (by simp [Region.wanted, yielded, hgd])]
                              exact wp_val (v := .bool true) (w' := W) (by simp [execOp, Act.eval, h68, h75, go_sem, f2]) (hK _ _ hG (Below.refl _ _) rfl (fun h => by cases h))
                            · refine stepJ_any rfl fun ac W hAA hG hDD K hK => ?_
                              have h76 := hDD.get 23 76 _ rfl rfl (by kernel_rfl)
                              have hgd := hDD.get 13 66 _ rfl rfl (by kernel_rfl)
                              have hgd := slot_bool hgd
                              simp only [Array.getD_eq_getD_getElem?] at h76
                              rw [if_pos (by simp [Region.wanted, yielded, hgd])]
                              exact wp_val (v := .bool true) (w' := W) (by simp [execOp, Act.eval, h76, go_sem]) (hK _ _ hG (Below.refl _ _) rfl (fun h => by cases h))
                            · refine stepJ_any rfl fun ac W hAA hG hDD K hK => ?_
                              have h5 := hAA.getD (t := 5) (by kernel_rfl)
                              have hgd := hDD.get 24 77 _ rfl rfl (by kernel_rfl)
                              have hgd := slot_bool hgd
                              simp only [Array.getD_eq_getD_getElem?] at h5
                              rw [if_pos (by simp [Region.wanted, yielded, hgd])]
                              exact wp_val (v := .pointer (some ⟨wr.heap.size, 1, none⟩)) (w' := W) (by simp [execOp, Act.eval, h5, go_sem]) (hK _ _ hG (Below.refl _ _) rfl (fun h => by cases h))
                            · refine stepJ_any rfl fun ac W hAA hG hDD K hK => ?_
                              have h78 := hDD.get 25 78 _ rfl rfl (by kernel_rfl)
                              have hgd := hDD.get 24 77 _ rfl rfl (by kernel_rfl)
                              have hgd := slot_bool hgd
                              simp only [Array.getD_eq_getD_getElem?] at h78
                              obtain ⟨⟨k0, k1⟩, k2⟩ := hL.out W hG
                              rw [if_pos (by simp [Region.wanted, yielded, hgd])]
                              exact wp_val (v := .int .i64 x1) (w' := W) (by simp [execOp, Act.eval, h78, go_sem, k1]) (hK _ _ hG (Below.refl _ _) rfl (fun h => by cases h))
                            · refine stepJ_any rfl fun ac W hAA hG hDD K hK => ?_
                              have h1 := hAA.getD (t := 1) (by kernel_rfl)
                              have hgd := hDD.get 24 77 _ rfl rfl (by kernel_rfl)
                              have hgd := slot_bool hgd
                              simp only [Array.getD_eq_getD_getElem?] at h1
                              rw [if_pos (by simp [Region.wanted, yielded, hgd])]
                              exact wp_val (v := .pointer (some ⟨w.heap.size, 1, none⟩)) (w' := W) (by simp [execOp, Act.eval, h1, go_sem]) (hK _ _ hG (Below.refl _ _) rfl (fun h => by cases h))
                            · refine stepJ_any rfl fun ac W hAA hG hDD K hK => ?_
                              have h80 := hDD.get 27 80 _ rfl rfl (by kernel_rfl)
                              have hgd := hDD.get 24 77 _ rfl rfl (by kernel_rfl)
                              have hgd := slot_bool hgd
                              simp only [Array.getD_eq_getD_getElem?] at h80
                              obtain ⟨⟨k0, k1⟩, k2⟩ := hL.out W hG
                              rw [if_pos (by simp [Region.wanted, yielded, hgd])]
                              exact wp_val (v := .slice (some ⟨b, off, none⟩) n.ap.length c') (w' := W) (by simp [execOp, Act.eval, h80, go_sem, k2]) (hK _ _ hG (Below.refl _ _) rfl (fun h => by cases h))
                            · refine stepJ_any rfl fun ac W hAA hG hDD K hK => ?_
                              have h4 := hAA.getD (t := 4) (by kernel_rfl)
                              have hgd := hDD.get 24 77 _ rfl rfl (by kernel_rfl)
                              have hgd := slot_bool hgd
                              simp only [Array.getD_eq_getD_getElem?] at h4
                              rw [if_pos (by simp [Region.wanted, yielded, hgd])]
                              exact wp_val (v := .int .i64 (q : Int)) (w' := W) (by simp [execOp, Act.eval, h4, go_sem]) (hK _ _ hG (Below.refl _ _) rfl (fun h => by cases h))
                            · refine stepJ_any rfl fun ac W hAA hG hDD K hK => ?_
                              have h82 := hDD.get 29 82 _ rfl rfl (by kernel_rfl)
                              have hgd := hDD.get 24 77 _ rfl rfl (by kernel_rfl)
                              have hgd := slot_bool hgd
                              simp only [Array.getD_eq_getD_getElem?] at h82
                              have hks := hks.out
                              rw [if_pos (by simp [Region.wanted, yielded, hgd])]
                              exact wp_val (v := .int .i64 (m : Int)) (w' := W) (by simp [execOp, Act.eval, h82, go_sem, hks]) (hK _ _ hG (Below.refl _ _) rfl (fun h => by cases h))
                            · refine stepJ_any rfl fun ac W hAA hG hDD K hK => ?_
                              have h81 := hDD.get 28 81 _ rfl rfl (by kernel_rfl)
                              have h83 := hDD.get 30 83 _ rfl rfl (by kernel_rfl)
                              have hgd := hDD.get 24 77 _ rfl rfl (by kernel_rfl)
                              have hgd := slot_bool hgd
                              simp only [Array.getD_eq_getD_getElem?] at h81 h83
                              have hix := hix.out
                              rw [if_pos (by simp [Region.wanted, yielded, hgd])]
                              exact wp_val (v := .pointer (some ⟨b, off + m * 2, none⟩)) (w' := W) (by simp [execOp, Act.eval, h81, h83, go_sem, hix]) (hK _ _ hG (Below.refl _ _) rfl (fun h => by cases h))
                            · refine stepJ_any rfl fun ac W hAA hG hDD K hK => ?_
                              have h84 := hDD.get 31 84 _ rfl rfl (by kernel_rfl)
                              have hgd := hDD.get 24 77 _ rfl rfl (by kernel_rfl)
                              have hgd := slot_bool hgd
                              simp only [Array.getD_eq_getD_getElem?] at h84
                              rw [if_pos (by simp [Region.wanted, yielded, hgd])]
                              exact wp_val (v := .pointer (some ⟨b, off + m * 2 + 1, none⟩)) (w' := W) (by simp [execOp, Act.eval, h84, go_sem]) (hK _ _ hG (Below.refl _ _) rfl (fun h => by cases h))
                            · refine stepJ_any rfl fun ac W hAA hG hDD K hK => ?_
                              have h85 := hDD.get 32 85 _ rfl rfl (by kernel_rfl)
                              have hgd := hDD.get 24 77 _ rfl rfl (by kernel_rfl)
                              have hgd := slot_bool hgd
                              simp only [Array.getD_eq_getD_getElem?] at h85
                              obtain ⟨k0, k1⟩ := hY.out W hG
                              rw [if_pos (by simp [Region.wanted, yielded, hgd])]
                              exact wp_val (v := .int .i64 y.2) (w' := W) (by simp [execOp, Act.eval, h85, go_sem, k1]) (hK _ _ hG (Below.refl _ _) rfl (fun h => by cases h))
                            · refine stepJ_any rfl fun ac W hAA hG hDD K hK => ?_
                              have h79 := hDD.get 26 79 _ rfl rfl (by kernel_rfl)
                              have h86 := hDD.get 33 86 _ rfl rfl (by kernel_rfl)
                              have hgd := hDD.get 24 77 _ rfl rfl (by kernel_rfl)
                              have hgd := slot_bool hgd
                              simp only [Array.getD_eq_getD_getElem?] at h79 h86
                              have f3 := f3.out
                              rw [if_pos (by simp [Region.wanted, yielded, hgd])]
                              exact wp_val (v := .bool true) (w' := W) (by simp [execOp, Act.eval, h79, h86, go_sem, f3]) (hK _ _ hG (Below.refl _ _) rfl (fun h => by cases h))
                            · refine stepJ_any rfl fun ac W hAA hG hDD K hK => ?_
                              have h77 := hDD.get 24 77 _ rfl rfl (by kernel_rfl)
                              have h87 := hDD.get 34 87 _ rfl rfl (by kernel_rfl)
                              have hgd := hDD.get 13 66 _ rfl rfl (by kernel_rfl)
                              have hgd := slot_bool hgd
                              simp only [Array.getD_eq_getD_getElem?] at h77 h87
                              rw [if_pos (by simp [Region.wanted, yielded, hgd])]
                              exact wp_val (v := .bool true) (w' := W) (by simp [execOp, Act.eval, h77, h87, go_sem]) (hK _ _ hG (Below.refl _ _) rfl (fun h => by cases h))
                            · refine stepJ_any rfl fun ac W hAA hG hDD K hK => ?_
                              have h66 := hDD.get 13 66 _ rfl rfl (by kernel_rfl)
                              have h88 := hDD.get 35 88 _ rfl rfl (by kernel_rfl)
                              have hgd := hDD.get 2 55 _ rfl rfl (by kernel_rfl)
                              have hgd := slot_bool hgd
                              simp only [Array.getD_eq_getD_getElem?] at h66 h88
                              rw [if_pos (by simp [Region.wanted, yielded, hgd])]
                              exact wp_val (v := .bool true) (w' := W) (by simp [execOp, Act.eval, h66, h88, go_sem]) (hK _ _ hG (Below.refl _ _) rfl (fun h => by cases h))
                            · refine stepJ_any rfl fun ac W hAA hG hDD K hK => ?_
                              have h55 := hDD.get 2 55 _ rfl rfl (by kernel_rfl)
                              have h89 := hDD.get 36 89 _ rfl rfl (by kernel_rfl)
                              simp only [Array.getD_eq_getD_getElem?] at h55 h89
                              rw [if_pos (by rfl)]
                              exact wp_val (v := .bool true) (w' := W) (by simp [execOp, Act.eval, h55, h89, go_sem]) (hK _ _ hG (Below.refl _ _) rfl (fun h => by cases h))
                          intro fu T W9 hG hF hne hltb
                          have e53 : T 53 = .int .i64 (q : Int) := hF 0 _ rfl (by omega)
                          have e54 : T 54 = .bool true := hF 1 _ rfl (by omega)
                          have e55 : T 55 = .bool true := hF 2 _ rfl (by omega)
                          have e56 : T 56 = .pointer (some ⟨wr.heap.size, 0, none⟩) := hF 3 _ rfl (by omega)
                          have e57 : T 57 = .int .i64 x0 := hF 4 _ rfl (by omega)
                          have e58 : T 58 = .pointer (some ⟨w.heap.size, 1, none⟩) := hF 5 _ rfl (by omega)
                          have e59 : T 59 = .slice (some ⟨b, off, none⟩) n.ap.length c' := hF 6 _ rfl (by omega)
                          have e60 : T 60 = .int .i64 (q : Int) := hF 7 _ rfl (by omega)
                          have e61 : T 61 = .int .i64 (m : Int) := hF 8 _ rfl (by omega)
                          have e62 : T 62 = .pointer (some ⟨b, off + m * 2, none⟩) := hF 9 _ rfl (by omega)
                          have e63 : T 63 = .pointer (some ⟨b, off + m * 2, none⟩) := hF 10 _ rfl (by omega)
                          have e64 : T 64 = .int .i64 y.1 := hF 11 _ rfl (by omega)
                          have e65 : T 65 = .bool false := hF 12 _ rfl (by omega)
                          have e66 : T 66 = .bool false := hF 13 _ rfl (by omega)
                          have e67 : T 67 = .pointer (some ⟨wr.heap.size, 0, none⟩) := hF 14 _ rfl (by omega)
                          have e68 : T 68 = .int .i64 x0 := hF 15 _ rfl (by omega)
                          have e69 : T 69 = .pointer (some ⟨w.heap.size, 1, none⟩) := hF 16 _ rfl (by omega)
                          have e70 : T 70 = .slice (some ⟨b, off, none⟩) n.ap.length c' := hF 17 _ rfl (by omega)
                          have e71 : T 71 = .int .i64 (q : Int) := hF 18 _ rfl (by omega)
                          have e72 : T 72 = .int .i64 (m : Int) := hF 19 _ rfl (by omega)
                          have e73 : T 73 = .pointer (some ⟨b, off + m * 2, none⟩) := hF 20 _ rfl (by omega)
                          have e74 : T 74 = .pointer (some ⟨b, off + m * 2, none⟩) := hF 21 _ rfl (by omega)
                          have e75 : T 75 = .int .i64 y.1 := hF 22 _ rfl (by omega)
                          have e76 : T 76 = .bool true := hF 23 _ rfl (by omega)
                          have e77 : T 77 = .bool true := hF 24 _ rfl (by omega)
                          have e78 : T 78 = .pointer (some ⟨wr.heap.size, 1, none⟩) := hF 25 _ rfl (by omega)
                          have e79 : T 79 = .int .i64 x1 := hF 26 _ rfl (by omega)
                          have e80 : T 80 = .pointer (some ⟨w.heap.size, 1, none⟩) := hF 27 _ rfl (by omega)
                          have e81 : T 81 = .slice (some ⟨b, off, none⟩) n.ap.length c' := hF 28 _ rfl (by omega)
                          have e82 : T 82 = .int .i64 (q : Int) := hF 29 _ rfl (by omega)
                          have e83 : T 83 = .int .i64 (m : Int) := hF 30 _ rfl (by omega)
                          have e84 : T 84 = .pointer (some ⟨b, off + m * 2, none⟩) := hF 31 _ rfl (by omega)
                          have e85 : T 85 = .pointer (some ⟨b, off + m * 2 + 1, none⟩) := hF 32 _ rfl (by omega)
                          have e86 : T 86 = .int .i64 y.2 := hF 33 _ rfl (by omega)
                          have e87 : T 87 = .bool true := hF 34 _ rfl (by omega)
                          have e88 : T 88 = .bool true := hF 35 _ rfl (by omega)
                          have e89 : T 89 = .bool true := hF 36 _ rfl (by omega)
                          have e90 : T 90 = .bool true := hF 37 _ rfl (by omega)
                          clear hF hne hltb
                          simp only [List.take, fillT, List.setIfInBounds_toArray, List.set_cons_zero, List.set_cons_succ, e53, e54, e55, e56, e57, e58, e59, e60, e61, e62, e63, e64, e65, e66, e67, e68, e69, e70, e71, e72, e73, e74, e75, e76, e77, e78, e79, e80, e81, e82, e83, e84, e85, e86, e87, e88, e89, e90]
                          clear e53 e54 e55 e56 e57 e58 e59 e60 e61 e62 e63 e64 e65 e66 e67 e68 e69 e70 e71 e72 e73 e74 e75 e76 e77 e78 e79 e80 e81 e82 e83 e84 e85 e86 e87 e88 e89 e90
                          refine wpAny_done (by kernel_rfl) ?_ _
                          go_wp2_with fail
                          go_ret
                          exact ⟨retI hv.out.symm, unbox (hfin.out.trans (hG.mono (by omega)))⟩
                        · have f3 := Lib.hid c3
                          have hnx := Lib.hid (hn.out (by rw [hqq.out, hlp.out, decide_eq_true (show y.1 = x0 by omega), decide_eq_true (show y.2 < x1 by omega)]; simp))
                          clear hqq hlp hn ho c2
                          go_wp2_with fail
                          rw [← hV]
                          clear hV
                          refine wp_region_pre 38 0 (fun W => Below V.heap.size V W) (fun W W' => Below W.heap.size W W')
                            (fun i v W => match i with
                              | 0 => v = .int .i64 (q : Int)
                              | 1 => v = .bool true
                              | 2 => v = .bool true
                              | 3 => v = .pointer (some ⟨wr.heap.size, 0, none⟩)
                              | 4 => v = .int .i64 x0
                              | 5 => v = .pointer (some ⟨w.heap.size, 1, none⟩)
                              | 6 => v = .slice (some ⟨b, off, none⟩) n.ap.length c'
                              | 7 => v = .int .i64 (q : Int)
                              | 8 => v = .int .i64 (m : Int)
                              | 9 => v = .pointer (some ⟨b, off + m * 2, none⟩)
                              | 10 => v = .pointer (some ⟨b, off + m * 2, none⟩)
                              | 11 => v = .int .i64 y.1
                              | 12 => v = .bool false
                              | 13 => v = .bool false
                              | 14 => v = .pointer (some ⟨wr.heap.size, 0, none⟩)
                              | 15 => v = .int .i64 x0
                              | 16 => v = .pointer (some ⟨w.heap.size, 1, none⟩)
                              | 17 => v = .slice (some ⟨b, off, none⟩) n.ap.length c'
                              | 18 => v = .int .i64 (q : Int)
                              | 19 => v = .int .i64 (m : Int)
                              | 20 => v = .pointer (some ⟨b, off + m * 2, none⟩)
                              | 21 => v = .pointer (some ⟨b, off + m * 2, none⟩)
                              | 22 => v = .int .i64 y.1
                              | 23 => v = .bool true
                              | 24 => v = .bool true
                              | 25 => v = .pointer (some ⟨wr.heap.size, 1, none⟩)
                              | 26 => v = .int .i64 x1
                              | 27 => v = .pointer (some ⟨w.heap.size, 1, none⟩)
                              | 28 => v = .slice (some ⟨b, off, none⟩) n.ap.length c'
                              | 29 => v = .int .i64 (q : Int)
                              | 30 => v = .int .i64 (m : Int)
                              | 31 => v = .pointer (some ⟨b, off + m * 2, none⟩)
                              | 32 => v = .pointer (some ⟨b, off + m * 2 + 1, none⟩)
                              | 33 => v = .int .i64 y.2
                              | 34 => v = .bool false
                              | 35 => v = .bool false
                              | 36 => v = .bool false
                              | 37 => v = .bool false
                              | _ => True) (fun _ => false)
                            (by kernel_rfl) (by kernel_rfl) (by kernel_rfl) (by kernel_rfl) (by kernel_rfl) (by kernel_rfl) (by kernel_rfl) ?_ (fun _ _ h => h.size) (dN (Below.refl _ _) 1) ?_ ?_
                          · intro i v W W' hb hF
                            match i, hF with
                            | 0, h => exact h
                            | 1, h => exact h
                            | 2, h => exact h
                            | 3, h => exact h
                            | 4, h => exact h
                            | 5, h => exact h
                            | 6, h => exact h
                            | 7, h => exact h
                            | 8, h => exact h
                            | 9, h => exact h
                            | 10, h => exact h
                            | 11, h => exact h
                            | 12, h => exact h
                            | 13, h => exact h
                            | 14, h => exact h
                            | 15, h => exact h
                            | 16, h => exact h
                            | 17, h => exact h
                            | 18, h => exact h
                            | 19, h => exact h
                            | 20, h => exact h
                            | 21, h => exact h
                            | 22, h => exact h
                            | 23, h => exact h
                            | 24, h => exact h
                            | 25, h => exact h
                            | 26, h => exact h
                            | 27, h => exact h
                            | 28, h => exact h
                            | 29, h => exact h
                            | 30, h => exact h
                            | 31, h => exact h
                            | 32, h => exact h
                            | 33, h => exact h
                            | 34, h => exact h
                            | 35, h => exact h
                            | 36, h => exact h
                            | 37, h => exact h
                            | _ + 38, _ => trivial
                          · refine ⟨?_, ?_, ?_, ?_, ?_, ?_, ?_, ?_, ?_, ?_, ?_, ?_, ?_, ?_, ?_, ?_, ?_, ?_, ?_, ?_, ?_, ?_, ?_, ?_, ?_, ?_, ?_, ?_, ?_, ?_, ?_, ?_, ?_, ?_, ?_, ?_, ?_, ?_, trivial⟩
                            · refine stepJ_any rfl fun ac W hAA hG hDD K hK => ?_
                              have h4 := hAA.getD (t := 4) (by kernel_rfl)
                              simp only [Array.getD_eq_getD_getElem?] at h4
                              rw [if_pos (by rfl)]
                              exact wp_val (v := .int .i64 (q : Int)) (w' := W) (by simp [execOp, Act.eval, h4, go_sem]) (hK _ _ hG (Below.refl _ _) rfl (fun h => by cases h))
                            · refine stepJ_any rfl fun ac W hAA hG hDD K hK => ?_
                              have h53 := hDD.get 0 53 _ rfl rfl (by kernel_rfl)
                              simp only [Array.getD_eq_getD_getElem?] at h53
                              have hk0 := hk0.out
                              rw [if_pos (by rfl)]
                              exact wp_val (v := .bool true) (w' := W) (by simp [execOp, Act.eval, h53, go_sem, hk0]) (hK _ _ hG (Below.refl _ _) rfl (fun h => by cases h))
                            · refine stepJ_any rfl fun ac W hAA hG hDD K hK => ?_
                              have h54 := hDD.get 1 54 _ rfl rfl (by kernel_rfl)
                              simp only [Array.getD_eq_getD_getElem?] at h54
                              rw [if_pos (by rfl)]
                              exact wp_val (v := .bool true) (w' := W) (by simp [execOp, Act.eval, h54, go_sem]) (hK _ _ hG (Below.refl _ _) rfl (fun h => by cases h))
                            · refine stepJ_any rfl fun ac W hAA hG hDD K hK => ?_
                              have h5 := hAA.getD (t := 5) (by kernel_rfl)
                              have hgd := hDD.get 2 55 _ rfl rfl (by kernel_rfl)
                              have hgd := slot_bool hgd
                              simp only [Array.getD_eq_getD_getElem?] at h5
                              rw [if_pos (by simp [Region.wanted, yielded, hgd])]
                              exact wp_val (v := .pointer (some ⟨wr.heap.size, 0, none⟩)) (w' := W) (by simp [execOp, Act.eval, h5, go_sem]) (hK _ _ hG (Below.refl _ _) rfl (fun h => by cases h))
                            · refine stepJ_any rfl fun ac W hAA hG hDD K hK => ?_
                              have h56 := hDD.get 3 56 _ rfl rfl (by kernel_rfl)
                              have hgd := hDD.get 2 55 _ rfl rfl (by kernel_rfl)
                              have hgd := slot_bool hgd
                              simp only [Array.getD_eq_getD_getElem?] at h56
                              obtain ⟨⟨k0, k1⟩, k2⟩ := hL.out W hG
                              rw [if_pos (by simp [Region.wanted, yielded, hgd])]
                              exact wp_val (v := .int .i64 x0) (w' := W) (by simp [execOp, Act.eval, h56, go_sem, k0]) (hK _ _ hG (Below.refl _ _) rfl (fun h => by cases h))
                            · refine stepJ_any rfl fun ac W hAA hG hDD K hK => ?_
                              have h1 := hAA.getD (t := 1) (by kernel_rfl)
                              have hgd := hDD.get 2 55 _ rfl rfl (by kernel_rfl)
                              have hgd := slot_bool hgd
                              simp only [Array.getD_eq_getD_getElem?] at h1
                              rw [if_pos (by simp [Region.wanted, yielded, hgd])]
                              exact wp_val (v := .pointer (some ⟨w.heap.size, 1, none⟩)) (w' := W) (by simp [execOp, Act.eval, h1, go_sem]) (hK _ _ hG (Below.refl _ _) rfl (fun h => by cases h))
                            · refine stepJ_any rfl fun ac W hAA hG hDD K hK => ?_
                              have h58 := hDD.get 5 58 _ rfl rfl (by kernel_rfl)
                              have hgd := hDD.get 2 55 _ rfl rfl (by kernel_rfl)
                              have hgd := slot_bool hgd
                              simp only [Array.getD_eq_getD_getElem?] at h58
                              obtain ⟨⟨k0, k1⟩, k2⟩ := hL.out W hG
                              rw [if_pos (by simp [Region.wanted, yielded, hgd])]
                              exact wp_val (v := .slice (some ⟨b, off, none⟩) n.ap.length c') (w' := W) (by simp [execOp, Act.eval, h58, go_sem, k2]) (hK _ _ hG (Below.refl _ _) rfl (fun h => by cases h))
                            · refine stepJ_any rfl fun ac W hAA hG hDD K hK => ?_
                              have h4 := hAA.getD (t := 4) (by kernel_rfl)
                              have hgd := hDD.get 2 55 _ rfl rfl (by kernel_rfl)
                              have hgd := slot_bool hgd
                              simp only [Array.getD_eq_getD_getElem?] at h4
                              rw [if_pos (by simp [Region.wanted, yielded, hgd])]
                              exact wp_val (v := .int .i64 (q : Int)) (w' := W) (by simp [execOp, Act.eval, h4, go_sem]) (hK _ _ hG (Below.refl _ _) rfl (fun h => by cases h))
                            · refine stepJ_any rfl fun ac W hAA hG hDD K hK => ?_
                              have h60 := hDD.get 7 60 _ rfl rfl (by kernel_rfl)
                              have hgd := hDD.get 2 55 _ rfl rfl (by kernel_rfl)
                              have hgd := slot_bool hgd
                              simp only [Array.getD_eq_getD_getElem?] at h60
                              have hks := hks.out
                              rw [if_pos (by simp [Region.wanted, yielded, hgd])]
                              exact wp_val (v := .int .i64 (m : Int)) (w' := W) (by simp [execOp, Act.eval, h60, go_sem, hks]) (hK _ _ hG (Below.refl _ _) rfl (fun h => by cases h))
                            · refine stepJ_any rfl fun ac W hAA hG hDD K hK => ?_
                              have h59 := hDD.get 6 59 _ rfl rfl (by kernel_rfl)
                              have h61 := hDD.get 8 61 _ rfl rfl (by kernel_rfl)
                              have hgd := hDD.get 2 55 _ rfl rfl (by kernel_rfl)
                              have hgd := slot_bool hgd
                              simp only [Array.getD_eq_getD_getElem?] at h59 h61
                              have hix := hix.out
                              rw [if_pos (by simp [Region.wanted, yielded, hgd])]
                              exact wp_val (v := .pointer (some ⟨b, off + m * 2, none⟩)) (w' := W) (by simp [execOp, Act.eval, h59, h61, go_sem, hix]) (hK _ _ hG (Below.refl _ _) rfl (fun h => by cases h))
                            · refine stepJ_any rfl fun ac W hAA hG hDD K hK => ?_
                              have h62 := hDD.get 9 62 _ rfl rfl (by kernel_rfl)
                              have hgd := hDD.get 2 55 _ rfl rfl (by kernel_rfl)
                              have hgd := slot_bool hgd
                              simp only [Array.getD_eq_getD_getElem?] at h62
                              rw [if_pos (by simp [Region.wanted, yielded, hgd])]
                              exact wp_val (v := .pointer (some ⟨b, off + m * 2, none⟩)) (w' := W) (by simp [execOp, Act.eval, h62, go_sem]) (hK _ _ hG (Below.refl _ _) rfl (fun h => by cases h))
                            · refine stepJ_any rfl fun ac W hAA hG hDD K hK => ?_
                              have h63 := hDD.get 10 63 _ rfl rfl (by kernel_rfl)
                              have hgd := hDD.get 2 55 _ rfl rfl (by kernel_rfl)
                              have hgd := slot_bool hgd
                              simp only [Array.getD_eq_getD_getElem?] at h63
                              obtain ⟨k0, k1⟩ := hY.out W hG
                              rw [if_pos (by simp [Region.wanted, yielded, hgd])]
                              exact wp_val (v := .int .i64 y.1) (w' := W) (by simp [execOp, Act.eval, h63, go_sem, k0]) (hK _ _ hG (Below.refl _ _) rfl (fun h => by cases h))
                            · refine stepJ_any rfl fun ac W hAA hG hDD K hK => ?_
                              have h57 := hDD.get 4 57 _ rfl rfl (by kernel_rfl)
                              have h64 := hDD.get 11 64 _ rfl rfl (by kernel_rfl)
                              have hgd := hDD.get 2 55 _ rfl rfl (by kernel_rfl)
                              have hgd := slot_bool hgd
                              simp only [Array.getD_eq_getD_getElem?] at h57 h64
                              have f1 := f1.out
                              rw [if_pos (by simp [Region.wanted, yielded, hgd])]
                              exact wp_val (v := .bool false) (w' := W) (by simp [execOp, Act.eval, h57, h64, go_sem, f1]) (hK _ _ hG (Below.refl _ _) rfl (fun h => by cases h))
                            · refine stepJ_any rfl fun ac W hAA hG hDD K hK => ?_
                              have h65 := hDD.get 12 65 _ rfl rfl (by kernel_rfl)
                              have hgd := hDD.get 2 55 _ rfl rfl (by kernel_rfl)
                              have hgd := slot_bool hgd
                              simp only [Array.getD_eq_getD_getElem?] at h65
                              rw [if_pos (by simp [Region.wanted, yielded, hgd])]
                              exact wp_val (v := .bool false) (w' := W) (by simp [execOp, Act.eval, h65, go_sem]) (hK _ _ hG (Below.refl _ _) rfl (fun h => by cases h))
                            · refine stepJ_any rfl fun ac W hAA hG hDD K hK => ?_
                              have h5 := hAA.getD (t := 5) (by kernel_rfl)
                              have hgd := hDD.get 13 66 _ rfl rfl (by kernel_rfl)
                              have hgd := slot_bool hgd
                              simp only [Array.getD_eq_getD_getElem?] at h5
                              rw [if_pos (by simp [Region.wanted, yielded, hgd])]
                              exact wp_val (v := .pointer (some ⟨wr.heap.size, 0, none⟩)) (w' := W) (by simp [execOp, Act.eval, h5, go_sem]) (hK _ _ hG (Below.refl _ _) rfl (fun h => by cases h))
                            · refine stepJ_any rfl fun ac W hAA hG hDD K hK => ?_
                              have h67 := hDD.get 14 67 _ rfl rfl (by kernel_rfl)
                              have hgd := hDD.get 13 66 _ rfl rfl (by kernel_rfl)
                              have hgd := slot_bool hgd
                              simp only [Array.getD_eq_getD_getElem?] at h67
                              obtain ⟨⟨k0, k1⟩, k2⟩ := hL.out W hG
                              rw [if_pos (by simp [Region.wanted, yielded, hgd])]
                              exact wp_val (v := .int .i64 x0) (w' := W) (by simp [execOp, Act.eval, h67, go_sem, k0]) (hK _ _ hG (Below.refl _ _) rfl (fun h => by cases h))
                            · refine stepJ_any rfl fun ac W hAA hG hDD K hK => ?_
                              have h1 := hAA.getD (t := 1) (by kernel_rfl)
                              have hgd := hDD.get 13 66 _ rfl rfl (by kernel_rfl)
                              have hgd := slot_bool hgd
                              simp only [Array.getD_eq_getD_getElem?] at h1
                              rw [if_pos (by simp [Region.wanted, yielded, hgd])]
                              exact wp_val (v := .pointer (some ⟨w.heap.size, 1, none⟩)) (w' := W) (by simp [execOp, Act.eval, h1, go_sem]) (hK _ _ hG (Below.refl _ _) rfl (fun h => by cases h))
                            · refine stepJ_any rfl fun ac W hAA hG hDD K hK => ?_
                              have h69 := hDD.get 16 69 _ rfl rfl (by kernel_rfl)
                              have hgd := hDD.get 13 66 _ rfl rfl (by kernel_rfl)
                              have hgd := slot_bool hgd
                              simp only [Array.getD_eq_getD_getElem?] at h69
                              obtain ⟨⟨k0, k1⟩, k2⟩ := hL.out W hG
                              rw [if_pos (by simp [Region.wanted, yielded, hgd])]
                              exact wp_val (v := .slice (some ⟨b, off, none⟩) n.ap.length c') (w' := W) (by simp [execOp, Act.eval, h69, go_sem, k2]) (hK _ _ hG (Below.refl _ _) rfl (fun h => by cases h))
                            · refine stepJ_any rfl fun ac W hAA hG hDD K hK => ?_
                              have h4 := hAA.getD (t := 4) (by kernel_rfl)
                              have hgd := hDD.get 13 66 _ rfl rfl (by kernel_rfl)
                              have hgd := slot_bool hgd
                              simp only [Array.getD_eq_getD_getElem?] at h4
                              rw [if_pos (by simp [Region.wanted, yielded, hgd])]
                              exact wp_val (v := .int .i64 (q : Int)) (w' := W) (by simp [execOp, Act.eval, h4, go_sem]) (hK _ _ hG (Below.refl _ _) rfl (fun h => by cases h))
                            · refine stepJ_any rfl fun ac W hAA hG hDD K hK => ?_
                              have h71 := hDD.get 18 71 _ rfl rfl (by kernel_rfl)
                              have hgd := hDD.get 13 66 _ rfl rfl (by kernel_rfl)
                              have hgd := slot_bool hgd
                              simp only [Array.getD_eq_getD_getElem?] at h71
                              have hks := hks.out
                              rw [if_pos (by simp [Region.wanted, yielded, hgd])]
                              exact wp_val (v := .int .i64 (m : Int)) (w' := W) (by simp [execOp, Act.eval, h71, go_sem, hks]) (hK _ _ hG (Below.refl _ _) rfl (fun h => by cases h))
                            · refine stepJ_any rfl fun ac W hAA hG hDD K hK => ?_
                              have h70 := hDD.get 17 70 _ rfl rfl (by kernel_rfl)
                              have h72 := hDD.get 19 72 _ rfl rfl (by kernel_rfl)
                              have hgd := hDD.get 13 66 _ rfl rfl (by kernel_rfl)
                              have hgd := slot_bool hgd
                              simp only [Array.getD_eq_getD_getElem?] at h70 h72
                              have hix := hix.out
                              rw [if_pos (by simp [Region.wanted, yielded, hgd])]
                              exact wp_val (v := .pointer (some ⟨b, off + m * 2, none⟩)) (w' := W) (by simp [execOp, Act.eval, h70, h72, go_sem, hix]) (hK _ _ hG (Below.refl _ _) rfl (fun h => by cases h))
                            · refine stepJ_any rfl fun ac W hAA hG hDD K hK => ?_
                              have h73 := hDD.get 20 73 _ rfl rfl (by kernel_rfl)
                              have hgd := hDD.get 13 66 _ rfl rfl (by kernel_rfl)
                              have hgd := slot_bool hgd
                              simp only [Array.getD_eq_getD_getElem?] at h73
                              rw [if_pos (by simp [Region.wanted, yielded, hgd])]
                              exact wp_val (v := .pointer (some ⟨b, off + m * 2, none⟩)) (w' := W) (by simp [execOp, Act.eval, h73, go_sem]) (hK _ _ hG (Below.refl _ _) rfl (fun h => by cases h))
                            · refine stepJ_any rfl fun ac W hAA hG hDD K hK => ?_
                              have h74 := hDD.get 21 74 _ rfl rfl (by kernel_rfl)
                              have hgd := hDD.get 13 66 _ rfl rfl (by kernel_rfl)
                              have hgd := slot_bool hgd
                              simp only [Array.getD_eq_getD_getElem?] at h74
                              obtain ⟨k0, k1⟩ := hY.out W hG
                              rw [if_pos (by simp [Region.wanted, yielded, hgd])]
                              exact wp_val (v := .int .i64 y.1) (w' := W) (by simp [execOp, Act.eval, h74, go_sem, k0]) (hK _ _ hG (Below.refl _ _) rfl (fun h => by cases h))
                            · refine stepJ_any rfl fun ac W hAA hG hDD K hK => ?_
                              have h68 := hDD.get 15 68 _ rfl rfl (by kernel_rfl)
                              have h75 := hDD.get 22 75 _ rfl rfl (by kernel_rfl)
                              have hgd := hDD.get 13 66 _ rfl rfl (by kernel_rfl)
                              have hgd := slot_bool hgd
                              simp only [Array.getD_eq_getD_getElem?] at h68 h75
                              have f2 := f2.out
                              rw [if_pos (by simp [Region.wanted, yielded, hgd])]
                              exact wp_val (v := .bool true) (w' := W) (by simp [execOp, Act.eval, h68, h75, go_sem, f2]) (hK _ _ hG (Below.refl _ _) rfl (fun h => by cases h))
                            · refine stepJ_any rfl fun ac W hAA hG hDD K hK => ?_
                              have h76 := hDD.get 23 76 _ rfl rfl (by kernel_rfl)
                              have hgd := hDD.get 13 66 _ rfl rfl (by kernel_rfl)
                              have hgd := slot_bool hgd
                              simp only [Array.getD_eq_getD_getElem?] at h76
                              rw [if_pos (by simp [Region.wanted, yielded, hgd])]
                              exact wp_val (v := .bool true) (w' := W) (by simp [execOp, Act.eval, h76, go_sem]) (hK _ _ hG (Below.refl _ _) rfl (fun h => by cases h))
                            · refine stepJ_any rfl fun ac W hAA hG hDD K hK => ?_
                              have h5 := hAA.getD (t := 5) (by kernel_rfl)
                              have hgd := hDD.get 24 77 _ rfl rfl (by kernel_rfl)
                              have hgd := slot_bool hgd
                              simp only [Array.getD_eq_getD_getElem?] at h5
                              rw [if_pos (by simp [Region.wanted, yielded, hgd])]
                              exact wp_val (v := .pointer (some ⟨wr.heap.size, 1, none⟩)) (w' := W) (by simp [execOp, Act.eval, h5, go_sem]) (hK _ _ hG (Below.refl _ _) rfl (fun h => by cases h))
                            · refine stepJ_any rfl fun ac W hAA hG hDD K hK => ?_
                              have h78 := hDD.get 25 78 _ rfl rfl (by kernel_rfl)
                              have hgd := hDD.get 24 77 _ rfl rfl (by kernel_rfl)
                              have hgd := slot_bool hgd
                              simp only [Array.getD_eq_getD_getElem?] at h78
                              obtain ⟨⟨k0, k1⟩, k2⟩ := hL.out W hG
                              rw [if_pos (by simp [Region.wanted, yielded, hgd])]
                              exact wp_val (v := .int .i64 x1) (w' := W) (by simp [execOp, Act.eval, h78, go_sem, k1]) (hK _ _ hG (Below.refl _ _) rfl (fun h => by cases h))
                            · refine stepJ_any rfl fun ac W hAA hG hDD K hK => ?_
                              have h1 := hAA.getD (t := 1) (by kernel_rfl)
                              have hgd := hDD.get 24 77 _ rfl rfl (by kernel_rfl)
                              have hgd := slot_bool hgd
                              simp only [Array.getD_eq_getD_getElem?] at h1
                              rw [if_pos (by simp [Region.wanted, yielded, hgd])]
                              exact wp_val (v := .pointer (some ⟨w.heap.size, 1, none⟩)) (w' := W) (by simp [execOp, Act.eval, h1, go_sem]) (hK _ _ hG (Below.refl _ _) rfl (fun h => by cases h))
                            · refine stepJ_any rfl fun ac W hAA hG hDD K hK => ?_
                              have h80 := hDD.get 27 80 _ rfl rfl (by kernel_rfl)
                              have hgd := hDD.get 24 77 _ rfl rfl (by kernel_rfl)
                              have hgd := slot_bool hgd
                              simp only [Array.getD_eq_getD_getElem?] at h80
                              obtain ⟨⟨k0, k1⟩, k2⟩ := hL.out W hG
                              rw [if_pos (by simp [Region.wanted, yielded, hgd])]
                              exact wp_val (v := .slice (some ⟨b, off, none⟩) n.ap.length c') (w' := W) (by simp [execOp, Act.eval, h80, go_sem, k2]) (hK _ _ hG (Below.refl _ _) rfl (fun h => by cases h))
                            · refine stepJ_any rfl fun ac W hAA hG hDD K hK => ?_
                              have h4 := hAA.getD (t := 4) (by kernel_rfl)
                              have hgd := hDD.get 24 77 _ rfl rfl (by kernel_rfl)
                              have hgd := slot_bool hgd
                              simp only [Array.getD_eq_getD_getElem?] at h4
                              rw [if_pos (by simp [Region.wanted, yielded, hgd])]
                              exact wp_val (v := .int .i64 (q : Int)) (w' := W) (by simp [execOp, Act.eval, h4, go_sem]) (hK _ _ hG (Below.refl _ _) rfl (fun h => by cases h))
                            · refine stepJ_any rfl fun ac W hAA hG hDD K hK => ?_
                              have h82 := hDD.get 29 82 _ rfl rfl (by kernel_rfl)
                              have hgd := hDD.get 24 77 _ rfl rfl (by kernel_rfl)
                              have hgd := slot_bool hgd
                              simp only [Array.getD_eq_getD_getElem?] at h82
                              have hks := hks.out
                              rw [if_pos (by simp [Region.wanted, yielded, hgd])]
                              exact wp_val (v := .int .i64 (m : Int)) (w' := W) (by simp [execOp, Act.eval, h82, go_sem, hks]) (hK _ _ hG (Below.refl _ _) rfl (fun h => by cases h))
                            · refine stepJ_any rfl fun ac W hAA hG hDD K hK => ?_
                              have h81 := hDD.get 28 81 _ rfl rfl (by kernel_rfl)
                              have h83 := hDD.get 30 83 _ rfl rfl (by kernel_rfl)
                              have hgd := hDD.get 24 77 _ rfl rfl (by kernel_rfl)
                              have hgd := slot_bool hgd
                              simp only [Array.getD_eq_getD_getElem?] at h81 h83
                              have hix := hix.out
                              rw [if_pos (by simp [Region.wanted, yielded, hgd])]
                              exact wp_val (v := .pointer (some ⟨b, off + m * 2, none⟩)) (w' := W) (by simp [execOp, Act.eval, h81, h83, go_sem, hix]) (hK _ _ hG (Below.refl _ _) rfl (fun h => by cases h))
                            · refine stepJ_any rfl fun ac W hAA hG hDD K hK => ?_
                              have h84 := hDD.get 31 84 _ rfl rfl (by kernel_rfl)
                              have hgd := hDD.get 24 77 _ rfl rfl (by kernel_rfl)
                              have hgd := slot_bool hgd
                              simp only [Array.getD_eq_getD_getElem?] at h84
                              rw [if_pos (by simp [Region.wanted, yielded, hgd])]
                              exact wp_val (v := .pointer (some ⟨b, off + m * 2 + 1, none⟩)) (w' := W) (by simp [execOp, Act.eval, h84, go_sem]) (hK _ _ hG (Below.refl _ _) rfl (fun h => by cases h))
                            · refine stepJ_any rfl fun ac W hAA hG hDD K hK => ?_
                              have h85 := hDD.get 32 85 _ rfl rfl (by kernel_rfl)
                              have hgd := hDD.get 24 77 _ rfl rfl (by kernel_rfl)
                              have hgd := slot_bool hgd
                              simp only [Array.getD_eq_getD_getElem?] at h85
                              obtain ⟨k0, k1⟩ := hY.out W hG
                              rw [if_pos (by simp [Region.wanted, yielded, hgd])]
                              exact wp_val (v := .int .i64 y.2) (w' := W) (by simp [execOp, Act.eval, h85, go_sem, k1]) (hK _ _ hG (Below.refl _ _) rfl (fun h => by cases h))
                            · refine stepJ_any rfl fun ac W hAA hG hDD K hK => ?_
                              have h79 := hDD.get 26 79 _ rfl rfl (by kernel_rfl)
                              have h86 := hDD.get 33 86 _ rfl rfl (by kernel_rfl)
                              have hgd := hDD.get 24 77 _ rfl rfl (by kernel_rfl)
                              have hgd := slot_bool hgd
                              simp only [Array.getD_eq_getD_getElem?] at h79 h86
                              have f3 := f3.out
                              rw [if_pos (by simp [Region.wanted, yielded, hgd])]
                              exact wp_val (v := .bool false) (w' := W) (by simp [execOp, Act.eval, h79, h86, go_sem, f3]) (hK _ _ hG (Below.refl _ _) rfl (fun h => by cases h))
                            · refine stepJ_any rfl fun ac W hAA hG hDD K hK => ?_
                              have h77 := hDD.get 24 77 _ rfl rfl (by kernel_rfl)
                              have h87 := hDD.get 34 87 _ rfl rfl (by kernel_rfl)
                              have hgd := hDD.get 13 66 _ rfl rfl (by kernel_rfl)
                              have hgd := slot_bool hgd
                              simp only [Array.getD_eq_getD_getElem?] at h77 h87
                              rw [if_pos (by simp [Region.wanted, yielded, hgd])]
                              exact wp_val (v := .bool false) (w' := W) (by simp [execOp, Act.eval, h77, h87, go_sem]) (hK _ _ hG (Below.refl _ _) rfl (fun h => by cases h))
                            · refine stepJ_any rfl fun ac W hAA hG hDD K hK => ?_
                              have h66 := hDD.get 13 66 _ rfl rfl (by kernel_rfl)
                              have h88 := hDD.get 35 88 _ rfl rfl (by kernel_rfl)
                              have hgd := hDD.get 2 55 _ rfl rfl (by kernel_rfl)
                              have hgd := slot_bool hgd
                              simp only [Array.getD_eq_getD_getElem?] at h66 h88
                              rw [if_pos (by simp [Region.wanted, yielded, hgd])]
                              exact wp_val (v := .bool false) (w' := W) (by simp [execOp, Act.eval, h66, h88, go_sem]) (hK _ _ hG (Below.refl _ _) rfl (fun h => by cases h))
                            · refine stepJ_any rfl fun ac W hAA hG hDD K hK => ?_
                              have h55 := hDD.get 2 55 _ rfl rfl (by kernel_rfl)
                              have h89 := hDD.get 36 89 _ rfl rfl (by kernel_rfl)
                              simp only [Array.getD_eq_getD_getElem?] at h55 h89
                              rw [if_pos (by rfl)]
                              exact wp_val (v := .bool false) (w' := W) (by simp [execOp, Act.eval, h55, h89, go_sem]) (hK _ _ hG (Below.refl _ _) rfl (fun h => by cases h))
                          intro fu T W9 hG hF hne hltb
                          have e53 : T 53 = .int .i64 (q : Int) := hF 0 _ rfl (by omega)
                          have e54 : T 54 = .bool true := hF 1 _ rfl (by omega)
                          have e55 : T 55 = .bool true := hF 2 _ rfl (by omega)
                          have e56 : T 56 = .pointer (some ⟨wr.heap.size, 0, none⟩) := hF 3 _ rfl (by omega)
                          have e57 : T 57 = .int .i64 x0 := hF 4 _ rfl (by omega)
                          have e58 : T 58 = .pointer (some ⟨w.heap.size, 1, none⟩) := hF 5 _ rfl (by omega)
                          have e59 : T 59 = .slice (some ⟨b, off, none⟩) n.ap.length c' := hF 6 _ rfl (by omega)
                          have e60 : T 60 = .int .i64 (q : Int) := hF 7 _ rfl (by omega)
                          have e61 : T 61 = .int .i64 (m : Int) := hF 8 _ rfl (by omega)
                          have e62 : T 62 = .pointer (some ⟨b, off + m * 2, none⟩) := hF 9 _ rfl (by omega)
                          have e63 : T 63 = .pointer (some ⟨b, off + m * 2, none⟩) := hF 10 _ rfl (by omega)
                          have e64 : T 64 = .int .i64 y.1 := hF 11 _ rfl (by omega)
                          have e65 : T 65 = .bool false := hF 12 _ rfl (by omega)
                          have e66 : T 66 = .bool false := hF 13 _ rfl (by omega)
                          have e67 : T 67 = .pointer (some ⟨wr.heap.size, 0, none⟩) := hF 14 _ rfl (by omega)
                          have e68 : T 68 = .int .i64 x0 := hF 15 _ rfl (by omega)
                          have e69 : T 69 = .pointer (some ⟨w.heap.size, 1, none⟩) := hF 16 _ rfl (by omega)
                          have e70 : T 70 = .slice (some ⟨b, off, none⟩) n.ap.length c' := hF 17 _ rfl (by omega)
                          have e71 : T 71 = .int .i64 (q : Int) := hF 18 _ rfl (by omega)
                          have e72 : T 72 = .int .i64 (m : Int) := hF 19 _ rfl (by omega)
                          have e73 : T 73 = .pointer (some ⟨b, off + m * 2, none⟩) := hF 20 _ rfl (by omega)
                          have e74 : T 74 = .pointer (some ⟨b, off + m * 2, none⟩) := hF 21 _ rfl (by omega)
                          have e75 : T 75 = .int .i64 y.1 := hF 22 _ rfl (by omega)
                          have e76 : T 76 = .bool true := hF 23 _ rfl (by omega)
                          have e77 : T 77 = .bool true := hF 24 _ rfl (by omega)
                          have e78 : T 78 = .pointer (some ⟨wr.heap.size, 1, none⟩) := hF 25 _ rfl (by omega)
                          have e79 : T 79 = .int .i64 x1 := hF 26 _ rfl (by omega)
                          have e80 : T 80 = .pointer (some ⟨w.heap.size, 1, none⟩) := hF 27 _ rfl (by omega)
                          have e81 : T 81 = .slice (some ⟨b, off, none⟩) n.ap.length c' := hF 28 _ rfl (by omega)
                          have e82 : T 82 = .int .i64 (q : Int) := hF 29 _ rfl (by omega)
                          have e83 : T 83 = .int .i64 (m : Int) := hF 30 _ rfl (by omega)
                          have e84 : T 84 = .pointer (some ⟨b, off + m * 2, none⟩) := hF 31 _ rfl (by omega)
                          have e85 : T 85 = .pointer (some ⟨b, off + m * 2 + 1, none⟩) := hF 32 _ rfl (by omega)
                          have e86 : T 86 = .int .i64 y.2 := hF 33 _ rfl (by omega)
                          have e87 : T 87 = .bool false := hF 34 _ rfl (by omega)
                          have e88 : T 88 = .bool false := hF 35 _ rfl (by omega)
                          have e89 : T 89 = .bool false := hF 36 _ rfl (by omega)
                          have e90 : T 90 = .bool false := hF 37 _ rfl (by omega)
                          clear hF hne hltb
                          simp only [List.take, fillT, List.setIfInBounds_toArray, List.set_cons_zero, List.set_cons_succ, e53, e54, e55, e56, e57, e58, e59, e60, e61, e62, e63, e64, e65, e66, e67, e68, e69, e70, e71, e72, e73, e74, e75, e76, e77, e78, e79, e80, e81, e82, e83, e84, e85, e86, e87, e88, e89, e90]
                          clear e53 e54 e55 e56 e57 e58 e59 e60 e61 e62 e63 e64 e65 e66 e67 e68 e69 e70 e71 e72 e73 e74 e75 e76 e77 e78 e79 e80 e81 e82 e83 e84 e85 e86 e87 e88 e89 e90
                          refine wpAny_done (by kernel_rfl) ?_ _
                          go_wp2_with fail
                          go_roundw
                          case rel => exact ⟨q + 1, by omega, by go_num, hnx.out, hfin.out.trans (hG.mono (by omega))⟩
                          case measure => simp [intOf]; omega
                      · have f2 := Lib.hid c2
                        have hnx := Lib.hid (hn.out (by rw [hqq.out, hlp.out, decide_eq_true (show y.1 < x0 by omega)]; simp))
                        clear hqq hlp hn ho c2
                        go_wp2_with fail
                        rw [← hV]
                        clear hV
                        refine wp_region_pre 38 0 (fun W => Below V.heap.size V W) (fun W W' => Below W.heap.size W W')
                          (fun i v W => match i with
                            | 0 => v = .int .i64 (q : Int)
                            | 1 => v = .bool true
                            | 2 => v = .bool true
                            | 3 => v = .pointer (some ⟨wr.heap.size, 0, none⟩)
                            | 4 => v = .int .i64 x0
                            | 5 => v = .pointer (some ⟨w.heap.size, 1, none⟩)
                            | 6 => v = .slice (some ⟨b, off, none⟩) n.ap.length c'
                            | 7 => v = .int .i64 (q : Int)
                            | 8 => v = .int .i64 (m : Int)
                            | 9 => v = .pointer (some ⟨b, off + m * 2, none⟩)
                            | 10 => v = .pointer (some ⟨b, off + m * 2, none⟩)
                            | 11 => v = .int .i64 y.1
                            | 12 => v = .bool false
                            | 13 => v = .bool false
                            | 14 => v = .pointer (some ⟨wr.heap.size, 0, none⟩)
                            | 15 => v = .int .i64 x0
                            | 16 => v = .pointer (some ⟨w.heap.size, 1, none⟩)
                            | 17 => v = .slice (some ⟨b, off, none⟩) n.ap.length c'
                            | 18 => v = .int .i64 (q : Int)
                            | 19 => v = .int .i64 (m : Int)
                            | 20 => v = .pointer (some ⟨b, off + m * 2, none⟩)
                            | 21 => v = .pointer (some ⟨b, off + m * 2, none⟩)
                            | 22 => v = .int .i64 y.1
                            | 23 => v = .bool false
                            | 24 => v = .bool false
                            | 25 => v = undef
                            | 26 => v = undef
                            | 27 => v = undef
                            | 28 => v = undef
                            | 29 => v = undef
                            | 30 => v = undef
                            | 31 => v = undef
                            | 32 => v = undef
                            | 33 => v = undef
                            | 34 => v = undef
                            | 35 => v = .bool false
                            | 36 => v = .bool false
                            | 37 => v = .bool false
                            | _ => True) (fun _ => false)
                          (by kernel_rfl) (by kernel_rfl) (by kernel_rfl) (by kernel_rfl) (by kernel_rfl) (by kernel_rfl) (by kernel_rfl) ?_ (fun _ _ h => h.size) (dN (Below.refl _ _) 1) ?_ ?_
                        · intro i v W W' hb hF
                          match i, hF with
                          | 0, h => exact h
                          | 1, h => exact h
                          | 2, h => exact h
                          | 3, h => exact h
                          | 4, h => exact h
                          | 5, h => exact h
                          | 6, h => exact h
                          | 7, h => exact h
                          | 8, h => exact h
                          | 9, h => exact h
                          | 10, h => exact h
                          | 11, h => exact h
                          | 12, h => exact h
                          | 13, h => exact h
                          | 14, h => exact h
                          | 15, h => exact h
                          | 16, h => exact h
                          | 17, h => exact h
                          | 18, h => exact h
                          | 19, h => exact h
                          | 20, h => exact h
                          | 21, h => exact h
                          | 22, h => exact h
                          | 23, h => exact h
                          | 24, h => exact h
                          | 25, h => exact h
                          | 26, h => exact h
                          | 27, h => exact h
                          | 28, h => exact h
                          | 29, h => exact h
                          | 30, h => exact h
                          | 31, h => exact h
                          | 32, h => exact h
                          | 33, h => exact h
                          | 34, h => exact h
                          | 35, h => exact h
                          | 36, h => exact h
                          | 37, h => exact h
                          | _ + 38, _ => trivial
                        · refine ⟨?_, ?_, ?_, ?_, ?_, ?_, ?_, ?_, ?_, ?_, ?_, ?_, ?_, ?_, ?_, ?_, ?_, ?_, ?_, ?_, ?_, ?_, ?_, ?_, ?_, ?_, ?_, ?_, ?_, ?_, ?_, ?_, ?_, ?_, ?_, ?_, ?_, ?_, trivial⟩
                          · refine stepJ_any rfl fun ac W hAA hG hDD K hK => ?_
                            have h4 := hAA.getD (t := 4) (by kernel_rfl)
                            simp only [Array.getD_eq_getD_getElem?] at h4
                            rw [if_pos (by rfl)]
                            exact wp_val (v := .int .i64 (q : Int)) (w' := W) (by simp [execOp, Act.eval, h4, go_sem]) (hK _ _ hG (Below.refl _ _) rfl (fun h => by cases h))
                          · refine stepJ_any rfl fun ac W hAA hG hDD K hK => ?_
                            have h53 := hDD.get 0 53 _ rfl rfl (by kernel_rfl)
                            simp only [Array.getD_eq_getD_getElem?] at h53
                            have hk0 := hk0.out
                            rw [if_pos (by rfl)]
                            exact wp_val (v := .bool true) (w' := W) (by simp [execOp, Act.eval, h53, go_sem, hk0]) (hK _ _ hG (Below.refl _ _) rfl (fun h => by cases h))
                          · refine stepJ_any rfl fun ac W hAA hG hDD K hK => ?_
                            have h54 := hDD.get 1 54 _ rfl rfl (by kernel_rfl)
                            simp only [Array.getD_eq_getD_getElem?] at h54
                            rw [if_pos (by rfl)]
                            exact wp_val (v := .bool true) (w' := W) (by simp [execOp, Act.eval, h54, go_sem]) (hK _ _ hG (Below.refl _ _) rfl (fun h => by cases h))
                          · refine stepJ_any rfl fun ac W hAA hG hDD K hK => ?_
                            have h5 := hAA.getD (t := 5) (by kernel_rfl)
                            have hgd := hDD.get 2 55 _ rfl rfl (by kernel_rfl)
                            have hgd := slot_bool hgd
                            simp only [Array.getD_eq_getD_getElem?] at h5
                            rw [if_pos (by simp [Region.wanted, yielded, hgd])]
                            exact wp_val (v := .pointer (some ⟨wr.heap.size, 0, none⟩)) (w' := W) (by simp [execOp, Act.eval, h5, go_sem]) (hK _ _ hG (Below.refl _ _) rfl (fun h => by cases h))
                          · refine stepJ_any rfl fun ac W hAA hG hDD K hK => ?_
                            have h56 := hDD.get 3 56 _ rfl rfl (by kernel_rfl)
                            have hgd := hDD.get 2 55 _ rfl rfl (by kernel_rfl)
                            have hgd := slot_bool hgd
                            simp only [Array.getD_eq_getD_getElem?] at h56
                            obtain ⟨⟨k0, k1⟩, k2⟩ := hL.out W hG
                            rw [if_pos (by simp [Region.wanted, yielded, hgd])]
                            exact wp_val (v := .int .i64 x0) (w' := W) (by simp [execOp, Act.eval, h56, go_sem, k0]) (hK _ _ hG (Below.refl _ _) rfl (fun h => by cases h))
                          · refine stepJ_any rfl fun ac W hAA hG hDD K hK => ?_
                            have h1 := hAA.getD (t := 1) (by kernel_rfl)
                            have hgd := hDD.get 2 55 _ rfl rfl (by kernel_rfl)
                            have hgd := slot_bool hgd
                            simp only [Array.getD_eq_getD_getElem?] at h1
                            rw [if_pos (by simp [Region.wanted, yielded, hgd])]
                            exact wp_val (v := .pointer (some ⟨w.heap.size, 1, none⟩)) (w' := W) (by simp [execOp, Act.eval, h1, go_sem]) (hK _ _ hG (Below.refl _ _) rfl (fun h => by cases h))
                          · refine stepJ_any rfl fun ac W hAA hG hDD K hK => ?_
                            have h58 := hDD.get 5 58 _ rfl rfl (by kernel_rfl)
                            have hgd := hDD.get 2 55 _ rfl rfl (by kernel_rfl)
                            have hgd := slot_bool hgd
                            simp only [Array.getD_eq_getD_getElem?] at h58
                            obtain ⟨⟨k0, k1⟩, k2⟩ := hL.out W hG
                            rw [if_pos (by simp [Region.wanted, yielded, hgd])]
                            exact wp_val (v := .slice (some ⟨b, off, none⟩) n.ap.length c') (w' := W) (by simp [execOp, Act.eval, h58, go_sem, k2]) (hK _ _ hG (Below.refl _ _) rfl (fun h => by cases h))
                          · refine stepJ_any rfl fun ac W hAA hG hDD K hK => ?_
                            have h4 := hAA.getD (t := 4) (by kernel_rfl)
                            have hgd := hDD.get 2 55 _ rfl rfl (by kernel_rfl)
                            have hgd := slot_bool hgd
                            simp only [Array.getD_eq_getD_getElem?] at h4
                            rw [if_pos (by simp [Region.wanted, yielded, hgd])]
                            exact wp_val (v := .int .i64 (q : Int)) (w' := W) (by simp [execOp, Act.eval, h4, go_sem]) (hK _ _ hG (Below.refl _ _) rfl (fun h => by cases h))
                          · refine stepJ_any rfl fun ac W hAA hG hDD K hK => ?_
                            have h60 := hDD.get 7 60 _ rfl rfl (by kernel_rfl)
                            have hgd := hDD.get 2 55 _ rfl rfl (by kernel_rfl)
                            have hgd := slot_bool hgd
                            simp only [Array.getD_eq_getD_getElem?] at h60
                            have hks := hks.out
                            rw [if_pos (by simp [Region.wanted, yielded, hgd])]
                            exact wp_val (v := .int .i64 (m : Int)) (w' := W) (by simp [execOp, Act.eval, h60, go_sem, hks]) (hK _ _ hG (Below.refl _ _) rfl (fun h => by cases h))
                          · refine stepJ_any rfl fun ac W hAA hG hDD K hK => ?_
                            have h59 := hDD.get 6 59 _ rfl rfl (by kernel_rfl)
                            have h61 := hDD.get 8 61 _ rfl rfl (by kernel_rfl)
                            have hgd := hDD.get 2 55 _ rfl rfl (by kernel_rfl)
                            have hgd := slot_bool hgd
                            simp only [Array.getD_eq_getD_getElem?] at h59 h61
                            have hix := hix.out
                            rw [if_pos (by simp [Region.wanted, yielded, hgd])]
                            exact wp_val (v := .pointer (some ⟨b, off + m * 2, none⟩)) (w' := W) (by simp [execOp, Act.eval, h59, h61, go_sem, hix]) (hK _ _ hG (Below.refl _ _) rfl (fun h => by cases h))
                          · refine stepJ_any rfl fun ac W hAA hG hDD K hK => ?_
                            have h62 := hDD.get 9 62 _ rfl rfl (by kernel_rfl)
                            have hgd := hDD.get 2 55 _ rfl rfl (by kernel_rfl)
                            have hgd := slot_bool hgd
                            simp only [Array.getD_eq_getD_getElem?] at h62
                            rw [if_pos (by simp [Region.wanted, yielded, hgd])]
                            exact wp_val (v := .pointer (some ⟨b, off + m * 2, none⟩)) (w' := W) (by simp [execOp, Act.eval, h62, go_sem]) (hK _ _ hG (Below.refl _ _) rfl (fun h => by cases h))
                          · refine stepJ_any rfl fun ac W hAA hG hDD K hK => ?_
                            have h63 := hDD.get 10 63 _ rfl rfl (by kernel_rfl)
                            have hgd := hDD.get 2 55 _ rfl rfl (by kernel_rfl)
                            have hgd := slot_bool hgd
                            simp only [Array.getD_eq_getD_getElem?] at h63
                            obtain ⟨k0, k1⟩ := hY.out W hG
                            rw [if_pos (by simp [Region.wanted, yielded, hgd])]
                            exact wp_val (v := .int .i64 y.1) (w' := W) (by simp [execOp, Act.eval, h63, go_sem, k0]) (hK _ _ hG (Below.refl _ _) rfl (fun h => by cases h))
                          · refine stepJ_any rfl fun ac W hAA hG hDD K hK => ?_
                            have h57 := hDD.get 4 57 _ rfl rfl (by kernel_rfl)
                            have h64 := hDD.get 11 64 _ rfl rfl (by kernel_rfl)
                            have hgd := hDD.get 2 55 _ rfl rfl (by kernel_rfl)
                            have hgd := slot_bool hgd
                            simp only [Array.getD_eq_getD_getElem?] at h57 h64
                            have f1 := f1.out
                            rw [if_pos (by simp [Region.wanted, yielded, hgd])]
                            exact wp_val (v := .bool false) (w' := W) (by simp [execOp, Act.eval, h57, h64, go_sem, f1]) (hK _ _ hG (Below.refl _ _) rfl (fun h => by cases h))
                          · refine stepJ_any rfl fun ac W hAA hG hDD K hK => ?_
                            have h65 := hDD.get 12 65 _ rfl rfl (by kernel_rfl)
                            have hgd := hDD.get 2 55 _ rfl rfl (by kernel_rfl)
                            have hgd := slot_bool hgd
                            simp only [Array.getD_eq_getD_getElem?] at h65
                            rw [if_pos (by simp [Region.wanted, yielded, hgd])]
                            exact wp_val (v := .bool false) (w' := W) (by simp [execOp, Act.eval, h65, go_sem]) (hK _ _ hG (Below.refl _ _) rfl (fun h => by cases h))
                          · refine stepJ_any rfl fun ac W hAA hG hDD K hK => ?_
                            have h5 := hAA.getD (t := 5) (by kernel_rfl)
                            have hgd := hDD.get 13 66 _ rfl rfl (by kernel_rfl)
                            have hgd := slot_bool hgd
                            simp only [Array.getD_eq_getD_getElem?] at h5
                            rw [if_pos (by simp [Region.wanted, yielded, hgd])]
                            exact wp_val (v := .pointer (some ⟨wr.heap.size, 0, none⟩)) (w' := W) (by simp [execOp, Act.eval, h5, go_sem]) (hK _ _ hG (Below.refl _ _) rfl (fun h => by cases h))
                          · refine stepJ_any rfl fun ac W hAA hG hDD K hK => ?_
                            have h67 := hDD.get 14 67 _ rfl rfl (by kernel_rfl)
                            have hgd := hDD.get 13 66 _ rfl rfl (by kernel_rfl)
                            have hgd := slot_bool hgd
                            simp only [Array.getD_eq_getD_getElem?] at h67
                            obtain ⟨⟨k0, k1⟩, k2⟩ := hL.out W hG
                            rw [if_pos (by simp [Region.wanted, yielded, hgd])]
                            exact wp_val (v := .int .i64 x0) (w' := W) (by simp [execOp, Act.eval, h67, go_sem, k0]) (hK _ _ hG (Below.refl _ _) rfl (fun h => by cases h))
                          · refine stepJ_any rfl fun ac W hAA hG hDD K hK => ?_
                            have h1 := hAA.getD (t := 1) (by kernel_rfl)
                            have hgd := hDD.get 13 66 _ rfl rfl (by kernel_rfl)
                            have hgd := slot_bool hgd
                            simp only [Array.getD_eq_getD_getElem?] at h1
                            rw [if_pos (by simp [Region.wanted, yielded, hgd])]
                            exact wp_val (v := .pointer (some ⟨w.heap.size, 1, none⟩)) (w' := W) (by simp [execOp, Act.eval, h1, go_sem]) (hK _ _ hG (Below.refl _ _) rfl (fun h => by cases h))
                          · refine stepJ_any rfl fun ac W hAA hG hDD K hK => ?_
                            have h69 := hDD.get 16 69 _ rfl rfl (by kernel_rfl)
                            have hgd := hDD.get 13 66 _ rfl rfl (by kernel_rfl)
                            have hgd := slot_bool hgd
                            simp only [Array.getD_eq_getD_getElem?] at h69
                            obtain ⟨⟨k0, k1⟩, k2⟩ := hL.out W hG
                            rw [if_pos (by simp [Region.wanted, yielded, hgd])]
                            exact wp_val (v := .slice (some ⟨b, off, none⟩) n.ap.length c') (w' := W) (by simp [execOp, Act.eval, h69, go_sem, k2]) (hK _ _ hG (Below.refl _ _) rfl (fun h => by cases h))
                          · refine stepJ_any rfl fun ac W hAA hG hDD K hK => ?_
                            have h4 := hAA.getD (t := 4) (by kernel_rfl)
                            have hgd := hDD.get 13 66 _ rfl rfl (by kernel_rfl)
                            have hgd := slot_bool hgd
                            simp only [Array.getD_eq_getD_getElem?] at h4
                            rw [if_pos (by simp [Region.wanted, yielded, hgd])]
                            exact wp_val (v := .int .i64 (q : Int)) (w' := W) (by simp [execOp, Act.eval, h4, go_sem]) (hK _ _ hG (Below.refl _ _) rfl (fun h => by cases h))
                          · refine stepJ_any rfl fun ac W hAA hG hDD K hK => ?_
                            have h71 := hDD.get 18 71 _ rfl rfl (by kernel_rfl)
                            have hgd := hDD.get 13 66 _ rfl rfl (by kernel_rfl)
                            have hgd := slot_bool hgd
                            simp only [Array.getD_eq_getD_getElem?] at h71
                            have hks := hks.out
                            rw [if_pos (by simp [Region.wanted, yielded, hgd])]
                            exact wp_val (v := .int .i64 (m : Int)) (w' := W) (by simp [execOp, Act.eval, h71, go_sem, hks]) (hK _ _ hG (Below.refl _ _) rfl (fun h => by cases h))
                          · refine stepJ_any rfl fun ac W hAA hG hDD K hK => ?_
                            have h70 := hDD.get 17 70 _ rfl rfl (by kernel_rfl)
                            have h72 := hDD.get 19 72 _ rfl rfl (by kernel_rfl)
                            have hgd := hDD.get 13 66 _ rfl rfl (by kernel_rfl)
                            have hgd := slot_bool hgd
                            simp only [Array.getD_eq_getD_getElem?] at h70 h72
                            have hix := hix.out
                            rw [if_pos (by simp [Region.wanted, yielded, hgd])]
                            exact wp_val (v := .pointer (some ⟨b, off + m * 2, none⟩)) (w' := W) (by simp [execOp, Act.eval, h70, h72, go_sem, hix]) (hK _ _ hG (Below.refl _ _) rfl (fun h => by cases h))
                          · refine stepJ_any rfl fun ac W hAA hG hDD K hK => ?_
                            have h73 := hDD.get 20 73 _ rfl rfl (by kernel_rfl)
                            have hgd := hDD.get 13 66 _ rfl rfl (by kernel_rfl)
                            have hgd := slot_bool hgd
                            simp only [Array.getD_eq_getD_getElem?] at h73
                            rw [if_pos (by simp [Region.wanted, yielded, hgd])]
                            exact wp_val (v := .pointer (some ⟨b, off + m * 2, none⟩)) (w' := W) (by simp [execOp, Act.eval, h73, go_sem]) (hK _ _ hG (Below.refl _ _) rfl (fun h => by cases h))
                          · refine stepJ_any rfl fun ac W hAA hG hDD K hK => ?_
                            have h74 := hDD.get 21 74 _ rfl rfl (by kernel_rfl)
                            have hgd := hDD.get 13 66 _ rfl rfl (by kernel_rfl)
                            have hgd := slot_bool hgd
                            simp only [Array.getD_eq_getD_getElem?] at h74
                            obtain ⟨k0, k1⟩ := hY.out W hG
                            rw [if_pos (by simp [Region.wanted, yielded, hgd])]
                            exact wp_val (v := .int .i64 y.1) (w' := W) (by simp [execOp, Act.eval, h74, go_sem, k0]) (hK _ _ hG (Below.refl _ _) rfl (fun h => by cases h))
                          · refine stepJ_any rfl fun ac W hAA hG hDD K hK => ?_
                            have h68 := hDD.get 15 68 _ rfl rfl (by kernel_rfl)
                            have h75 := hDD.get 22 75 _ rfl rfl (by kernel_rfl)
                            have hgd := hDD.get 13 66 _ rfl rfl (by kernel_rfl)
                            have hgd := slot_bool hgd
                            simp only [Array.getD_eq_getD_getElem?] at h68 h75
                            have f2 := f2.out
                            rw [if_pos (by simp [Region.wanted, yielded, hgd])]
                            exact wp_val (v := .bool false) (w' := W) (by simp [execOp, Act.eval, h68, h75, go_sem, f2]) (hK _ _ hG (Below.refl _ _) rfl (fun h => by cases h))
                          · refine stepJ_any rfl fun ac W hAA hG hDD K hK => ?_
                            have h76 := hDD.get 23 76 _ rfl rfl (by kernel_rfl)
                            have hgd := hDD.get 13 66 _ rfl rfl (by kernel_rfl)
                            have hgd := slot_bool hgd
                            simp only [Array.getD_eq_getD_getElem?] at h76
                            rw [if_pos (by simp [Region.wanted, yielded, hgd])]
                            exact wp_val (v := .bool false) (w' := W) (by simp [execOp, Act.eval, h76, go_sem]) (hK _ _ hG (Below.refl _ _) rfl (fun h => by cases h))
                          · refine stepJ_any rfl fun ac W hAA hG hDD K hK => ?_
                            have hgd := hDD.get 24 77 _ rfl rfl (by kernel_rfl)
                            have hgd := slot_bool hgd
                            rw [if_neg (by simp [Region.wanted, yielded, hgd])]
                            exact hK undef W hG (Below.refl _ _) rfl (fun h => by cases h)
                          · refine stepJ_any rfl fun ac W hAA hG hDD K hK => ?_
                            have hgd := hDD.get 24 77 _ rfl rfl (by kernel_rfl)
                            have hgd := slot_bool hgd
                            rw [if_neg (by simp [Region.wanted, yielded, hgd])]
                            exact hK undef W hG (Below.refl _ _) rfl (fun h => by cases h)
                          · refine stepJ_any rfl fun ac W hAA hG hDD K hK => ?_
                            have hgd := hDD.get 24 77 _ rfl rfl (by kernel_rfl)
                            have hgd := slot_bool hgd
                            rw [if_neg (by simp [Region.wanted, yielded, hgd])]
                            exact hK undef W hG (Below.refl _ _) rfl (fun h => by cases h)
                          · refine stepJ_any rfl fun ac W hAA hG hDD K hK => ?_
                            have hgd := hDD.get 24 77 _ rfl rfl (by kernel_rfl)
                            have hgd := slot_bool hgd
                            rw [if_neg (by simp [Region.wanted, yielded, hgd])]
                            exact hK undef W hG (Below.refl _ _) rfl (fun h => by cases h)
                          · refine stepJ_any rfl fun ac W hAA hG hDD K hK => ?_
                            have hgd := hDD.get 24 77 _ rfl rfl (by kernel_rfl)
                            have hgd := slot_bool hgd
                            rw [if_neg (by simp [Region.wanted, yielded, hgd])]
                            exact hK undef W hG (Below.refl _ _) rfl (fun h => by cases h)
                          · refine stepJ_any rfl fun ac W hAA hG hDD K hK => ?_
                            have hgd := hDD.get 24 77 _ rfl rfl (by kernel_rfl)
                            have hgd := slot_bool hgd
                            rw [if_neg (by simp [Region.wanted, yielded, hgd])]
                            exact hK undef W hG (Below.refl _ _) rfl (fun h => by cases h)
                          · refine stepJ_any rfl fun ac W hAA hG hDD K hK => ?_
                            have hgd := hDD.get 24 77 _ rfl rfl (by kernel_rfl)
                            have hgd := slot_bool hgd
                            rw [if_neg (by simp [Region.wanted, yielded, hgd])]
                            exact hK undef W hG (Below.refl _ _) rfl (fun h => by cases h)
                          · refine stepJ_any rfl fun ac W hAA hG hDD K hK => ?_
                            have hgd := hDD.get 24 77 _ rfl rfl (by kernel_rfl)
                            have hgd := slot_bool hgd
                            rw [if_neg (by simp [Region.wanted, yielded, hgd])]
                            exact hK undef W hG (Below.refl _ _) rfl (fun h => by cases h)
                          · refine stepJ_any rfl fun ac W hAA hG hDD K hK => ?_
                            have hgd := hDD.get 24 77 _ rfl rfl (by kernel_rfl)
                            have hgd := slot_bool hgd
                            rw [if_neg (by simp [Region.wanted, yielded, hgd])]
                            exact hK undef W hG (Below.refl _ _) rfl (fun h => by cases h)
                          · refine stepJ_any rfl fun ac W hAA hG hDD K hK => ?_
                            have hgd := hDD.get 24 77 _ rfl rfl (by kernel_rfl)
                            have hgd := slot_bool hgd
                            rw [if_neg (by simp [Region.wanted, yielded, hgd])]
                            exact hK undef W hG (Below.refl _ _) rfl (fun h => by cases h)
                          · refine stepJ_any rfl fun ac W hAA hG hDD K hK => ?_
                            have h77 := hDD.get 24 77 _ rfl rfl (by kernel_rfl)
                            have h87 := hDD.get 34 87 _ rfl rfl (by kernel_rfl)
                            have hgd := hDD.get 13 66 _ rfl rfl (by kernel_rfl)
                            have hgd := slot_bool hgd
                            simp only [Array.getD_eq_getD_getElem?] at h77 h87
                            rw [if_pos (by simp [Region.wanted, yielded, hgd])]
                            exact wp_val (v := .bool false) (w' := W) (by simp [execOp, Act.eval, h77, h87, go_sem]) (hK _ _ hG (Below.refl _ _) rfl (fun h => by cases h))
                          · refine stepJ_any rfl fun ac W hAA hG hDD K hK => ?_
                            have h66 := hDD.get 13 66 _ rfl rfl (by kernel_rfl)
                            have h88 := hDD.get 35 88 _ rfl rfl (by kernel_rfl)
                            have hgd := hDD.get 2 55 _ rfl rfl (by kernel_rfl)
                            have hgd := slot_bool hgd
                            simp only [Array.getD_eq_getD_getElem?] at h66 h88
                            rw [if_pos (by simp [Region.wanted, yielded, hgd])]
                            exact wp_val (v := .bool false) (w' := W) (by simp [execOp, Act.eval, h66, h88, go_sem]) (hK _ _ hG (Below.refl _ _) rfl (fun h => by cases h))
                          · refine stepJ_any rfl fun ac W hAA hG hDD K hK => ?_
                            have h55 := hDD.get 2 55 _ rfl rfl (by kernel_rfl)
                            have h89 := hDD.get 36 89 _ rfl rfl (by kernel_rfl)
                            simp only [Array.getD_eq_getD_getElem?] at h55 h89
                            rw [if_pos (by rfl)]
                            exact wp_val (v := .bool false) (w' := W) (by simp [execOp, Act.eval, h55, h89, go_sem]) (hK _ _ hG (Below.refl _ _) rfl (fun h => by cases h))
                        intro fu T W9 hG hF hne hltb
                        have e53 : T 53 = .int .i64 (q : Int) := hF 0 _ rfl (by omega)
                        have e54 : T 54 = .bool true := hF 1 _ rfl (by omega)
                        have e55 : T 55 = .bool true := hF 2 _ rfl (by omega)
                        have e56 : T 56 = .pointer (some ⟨wr.heap.size, 0, none⟩) := hF 3 _ rfl (by omega)
                        have e57 : T 57 = .int .i64 x0 := hF 4 _ rfl (by omega)
                        have e58 : T 58 = .pointer (some ⟨w.heap.size, 1, none⟩) := hF 5 _ rfl (by omega)
                        have e59 : T 59 = .slice (some ⟨b, off, none⟩) n.ap.length c' := hF 6 _ rfl (by omega)
                        have e60 : T 60 = .int .i64 (q : Int) := hF 7 _ rfl (by omega)
                        have e61 : T 61 = .int .i64 (m : Int) := hF 8 _ rfl (by omega)
                        have e62 : T 62 = .pointer (some ⟨b, off + m * 2, none⟩) := hF 9 _ rfl (by omega)
                        have e63 : T 63 = .pointer (some ⟨b, off + m * 2, none⟩) := hF 10 _ rfl (by omega)
                        have e64 : T 64 = .int .i64 y.1 := hF 11 _ rfl (by omega)
                        have e65 : T 65 = .bool false := hF 12 _ rfl (by omega)
                        have e66 : T 66 = .bool false := hF 13 _ rfl (by omega)
                        have e67 : T 67 = .pointer (some ⟨wr.heap.size, 0, none⟩) := hF 14 _ rfl (by omega)
                        have e68 : T 68 = .int .i64 x0 := hF 15 _ rfl (by omega)
                        have e69 : T 69 = .pointer (some ⟨w.heap.size, 1, none⟩) := hF 16 _ rfl (by omega)
                        have e70 : T 70 = .slice (some ⟨b, off, none⟩) n.ap.length c' := hF 17 _ rfl (by omega)
                        have e71 : T 71 = .int .i64 (q : Int) := hF 18 _ rfl (by omega)
                        have e72 : T 72 = .int .i64 (m : Int) := hF 19 _ rfl (by omega)
                        have e73 : T 73 = .pointer (some ⟨b, off + m * 2, none⟩) := hF 20 _ rfl (by omega)
                        have e74 : T 74 = .pointer (some ⟨b, off + m * 2, none⟩) := hF 21 _ rfl (by omega)
                        have e75 : T 75 = .int .i64 y.1 := hF 22 _ rfl (by omega)
                        have e76 : T 76 = .bool false := hF 23 _ rfl (by omega)
                        have e77 : T 77 = .bool false := hF 24 _ rfl (by omega)
                        have e78 : T 78 = undef := hF 25 _ rfl (by omega)
                        have e79 : T 79 = undef := hF 26 _ rfl (by omega)
                        have e80 : T 80 = undef := hF 27 _ rfl (by omega)
                        have e81 : T 81 = undef := hF 28 _ rfl (by omega)
                        have e82 : T 82 = undef := hF 29 _ rfl (by omega)
                        have e83 : T 83 = undef := hF 30 _ rfl (by omega)
                        have e84 : T 84 = undef := hF 31 _ rfl (by omega)
                        have e85 : T 85 = undef := hF 32 _ rfl (by omega)
                        have e86 : T 86 = undef := hF 33 _ rfl (by omega)
                        have e87 : T 87 = undef := hF 34 _ rfl (by omega)
                        have e88 : T 88 = .bool false := hF 35 _ rfl (by omega)
                        have e89 : T 89 = .bool false := hF 36 _ rfl (by omega)
                        have e90 : T 90 = .bool false := hF 37 _ rfl (by omega)
                        clear hF hne hltb
                        simp only [List.take, fillT, List.setIfInBounds_toArray, List.set_cons_zero, List.set_cons_succ, e53, e54, e55, e56, e57, e58, e59, e60, e61, e62, e63, e64, e65, e66, e67, e68, e69, e70, e71, e72, e73, e74, e75, e76, e77, e78, e79, e80, e81, e82, e83, e84, e85, e86, e87, e88, e89, e90]
                        clear e53 e54 e55 e56 e57 e58 e59 e60 e61 e62 e63 e64 e65 e66 e67 e68 e69 e70 e71 e72 e73 e74 e75 e76 e77 e78 e79 e80 e81 e82 e83 e84 e85 e86 e87 e88 e89 e90
                        refine wpAny_done (by kernel_rfl) ?_ _
                        go_wp2_with fail
                        go_roundw
                        case rel => exact ⟨q + 1, by omega, by go_num, hnx.out, hfin.out.trans (hG.mono (by omega))⟩
                        case measure => simp [intOf]; omega
                · have hv := Lib.hid (nchk_no (ntB_ap (ho.out (by rw [hqe.out, hkp.out, decide_eq_false hz]; simp))))
                  clear hx hy
                  go_wp2_with fail
                  go_ret
                  exact ⟨retI hv.out.symm, (unbox hbx.out).alloc (by have := hbx.out.size; simp at this; omega) _⟩
          · have hv := Lib.hid (show nchk n = 0 by unfold nchk; rw [ntB_yes (by omega) (by have := hall.out; rwa [show q = n.ap.length by omega] at this) hqa.out]; rfl)
            have hle : ¬ ((q : Int) < n.ap.length) := by omega
            have hb5 := Lib.hid (unbox hb)
            clear hlt hall hb
            go_wp2_with fail
            go_ret
            exact ⟨retI hv.out.symm, hb5.out⟩
end Go.Proofs.Ytpmmahlmfcbbbaa
