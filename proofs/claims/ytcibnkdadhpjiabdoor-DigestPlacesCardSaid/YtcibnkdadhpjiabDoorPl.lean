/- DigestPlaces: the law. -/
import Derived.Test.YtcibnkdadhpjiabDoorSt
namespace Go.Proofs.YtcibnkdadhpjiabDoor
open Go.RowKit

theorem path_desc (n : Nat) : ∀ (l : List (List UInt8)) (i : Nat), l.length ≤ n → l.length ≤ 1000000000 → (pathH l i).length = (desc i l.length).length := by
  induction n with
  | zero => intro l i h _; rw [pathH_one l i (by omega), desc_one i _ (by omega)]; rfl
  | succ n ih =>
    intro l i h hm
    by_cases h2 : 2 ≤ l.length
    · have hb := half_bounds l.length h2 (by omega)
      rw [pathH_two l i h2 (by omega), desc_step i l.length h2 (by omega)]
      by_cases hi : i < half l.length
      · rw [if_pos hi, if_pos hi, List.length_append, List.length_cons, ih (l.take (half l.length)) i (by rw [List.length_take]; omega) (by rw [List.length_take]; omega),
          show (l.take (half l.length)).length = half l.length by rw [List.length_take]; omega]
        rfl
      · rw [if_neg hi, if_neg hi, List.length_append, List.length_cons, ih (l.drop (half l.length)) _ (by rw [List.length_drop]; omega) (by rw [List.length_drop]; omega), List.length_drop]
        rfl
    · rw [pathH_one l i (by omega), desc_one i _ (by omega)]; rfl

attribute [local irreducible] Calls
set_option maxRecDepth 100000 in
set_option maxHeartbeats 1000000 in
theorem places_any (s : List UInt8) (i n : Int) (w : World) (A : Option Addr) (c : Nat) (hr : RBs w w.heap.size A s) (hs : s.length ≤ 9223372036854775807) (hK : KT w) (h0 : 0 < w.heap.size) : Calls Tryd.prog 4 #[.slice A s.length c, .int .i64 i, .int .i64 n] w fun e w' => e = .returned (.bool true) ∧ Below w.heap.size w w' := by
  have hKH := Lib.hid hK
  have hrH := Lib.hid hr
  have hlen : (dsOf s).length ≤ 24 := by rw [dsOf_length]; omega
  have h32 := dsTo_32 s (min s.length 24)
  rw [← dsOf_eq] at h32
  clear hK hr
  go_enter Tryd.func4, Tryd.ntmps4
  go_wp2_with fail
  refine (sane_any w hKH.out h0).mono ?_
  rintro e w1 ⟨rfl, hb1⟩
  have hD := digestsOf_any s w1 A c (RBs.below hrH.out hb1) hs
  have hD' := Lib.hid hD
  clear hD
  go_wp2_with fail
  refine hD'.out.mono ?_
  rintro e w2 ⟨v, rfl, hod, hb2⟩
  generalize dsOf s = l at *
  obtain ⟨a, cap, rfl, hR⟩ := hod.reads h32
  have hB2 := hb1.trans (hb2.mono hb1.size)
  have hRH := Lib.hid hR
  clear hod hb1 hb2 hD' hR
  by_cases hout : i < 0 ∨ (l.length : Int) ≤ i
  · have hP := Path_out l.length i hout w2 a cap
    have hP' := Lib.hid hP
    clear hP
    go_wp2_with fail
    refine hP'.out.mono ?_
    rintro e w3 ⟨rfl, rfl⟩
    rcases hout with h1 | h1
    · go_wp2_with fail
      go_ret
      exact ⟨rfl, hB2⟩
    · by_cases h2 : i < 0
      · go_wp2_with fail
        go_ret
        exact ⟨rfl, hB2⟩
      · go_wp2_with fail
        go_ret
        exact ⟨rfl, hB2⟩
  · obtain ⟨m, rfl⟩ : ∃ m : Nat, i = m := ⟨i.toNat, by omega⟩
    have hml : m < l.length := by omega
    have hP := Path_in l (by omega) m hml w2 a cap hRH.out (hKH.out.below hB2 h0) (Nat.lt_of_lt_of_le h0 hB2.size)
    have hP' := Lib.hid hP
    have h32p := pathH_32 _ l m (Nat.le_refl _) (by omega)
    have hpd := path_desc _ l m (Nat.le_refl _) (by omega)
    have hS := steps_any m l.length (by omega) hml
    rw [← hpd] at hS
    have hpl := pathH_length _ l m (Nat.le_refl _) (by omega)
    generalize pathH l m = p at *
    have hS' := Lib.hid hS
    have hpd' := Lib.hid hpd
    have g1 : ¬ ((m : Int) < 0) := by omega
    have g2 : ¬ ((l.length : Int) ≤ m) := by omega
    clear hP hS hpd
    go_wp2_with fail
    refine hP'.out.mono ?_
    rintro e w3 ⟨v3, rfl, hop, hb3⟩
    obtain ⟨a3, cap3, rfl, hRp⟩ := hop.reads h32p
    have hB3 := hB2.trans (hb3.mono hB2.size)
    have hR3 := Lib.hid (hRH.out.below hb3)
    have hRp' := Lib.hid hRp
    clear hop hRp hP' hb3 hRH
    go_wp2_with fail
    refine (hS'.out _).mono ?_
    rintro e w4 ⟨rfl, rfl⟩
    have hw1 : IntKind.i64.wrap ((l.length : Int) + 1) = l.length + 1 := IntWalk.i64_in _ (by omega)
    have hw2 : IntKind.i64.wrap (2 * (l.length : Int)) = 2 * l.length := IntWalk.i64_in _ (by omega)
    go_wp2_with fail
    have hnew := heap_alloc_new w3 (.cells #[.int .i64 n, .int .i64 (bits .and .i64 n 31), .int .i64 ((l.length : Int) + 1), .int .i64 (2 * (l.length : Int))] 3)
    have hcells : ∀ k, k < 4 → ∃ M : Int, (w3.alloc (.cells #[.int .i64 n, .int .i64 (bits .and .i64 n 31), .int .i64 ((l.length : Int) + 1), .int .i64 (2 * (l.length : Int))] 3)).cell? ⟨w3.heap.size, k, none⟩ = some (.int .i64 M) := fun k hk => by
      match k, hk with
      | 0, _ => exact ⟨_, (cell_of_row _ w3.heap.size 0 _ _ _ hnew).trans rfl⟩
      | 1, _ => exact ⟨_, (cell_of_row _ w3.heap.size 1 _ _ _ hnew).trans rfl⟩
      | 2, _ => exact ⟨_, (cell_of_row _ w3.heap.size 2 _ _ _ hnew).trans rfl⟩
      | 3, _ => exact ⟨_, (cell_of_row _ w3.heap.size 3 _ _ _ hnew).trans rfl⟩
    have hba := (Below.refl w3.heap.size w3).alloc (Nat.le_refl _) (.cells #[.int .i64 n, .int .i64 (bits .and .i64 n 31), .int .i64 ((l.length : Int) + 1), .int .i64 (2 * (l.length : Int))] 3)
    have hR4 := Lib.hid (hR3.out.below hba)
    have hRp4 := Lib.hid (hRp'.out.below hba)
    have hB4 := Lib.hid (hB3.trans (hba.mono hB3.size))
    have hlt4 : w3.heap.size < (w3.alloc (.cells #[.int .i64 n, .int .i64 (bits .and .i64 n 31), .int .i64 ((l.length : Int) + 1), .int .i64 (2 * (l.length : Int))] 3)).heap.size := by simp
    have hcells' := Lib.hid hcells
    clear hnew hcells hba hR3 hRp' hB3
    generalize w3.alloc (.cells #[.int .i64 n, .int .i64 (bits .and .i64 n 31), .int .i64 ((l.length : Int) + 1), .int .i64 (2 * (l.length : Int))] 3) = w4 at *
    go_loopw [62] (fun x wr => ∃ k : Nat, x = .int .i64 k ∧ k ≤ 4 ∧ Hid (Below w4.heap.size w4 wr)) (fun x _ => 4 - (intOf x).toNat)
    case atStart => exact ⟨0, rfl, by omega, Lib.hid (Below.refl _ _)⟩
    case round =>
      obtain ⟨k, rfl, hk, hbr⟩ := hrel
      by_cases hk4 : k < 4
      · obtain ⟨M, hM⟩ := hcells'.out k hk4
        have hcM : wr.cell? ⟨w3.heap.size, k, none⟩ = some (.int .i64 M) := (hbr.out.cell (p := ⟨w3.heap.size, k, none⟩) hlt4).trans hM
        have hRr := hR4.out.below hbr.out
        obtain ⟨b, off, rfl, hbl, hel⟩ := hRr.at_ hml
        have hx32 : l[m].length = 32 := h32 _ (List.getElem_mem hml)
        have hBr := hB4.out.trans (hbr.out.mono hB4.out.size)
        have hu : Tryd.prog.underlying 24 = some (.array 32 5) := by kernel_rfl
        have hi : (Tryd.prog.info? 24).map (·.size) = some 32 := by kernel_rfl
        have hlx := Lib.hid (show (BV l[m]).length = 32 from BV_length32 hx32)
        by_cases hfit : (m : Int) < M ∧ M ≤ 1099511627776
        · obtain ⟨n', rfl⟩ : ∃ n' : Nat, M = n' := ⟨M.toNat, by omega⟩
          have hS := steps_any m n' (by omega) (by omega)
          have hS' := Lib.hid hS
          obtain ⟨f1, f2⟩ := hfit
          clear hS hM
          go_wp2_with fail
          refine (hS'.out _).mono ?_
          rintro e w5 ⟨rfl, rfl⟩
          by_cases heq : p.length = (desc m n').length
          · have hC := Climb_ok l[m] hx32 m n' (by omega) (by omega) p heq wr a3 cap3 (hRp4.out.below hbr.out) (hKH.out.below hBr h0) (Nat.lt_of_lt_of_le h0 hBr.size)
            have hup := upTo_length l[m] (desc m n') p p.length
            generalize upTo l[m] (desc m n') p p.length = R at hC hup
            have hC' := Lib.hid hC
            have hup' := Lib.hid hup
            rw [← heq]
            clear hC hup heq
            go_wp2_with (refine wpList_load_mid rfl 24 _ rfl b (off + m * 32) rfl _ _ hel hu rfl ?cp ?_; case cp => rw [hi, hlx.out])
            refine hC'.out.mono ?_
            rintro e w5 ⟨rfl, hb5⟩
            have hz := (zero_new w5).1
            have hb6 : Below w4.heap.size w4 ((w5.alloc (.cells #[.int .u8 0, .int .u8 0, .int .u8 0, .int .u8 0, .int .u8 0, .int .u8 0, .int .u8 0, .int .u8 0, .int .u8 0, .int .u8 0, .int .u8 0, .int .u8 0, .int .u8 0, .int .u8 0, .int .u8 0, .int .u8 0, .int .u8 0, .int .u8 0, .int .u8 0, .int .u8 0, .int .u8 0, .int .u8 0, .int .u8 0, .int .u8 0, .int .u8 0, .int .u8 0, .int .u8 0, .int .u8 0, .int .u8 0, .int .u8 0, .int .u8 0, .int .u8 0] 24)).setRow w5.heap.size (BV (R)).toArray) := below_row ((hbr.out.trans (hb5.mono hbr.out.size)).alloc (Nat.le_trans hbr.out.size hb5.size) (.cells #[.int .u8 0, .int .u8 0, .int .u8 0, .int .u8 0, .int .u8 0, .int .u8 0, .int .u8 0, .int .u8 0, .int .u8 0, .int .u8 0, .int .u8 0, .int .u8 0, .int .u8 0, .int .u8 0, .int .u8 0, .int .u8 0, .int .u8 0, .int .u8 0, .int .u8 0, .int .u8 0, .int .u8 0, .int .u8 0, .int .u8 0, .int .u8 0, .int .u8 0, .int .u8 0, .int .u8 0, .int .u8 0, .int .u8 0, .int .u8 0, .int .u8 0, .int .u8 0] 24)) _ (Nat.le_trans hbr.out.size hb5.size) (by have h1 := hbr.out.size; have h2 := hb5.size; simp; omega)
            have hb6' := Lib.hid hb6
            have hs6 := Lib.hid (DV_size (d := R) hup'.out)
            clear hb6 hel
            go_wp2_with (refine wpList_store_row rfl 24 _ _ rfl w5.heap.size _ rfl rfl 24 _ hz ?cj ?cl ?ck ?_
                         case cj => rw [hi, hs6.out]
                         case cl => rw [hs6.out]; rfl
                         case ck => exact BV_all _)
            go_roundw
            case rel => exact ⟨k + 1, by go_num, by omega, hb6'⟩
            case measure => simp [intOf]; omega
          · have hC := Climb_len l[m] m n' (by omega) (by omega) p.length heq wr a3 cap3
            have hne : (((desc m n').length : Int) == (p.length : Int)) = false := by simp; omega
            have hC' := Lib.hid hC
            clear hC
            generalize (desc m n').length = q at *
            go_wp2_with (refine wpList_load_mid rfl 24 _ rfl b (off + m * 32) rfl _ _ hel hu rfl ?cp ?_; case cp => rw [hi, hlx.out])
            refine hC'.out.mono ?_
            rintro e w5 ⟨rfl, hb5⟩
            have hz := (zero_new w5).1
            have hb6 : Below w4.heap.size w4 ((w5.alloc (.cells #[.int .u8 0, .int .u8 0, .int .u8 0, .int .u8 0, .int .u8 0, .int .u8 0, .int .u8 0, .int .u8 0, .int .u8 0, .int .u8 0, .int .u8 0, .int .u8 0, .int .u8 0, .int .u8 0, .int .u8 0, .int .u8 0, .int .u8 0, .int .u8 0, .int .u8 0, .int .u8 0, .int .u8 0, .int .u8 0, .int .u8 0, .int .u8 0, .int .u8 0, .int .u8 0, .int .u8 0, .int .u8 0, .int .u8 0, .int .u8 0, .int .u8 0, .int .u8 0] 24)).setRow w5.heap.size (BV (zeroD)).toArray) := below_row ((hbr.out.trans (hb5.mono hbr.out.size)).alloc (Nat.le_trans hbr.out.size hb5.size) (.cells #[.int .u8 0, .int .u8 0, .int .u8 0, .int .u8 0, .int .u8 0, .int .u8 0, .int .u8 0, .int .u8 0, .int .u8 0, .int .u8 0, .int .u8 0, .int .u8 0, .int .u8 0, .int .u8 0, .int .u8 0, .int .u8 0, .int .u8 0, .int .u8 0, .int .u8 0, .int .u8 0, .int .u8 0, .int .u8 0, .int .u8 0, .int .u8 0, .int .u8 0, .int .u8 0, .int .u8 0, .int .u8 0, .int .u8 0, .int .u8 0, .int .u8 0, .int .u8 0] 24)) _ (Nat.le_trans hbr.out.size hb5.size) (by have h1 := hbr.out.size; have h2 := hb5.size; simp; omega)
            have hb6' := Lib.hid hb6
            have hs6 := Lib.hid (DV_size (d := zeroD) rfl)
            clear hb6 hel
            go_wp2_with (refine wpList_store_row rfl 24 _ _ rfl w5.heap.size _ rfl rfl 24 _ hz ?cj ?cl ?ck ?_
                         case cj => rw [hi, hs6.out]
                         case cl => rfl
                         case ck => exact BV_all _)
            go_roundw
            case rel => exact ⟨k + 1, by go_num, by omega, hb6'⟩
            case measure => simp [intOf]; omega
        · have hC := Climb_arg l[m] m M (by omega) wr (.slice a3 p.length cap3)
          have hC' := Lib.hid hC
          clear hC hM
          by_cases hmM : (m : Int) < M
          · have hM2 : ¬ M ≤ 1099511627776 := by omega
            go_wp2_with (refine wpList_load_mid rfl 24 _ rfl b (off + m * 32) rfl _ _ hel hu rfl ?cp ?_; case cp => rw [hi, hlx.out])
            refine hC'.out.mono ?_
            rintro e w5 ⟨rfl, hb5⟩
            have hz := (zero_new w5).1
            have hb6 : Below w4.heap.size w4 ((w5.alloc (.cells #[.int .u8 0, .int .u8 0, .int .u8 0, .int .u8 0, .int .u8 0, .int .u8 0, .int .u8 0, .int .u8 0, .int .u8 0, .int .u8 0, .int .u8 0, .int .u8 0, .int .u8 0, .int .u8 0, .int .u8 0, .int .u8 0, .int .u8 0, .int .u8 0, .int .u8 0, .int .u8 0, .int .u8 0, .int .u8 0, .int .u8 0, .int .u8 0, .int .u8 0, .int .u8 0, .int .u8 0, .int .u8 0, .int .u8 0, .int .u8 0, .int .u8 0, .int .u8 0] 24)).setRow w5.heap.size (BV (zeroD)).toArray) := below_row ((hbr.out.trans (hb5.mono hbr.out.size)).alloc (Nat.le_trans hbr.out.size hb5.size) (.cells #[.int .u8 0, .int .u8 0, .int .u8 0, .int .u8 0, .int .u8 0, .int .u8 0, .int .u8 0, .int .u8 0, .int .u8 0, .int .u8 0, .int .u8 0, .int .u8 0, .int .u8 0, .int .u8 0, .int .u8 0, .int .u8 0, .int .u8 0, .int .u8 0, .int .u8 0, .int .u8 0, .int .u8 0, .int .u8 0, .int .u8 0, .int .u8 0, .int .u8 0, .int .u8 0, .int .u8 0, .int .u8 0, .int .u8 0, .int .u8 0, .int .u8 0, .int .u8 0] 24)) _ (Nat.le_trans hbr.out.size hb5.size) (by have h1 := hbr.out.size; have h2 := hb5.size; simp; omega)
            have hb6' := Lib.hid hb6
            have hs6 := Lib.hid (DV_size (d := zeroD) rfl)
            clear hb6 hel
            go_wp2_with (refine wpList_store_row rfl 24 _ _ rfl w5.heap.size _ rfl rfl 24 _ hz ?cj ?cl ?ck ?_
                         case cj => rw [hi, hs6.out]
                         case cl => rfl
                         case ck => exact BV_all _)
            go_roundw
            case rel => exact ⟨k + 1, by go_num, by omega, hb6'⟩
            case measure => simp [intOf]; omega
          · go_wp2_with (refine wpList_load_mid rfl 24 _ rfl b (off + m * 32) rfl _ _ hel hu rfl ?cp ?_; case cp => rw [hi, hlx.out])
            refine hC'.out.mono ?_
            rintro e w5 ⟨rfl, hb5⟩
            have hz := (zero_new w5).1
            have hb6 : Below w4.heap.size w4 ((w5.alloc (.cells #[.int .u8 0, .int .u8 0, .int .u8 0, .int .u8 0, .int .u8 0, .int .u8 0, .int .u8 0, .int .u8 0, .int .u8 0, .int .u8 0, .int .u8 0, .int .u8 0, .int .u8 0, .int .u8 0, .int .u8 0, .int .u8 0, .int .u8 0, .int .u8 0, .int .u8 0, .int .u8 0, .int .u8 0, .int .u8 0, .int .u8 0, .int .u8 0, .int .u8 0, .int .u8 0, .int .u8 0, .int .u8 0, .int .u8 0, .int .u8 0, .int .u8 0, .int .u8 0] 24)).setRow w5.heap.size (BV (zeroD)).toArray) := below_row ((hbr.out.trans (hb5.mono hbr.out.size)).alloc (Nat.le_trans hbr.out.size hb5.size) (.cells #[.int .u8 0, .int .u8 0, .int .u8 0, .int .u8 0, .int .u8 0, .int .u8 0, .int .u8 0, .int .u8 0, .int .u8 0, .int .u8 0, .int .u8 0, .int .u8 0, .int .u8 0, .int .u8 0, .int .u8 0, .int .u8 0, .int .u8 0, .int .u8 0, .int .u8 0, .int .u8 0, .int .u8 0, .int .u8 0, .int .u8 0, .int .u8 0, .int .u8 0, .int .u8 0, .int .u8 0, .int .u8 0, .int .u8 0, .int .u8 0, .int .u8 0, .int .u8 0] 24)) _ (Nat.le_trans hbr.out.size hb5.size) (by have h1 := hbr.out.size; have h2 := hb5.size; simp; omega)
            have hb6' := Lib.hid hb6
            have hs6 := Lib.hid (DV_size (d := zeroD) rfl)
            clear hb6 hel
            go_wp2_with (refine wpList_store_row rfl 24 _ _ rfl w5.heap.size _ rfl rfl 24 _ hz ?cj ?cl ?ck ?_
                         case cj => rw [hi, hs6.out]
                         case cl => rfl
                         case ck => exact BV_all _)
            go_roundw
            case rel => exact ⟨k + 1, by go_num, by omega, hb6'⟩
            case measure => simp [intOf]; omega
      · have hkk : k = 4 := by omega
        subst hkk
        go_wp2_with fail
        go_ret
        exact ⟨rfl, hB4.out.trans (hbr.out.mono hB4.out.size)⟩
end Go.Proofs.YtcibnkdadhpjiabDoor
