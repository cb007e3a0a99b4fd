/- MerkleSplit: the law. -/
import Derived.Test.YtfdoiamgbdjbjaaDoorMy
import Derived.Test.YtfdoiamgbdjbjaaDoorPr
import Derived.Test.YtfdoiamgbdjbjaaDoorFw
import Derived.Test.YtfdoiamgbdjbjaaDoorMz
namespace Go.Proofs.YtfdoiamgbdjbjaaDoor
open Go.RowKit

theorem zero2 (w : World) : DB (w.alloc (.cells #[.int .u8 0, .int .u8 0, .int .u8 0, .int .u8 0, .int .u8 0, .int .u8 0, .int .u8 0, .int .u8 0, .int .u8 0, .int .u8 0, .int .u8 0, .int .u8 0, .int .u8 0, .int .u8 0, .int .u8 0, .int .u8 0, .int .u8 0, .int .u8 0, .int .u8 0, .int .u8 0, .int .u8 0, .int .u8 0, .int .u8 0, .int .u8 0, .int .u8 0, .int .u8 0, .int .u8 0, .int .u8 0, .int .u8 0, .int .u8 0, .int .u8 0, .int .u8 0] 30)) w.heap.size 30 zeroD ∧ Below w.heap.size w (w.alloc (.cells #[.int .u8 0, .int .u8 0, .int .u8 0, .int .u8 0, .int .u8 0, .int .u8 0, .int .u8 0, .int .u8 0, .int .u8 0, .int .u8 0, .int .u8 0, .int .u8 0, .int .u8 0, .int .u8 0, .int .u8 0, .int .u8 0, .int .u8 0, .int .u8 0, .int .u8 0, .int .u8 0, .int .u8 0, .int .u8 0, .int .u8 0, .int .u8 0, .int .u8 0, .int .u8 0, .int .u8 0, .int .u8 0, .int .u8 0, .int .u8 0, .int .u8 0, .int .u8 0] 30)) := ⟨zero_new w, bel1 w _⟩
theorem LL.drop {w : World} {B k b off : Nat} {ls : List (List UInt8)} (h : LL w B ls (some ⟨b, off, none⟩)) : LL w B (ls.drop k) (some ⟨b, off + k, none⟩) := fun hp => by
  rw [List.length_drop] at hp
  obtain ⟨b', off', e, hb, hc⟩ := h (by omega)
  injection e with e
  injection e with e1 e2
  subst e1 e2
  refine ⟨b, off + k, rfl, hb, fun i hi => ?_⟩
  rw [List.length_drop] at hi
  rw [List.getElem_drop, Nat.add_assoc]
  exact hc (k + i) (by omega)
theorem Tryd.sizeLs : ∀ w, (Go.sizeOf 34).run Tryd.prog w = .ok 1 w := fun _ => by kernel_rfl
theorem slice_to_ls (b off len cap k : Nat) (h : k ≤ cap) (W : World) : (Instr.slice 22 (.slice (some ⟨b, off, none⟩) len cap) none (some (.int .i64 (k : Int))) none).run Tryd.prog W = .ok (.slice (some ⟨b, off, none⟩) k cap) W := by
  have ht : Tryd.prog.underlying 22 = some (.slice (Tryd.prog.elem 22)) := by kernel_rfl
  have he : Tryd.prog.elem 22 = 34 := by kernel_rfl
  rw [run_slice_h W _ _ _ _ ht .i64 _ (by omega) (by omega), he, Tryd.sizeLs]
  simp [Result.andThen, sliced, Addr.add]
theorem slice_from_ls (b off len cap k : Nat) (h : k ≤ len) (hk : k < cap) (W : World) : (Instr.slice 22 (.slice (some ⟨b, off, none⟩) len cap) (some (.int .i64 (k : Int))) none none).run Tryd.prog W = .ok (.slice (some ⟨b, off + k, none⟩) (len - k) (cap - k)) W := by
  have ht : Tryd.prog.underlying 22 = some (.slice (Tryd.prog.elem 22)) := by kernel_rfl
  have he : Tryd.prog.elem 22 = 34 := by kernel_rfl
  rw [run_slice_l W _ _ _ _ ht .i64 _ (by omega) (by omega), he, Tryd.sizeLs]
  have : ¬ cap = k := by omega
  simp [Result.andThen, sliced, this, add_none]

attribute [local irreducible] World.there World.setCells Calls
set_option maxRecDepth 100000 in
set_option maxHeartbeats 4000000 in
theorem split_any (ls : List (List UInt8)) (w : World) (A : Option Addr) (c : Nat) (hr : LL w w.heap.size ls A) (hcap : ls.length ≤ c) (hcm : c ≤ 9223372036854775807) (hK : KT w) (h0 : 0 < w.heap.size) :
    Calls Tryd.prog 8 #[.slice A ls.length c] w fun e w' => e = .returned (.bool true) ∧ Below w.heap.size w w' := by
  have hKH := Lib.hid hK
  have hS := Lib.hid (sane_any w hK h0)
  clear hK
  replace hr := Lib.hid hr
  go_enter Tryd.func8, Tryd.ntmps8
  go_wp2_with fail
  refine hS.out.mono ?_
  rintro e w1 ⟨rfl, hb1⟩
  clear hS
  have hFw := Lib.hid (Few_any ls w1 A c (hr.out.lift hb1 hb1.size) (by omega))
  replace hb1 := Lib.hid hb1
  obtain ⟨fb, hfb⟩ : ∃ b, fewB ls = b := ⟨_, rfl⟩
  rw [hfb] at hFw
  cases fb with
  | false =>
    go_wp2_with fail
    refine hFw.out.mono ?_
    rintro e w2 ⟨rfl, hb2⟩
    clear hFw
    replace hb1 := Lib.hid (hb1.out.trans (hb2.mono hb1.out.size))
    clear hb2
    go_wp2_with fail
    go_ret
    exact ⟨rfl, hb1.out⟩
  | true =>
    obtain ⟨hl40, hsm⟩ := fewB_iff.1 hfb
    have hsmH : Hid (Small ls) := Lib.hid (fun x hx => Nat.le_trans (hsm x hx) (by decide))
    clear hsm hfb
    by_cases h2 : 2 ≤ ls.length
    case neg =>
      have hd : decide ((ls.length : Int) < 2) = true := decide_eq_true (by omega)
      go_wp2_with fail
      refine hFw.out.mono ?_
      rintro e w2 ⟨rfl, hb2⟩
      clear hFw
      replace hb1 := Lib.hid (hb1.out.trans (hb2.mono hb1.out.size))
      clear hb2
      go_wp2_with fail
      go_ret
      exact ⟨rfl, hb1.out⟩
    have hd : decide ((ls.length : Int) < 2) = false := decide_eq_false (by omega)
    go_wp2_with fail
    refine hFw.out.mono ?_
    rintro e w2 ⟨rfl, hb2⟩
    clear hFw
    replace hb1 := Lib.hid (hb1.out.trans (hb2.mono hb1.out.size))
    clear hb2
    have hrl := hr.out.lift hb1.out hb1.out.size
    obtain ⟨b, off, rfl, -, -⟩ := hrl (by omega)
    replace hrl := Lib.hid hrl
    clear hr
    go_wp2_with fail
    go_loopw [3] (fun x wr => ∃ j : Nat, x = .int .i64 ((2 ^ j : Nat) : Int) ∧ 2 ^ j < ls.length ∧ wr = w2) (fun x _ => 40 - (intOf x).toNat)
    case atStart => exact ⟨0, rfl, by omega, rfl⟩
    case round =>
      obtain ⟨j, rfl, hj, rfl⟩ := hrel
      have hjp := Nat.two_pow_pos j
      have hsplit := root_split ls j hj
      generalize hk : 2 ^ j = k at *
      by_cases h2k : 2 * k < ls.length
      · have hw2 : IntKind.i64.wrap (2 * (k : Int)) = 2 * k := IntWalk.i64_in _ (by omega)
        have hd1 : decide ((2 * k : Int) < (ls.length : Int)) = true := decide_eq_true (by omega)
        go_wp2_with fail
        go_roundw
        case rel => exact ⟨j + 1, by rw [Nat.pow_succ, hk]; go_num, by rw [Nat.pow_succ, hk]; omega, by first | rfl | trivial⟩
        case measure =>
          simp [intOf]; omega
      · have hw2 : IntKind.i64.wrap (2 * (k : Int)) = 2 * k := IntWalk.i64_in _ (by omega)
        have hd1 : decide ((2 * k : Int) < (ls.length : Int)) = false := decide_eq_false (by omega)
        have hfin : rootM ls = tagH nodeB.data.toList (rootM (ls.take k) ++ rootM (ls.drop k)) := hsplit (by omega)
        clear hsplit
        have hs1 := slice_to_ls b off ls.length c k (by omega)
        have hs2 := slice_from_ls b off ls.length c k (by omega) (by omega)
        have k0 : (0 : Int) ≤ k := by omega
        have k1 : (k : Int) ≤ ls.length := by omega
        have k2 : (k : Int) ≤ c := by omega
        have hT1 : ∀ W, Below wr.heap.size wr W → Calls Tryd.prog 14 #[.slice (some ⟨b, off, none⟩) k c] W fun e W' => e = .returned (.agg (BV (rootM (ls.take k))).toArray) ∧ Below W.heap.size W W' := fun W hW => by
          have hBW := hb1.out.trans (hW.mono hb1.out.size)
          have h := Root_any (ls.take k) (by rw [List.length_take]; omega) (fun x hx => hsmH.out x (List.mem_of_mem_take hx)) W (some ⟨b, off, none⟩) c ((hrl.out.lift hW hW.size).take k) (hKH.out.below hBW h0) (Nat.lt_of_lt_of_le h0 hBW.size)
          rwa [show (ls.take k).length = k by rw [List.length_take]; omega] at h
        have hT2 : ∀ W, Below wr.heap.size wr W → Calls Tryd.prog 14 #[.slice (some ⟨b, off + k, none⟩) (ls.length - k) (c - k)] W fun e W' => e = .returned (.agg (BV (rootM (ls.drop k))).toArray) ∧ Below W.heap.size W W' := fun W hW => by
          have hBW := hb1.out.trans (hW.mono hb1.out.size)
          have h := Root_any (ls.drop k) (by rw [List.length_drop]; omega) (fun x hx => hsmH.out x (List.mem_of_mem_drop hx)) W (some ⟨b, off + k, none⟩) (c - k) (LL.drop (hrl.out.lift hW hW.size)) (hKH.out.below hBW h0) (Nat.lt_of_lt_of_le h0 hBW.size)
          rwa [List.length_drop] at h
        have hdA := rootM_len (ls.take k)
        have hdB := rootM_len (ls.drop k)
        generalize rootM (ls.take k) = dA at hT1 hdA hfin
        generalize rootM (ls.drop k) = dB at hT2 hdB hfin
        have hT1' := Lib.hid hT1
        have hT2' := Lib.hid hT2
        have hfin' := Lib.hid hfin
        clear hT1 hT2 hfin
        have hu : Tryd.prog.underlying 30 = some (.array 32 5) := by kernel_rfl
        have hi : (Tryd.prog.info? 30).map (·.size) = some 32 := by kernel_rfl
        have hiA : (Tryd.prog.info? 30).map (·.size) = some (BV dA).length := by rw [BV_length, hdA, hi]
        have hiB : (Tryd.prog.info? 30).map (·.size) = some (BV dB).length := by rw [BV_length, hdB, hi]
        go_upto_region 8 with fail
        go_cut [4, 5] from 23 to 30 (fun x y wx => ∃ gA gB : Nat, x = .pointer (some ⟨gA, 0, none⟩) ∧ y = .pointer (some ⟨gB, 0, none⟩) ∧ DB wx gA 30 dA ∧ DB wx gB 30 dB ∧ Below wr.heap.size wr wx)
        case first =>
          have h0d : Below wr.heap.size wr wr.drew := dN (Below.refl _ _) 1
          have h1d : Below wr.heap.size wr (wr.drew.alloc (.cells #[.int .u8 0, .int .u8 0, .int .u8 0, .int .u8 0, .int .u8 0, .int .u8 0, .int .u8 0, .int .u8 0, .int .u8 0, .int .u8 0, .int .u8 0, .int .u8 0, .int .u8 0, .int .u8 0, .int .u8 0, .int .u8 0, .int .u8 0, .int .u8 0, .int .u8 0, .int .u8 0, .int .u8 0, .int .u8 0, .int .u8 0, .int .u8 0, .int .u8 0, .int .u8 0, .int .u8 0, .int .u8 0, .int .u8 0, .int .u8 0, .int .u8 0, .int .u8 0] 30)) := h0d.alloc (Nat.le_refl _) _
          have h2d : Below wr.heap.size wr ((wr.drew.alloc (.cells #[.int .u8 0, .int .u8 0, .int .u8 0, .int .u8 0, .int .u8 0, .int .u8 0, .int .u8 0, .int .u8 0, .int .u8 0, .int .u8 0, .int .u8 0, .int .u8 0, .int .u8 0, .int .u8 0, .int .u8 0, .int .u8 0, .int .u8 0, .int .u8 0, .int .u8 0, .int .u8 0, .int .u8 0, .int .u8 0, .int .u8 0, .int .u8 0, .int .u8 0, .int .u8 0, .int .u8 0, .int .u8 0, .int .u8 0, .int .u8 0, .int .u8 0, .int .u8 0] 30)).alloc (.cells #[.int .u8 0, .int .u8 0, .int .u8 0, .int .u8 0, .int .u8 0, .int .u8 0, .int .u8 0, .int .u8 0, .int .u8 0, .int .u8 0, .int .u8 0, .int .u8 0, .int .u8 0, .int .u8 0, .int .u8 0, .int .u8 0, .int .u8 0, .int .u8 0, .int .u8 0, .int .u8 0, .int .u8 0, .int .u8 0, .int .u8 0, .int .u8 0, .int .u8 0, .int .u8 0, .int .u8 0, .int .u8 0, .int .u8 0, .int .u8 0, .int .u8 0, .int .u8 0] 30)) := h1d.alloc (by simp) _
          have hoA := BV_one dA
          have hoB := BV_one dB
          go_region_held3 (fun _ => True) (trivial)
            (first
              | (go_at_call 14; have hq := y2; refine (hT2'.out w3 hb3).mono ?_; rintro e w4 ⟨rfl, hb4⟩; have hb5 := Below.trans hb3 (Below.mono hb4 (Below.size hb3)); have hz5 := hb5.size; have x1 := y1.below hb4 y1.lt; have x2 := y2.below hb4 y2.lt; obtain ⟨t1, t2, t3, t4, ry⟩ := two_there (w := wr) (Y := w4) (N := wr.heap.size) (p := wr.heap.size) (q := (wr.heap.size + 1)) hdA hdB x1 x2 hb5 (by omega) (by omega) (by omega); have ry' := Lib.hid ry; clear ry)
              | (go_at_call 14; have hq := y1; refine (hT2'.out w3 hb3).mono ?_; rintro e w4 ⟨rfl, hb4⟩; have hb5 := Below.trans hb3 (Below.mono hb4 (Below.size hb3)); have hz5 := hb5.size; have x1 := y1.below hb4 y1.lt; have x1 := (DB.below x1 ((Below.refl _ _).alloc (Nat.le_refl _) (.cells #[.int .u8 0, .int .u8 0, .int .u8 0, .int .u8 0, .int .u8 0, .int .u8 0, .int .u8 0, .int .u8 0, .int .u8 0, .int .u8 0, .int .u8 0, .int .u8 0, .int .u8 0, .int .u8 0, .int .u8 0, .int .u8 0, .int .u8 0, .int .u8 0, .int .u8 0, .int .u8 0, .int .u8 0, .int .u8 0, .int .u8 0, .int .u8 0, .int .u8 0, .int .u8 0, .int .u8 0, .int .u8 0, .int .u8 0, .int .u8 0, .int .u8 0, .int .u8 0] 30)) x1.lt); have x2 := zero2 w4; obtain ⟨t1, t2, t3, t4, ry⟩ := two_there (w := wr) (Y := (w4.alloc (.cells #[.int .u8 0, .int .u8 0, .int .u8 0, .int .u8 0, .int .u8 0, .int .u8 0, .int .u8 0, .int .u8 0, .int .u8 0, .int .u8 0, .int .u8 0, .int .u8 0, .int .u8 0, .int .u8 0, .int .u8 0, .int .u8 0, .int .u8 0, .int .u8 0, .int .u8 0, .int .u8 0, .int .u8 0, .int .u8 0, .int .u8 0, .int .u8 0, .int .u8 0, .int .u8 0, .int .u8 0, .int .u8 0, .int .u8 0, .int .u8 0, .int .u8 0, .int .u8 0] 30))) (N := wr.heap.size) (p := wr.heap.size) (q := w4.heap.size) hdA hdB x1 x2.1 (Below.alloc hb5 hb5.size (.cells #[.int .u8 0, .int .u8 0, .int .u8 0, .int .u8 0, .int .u8 0, .int .u8 0, .int .u8 0, .int .u8 0, .int .u8 0, .int .u8 0, .int .u8 0, .int .u8 0, .int .u8 0, .int .u8 0, .int .u8 0, .int .u8 0, .int .u8 0, .int .u8 0, .int .u8 0, .int .u8 0, .int .u8 0, .int .u8 0, .int .u8 0, .int .u8 0, .int .u8 0, .int .u8 0, .int .u8 0, .int .u8 0, .int .u8 0, .int .u8 0, .int .u8 0, .int .u8 0] 30)) (by have := y1.lt; have := hb4.size; omega) (by omega) (by omega); have ry' := Lib.hid ry; clear ry)
              | (go_at_call 14; have hq := y1; refine (hT2'.out (w3.alloc (.cells #[.int .u8 0, .int .u8 0, .int .u8 0, .int .u8 0, .int .u8 0, .int .u8 0, .int .u8 0, .int .u8 0, .int .u8 0, .int .u8 0, .int .u8 0, .int .u8 0, .int .u8 0, .int .u8 0, .int .u8 0, .int .u8 0, .int .u8 0, .int .u8 0, .int .u8 0, .int .u8 0, .int .u8 0, .int .u8 0, .int .u8 0, .int .u8 0, .int .u8 0, .int .u8 0, .int .u8 0, .int .u8 0, .int .u8 0, .int .u8 0, .int .u8 0, .int .u8 0] 30)) (Below.alloc hb3 hb3.size (.cells #[.int .u8 0, .int .u8 0, .int .u8 0, .int .u8 0, .int .u8 0, .int .u8 0, .int .u8 0, .int .u8 0, .int .u8 0, .int .u8 0, .int .u8 0, .int .u8 0, .int .u8 0, .int .u8 0, .int .u8 0, .int .u8 0, .int .u8 0, .int .u8 0, .int .u8 0, .int .u8 0, .int .u8 0, .int .u8 0, .int .u8 0, .int .u8 0, .int .u8 0, .int .u8 0, .int .u8 0, .int .u8 0, .int .u8 0, .int .u8 0, .int .u8 0, .int .u8 0] 30))).mono ?_; rintro e w4 ⟨rfl, hb4⟩; have hb5 := Below.trans (Below.alloc hb3 hb3.size (.cells #[.int .u8 0, .int .u8 0, .int .u8 0, .int .u8 0, .int .u8 0, .int .u8 0, .int .u8 0, .int .u8 0, .int .u8 0, .int .u8 0, .int .u8 0, .int .u8 0, .int .u8 0, .int .u8 0, .int .u8 0, .int .u8 0, .int .u8 0, .int .u8 0, .int .u8 0, .int .u8 0, .int .u8 0, .int .u8 0, .int .u8 0, .int .u8 0, .int .u8 0, .int .u8 0, .int .u8 0, .int .u8 0, .int .u8 0, .int .u8 0, .int .u8 0, .int .u8 0] 30)) (Below.mono hb4 (Below.size (Below.alloc hb3 hb3.size (.cells #[.int .u8 0, .int .u8 0, .int .u8 0, .int .u8 0, .int .u8 0, .int .u8 0, .int .u8 0, .int .u8 0, .int .u8 0, .int .u8 0, .int .u8 0, .int .u8 0, .int .u8 0, .int .u8 0, .int .u8 0, .int .u8 0, .int .u8 0, .int .u8 0, .int .u8 0, .int .u8 0, .int .u8 0, .int .u8 0, .int .u8 0, .int .u8 0, .int .u8 0, .int .u8 0, .int .u8 0, .int .u8 0, .int .u8 0, .int .u8 0, .int .u8 0, .int .u8 0] 30)))); have hz5 := hb5.size; have hz3 := hb3.size; have x1 := (DB.below y1 ((Below.refl _ _).alloc (Nat.le_refl _) (.cells #[.int .u8 0, .int .u8 0, .int .u8 0, .int .u8 0, .int .u8 0, .int .u8 0, .int .u8 0, .int .u8 0, .int .u8 0, .int .u8 0, .int .u8 0, .int .u8 0, .int .u8 0, .int .u8 0, .int .u8 0, .int .u8 0, .int .u8 0, .int .u8 0, .int .u8 0, .int .u8 0, .int .u8 0, .int .u8 0, .int .u8 0, .int .u8 0, .int .u8 0, .int .u8 0, .int .u8 0, .int .u8 0, .int .u8 0, .int .u8 0, .int .u8 0, .int .u8 0] 30)) y1.lt); have x1 := x1.below hb4 x1.lt; have x2 := zero2 w3; have x2 := x2.1.below hb4 x2.1.lt; obtain ⟨t1, t2, t3, t4, ry⟩ := two_there (w := wr) (Y := w4) (N := wr.heap.size) (p := wr.heap.size) (q := w3.heap.size) hdA hdB x1 x2 hb5 (by have := y1.lt; omega) (by omega) (by omega); have ry' := Lib.hid ry; clear ry)
              | (go_at_call 14; refine (hT2'.out w3 hb3).mono ?_; rintro e w4 ⟨rfl, hb4⟩; have hb5 := Below.trans hb3 (Below.mono hb4 (Below.size hb3)); have hz5 := hb5.size; have x := box_new w4; obtain ⟨t1, t2, t3, t4, ry⟩ := two_there (w := wr) (Y := ((w4.alloc (.cells #[.int .u8 0, .int .u8 0, .int .u8 0, .int .u8 0, .int .u8 0, .int .u8 0, .int .u8 0, .int .u8 0, .int .u8 0, .int .u8 0, .int .u8 0, .int .u8 0, .int .u8 0, .int .u8 0, .int .u8 0, .int .u8 0, .int .u8 0, .int .u8 0, .int .u8 0, .int .u8 0, .int .u8 0, .int .u8 0, .int .u8 0, .int .u8 0, .int .u8 0, .int .u8 0, .int .u8 0, .int .u8 0, .int .u8 0, .int .u8 0, .int .u8 0, .int .u8 0] 30)).alloc (.cells #[.int .u8 0, .int .u8 0, .int .u8 0, .int .u8 0, .int .u8 0, .int .u8 0, .int .u8 0, .int .u8 0, .int .u8 0, .int .u8 0, .int .u8 0, .int .u8 0, .int .u8 0, .int .u8 0, .int .u8 0, .int .u8 0, .int .u8 0, .int .u8 0, .int .u8 0, .int .u8 0, .int .u8 0, .int .u8 0, .int .u8 0, .int .u8 0, .int .u8 0, .int .u8 0, .int .u8 0, .int .u8 0, .int .u8 0, .int .u8 0, .int .u8 0, .int .u8 0] 30))) (N := wr.heap.size) (p := w4.heap.size) (q := (w4.heap.size + 1)) hdA hdB x.1 x.2.1 (Below.trans hb5 (Below.mono x.2.2 hb5.size)) (by omega) (by omega) (by omega); have ry' := Lib.hid ry; clear ry)
              | (go_at_call 14; refine (hT2'.out (w3.alloc (.cells #[.int .u8 0, .int .u8 0, .int .u8 0, .int .u8 0, .int .u8 0, .int .u8 0, .int .u8 0, .int .u8 0, .int .u8 0, .int .u8 0, .int .u8 0, .int .u8 0, .int .u8 0, .int .u8 0, .int .u8 0, .int .u8 0, .int .u8 0, .int .u8 0, .int .u8 0, .int .u8 0, .int .u8 0, .int .u8 0, .int .u8 0, .int .u8 0, .int .u8 0, .int .u8 0, .int .u8 0, .int .u8 0, .int .u8 0, .int .u8 0, .int .u8 0, .int .u8 0] 30)) (Below.alloc hb3 hb3.size (.cells #[.int .u8 0, .int .u8 0, .int .u8 0, .int .u8 0, .int .u8 0, .int .u8 0, .int .u8 0, .int .u8 0, .int .u8 0, .int .u8 0, .int .u8 0, .int .u8 0, .int .u8 0, .int .u8 0, .int .u8 0, .int .u8 0, .int .u8 0, .int .u8 0, .int .u8 0, .int .u8 0, .int .u8 0, .int .u8 0, .int .u8 0, .int .u8 0, .int .u8 0, .int .u8 0, .int .u8 0, .int .u8 0, .int .u8 0, .int .u8 0, .int .u8 0, .int .u8 0] 30))).mono ?_; rintro e w4 ⟨rfl, hb4⟩; have hb5 := Below.trans (Below.alloc hb3 hb3.size (.cells #[.int .u8 0, .int .u8 0, .int .u8 0, .int .u8 0, .int .u8 0, .int .u8 0, .int .u8 0, .int .u8 0, .int .u8 0, .int .u8 0, .int .u8 0, .int .u8 0, .int .u8 0, .int .u8 0, .int .u8 0, .int .u8 0, .int .u8 0, .int .u8 0, .int .u8 0, .int .u8 0, .int .u8 0, .int .u8 0, .int .u8 0, .int .u8 0, .int .u8 0, .int .u8 0, .int .u8 0, .int .u8 0, .int .u8 0, .int .u8 0, .int .u8 0, .int .u8 0] 30)) (Below.mono hb4 (Below.size (Below.alloc hb3 hb3.size (.cells #[.int .u8 0, .int .u8 0, .int .u8 0, .int .u8 0, .int .u8 0, .int .u8 0, .int .u8 0, .int .u8 0, .int .u8 0, .int .u8 0, .int .u8 0, .int .u8 0, .int .u8 0, .int .u8 0, .int .u8 0, .int .u8 0, .int .u8 0, .int .u8 0, .int .u8 0, .int .u8 0, .int .u8 0, .int .u8 0, .int .u8 0, .int .u8 0, .int .u8 0, .int .u8 0, .int .u8 0, .int .u8 0, .int .u8 0, .int .u8 0, .int .u8 0, .int .u8 0] 30)))); have hz5 := hb5.size; have hz3 := hb3.size; have x2 := zero2 w3; have x1 := x2.1.below hb4 x2.1.lt; have l1 := x1.lt; have x1 := (DB.below x1 ((Below.refl _ _).alloc (Nat.le_refl _) (.cells #[.int .u8 0, .int .u8 0, .int .u8 0, .int .u8 0, .int .u8 0, .int .u8 0, .int .u8 0, .int .u8 0, .int .u8 0, .int .u8 0, .int .u8 0, .int .u8 0, .int .u8 0, .int .u8 0, .int .u8 0, .int .u8 0, .int .u8 0, .int .u8 0, .int .u8 0, .int .u8 0, .int .u8 0, .int .u8 0, .int .u8 0, .int .u8 0, .int .u8 0, .int .u8 0, .int .u8 0, .int .u8 0, .int .u8 0, .int .u8 0, .int .u8 0, .int .u8 0] 30)) x1.lt); have x3 := zero2 w4; obtain ⟨t1, t2, t3, t4, ry⟩ := two_there (w := wr) (Y := (w4.alloc (.cells #[.int .u8 0, .int .u8 0, .int .u8 0, .int .u8 0, .int .u8 0, .int .u8 0, .int .u8 0, .int .u8 0, .int .u8 0, .int .u8 0, .int .u8 0, .int .u8 0, .int .u8 0, .int .u8 0, .int .u8 0, .int .u8 0, .int .u8 0, .int .u8 0, .int .u8 0, .int .u8 0, .int .u8 0, .int .u8 0, .int .u8 0, .int .u8 0, .int .u8 0, .int .u8 0, .int .u8 0, .int .u8 0, .int .u8 0, .int .u8 0, .int .u8 0, .int .u8 0] 30))) (N := wr.heap.size) (p := w3.heap.size) (q := w4.heap.size) hdA hdB x1 x3.1 (Below.alloc hb5 hb5.size (.cells #[.int .u8 0, .int .u8 0, .int .u8 0, .int .u8 0, .int .u8 0, .int .u8 0, .int .u8 0, .int .u8 0, .int .u8 0, .int .u8 0, .int .u8 0, .int .u8 0, .int .u8 0, .int .u8 0, .int .u8 0, .int .u8 0, .int .u8 0, .int .u8 0, .int .u8 0, .int .u8 0, .int .u8 0, .int .u8 0, .int .u8 0, .int .u8 0, .int .u8 0, .int .u8 0, .int .u8 0, .int .u8 0, .int .u8 0, .int .u8 0, .int .u8 0, .int .u8 0] 30)) (by omega) (by omega) (by omega); have ry' := Lib.hid ry; clear ry)
              | (go_at_call 14; refine (hT2'.out ((w3.alloc (.cells #[.int .u8 0, .int .u8 0, .int .u8 0, .int .u8 0, .int .u8 0, .int .u8 0, .int .u8 0, .int .u8 0, .int .u8 0, .int .u8 0, .int .u8 0, .int .u8 0, .int .u8 0, .int .u8 0, .int .u8 0, .int .u8 0, .int .u8 0, .int .u8 0, .int .u8 0, .int .u8 0, .int .u8 0, .int .u8 0, .int .u8 0, .int .u8 0, .int .u8 0, .int .u8 0, .int .u8 0, .int .u8 0, .int .u8 0, .int .u8 0, .int .u8 0, .int .u8 0] 30)).alloc (.cells #[.int .u8 0, .int .u8 0, .int .u8 0, .int .u8 0, .int .u8 0, .int .u8 0, .int .u8 0, .int .u8 0, .int .u8 0, .int .u8 0, .int .u8 0, .int .u8 0, .int .u8 0, .int .u8 0, .int .u8 0, .int .u8 0, .int .u8 0, .int .u8 0, .int .u8 0, .int .u8 0, .int .u8 0, .int .u8 0, .int .u8 0, .int .u8 0, .int .u8 0, .int .u8 0, .int .u8 0, .int .u8 0, .int .u8 0, .int .u8 0, .int .u8 0, .int .u8 0] 30)) (Below.alloc (Below.alloc hb3 hb3.size (.cells #[.int .u8 0, .int .u8 0, .int .u8 0, .int .u8 0, .int .u8 0, .int .u8 0, .int .u8 0, .int .u8 0, .int .u8 0, .int .u8 0, .int .u8 0, .int .u8 0, .int .u8 0, .int .u8 0, .int .u8 0, .int .u8 0, .int .u8 0, .int .u8 0, .int .u8 0, .int .u8 0, .int .u8 0, .int .u8 0, .int .u8 0, .int .u8 0, .int .u8 0, .int .u8 0, .int .u8 0, .int .u8 0, .int .u8 0, .int .u8 0, .int .u8 0, .int .u8 0] 30)) (Below.size (Below.alloc hb3 hb3.size (.cells #[.int .u8 0, .int .u8 0, .int .u8 0, .int .u8 0, .int .u8 0, .int .u8 0, .int .u8 0, .int .u8 0, .int .u8 0, .int .u8 0, .int .u8 0, .int .u8 0, .int .u8 0, .int .u8 0, .int .u8 0, .int .u8 0, .int .u8 0, .int .u8 0, .int .u8 0, .int .u8 0, .int .u8 0, .int .u8 0, .int .u8 0, .int .u8 0, .int .u8 0, .int .u8 0, .int .u8 0, .int .u8 0, .int .u8 0, .int .u8 0, .int .u8 0, .int .u8 0] 30))) (.cells #[.int .u8 0, .int .u8 0, .int .u8 0, .int .u8 0, .int .u8 0, .int .u8 0, .int .u8 0, .int .u8 0, .int .u8 0, .int .u8 0, .int .u8 0, .int .u8 0, .int .u8 0, .int .u8 0, .int .u8 0, .int .u8 0, .int .u8 0, .int .u8 0, .int .u8 0, .int .u8 0, .int .u8 0, .int .u8 0, .int .u8 0, .int .u8 0, .int .u8 0, .int .u8 0, .int .u8 0, .int .u8 0, .int .u8 0, .int .u8 0, .int .u8 0, .int .u8 0] 30))).mono ?_; rintro e w4 ⟨rfl, hb4⟩; have hb5 := Below.trans (Below.alloc (Below.alloc hb3 hb3.size (.cells #[.int .u8 0, .int .u8 0, .int .u8 0, .int .u8 0, .int .u8 0, .int .u8 0, .int .u8 0, .int .u8 0, .int .u8 0, .int .u8 0, .int .u8 0, .int .u8 0, .int .u8 0, .int .u8 0, .int .u8 0, .int .u8 0, .int .u8 0, .int .u8 0, .int .u8 0, .int .u8 0, .int .u8 0, .int .u8 0, .int .u8 0, .int .u8 0, .int .u8 0, .int .u8 0, .int .u8 0, .int .u8 0, .int .u8 0, .int .u8 0, .int .u8 0, .int .u8 0] 30)) (Below.size (Below.alloc hb3 hb3.size (.cells #[.int .u8 0, .int .u8 0, .int .u8 0, .int .u8 0, .int .u8 0, .int .u8 0, .int .u8 0, .int .u8 0, .int .u8 0, .int .u8 0, .int .u8 0, .int .u8 0, .int .u8 0, .int .u8 0, .int .u8 0, .int .u8 0, .int .u8 0, .int .u8 0, .int .u8 0, .int .u8 0, .int .u8 0, .int .u8 0, .int .u8 0, .int .u8 0, .int .u8 0, .int .u8 0, .int .u8 0, .int .u8 0, .int .u8 0, .int .u8 0, .int .u8 0, .int .u8 0] 30))) (.cells #[.int .u8 0, .int .u8 0, .int .u8 0, .int .u8 0, .int .u8 0, .int .u8 0, .int .u8 0, .int .u8 0, .int .u8 0, .int .u8 0, .int .u8 0, .int .u8 0, .int .u8 0, .int .u8 0, .int .u8 0, .int .u8 0, .int .u8 0, .int .u8 0, .int .u8 0, .int .u8 0, .int .u8 0, .int .u8 0, .int .u8 0, .int .u8 0, .int .u8 0, .int .u8 0, .int .u8 0, .int .u8 0, .int .u8 0, .int .u8 0, .int .u8 0, .int .u8 0] 30)) (Below.mono hb4 (Below.size (Below.alloc (Below.alloc hb3 hb3.size (.cells #[.int .u8 0, .int .u8 0, .int .u8 0, .int .u8 0, .int .u8 0, .int .u8 0, .int .u8 0, .int .u8 0, .int .u8 0, .int .u8 0, .int .u8 0, .int .u8 0, .int .u8 0, .int .u8 0, .int .u8 0, .int .u8 0, .int .u8 0, .int .u8 0, .int .u8 0, .int .u8 0, .int .u8 0, .int .u8 0, .int .u8 0, .int .u8 0, .int .u8 0, .int .u8 0, .int .u8 0, .int .u8 0, .int .u8 0, .int .u8 0, .int .u8 0, .int .u8 0] 30)) (Below.size (Below.alloc hb3 hb3.size (.cells #[.int .u8 0, .int .u8 0, .int .u8 0, .int .u8 0, .int .u8 0, .int .u8 0, .int .u8 0, .int .u8 0, .int .u8 0, .int .u8 0, .int .u8 0, .int .u8 0, .int .u8 0, .int .u8 0, .int .u8 0, .int .u8 0, .int .u8 0, .int .u8 0, .int .u8 0, .int .u8 0, .int .u8 0, .int .u8 0, .int .u8 0, .int .u8 0, .int .u8 0, .int .u8 0, .int .u8 0, .int .u8 0, .int .u8 0, .int .u8 0, .int .u8 0, .int .u8 0] 30))) (.cells #[.int .u8 0, .int .u8 0, .int .u8 0, .int .u8 0, .int .u8 0, .int .u8 0, .int .u8 0, .int .u8 0, .int .u8 0, .int .u8 0, .int .u8 0, .int .u8 0, .int .u8 0, .int .u8 0, .int .u8 0, .int .u8 0, .int .u8 0, .int .u8 0, .int .u8 0, .int .u8 0, .int .u8 0, .int .u8 0, .int .u8 0, .int .u8 0, .int .u8 0, .int .u8 0, .int .u8 0, .int .u8 0, .int .u8 0, .int .u8 0, .int .u8 0, .int .u8 0] 30)))); have hz5 := hb5.size; have hz3 := hb3.size; have x := box_new w3; have x1 := x.1.below hb4 x.1.lt; have x2 := x.2.1.below hb4 x.2.1.lt; obtain ⟨t1, t2, t3, t4, ry⟩ := two_there (w := wr) (Y := w4) (N := wr.heap.size) (p := w3.heap.size) (q := (w3.heap.size + 1)) hdA hdB x1 x2 hb5 (by omega) (by omega) (by omega); have ry' := Lib.hid ry; clear ry)
              | (go_at_call 14; refine (hT1'.out wr.drew h0d).mono ?_; rintro e w3 ⟨rfl, hb3'⟩; have hb3 := Below.trans h0d (Below.mono hb3' (Below.size h0d)); clear hb3')
              | (go_at_call 14; refine (hT1'.out (wr.drew.alloc (.cells #[.int .u8 0, .int .u8 0, .int .u8 0, .int .u8 0, .int .u8 0, .int .u8 0, .int .u8 0, .int .u8 0, .int .u8 0, .int .u8 0, .int .u8 0, .int .u8 0, .int .u8 0, .int .u8 0, .int .u8 0, .int .u8 0, .int .u8 0, .int .u8 0, .int .u8 0, .int .u8 0, .int .u8 0, .int .u8 0, .int .u8 0, .int .u8 0, .int .u8 0, .int .u8 0, .int .u8 0, .int .u8 0, .int .u8 0, .int .u8 0, .int .u8 0, .int .u8 0] 30)) h1d).mono ?_; rintro e w3 ⟨rfl, hb3'⟩; have hb3 := Below.trans h1d (Below.mono hb3' (Below.size h1d)); have y1 : DB w3 wr.heap.size 30 zeroD := (zero2 wr.drew).1.below hb3' (zero2 wr.drew).1.lt; clear hb3')
              | (go_at_call 14; refine (hT1'.out ((wr.drew.alloc (.cells #[.int .u8 0, .int .u8 0, .int .u8 0, .int .u8 0, .int .u8 0, .int .u8 0, .int .u8 0, .int .u8 0, .int .u8 0, .int .u8 0, .int .u8 0, .int .u8 0, .int .u8 0, .int .u8 0, .int .u8 0, .int .u8 0, .int .u8 0, .int .u8 0, .int .u8 0, .int .u8 0, .int .u8 0, .int .u8 0, .int .u8 0, .int .u8 0, .int .u8 0, .int .u8 0, .int .u8 0, .int .u8 0, .int .u8 0, .int .u8 0, .int .u8 0, .int .u8 0] 30)).alloc (.cells #[.int .u8 0, .int .u8 0, .int .u8 0, .int .u8 0, .int .u8 0, .int .u8 0, .int .u8 0, .int .u8 0, .int .u8 0, .int .u8 0, .int .u8 0, .int .u8 0, .int .u8 0, .int .u8 0, .int .u8 0, .int .u8 0, .int .u8 0, .int .u8 0, .int .u8 0, .int .u8 0, .int .u8 0, .int .u8 0, .int .u8 0, .int .u8 0, .int .u8 0, .int .u8 0, .int .u8 0, .int .u8 0, .int .u8 0, .int .u8 0, .int .u8 0, .int .u8 0] 30)) h2d).mono ?_; rintro e w3 ⟨rfl, hb3'⟩; have hb3 := Below.trans h2d (Below.mono hb3' (Below.size h2d)); have y1 : DB w3 wr.heap.size 30 zeroD := (box_new wr.drew).1.below hb3' (box_new wr.drew).1.lt; have y2 : DB w3 (wr.heap.size + 1) 30 zeroD := (box_new wr.drew).2.1.below hb3' (box_new wr.drew).2.1.lt; clear hb3'))
          all_goals
            go_wp2_with fail
            go_meet
            first
              | exact ⟨_, _, rfl, rfl, ry'.out.fin1.1, ry'.out.fin1.2.1, id ry'.out.fin1.2.2⟩
              | exact ⟨_, _, rfl, rfl, ry'.out.fin2.1, ry'.out.fin2.2.1, id ry'.out.fin2.2.2⟩
        case rest =>
          obtain ⟨gA, gB, rfl, rfl, hA, hB, qc⟩ := hcut
          have hTl : ∀ W, Below wc.heap.size wc W → Calls Tryd.prog 14 #[.slice (some ⟨b, off, none⟩) ls.length c] W fun e W' => e = .returned (.agg (BV (rootM ls)).toArray) ∧ Below W.heap.size W W' := fun W hW => by
            have hW' := qc.trans (hW.mono qc.size)
            have hBW := hb1.out.trans (hW'.mono hb1.out.size)
            exact Root_any ls (by omega) hsmH.out W _ c (hrl.out.lift hW' hW'.size) (hKH.out.below hBW h0) (Nat.lt_of_lt_of_le h0 hBW.size)
          have hNd : ∀ W g c', Below wc.heap.size wc W → OB W wc.heap.size (.slice (some ⟨g, 0, none⟩) 64 c') (dA ++ dB) → Calls Tryd.prog 22 #[.string ⟨#[110, 111, 100, 101]⟩, .slice (some ⟨g, 0, none⟩) 64 c'] W fun e W' => e = .returned (.agg (BV (tagH nodeB.data.toList (dA ++ dB))).toArray) ∧ Below W.heap.size W W' := fun W g c' hW hob => by
            have hW' := qc.trans (hW.mono qc.size)
            have hBW := hb1.out.trans (hW'.mono hb1.out.size)
            have h := Tagged_any nodeB (by decide +kernel) (dA ++ dB) (by simp; omega) W _ c' hob.reads.1 (fun h => by cases h) (hKH.out.below hBW h0) (Nat.lt_of_lt_of_le h0 hBW.size)
            rwa [show (dA ++ dB).length = 64 by simp; omega] at h
          have hsA := slice_digest gA 0
          have hsB := slice_digest gB 0
          have e2 := fun W => eq_digest (rootM ls) (tagH nodeB.data.toList (dA ++ dB)) (rootM_len _) (tagH_length _ _) W
          rw [hfin'.out, beq_self_eq_true] at e2
          rw [hfin'.out] at hTl
          have hTl' := Lib.hid hTl
          have hNd' := Lib.hid hNd
          have e2' := Lib.hid e2
          clear hT1' hT2' hiA hiB hu hi hTl hNd e2
          go_wp2_with fail
          have h0d : Below wc.heap.size wc wc.drew := dN (Below.refl _ _) 1
          have h1d : Below wc.heap.size wc (wc.drew.alloc (.cells #[] 5)) := h0d.alloc (Nat.le_refl _) _
          have lA := hA.lt
          have lB := hB.lt
          go_region_held3 (fun _ => True) (trivial)
            (first
              | (go_at_call 22; have hq := ob7; refine (hNd'.out w7 g7 c7 hb7 ob7).mono ?_; rintro e w8 ⟨rfl, hb8'⟩; have hb8 := Below.trans hb7 (Below.mono hb8' hb7.size); have e2 := e2'.out)
              | (have hq := ob6; refine step_digest rfl _ _ rfl wc.heap.size (.slice (some ⟨g6, 0, none⟩) 32 c6) dA rfl ob6 gB dB rfl dB6 hdB (by omega) hb6.size ?_; intro g7 c7 w7 ob7 hb7'; rw [hdA] at ob7; have hb7 := Below.trans hb6 hb7'; clear ob6)
              | (have hq := ob5; refine step_digest rfl _ _ rfl wc.heap.size (.slice (some ⟨wc.heap.size, 0, none⟩) 0 0) [] rfl ob5 gA dA rfl dA5 hdA (by simp) hb5.size ?_; intro g6 c6 w6 ob6 hb6'; have hb6 := Below.trans hb5 hb6'; have dB6 := DB.below dB5 hb6' lB; clear ob5)
              | (have hq := dA5; refine step_digest (w := w5.alloc (.cells #[] 5)) rfl _ _ rfl wc.heap.size (.slice (some ⟨w5.heap.size, 0, none⟩) 0 0) [] rfl (OB.lit w5 wc.heap.size [] hb5.size (by simp)) gA dA rfl (DB.below dA5 ((Below.refl _ _).alloc (Nat.le_refl _) (.cells #[] 5)) dA5.lt) hdA (by simp) (Below.alloc hb5 hb5.size (.cells #[] 5)).size ?_; intro g6 c6 w6 ob6 hb6'; have hb6 := Below.trans (Below.alloc hb5 hb5.size (.cells #[] 5)) hb6'; have dB6 := DB.below (DB.below dB5 ((Below.refl _ _).alloc (Nat.le_refl _) (.cells #[] 5)) dB5.lt) hb6' lB)
              | (go_at_call 14; refine (hTl'.out wc.drew h0d).mono ?_; rintro e w5 ⟨rfl, hb5'⟩; have hb5 := Below.trans h0d hb5'; have dA5 := hA.below hb5 lA; have dB5 := hB.below hb5 lB; clear hb5')
              | (go_at_call 14; refine (hTl'.out (wc.drew.alloc (.cells #[] 5)) h1d).mono ?_; rintro e w5 ⟨rfl, hb5'⟩; have hb5 := Below.trans h1d (Below.mono hb5' h1d.size); have dA5 := hA.below hb5 lA; have dB5 := hB.below hb5 lB; have ob5 := (OB.lit wc.drew wc.heap.size [] h0d.size (by simp)).below hb5'; clear hb5'))
          all_goals
            go_wp2_with fail
            go_ret
            exact ⟨rfl, hb1.out.trans ((qc.trans (hb8.mono qc.size)).mono hb1.out.size)⟩
end Go.Proofs.YtfdoiamgbdjbjaaDoor
