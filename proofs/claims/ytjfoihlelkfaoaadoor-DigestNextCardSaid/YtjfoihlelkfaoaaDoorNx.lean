/- DigestNext: the law. -/
import Derived.Test.YtjfoihlelkfaoaaDoorKp
import Derived.Test.YtjfoihlelkfaoaaDoorAp
import Derived.Test.YtjfoihlelkfaoaaDoorPt
import Derived.Test.YtjfoihlelkfaoaaDoorRi
import Derived.Test.YtjfoihlelkfaoaaDoorFr
namespace Go.Proofs.YtjfoihlelkfaoaaDoor
open Go.RowKit

theorem next_half {k j : Nat} (hk : k = 2 ^ j) (h48 : k ≤ 48) : half (k + 1) = k := by
  have := half_unique (k + 1) j (by omega) (by have := Nat.two_pow_pos j; omega) (by omega)
  rw [this, hk]
theorem next_tree {M : List (List UInt8)} {d : List UInt8} {k j : Nat} (hM : M.length = k) (hk : k = 2 ^ j) (h48 : k ≤ 48) : treeH (M ++ [d]) = nodeH (treeH M) (treeH [d]) := by
  have hl : (M ++ [d]).length = k + 1 := by simp [hM]
  have h1 : 1 ≤ k := by have := Nat.two_pow_pos j; omega
  rw [treeH_two (M ++ [d]) (by omega) (by omega), hl, next_half hk h48, ← hM, List.take_left, List.drop_left]
theorem next_path {M : List (List UInt8)} {d : List UInt8} {k j : Nat} (hM : M.length = k) (hk : k = 2 ^ j) (h48 : k ≤ 48) : pathH (M ++ [d]) k = [treeH M] := by
  have hl : (M ++ [d]).length = k + 1 := by simp [hM]
  have h1 : 1 ≤ k := by have := Nat.two_pow_pos j; omega
  rw [pathH_two (M ++ [d]) k (by omega) (by omega), hl, next_half hk h48, if_neg (by omega), Nat.sub_self]
  have e1 : (M ++ [d]).take k = M := by rw [← hM]; exact List.take_left
  have e2 : (M ++ [d]).drop k = [d] := by rw [← hM]; exact List.drop_left
  rw [e1, e2, pathH_one [d] 0 (by simp)]
  rfl

attribute [local irreducible] World.there World.setCells Calls
set_option maxRecDepth 100000 in
set_option maxHeartbeats 1000000 in
theorem next_any (s : List UInt8) (d : List UInt8) (hd : d.length = 32) (w : World) (A : Option Addr) (c : Nat) (hr : RBs w w.heap.size A s) (hs : s.length ≤ 9223372036854775807) (hK : KT w) (h0 : 0 < w.heap.size) : Calls Tryd.prog 4 #[.slice A s.length c, .agg (BV d).toArray] w fun e w' => e = .returned (.bool true) ∧ Below w.heap.size w w' := by
  have hKH := Lib.hid hK
  have hlen : (dsOf s).length ≤ 24 := by rw [dsOf_length]; omega
  have h32 := dsTo_32 s (min s.length 24)
  rw [← dsOf_eq] at h32
  have hb0 : Below w.heap.size w (w.alloc (.cells (BV d).toArray 24)) := (Below.refl _ _).alloc (Nat.le_refl _) _
  have hd0 : DB (w.alloc (.cells (BV d).toArray 24)) w.heap.size 24 d := heap_alloc_new w _
  have hrH := Lib.hid (RBs.below hr hb0)
  have hK0 := hKH.out.below hb0 h0
  have hS := sane_any _ hK0 (Nat.lt_of_lt_of_le h0 hb0.size)
  have hS := Lib.hid hS
  have hd0 := Lib.hid hd0
  have hb0 := Lib.hid hb0
  clear hK hr hK0
  go_enter Tryd.func4, Tryd.ntmps4
  go_wp2_with fail
  refine hS.out.mono ?_
  rintro e w1 ⟨rfl, hb1⟩
  have hD := digestsOf_any s w1 A c (RBs.below hrH.out hb1) hs
  have hd1 := Lib.hid (hd0.out.below hb1 hd0.out.lt)
  have hb1 := Lib.hid (hb0.out.trans (hb1.mono hb0.out.size))
  have hD' := Lib.hid hD
  clear hD hS
  go_wp2_with fail
  refine hD'.out.mono ?_
  rintro e w2 ⟨v, rfl, hod, hb2⟩
  generalize dsOf s = l at *
  have hod2 : OD w2 w.heap.size v l := ownsRow_mono hod hb1.out.size
  obtain ⟨a, cap, rfl, -⟩ := hod.reads h32
  obtain ⟨Q, F, q2⟩ : ∃ Q, Keeps w (.slice a l.length cap) l Q ∧ Q w2 := ⟨_, keeps_of hKH.out h0, hb1.out.trans (hb2.mono hb1.out.size), hod2⟩
  have hd2 := Lib.hid (hd1.out.below hb2 hd1.out.lt)
  have rd : ∀ W, Q W → RD W W.heap.size l a cap := fun W q => by
    obtain ⟨a', cap', e, h⟩ := (F.own W q).reads h32
    injection e with e1 e2 e3
    subst e1; subst e3
    exact h
  have rd' := Lib.hid rd
  have FH := Lib.hid F
  clear rd hod hod2 hb1 hb2 hD' hd1 hd0 hb0 hrH
  have hu : Tryd.prog.underlying 24 = some (.array 32 5) := by kernel_rfl
  have hi : (Tryd.prog.info? 24).map (·.size) = some 32 := by kernel_rfl
  have huH := Lib.hid hu
  have hiH := Lib.hid hi
  clear hu hi
  go_wp2_with fail
  go_loopw [6] (fun x wr => ∃ k : Nat, x = .int .i64 k ∧ 1 ≤ k ∧ k ≤ 48 ∧ Hid (∃ j, k = 2 ^ j) ∧ Hid (Q wr) ∧ Hid (DB wr w.heap.size 24 d)) (fun x _ => 64 - (intOf x).toNat)
  case atStart => exact ⟨1, rfl, by omega, by omega, ⟨0, rfl⟩, q2, hd2.out⟩
  case round =>
    obtain ⟨k, rfl, hk1, hk48, hkp, hq, hdw⟩ := hrel
    by_cases hkl : k ≤ l.length
    · have hkl' : (k : Int) ≤ l.length := by omega
      obtain ⟨a1, hs1, hR1⟩ := (rd'.out wr hq.out).to (k := k) hkl
      have hcap : l.length ≤ cap := (rd'.out wr hq.out).1
      have hT1 : Hid (∀ W, Below wr.heap.size wr W → Calls Tryd.prog 8 #[.slice a1 k cap] W fun e W' => e = .returned (.agg (BV (treeH (l.take k))).toArray) ∧ Below W.heap.size W W') := fun W hW => by
        have q := FH.out.step _ _ hq.out hW
        have h := Tree_any (l.take k) (by rw [List.length_take]; omega) W a1 cap ((rd'.out W q).to_at hkl hs1) (FH.out.kt _ q) (FH.out.pos _ q)
        rwa [show (l.take k).length = k by rw [List.length_take]; omega] at h
      have hT2 : Hid (∀ W g, Below wr.heap.size wr W → DB W g 24 d → Calls Tryd.prog 8 #[.slice (some ⟨g, 0, none⟩) 1 1] W fun e W' => e = .returned (.agg (BV (treeH [d])).toArray) ∧ Below W.heap.size W W') := fun W g hW hg => by
        have q := FH.out.step _ _ hq.out hW
        exact Tree_any [d] (by simp) W (some ⟨g, 0, none⟩) 1 (RD.ofDB hg hd) (FH.out.kt _ q) (FH.out.pos _ q)
      have hs1H := Lib.hid hs1
      clear hs1 hR1
      go_wp2_with fail
      refine wp_region_pre 9 2 (fun W => Below wr.heap.size wr W) (fun W W' => Below W.heap.size W W')
        (fun i v W => match i with
          | 0 => v = .slice a l.length cap
          | 1 => v = .int .i64 k
          | 2 => v = .slice a1 k cap
          | 3 => v = .agg (BV (treeH (l.take k))).toArray
          | 4 => v = .agg (BV d).toArray
          | 5 => ∃ g, v = .slice (some ⟨g, 0, none⟩) 1 1 ∧ DB W g 24 d
          | 6 => v = .agg (BV (treeH [d])).toArray
          | 7 => ∃ g, v = .pointer (some ⟨g, 0, none⟩) ∧ wr.heap.size ≤ g ∧ DB W g 24 zeroD
          | 8 => ∃ g, v = .pointer (some ⟨g, 0, none⟩) ∧ wr.heap.size ≤ g ∧ DB W g 24 zeroD
          | _ => True) (fun i => i == 7 || i == 8)
        (by kernel_rfl) (by kernel_rfl) (by kernel_rfl) (by kernel_rfl) (by kernel_rfl) (by kernel_rfl) (by kernel_rfl) ?_ (fun _ _ h => h.size) (dN (Below.refl _ _) 1) ?_ ?_
      · intro i v W W' hb hF
        match i, hF with
        | 0, h => exact h
        | 1, h => exact h
        | 2, h => exact h
        | 3, h => exact h
        | 4, h => exact h
        | 5, ⟨g, h1, h2⟩ => exact ⟨g, h1, h2.below hb h2.lt⟩
        | 6, h => exact h
        | 7, ⟨g, h1, h2, h3⟩ => exact ⟨g, h1, h2, h3.below hb h3.lt⟩
        | 8, ⟨g, h1, h2, h3⟩ => exact ⟨g, h1, h2, h3.below hb h3.lt⟩
        | _ + 9, _ => trivial
      · refine ⟨?_, ?_, ?_, ?_, ?_, ?_, ?_, ?_, ?_, trivial⟩
        · refine stepJ_val rfl (fun _ => Below.refl _ _) rfl rfl fun b W hA hG hD => ⟨_, ?_, rfl⟩
          have h5 := hA.getD (t := 5) (by kernel_rfl)
          simp [execOp, Act.eval, h5, go_sem]
        · refine stepJ_val rfl (fun _ => Below.refl _ _) rfl rfl fun b W hA hG hD => ⟨_, ?_, rfl⟩
          have h6 := hA.getD (t := 6) (by kernel_rfl)
          simp [execOp, Act.eval, h6, go_sem]
        · refine stepJ_val rfl (fun _ => Below.refl _ _) rfl rfl fun b W hA hG hD => ⟨_, ?_, rfl⟩
          have h22 := hD.get 0 22 _ rfl rfl (by kernel_rfl)
          have h23 := hD.get 1 23 _ rfl rfl (by kernel_rfl)
          simp only at h22 h23
          have := hs1H.out W
          simp only [Array.getD_eq_getD_getElem?] at h22 h23
          simp [execOp, Act.eval, h22, h23, Instr.sliceAt, this, Result.andThen]
        · refine stepJ_call rfl rfl rfl fun b W hA hG hD => ⟨8, #[.slice a1 k cap], ?_, (hT1.out W hG).mono fun e W' he => ⟨_, he.1, hG.trans (he.2.mono hG.size), he.2, rfl⟩⟩
          have h24 := hD.get 2 24 _ rfl rfl (by kernel_rfl)
          simp only at h24
          simp [execOp, Act.eval, h24, go_sem]
        · refine stepJ_any rfl fun b W hA hG hD K hK => ?_
          have h3 := hA.getD (t := 3) (by kernel_rfl)
          rw [if_pos (by rfl)]
          refine wp_load_row 24 _ rfl w.heap.size ?_ 24 (BV d).toArray (0, 0) _ (hdw.out.below hG hdw.out.lt) huH.out rfl ?_ (hK _ _ hG (Below.refl _ _) rfl (fun h => by cases h))
          · simpa [Act.eval] using h3
          · rw [hiH.out]; simp [BV_length, hd]
        · refine stepJ_make rfl rfl fun b W hA hG hD => ⟨.slice (some ⟨W.heap.size, 0, none⟩) 1 1, W.alloc (.cells (BV d).toArray 24), ?_, hG.alloc hG.size _, (Below.refl _ _).alloc (Nat.le_refl _) _, ⟨_, rfl, heap_alloc_new _ _⟩, fun h => by cases h⟩
          have h26 := hD.get 4 26 _ rfl rfl (by kernel_rfl)
          simp only [Array.getD_eq_getD_getElem?] at h26
          have hsz : (BV d).toArray.size = 32 := by simp [BV_length, hd]
          simp [execOp, Act.eval, h26, hsz, go_sem]
          rw [one_cells hd]
        · refine stepJ_call rfl rfl rfl fun b W hA hG hD => ?_
          have h27 := hD.get 5 27 _ rfl rfl (by kernel_rfl)
          obtain ⟨g, h27, h28⟩ := h27
          refine ⟨8, #[.slice (some ⟨g, 0, none⟩) 1 1], ?_, (hT2.out W g hG h28).mono fun e W' he => ⟨_, he.1, hG.trans (he.2.mono hG.size), he.2, rfl⟩⟩
          simp [execOp, Act.eval, h27, go_sem]
        · refine stepJ_make rfl rfl fun b W hA hG hD => ⟨.pointer (some ⟨W.heap.size, 0, none⟩), W.alloc (.cells #[.int .u8 0, .int .u8 0, .int .u8 0, .int .u8 0, .int .u8 0, .int .u8 0, .int .u8 0, .int .u8 0, .int .u8 0, .int .u8 0, .int .u8 0, .int .u8 0, .int .u8 0, .int .u8 0, .int .u8 0, .int .u8 0, .int .u8 0, .int .u8 0, .int .u8 0, .int .u8 0, .int .u8 0, .int .u8 0, .int .u8 0, .int .u8 0, .int .u8 0, .int .u8 0, .int .u8 0, .int .u8 0, .int .u8 0, .int .u8 0, .int .u8 0, .int .u8 0] 24), ?_, hG.alloc hG.size _, (Below.refl _ _).alloc (Nat.le_refl _) _, ⟨_, rfl, hG.size, (zero_new W).1⟩, fun _ => ⟨Nat.le_refl _, by simp [pb]⟩⟩
          simp [execOp, go_sem]
        · refine stepJ_make rfl rfl fun b W hA hG hD => ⟨.pointer (some ⟨W.heap.size, 0, none⟩), W.alloc (.cells #[.int .u8 0, .int .u8 0, .int .u8 0, .int .u8 0, .int .u8 0, .int .u8 0, .int .u8 0, .int .u8 0, .int .u8 0, .int .u8 0, .int .u8 0, .int .u8 0, .int .u8 0, .int .u8 0, .int .u8 0, .int .u8 0, .int .u8 0, .int .u8 0, .int .u8 0, .int .u8 0, .int .u8 0, .int .u8 0, .int .u8 0, .int .u8 0, .int .u8 0, .int .u8 0, .int .u8 0, .int .u8 0, .int .u8 0, .int .u8 0, .int .u8 0, .int .u8 0] 24), ?_, hG.alloc hG.size _, (Below.refl _ _).alloc (Nat.le_refl _) _, ⟨_, rfl, hG.size, (zero_new W).1⟩, fun _ => ⟨Nat.le_refl _, by simp [pb]⟩⟩
          simp [execOp, go_sem]
      · intro f T W hG hF hne hltb
        have e22 : T 22 = .slice a l.length cap := hF 0 _ rfl (by omega)
        have e23 : T 23 = .int .i64 k := hF 1 _ rfl (by omega)
        have e24 : T 24 = .slice a1 k cap := hF 2 _ rfl (by omega)
        have e25 : T 25 = .agg (BV (treeH (l.take k))).toArray := hF 3 _ rfl (by omega)
        have e26 : T 26 = .agg (BV d).toArray := hF 4 _ rfl (by omega)
        obtain ⟨g27, e27, -⟩ : ∃ g, T 27 = .slice (some ⟨g, 0, none⟩) 1 1 ∧ DB W g 24 d := hF 5 _ rfl (by omega)
        have e28 : T 28 = .agg (BV (treeH [d])).toArray := hF 6 _ rfl (by omega)
        obtain ⟨gA, e7, hgA, hA7⟩ : ∃ g, T 7 = .pointer (some ⟨g, 0, none⟩) ∧ wr.heap.size ≤ g ∧ DB W g 24 zeroD := hF 7 _ rfl (by omega)
        obtain ⟨gB, e8, hgB, hB8⟩ : ∃ g, T 8 = .pointer (some ⟨g, 0, none⟩) ∧ wr.heap.size ≤ g ∧ DB W g 24 zeroD := hF 8 _ rfl (by omega)
        have hAB : pb (T 7) ≠ pb (T 8) := hne 7 8 _ _ 7 8 (by omega) (by omega) rfl rfl (by omega) rfl rfl rfl rfl
        rw [e7, e8] at hAB
        have hAB : gA ≠ gB := hAB
        have lA := treeH_length (l.take k)
        have lB := treeH_length [d]
        obtain ⟨t1, -, t3, -, ry⟩ := two_there (w := wr) (Y := W) (N := wr.heap.size) (p := gA) (q := gB) lA lB hA7 hB8 hG hAB hgA hgB
        have ryH := Lib.hid ry
        clear ry hF hne hltb
        simp only [List.take, fillT, List.setIfInBounds_toArray, List.set_cons_zero, List.set_cons_succ, e22, e23, e24, e25, e26, e27, e28, e7, e8]
        refine wpAny_ready (rs := [9]) (by kernel_rfl) (by simp) (AllReady.cons (o := ⟨none, .store 24 (.tmp 7) (.tmp 25), _, _, _, none⟩) rfl (fun K1 hK1 => ?_) AllReady.nil)
        rw [if_pos (by rfl)]
        refine wp_store_mid 24 _ _ rfl gA 0 (BV (treeH (l.take k))).toArray rfl rfl (by simpa using t1) (by rw [hiH.out]; simp [BV_length, lA]) (by simpa using BV_one (treeH (l.take k))) ?_
        refine hK1 _ _ ?_
        clear hK1 K1
        refine wpAny_ready (rs := [10]) (by kernel_rfl) (by simp) (AllReady.cons (o := ⟨none, .store 24 (.tmp 8) (.tmp 28), _, _, _, none⟩) rfl (fun K1 hK1 => ?_) AllReady.nil)
        rw [if_pos (by rfl)]
        refine wp_store_mid 24 _ _ rfl gB 0 (BV (treeH [d])).toArray rfl rfl (by simpa using t3) (by rw [hiH.out]; simp [BV_length, lB]) (by simpa using BV_one (treeH [d])) ?_
        refine hK1 _ _ ?_
        clear hK1 K1
        refine wpAny_done (by kernel_rfl) ?_ _
        simp only [Act.put, List.toList_toArray]
        obtain ⟨hA7', hB7', hb7⟩ := ryH.out.fin1
        have hq7 := Lib.hid (FH.out.step _ _ hq.out hb7)
        have hd7 := Lib.hid (hdw.out.below hb7 hdw.out.lt)
        have hA7 := Lib.hid hA7'
        have hB7 := Lib.hid hB7'
        have hAB' := Lib.hid hAB
        clear hA7' hB7' hb7 ryH t1 t3 e22 e23 e24 e25 e26 e27 e28 e7 e8 hG hdw hq hT1 hT2 hgA hgB hAB
        generalize (W.setCells gA 0 (BV (treeH (l.take k)))).setCells gB 0 (BV (treeH [d])) = W7 at *
        have hlk : (l.take k).length = k := by rw [List.length_take]; omega
        have h32M : ∀ e ∈ l.take k, e.length = 32 := fun e he => h32 e (List.mem_of_mem_take he)
        have hRM : Hid (∀ W, Below W7.heap.size W7 W → RD W W.heap.size (l.take k) a1 cap) := fun W hW => (rd'.out W (FH.out.step _ _ hq7.out hW)).to_at hkl hs1H.out
        generalize hM : l.take k = M at *
        have hMH := Lib.hid hM
        clear hM
        go_wp2_with fail
        refine wp_region_pre 7 2 (fun W => Below W7.heap.size W7 W) (fun W W' => Below W.heap.size W W')
          (fun i v W => match i with
            | 0 => ∃ g, v = .slice (some ⟨g, 0, none⟩) 0 0
            | 1 => v = .slice a l.length cap
            | 2 => v = .int .i64 k
            | 3 => v = .slice a1 k cap
            | 4 => ∃ g c, v = .slice (some ⟨g, 0, none⟩) k c ∧ OD W W7.heap.size (.slice (some ⟨g, 0, none⟩) k c) M
            | 5 => v = .agg (BV d).toArray
            | 6 => ∃ g, v = .slice (some ⟨g, 0, none⟩) 1 1 ∧ DB W g 24 d
            | _ => True) (fun _ => false)
          (by kernel_rfl) (by kernel_rfl) (by kernel_rfl) (by kernel_rfl) (by kernel_rfl) (by kernel_rfl) (by kernel_rfl) ?_ (fun _ _ h => h.size) (dN (Below.refl _ _) 1) ?_ ?_
        · intro i v W W' hb hF
          match i, hF with
          | 0, h => exact h
          | 1, h => exact h
          | 2, h => exact h
          | 3, h => exact h
          | 4, ⟨g, c, h1, h2⟩ => exact ⟨g, c, h1, h2.below hb⟩
          | 5, h => exact h
          | 6, ⟨g, h1, h2⟩ => exact ⟨g, h1, h2.below hb h2.lt⟩
          | _ + 7, _ => trivial
        · refine ⟨?_, ?_, ?_, ?_, ?_, ?_, ?_, trivial⟩
          · refine stepJ_make rfl rfl fun b W hA hG hD => ⟨.slice (some ⟨W.heap.size, 0, none⟩) 0 0, W.alloc (.cells #[] 24), ?_, hG.alloc hG.size _, (Below.refl _ _).alloc (Nat.le_refl _) _, ⟨_, rfl⟩, fun h => by cases h⟩
            simp [execOp, Act.eval, go_sem]
          · refine stepJ_val rfl (fun _ => Below.refl _ _) rfl rfl fun b W hA hG hD => ⟨_, ?_, rfl⟩
            have h5 := hA.getD (t := 5) (by kernel_rfl)
            simp [execOp, Act.eval, h5, go_sem]
          · refine stepJ_val rfl (fun _ => Below.refl _ _) rfl rfl fun b W hA hG hD => ⟨_, ?_, rfl⟩
            have h6 := hA.getD (t := 6) (by kernel_rfl)
            simp [execOp, Act.eval, h6, go_sem]
          · refine stepJ_val rfl (fun _ => Below.refl _ _) rfl rfl fun b W hA hG hD => ⟨_, ?_, rfl⟩
            have h30 := hD.get 1 30 _ rfl rfl (by kernel_rfl)
            have h31 := hD.get 2 31 _ rfl rfl (by kernel_rfl)
            simp only [Array.getD_eq_getD_getElem?] at h30 h31
            have := hs1H.out W
            simp [execOp, Act.eval, h30, h31, Instr.sliceAt, this, Result.andThen]
          · refine stepJ_any rfl fun b W hA hG hD K hK => ?_
            obtain ⟨g, h29⟩ := hD.get 0 29 _ rfl rfl (by kernel_rfl)
            have h32' := hD.get 3 32 _ rfl rfl (by kernel_rfl)
            obtain ⟨i0, hi0, hz0, hz1, hz2⟩ := info_parts Tryd.infoD
            have hsrc := (hRM.out W hG).src
            rw [hlk] at hsrc
            rw [if_pos (by rfl)]
            obtain ⟨c, w', hr, ho, hbw⟩ := run_append_fresh (P := Tryd.prog) W W7.heap.size 26 26 26 24 i0 _ Tryd.underlying26 hi0 hz0 32 32 hz1 hz2 (by omega) rfl g (.slice a1 k cap) k (M.flatMap BV) hsrc (by omega) (by omega) hG.size
            refine Lib.wp_append_run W (.tmp 29) (.tmp 32) 26 26 rfl _ _ h29 h32' _ w' hr (hK _ _ (hG.trans (hbw.mono hG.size)) hbw ⟨_, c, rfl, ?_⟩ (fun h => by cases h))
            unfold OD
            rw [hlk]
            exact ho
          · refine stepJ_any rfl fun b W hA hG hD K hK => ?_
            have h3 := hA.getD (t := 3) (by kernel_rfl)
            rw [if_pos (by rfl)]
            refine wp_load_row 24 _ rfl w.heap.size ?_ 24 (BV d).toArray (0, 0) _ (hd7.out.below hG hd7.out.lt) huH.out rfl ?_ (hK _ _ hG (Below.refl _ _) rfl (fun h => by cases h))
            · simpa [Act.eval] using h3
            · rw [hiH.out]; simp [BV_length, hd]
          · refine stepJ_make rfl rfl fun b W hA hG hD => ⟨.slice (some ⟨W.heap.size, 0, none⟩) 1 1, W.alloc (.cells (BV d).toArray 24), ?_, hG.alloc hG.size _, (Below.refl _ _).alloc (Nat.le_refl _) _, ⟨_, rfl, heap_alloc_new _ _⟩, fun h => by cases h⟩
            have h34 := hD.get 5 34 _ rfl rfl (by kernel_rfl)
            simp only [Array.getD_eq_getD_getElem?] at h34
            have hsz : (BV d).toArray.size = 32 := by simp [BV_length, hd]
            simp [execOp, Act.eval, h34, hsz, go_sem]
            rw [one_cells hd]
        · intro f T W hG hF hne hltb
          obtain ⟨g29, e29⟩ : ∃ g, T 29 = .slice (some ⟨g, 0, none⟩) 0 0 := hF 0 _ rfl (by omega)
          have e30 : T 30 = .slice a l.length cap := hF 1 _ rfl (by omega)
          have e31 : T 31 = .int .i64 k := hF 2 _ rfl (by omega)
          have e32 : T 32 = .slice a1 k cap := hF 3 _ rfl (by omega)
          obtain ⟨g33, c33, e33, ho33⟩ : ∃ g c, T 33 = .slice (some ⟨g, 0, none⟩) k c ∧ OD W W7.heap.size (.slice (some ⟨g, 0, none⟩) k c) M := hF 4 _ rfl (by omega)
          have e34 : T 34 = .agg (BV d).toArray := hF 5 _ rfl (by omega)
          obtain ⟨g35, e35, h35⟩ : ∃ g, T 35 = .slice (some ⟨g, 0, none⟩) 1 1 ∧ DB W g 24 d := hF 6 _ rfl (by omega)
          clear hF hne hltb
          simp only [List.take, fillT, List.setIfInBounds_toArray, List.set_cons_zero, List.set_cons_succ, e29, e30, e31, e32, e33, e34, e35]
          refine wpAny_ready (rs := [7]) (by kernel_rfl) (by simp) (AllReady.cons (o := ⟨some 36, .call { callee := .builtin .append, args := #[.tmp 33, .tmp 35], argTypes := #[26, 26] }, _, _, _, none⟩) rfl (fun K1 hK1 => ?_) AllReady.nil)
          refine step_lists rfl (.tmp 33) (.tmp 35) rfl W7.heap.size _ M [d] rfl ho33 (some ⟨g35, 0, none⟩) 1 rfl (RD.ofDB h35 hd) (by simp [hlk]; omega) hG.size ?_
          intro v8 W8 ho8 hb8 _ _
          refine hK1 _ _ ?_
          clear hK1 K1
          refine wpAny_ready (rs := [8]) (by kernel_rfl) (by simp) (AllReady.cons (o := ⟨some 9, .assign (.tmp 36), _, _, _, none⟩) rfl (fun K1 hK1 => ?_) AllReady.nil)
          rw [if_pos (by rfl)]
          refine wp_val (v := v8) (w' := W8) (by simp [execOp, Act.eval, Act.put, go_sem]) (hK1 _ _ ?_)
          clear hK1 K1
          refine wpAny_done (by kernel_rfl) ?_ _
          simp only [Act.put, List.setIfInBounds_toArray, List.set_cons_zero, List.set_cons_succ]
          have hq8 := Lib.hid (FH.out.step _ _ hq7.out (hG.trans hb8))
          have hd8 := Lib.hid (hd7.out.below (hG.trans hb8) hd7.out.lt)
          have hL32 : ∀ e ∈ M ++ [d], e.length = 32 := fun e he => by
            rcases List.mem_append.1 he with h | h
            · exact h32M e h
            · simp at h; subst h; exact hd
          obtain ⟨a8, cap8, rfl, hR8⟩ := ho8.reads hL32
          have hll : (M ++ [d]).length = k + 1 := by simp [hlk]
          obtain ⟨j, hkj⟩ := hkp.out
          have hkpH : Hid (∃ j, k = 2 ^ j) := ⟨j, hkj⟩
          have hpa := next_path (d := d) hlk hkj hk48
          have htr := Lib.hid (next_tree (d := d) hlk hkj hk48)
          have hP := Path_in (M ++ [d]) (by omega) k (by omega) W8 a8 cap8 hR8 (FH.out.kt _ hq8.out) (FH.out.pos _ hq8.out)
          rw [hpa] at hP
          rw [hll] at hP
          have hP := Lib.hid hP
          have hTl : Hid (∀ W, Below W8.heap.size W8 W → Calls Tryd.prog 8 #[.slice a8 (k + 1) cap8] W fun e W' => e = .returned (.agg (BV (treeH (M ++ [d]))).toArray) ∧ Below W.heap.size W W') := fun W hW => by
            have q := FH.out.step _ _ hq8.out hW
            have h := Tree_any (M ++ [d]) (by omega) W a8 cap8 (hR8.below hW) (FH.out.kt _ q) (FH.out.pos _ q)
            rwa [hll] at h
          have hA8 := Lib.hid (hA7.out.below (hG.trans hb8) hA7.out.lt)
          have hB8 := Lib.hid (hB7.out.below (hG.trans hb8) hB7.out.lt)
          have hllH := Lib.hid hll
          rw [hll]
          clear hpa hR8 hll e29 e30 e31 e32 e33 e34 e35 h35 ho33 ho8 hG hb8 hA7 hB7 hd7 hkj hRM hq7 hkp
          go_wp2_with fail
          refine hP.out.mono ?_
          rintro e W9 ⟨v9, rfl, hop, hb9⟩
          have lA := treeH_length M
          have lB := treeH_length [d]
          obtain ⟨a9, c9, rfl, hRp⟩ := hop.reads (fun e he => by simp at he; subst he; exact lA)
          have hq9 := Lib.hid (FH.out.step _ _ hq8.out hb9)
          have hA9 := Lib.hid (hA8.out.below hb9 hA8.out.lt)
          have hB9 := Lib.hid (hB8.out.below hb9 hB8.out.lt)
          have hd9 := Lib.hid (hd8.out.below hb9 hd8.out.lt)
          have hTl9 : Hid (∀ W, Below W9.heap.size W9 W → Calls Tryd.prog 8 #[.slice a8 (k + 1) cap8] W fun e W' => e = .returned (.agg (BV (treeH (M ++ [d]))).toArray) ∧ Below W.heap.size W W') := fun W hW => hTl.out W (hb9.trans (hW.mono hb9.size))
          obtain ⟨gp, op, rfl, hgp, hrp⟩ := hRp.at_ (i := 0) (by simp)
          have hrpH := Lib.hid hrp
          clear hrp hRp hop hb9 hTl hP hA8 hB8 hd8 hq8
          go_wp2_with fail
          have hNd : Hid (∀ W g c', Below W9.heap.size W9 W → OB W W9.heap.size (.slice (some ⟨g, 0, none⟩) 64 c') (treeH M ++ treeH [d]) → Calls Tryd.prog 15 #[.string ⟨#[110, 111, 100, 101]⟩, .slice (some ⟨g, 0, none⟩) 64 c'] W fun e W' => e = .returned (.agg (BV (nodeH (treeH M) (treeH [d]))).toArray) ∧ Below W.heap.size W W') := fun W g c' hW hob => by
            have q := FH.out.step _ _ hq9.out hW
            have h := Tagged_any nodeB (by decide) (treeH M ++ treeH [d]) (by simp; omega) W _ c' hob.reads.1 (fun h => by cases h) (FH.out.kt _ q) (FH.out.pos _ q)
            rwa [show (treeH M ++ treeH [d]).length = 64 by simp; omega] at h
          have he1 : Hid (∀ W, (Op.equalIn 10000 24 (.agg (BV (treeH (M ++ [d]))).toArray) (.agg (BV (nodeH (treeH M) (treeH [d]))).toArray)).run Tryd.prog W = .ok true W) := fun W => by
            rw [eq_digest (treeH (M ++ [d])) (nodeH (treeH M) (treeH [d])) (treeH_length _) (tagH_length _ _) W, htr.out, beq_self_eq_true]
          have he2 : Hid (∀ W, (Op.equalIn 10000 24 (.agg (BV (treeH M)).toArray) (.agg (BV (treeH M)).toArray)).run Tryd.prog W = .ok true W) := fun W => by
            rw [eq_digest _ _ lA lA W, beq_self_eq_true]
          have hrng : Hid (∀ W, Below W9.heap.size W9 W → W.rangeAt gp op (BV (treeH M))) := fun W hW j v hv => by
            have := hrpH.out j v (by simpa using hv)
            rw [Nat.zero_mul, Nat.add_zero] at this
            exact (hW.cell (p := ⟨gp, op + j, none⟩) hgp).trans this
          refine wp_region_pre 25 0 (fun W => Below W9.heap.size W9 W) (fun W W' => Spared W9.heap.size (treeH M) (treeH [d]) W W')
            (fun i v W => match i with
              | 0 => v = .slice a8 (k + 1) cap8
              | 1 => v = .agg (BV (treeH (M ++ [d]))).toArray
              | 2 => ∃ g, v = .slice (some ⟨g, 0, none⟩) 0 0
              | 3 => v = .slice (some ⟨gA, 0, none⟩) 32 32
              | 4 => ∃ g c, v = .slice (some ⟨g, 0, none⟩) 32 c ∧ OB W W9.heap.size (.slice (some ⟨g, 0, none⟩) 32 c) (treeH M)
              | 5 => v = .slice (some ⟨gB, 0, none⟩) 32 32
              | 6 => ∃ g c, v = .slice (some ⟨g, 0, none⟩) 64 c ∧ OB W W9.heap.size (.slice (some ⟨g, 0, none⟩) 64 c) (treeH M ++ treeH [d])
              | 7 => v = .agg (BV (nodeH (treeH M) (treeH [d]))).toArray
              | 8 => v = .bool false
              | 9 => v = .bool false
              | 10 => v = .int .i64 0
              | 11 => v = .bool false
              | 12 => v = .bool false
              | 13 => v = .bool false
              | 14 => v = .slice (some ⟨gp, op, none⟩) 1 c9
              | 15 => v = .int .i64 1
              | 16 => v = .bool false
              | 17 => v = .bool false
              | 18 => v = .bool false
              | 19 => v = .slice (some ⟨gp, op, none⟩) 1 c9
              | 20 => v = .pointer (some ⟨gp, op, none⟩)
              | 21 => v = .agg (BV (treeH M)).toArray
              | 22 => v = .agg (BV (treeH M)).toArray
              | 23 => v = .bool false
              | 24 => v = .bool false
              | _ => True) (fun _ => false)
            (by kernel_rfl) (by kernel_rfl) (by kernel_rfl) (by kernel_rfl) (by kernel_rfl) (by kernel_rfl) (by kernel_rfl) ?_ (fun _ _ h => h.size) (dN (Below.refl _ _) 1) ?_ ?_
          · intro i v W W' hb hF
            match i, hF with
            | 0, h => exact h
            | 1, h => exact h
            | 2, h => exact h
            | 3, h => exact h
            | 4, ⟨g, c, h1, h2⟩ => exact ⟨g, c, h1, hb.one _ h2⟩
            | 5, h => exact h
            | 6, ⟨g, c, h1, h2⟩ => exact ⟨g, c, h1, hb.two _ h2⟩
            | 7, h => exact h
            | 8, h => exact h
            | 9, h => exact h
            | 10, h => exact h
            | 11, h => exact h
            | 12, h => exact h
            | 13, h => exact h
            | 14, h => exact h
            | 15, h => exact h
            | 16, h => exact h
            | 17, h => exact h
            | 18, h => exact h
            | 19, h => exact h
            | 20, h => exact h
            | 21, h => exact h
            | 22, h => exact h
            | 23, h => exact h
            | 24, h => exact h
            | _ + 25, _ => trivial
          · refine ⟨?_, ?_, ?_, ?_, ?_, ?_, ?_, ?_, ?_, ?_, ?_, ?_, ?_, ?_, ?_, ?_, ?_, ?_, ?_, ?_, ?_, ?_, ?_, ?_, ?_, trivial⟩
            · refine stepJ_val' (fun _ h => Spared.of (Below.refl _ _) h.size) rfl rfl rfl fun b W hA hG hD => ⟨_, ?_, rfl⟩
              have h9 := hA.getD (t := 9) (by kernel_rfl)
              simp only [Array.getD_eq_getD_getElem?] at h9
              simp [execOp, Act.eval, h9, go_sem]
            · refine stepJ_call rfl rfl rfl fun b W hA hG hD => ⟨8, #[.slice a8 (k + 1) cap8], ?_, (hTl9.out W hG).mono fun e W' he => ⟨_, he.1, hG.trans (he.2.mono hG.size), Spared.of he.2 hG.size, rfl⟩⟩
              have h43 := hD.get 0 43 _ rfl rfl (by kernel_rfl)
              simp only [Array.getD_eq_getD_getElem?] at h43
              simp [execOp, Act.eval, h43, go_sem]
            · refine stepJ_make rfl rfl fun b W hA hG hD => ⟨.slice (some ⟨W.heap.size, 0, none⟩) 0 0, W.alloc (.cells #[] 5), ?_, hG.alloc hG.size _, Spared.of ((Below.refl _ _).alloc (Nat.le_refl _) _) hG.size, ⟨_, rfl⟩, fun h => by cases h⟩
              simp [execOp, Act.eval, go_sem]
            · refine stepJ_val' (fun _ h => Spared.of (Below.refl _ _) h.size) rfl rfl rfl fun b W hA hG hD => ⟨_, ?_, rfl⟩
              have h7 := hA.getD (t := 7) (by kernel_rfl)
              simp only [Array.getD_eq_getD_getElem?] at h7
              have := slice_digest gA 0 W
              simp [execOp, Act.eval, h7, this, Result.andThen]
            · refine stepJ_any rfl fun b W hA hG hD K hK => ?_
              obtain ⟨g, h45⟩ := hD.get 2 45 _ rfl rfl (by kernel_rfl)
              have h46 := hD.get 3 46 _ rfl rfl (by kernel_rfl)
              rw [if_pos (by rfl)]
              obtain ⟨c', w', hr, ho, hbw⟩ := append_first W W9.heap.size g gA (treeH M) 24 22 lA (hA9.out.below hG hA9.out.lt) hG.size
              exact Lib.wp_append_run W (.tmp 45) (.tmp 46) 22 22 rfl _ _ h45 h46 _ w' hr (hK _ _ (hG.trans (hbw.mono hG.size)) (Spared.of hbw hG.size) ⟨_, c', rfl, ho⟩ (fun h => by cases h))
            · refine stepJ_val' (fun _ h => Spared.of (Below.refl _ _) h.size) rfl rfl rfl fun b W hA hG hD => ⟨_, ?_, rfl⟩
              have h8 := hA.getD (t := 8) (by kernel_rfl)
              simp only [Array.getD_eq_getD_getElem?] at h8
              have := slice_digest gB 0 W
              simp [execOp, Act.eval, h8, this, Result.andThen]
            · refine stepJ_any rfl fun b W hA hG hD K hK => ?_
              obtain ⟨g, c', h47, ho47⟩ := hD.get 4 47 _ rfl rfl (by kernel_rfl)
              have h48 := hD.get 5 48 _ rfl rfl (by kernel_rfl)
              rw [if_pos (by rfl)]
              obtain ⟨g', c2, w', hr, ho, hsp⟩ := append_second W W9.heap.size g c' gB (treeH M) (treeH [d]) 24 22 lA lB ho47 (hB9.out.below hG hB9.out.lt) hG.size
              exact Lib.wp_append_run W (.tmp 47) (.tmp 48) 22 22 rfl _ _ h47 h48 _ w' hr (hK _ _ (hG.trans hsp.below) hsp ⟨_, c2, rfl, ho⟩ (fun h => by cases h))
            · refine stepJ_call rfl rfl rfl fun b W hA hG hD => ?_
              obtain ⟨g, c', h49, ho49⟩ := hD.get 6 49 _ rfl rfl (by kernel_rfl)
              simp only [Array.getD_eq_getD_getElem?] at h49
              refine ⟨15, #[.string ⟨#[110, 111, 100, 101]⟩, .slice (some ⟨g, 0, none⟩) 64 c'], ?_, (hNd.out W g c' hG ho49).mono fun e W' he => ⟨_, he.1, hG.trans (he.2.mono hG.size), Spared.of he.2 hG.size, rfl⟩⟩
              simp [execOp, Act.eval, h49, go_sem]
            · refine stepJ_val' (fun _ h => Spared.of (Below.refl _ _) h.size) rfl rfl rfl fun b W hA hG hD => ⟨_, ?_, rfl⟩
              have h44 := hD.get 1 44 _ rfl rfl (by kernel_rfl)
              have h50 := hD.get 7 50 _ rfl rfl (by kernel_rfl)
              simp only [Array.getD_eq_getD_getElem?] at h44 h50
              have := he1.out W
              simp [execOp, Act.eval, h44, h50, go_sem, this]
            · refine stepJ_val' (fun _ h => Spared.of (Below.refl _ _) h.size) rfl rfl rfl fun b W hA hG hD => ⟨_, ?_, rfl⟩
              have h51 := hD.get 8 51 _ rfl rfl (by kernel_rfl)
              simp only [Array.getD_eq_getD_getElem?] at h51
              simp [execOp, Act.eval, h51, go_sem]
            · refine stepJ_valG' (fun _ h => Spared.of (Below.refl _ _) h.size) rfl rfl fun b W hA hG hD => ?_
              have hgd := hD.get 9 52 _ rfl rfl (by kernel_rfl)
              have hgd := slot_bool hgd
              refine ⟨by simp [Region.wanted, yielded, hgd], _, ?_, rfl⟩
              have h11 := hA.getD (t := 11) (by kernel_rfl)
              simp only [Array.getD_eq_getD_getElem?] at h11
              simp [execOp, Act.eval, h11, go_sem]
            · refine stepJ_valG' (fun _ h => Spared.of (Below.refl _ _) h.size) rfl rfl fun b W hA hG hD => ?_
              have hgd := hD.get 9 52 _ rfl rfl (by kernel_rfl)
              have hgd := slot_bool hgd
              refine ⟨by simp [Region.wanted, yielded, hgd], _, ?_, rfl⟩
              have h53 := hD.get 10 53 _ rfl rfl (by kernel_rfl)
              simp only [Array.getD_eq_getD_getElem?] at h53
              simp [execOp, Act.eval, h53, go_sem]
            · refine stepJ_val' (fun _ h => Spared.of (Below.refl _ _) h.size) rfl rfl rfl fun b W hA hG hD => ⟨_, ?_, rfl⟩
              have h52 := hD.get 9 52 _ rfl rfl (by kernel_rfl)
              have h54 := hD.get 11 54 _ rfl rfl (by kernel_rfl)
              simp only [Array.getD_eq_getD_getElem?] at h52 h54
              simp [execOp, Act.eval, h52, h54, go_sem]
            · refine stepJ_val' (fun _ h => Spared.of (Below.refl _ _) h.size) rfl rfl rfl fun b W hA hG hD => ⟨_, ?_, rfl⟩
              have h55 := hD.get 12 55 _ rfl rfl (by kernel_rfl)
              simp only [Array.getD_eq_getD_getElem?] at h55
              simp [execOp, Act.eval, h55, go_sem]
            · refine stepJ_valG' (fun _ h => Spared.of (Below.refl _ _) h.size) rfl rfl fun b W hA hG hD => ?_
              have hgd := hD.get 13 56 _ rfl rfl (by kernel_rfl)
              have hgd := slot_bool hgd
              refine ⟨by simp [Region.wanted, yielded, hgd], _, ?_, rfl⟩
              have h10 := hA.getD (t := 10) (by kernel_rfl)
              simp only [Array.getD_eq_getD_getElem?] at h10
              simp [execOp, Act.eval, h10, go_sem]
            · refine stepJ_valG' (fun _ h => Spared.of (Below.refl _ _) h.size) rfl rfl fun b W hA hG hD => ?_
              have hgd := hD.get 13 56 _ rfl rfl (by kernel_rfl)
              have hgd := slot_bool hgd
              refine ⟨by simp [Region.wanted, yielded, hgd], _, ?_, rfl⟩
              have h57 := hD.get 14 57 _ rfl rfl (by kernel_rfl)
              simp only [Array.getD_eq_getD_getElem?] at h57
              simp [execOp, Act.eval, h57, go_sem]
            · refine stepJ_valG' (fun _ h => Spared.of (Below.refl _ _) h.size) rfl rfl fun b W hA hG hD => ?_
              have hgd := hD.get 13 56 _ rfl rfl (by kernel_rfl)
              have hgd := slot_bool hgd
              refine ⟨by simp [Region.wanted, yielded, hgd], _, ?_, rfl⟩
              have h58 := hD.get 15 58 _ rfl rfl (by kernel_rfl)
              simp only [Array.getD_eq_getD_getElem?] at h58
              simp [execOp, Act.eval, h58, go_sem]
            · refine stepJ_val' (fun _ h => Spared.of (Below.refl _ _) h.size) rfl rfl rfl fun b W hA hG hD => ⟨_, ?_, rfl⟩
              have h56 := hD.get 13 56 _ rfl rfl (by kernel_rfl)
              have h59 := hD.get 16 59 _ rfl rfl (by kernel_rfl)
              simp only [Array.getD_eq_getD_getElem?] at h56 h59
              simp [execOp, Act.eval, h56, h59, go_sem]
            · refine stepJ_val' (fun _ h => Spared.of (Below.refl _ _) h.size) rfl rfl rfl fun b W hA hG hD => ⟨_, ?_, rfl⟩
              have h60 := hD.get 17 60 _ rfl rfl (by kernel_rfl)
              simp only [Array.getD_eq_getD_getElem?] at h60
              simp [execOp, Act.eval, h60, go_sem]
            · refine stepJ_valG' (fun _ h => Spared.of (Below.refl _ _) h.size) rfl rfl fun b W hA hG hD => ?_
              have hgd := hD.get 18 61 _ rfl rfl (by kernel_rfl)
              have hgd := slot_bool hgd
              refine ⟨by simp [Region.wanted, yielded, hgd], _, ?_, rfl⟩
              have h10 := hA.getD (t := 10) (by kernel_rfl)
              simp only [Array.getD_eq_getD_getElem?] at h10
              simp [execOp, Act.eval, h10, go_sem]
            · refine stepJ_valG' (fun _ h => Spared.of (Below.refl _ _) h.size) rfl rfl fun b W hA hG hD => ?_
              have hgd := hD.get 18 61 _ rfl rfl (by kernel_rfl)
              have hgd := slot_bool hgd
              refine ⟨by simp [Region.wanted, yielded, hgd], _, ?_, rfl⟩
              have h62 := hD.get 19 62 _ rfl rfl (by kernel_rfl)
              simp only [Array.getD_eq_getD_getElem?] at h62
              simp [execOp, Act.eval, h62, go_sem]
            · refine stepJ_any rfl fun b W hA hG hD K hK => ?_
              have hgd := hD.get 18 61 _ rfl rfl (by kernel_rfl)
              have h63 := hD.get 20 63 _ rfl rfl (by kernel_rfl)
              have hgd := slot_bool hgd
              rw [if_pos (by simp [Region.wanted, yielded, hgd])]
              refine wp_load_mid 24 _ rfl gp op h63 (BV (treeH M)) _ (hrng.out W hG) huH.out rfl (by rw [hiH.out, BV_length, lA]) (hK _ _ hG (Spared.of (Below.refl _ _) hG.size) rfl (fun h => by cases h))
            · refine stepJ_any rfl fun b W hA hG hD K hK => ?_
              have hgd := hD.get 18 61 _ rfl rfl (by kernel_rfl)
              have hgd := slot_bool hgd
              have h7 := hA.getD (t := 7) (by kernel_rfl)
              rw [if_pos (by simp [Region.wanted, yielded, hgd])]
              refine wp_load_mid 24 _ rfl gA 0 h7 (BV (treeH M)) _ (range_of (hA9.out.below hG hA9.out.lt)) huH.out rfl (by rw [hiH.out, BV_length, lA]) (hK _ _ hG (Spared.of (Below.refl _ _) hG.size) rfl (fun h => by cases h))
            · refine stepJ_valG' (fun _ h => Spared.of (Below.refl _ _) h.size) rfl rfl fun b W hA hG hD => ?_
              have hgd := hD.get 18 61 _ rfl rfl (by kernel_rfl)
              have hgd := slot_bool hgd
              refine ⟨by simp [Region.wanted, yielded, hgd], _, ?_, rfl⟩
              have h64 := hD.get 21 64 _ rfl rfl (by kernel_rfl)
              have h65 := hD.get 22 65 _ rfl rfl (by kernel_rfl)
              simp only [Array.getD_eq_getD_getElem?] at h64 h65
              have := he2.out W
              simp [execOp, Act.eval, h64, h65, go_sem, this]
            · refine stepJ_val' (fun _ h => Spared.of (Below.refl _ _) h.size) rfl rfl rfl fun b W hA hG hD => ⟨_, ?_, rfl⟩
              have h61 := hD.get 18 61 _ rfl rfl (by kernel_rfl)
              have h66 := hD.get 23 66 _ rfl rfl (by kernel_rfl)
              simp only [Array.getD_eq_getD_getElem?] at h61 h66
              simp [execOp, Act.eval, h61, h66, go_sem]
          · intro f T W hG hF hne hltb
            clear hne hltb
            have e43 : T 43 = .slice a8 (k + 1) cap8 := hF 0 _ rfl (by omega)
            have e44 : T 44 = .agg (BV (treeH (M ++ [d]))).toArray := hF 1 _ rfl (by omega)
            obtain ⟨g45, e45⟩ : ∃ g, T 45 = .slice (some ⟨g, 0, none⟩) 0 0 := hF 2 _ rfl (by omega)
            have e46 : T 46 = .slice (some ⟨gA, 0, none⟩) 32 32 := hF 3 _ rfl (by omega)
            obtain ⟨g47, c47, e47, -⟩ : ∃ g c, T 47 = .slice (some ⟨g, 0, none⟩) 32 c ∧ OB W W9.heap.size (.slice (some ⟨g, 0, none⟩) 32 c) (treeH M) := hF 4 _ rfl (by omega)
            have e48 : T 48 = .slice (some ⟨gB, 0, none⟩) 32 32 := hF 5 _ rfl (by omega)
            obtain ⟨g49, c49, e49, -⟩ : ∃ g c, T 49 = .slice (some ⟨g, 0, none⟩) 64 c ∧ OB W W9.heap.size (.slice (some ⟨g, 0, none⟩) 64 c) (treeH M ++ treeH [d]) := hF 6 _ rfl (by omega)
            have e50 : T 50 = .agg (BV (nodeH (treeH M) (treeH [d]))).toArray := hF 7 _ rfl (by omega)
            have e51 : T 51 = .bool false := hF 8 _ rfl (by omega)
            have e52 : T 52 = .bool false := hF 9 _ rfl (by omega)
            have e53 : T 53 = .int .i64 0 := hF 10 _ rfl (by omega)
            have e54 : T 54 = .bool false := hF 11 _ rfl (by omega)
            have e55 : T 55 = .bool false := hF 12 _ rfl (by omega)
            have e56 : T 56 = .bool false := hF 13 _ rfl (by omega)
            have e57 : T 57 = .slice (some ⟨gp, op, none⟩) 1 c9 := hF 14 _ rfl (by omega)
            have e58 : T 58 = .int .i64 1 := hF 15 _ rfl (by omega)
            have e59 : T 59 = .bool false := hF 16 _ rfl (by omega)
            have e60 : T 60 = .bool false := hF 17 _ rfl (by omega)
            have e61 : T 61 = .bool false := hF 18 _ rfl (by omega)
            have e62 : T 62 = .slice (some ⟨gp, op, none⟩) 1 c9 := hF 19 _ rfl (by omega)
            have e63 : T 63 = .pointer (some ⟨gp, op, none⟩) := hF 20 _ rfl (by omega)
            have e64 : T 64 = .agg (BV (treeH M)).toArray := hF 21 _ rfl (by omega)
            have e65 : T 65 = .agg (BV (treeH M)).toArray := hF 22 _ rfl (by omega)
            have e66 : T 66 = .bool false := hF 23 _ rfl (by omega)
            have e67 : T 67 = .bool false := hF 24 _ rfl (by omega)
            clear hF
            simp only [List.take, fillT, List.setIfInBounds_toArray, List.set_cons_zero, List.set_cons_succ, e43, e44, e45, e46, e47, e48, e49, e50, e51, e52, e53, e54, e55, e56, e57, e58, e59, e60, e61, e62, e63, e64, e65, e66, e67]
            refine wpAny_done (by kernel_rfl) ?_ _
            have hq10 := Lib.hid (FH.out.step _ _ hq9.out hG)
            have hd10 := Lib.hid (hd9.out.below hG hd9.out.lt)
            clear e43 e44 e45 e46 e47 e48 e49 e50 e51 e52 e53 e54 e55 e56 e57 e58 e59 e60 e61 e62 e63 e64 e65 e66 e67 hG hrng he1 he2 hNd hTl9 hrpH hA9 hB9 hq9 hd9
            have hmul : IntKind.i64.wrap ((k : Int) * 2) = k * 2 := IntWalk.i64_in _ (by omega)
            go_wp2_with fail
            go_roundw
            case rel => exact ⟨k * 2, by go_num, by omega, by have := hlen; omega, by obtain ⟨j, hj⟩ := hkpH.out; exact ⟨j + 1, by rw [hj, Nat.pow_succ]⟩, hq10.out, hd10.out⟩
            case measure => simp [intOf]; omega
    · have hkl' : ¬ (k : Int) ≤ l.length := by omega
      go_wp2_with fail
      go_ret
      exact ⟨rfl, FH.out.below _ hq.out⟩
end Go.Proofs.YtjfoihlelkfaoaaDoor
