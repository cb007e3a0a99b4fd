/- The reference's reader: Value. -/
import Derived.Test.YtaninbklippdaaaRq
import Derived.Test.YtaninbklippdaaaVa
import Derived.StillTailTactics
namespace Go.Proofs.Ytaninbklippdaaa
open Go.RowKit

theorem RS.set_ {w : World} {B R N j k : Nat} {bs : List UInt8} {bad : Bool} (h : RS w B R bs k bad) (hB : B ≤ R) (hN : R < N) (u : Value) : RS (w.setCell ⟨N, j, none⟩ u) B R bs k bad :=
  h.keep (fun o => World.cell?_setCell_other _ _ _ _ (by intro e; injection e with e; omega)) (fun i => World.frozen?_setCell _ _ _ _) (fun b o hb => World.cell?_setCell_other _ _ _ _ (by intro e; injection e with e; omega))
theorem RS.alloc {w : World} {B R k : Nat} {bs : List UInt8} {bad : Bool} (h : RS w B R bs k bad) (hB : B ≤ R) (hR : R < w.heap.size) (o : Obj) : RS (w.alloc o) B R bs k bad :=
  h.keep (fun _ => World.cell?_alloc_lt w o _ hR) (fun i => World.frozen?_of_block (Below.heap_alloc w o R hR)) (fun b o' hb => World.cell?_alloc_lt w o ⟨b, o', none⟩ (by show b < _; omega))

/-- What Value gives. -/
def RValP (d : Nat) (bs : List UInt8) (k : Nat) (w : World) (B R : Nat) (e : Ending) (w' : World) : Prop :=
  ∃ (x : GV) (v : Value) (k' : Nat) (bad' : Bool), e = .returned v ∧ RVS w' (fun b => w.heap.size ≤ b ∧ b < w'.heap.size) x v ∧ k ≤ k' ∧ k' ≤ bs.length ∧ big x ≤ (k' - k) + (if bad' = true then d + 1 else 0) ∧ RS w' B R bs k' bad' ∧ Upd w w' R ∧
    ∀ y r, dval d (bs.drop k) = some (y, r) → x = y ∧ bad' = false ∧ bs.drop k' = r

theorem size_byte : ∀ w, (Go.sizeOf 5).run Try.prog w = .ok 1 w := fun _ => by kernel_rfl
/-- 'b[k:k + u]'. -/
theorem slice_mid (W : World) (B : Nat) (A : Option Addr) (bs : List UInt8) (c k u : Nat) (hk : k + u ≤ bs.length) (hc : bs.length ≤ c) (hr : RBs W B A bs) :
    ∃ A', (∀ w', (Instr.slice 22 (.slice A bs.length c) (some (.int .i64 (k : Int))) (some (.int .i64 ((k : Int) + (u : Int)))) none).run Try.prog w' = .ok (.slice A' u (c - k)) w') ∧ RBs W B A' ((bs.drop k).take u) := by
  have ht : Try.prog.underlying 22 = some (.slice (Try.prog.elem 22)) := by kernel_rfl
  have he : Try.prog.elem 22 = 5 := by kernel_rfl
  refine ⟨if c = k then A else A.map (·.add k), fun w' => ?_, ?_⟩
  · rw [run_slice_lh w' _ _ _ _ ht .i64 .i64 _ _ (by omega) (by omega) (by omega), he, size_byte]
    have e1 : ((k : Int) + (u : Int)).toNat = k + u := by omega
    simp [Result.andThen, sliced, e1]
  · have h1 := (RBs.drop (n := k) (w' := W) hr (fun _ _ _ => rfl)).take (n := u)
    split
    · intro hp
      rw [List.length_take, List.length_drop] at hp
      omega
    · exact h1

theorem big_leaf (k n : Int) (s : ByteArray) : big (.mk k n s []) = 1 + s.size := by rw [big, bigAll, Nat.add_zero]
theorem sgn_odd {u : Nat} (h : u % 2 = 1) : -((u : Int) / 2) - 1 = sgn u := by unfold sgn; rw [if_neg (by omega)]
theorem sgn_even {u : Nat} (h : ¬ u % 2 = 1) : (u : Int) / 2 = sgn u := by unfold sgn; rw [if_pos (by omega)]
theorem strong1 {d k k' : Nat} {bs : List UInt8} {u : Nat} {bad' : Bool} (hdc : bs.drop k = 1 :: bs.drop (k + 1)) (hstr : ∀ u' r, rnum (bs.drop (k + 1)) 0 0 = some (u', r) → u = u' ∧ bad' = false ∧ bs.drop k' = r) :
    ∀ y r, dval d (bs.drop k) = some (y, r) → GV.mk 1 (sgn u) ⟨#[]⟩ [] = y ∧ bad' = false ∧ bs.drop k' = r := fun y r hy => by
  rw [hdc, dval_cons, if_pos rfl] at hy
  cases hr : rnum (bs.drop (k + 1)) 0 0 with
  | none => rw [hr] at hy; cases hy
  | some p =>
    rw [hr] at hy
    obtain ⟨rfl, h2, h3⟩ := hstr p.1 p.2 hr
    simp only [Option.map_some, Option.some.injEq, Prod.mk.injEq] at hy
    exact ⟨hy.1, h2, h3.trans hy.2⟩
theorem strong2 {d k k' : Nat} {bs : List UInt8} {u : Nat} {bad' : Bool} (hdc : bs.drop k = 2 :: bs.drop (k + 1)) (hstr : ∀ u' r, rnum (bs.drop (k + 1)) 0 0 = some (u', r) → u = u' ∧ bad' = false ∧ bs.drop k' = r) :
    ∀ y r, dval d (bs.drop k) = some (y, r) → bad' = false ∧ u ≤ bs.length - k' ∧ GV.mk 2 0 ⟨((bs.drop k').take u).toArray⟩ [] = y ∧ bs.drop (k' + u) = r := fun y r hy => by
  rw [hdc, dval_cons, if_neg (by decide), if_pos rfl] at hy
  cases hr : rnum (bs.drop (k + 1)) 0 0 with
  | none => rw [hr] at hy; cases hy
  | some p =>
    rw [hr] at hy
    obtain ⟨rfl, h2, h3⟩ := hstr p.1 p.2 hr
    simp only [Option.bind_some] at hy
    split at hy
    · rename_i hle
      simp only [Option.some.injEq, Prod.mk.injEq] at hy
      rw [← h3, List.length_drop] at hle
      refine ⟨h2, hle, by rw [h3]; exact hy.1, ?_⟩
      rw [← List.drop_drop, h3]
      exact hy.2
    · cases hy

set_option maxRecDepth 100000 in
set_option maxHeartbeats 6400000 in
theorem rvalue_of (d : Nat) (hd : d ≤ 16) (w : World) (B R : Nat) (bs : List UInt8) (k : Nat) (hlen : bs.length ≤ 1000000) (hB : B ≤ R) (hR : R < w.heap.size) (hk : k ≤ bs.length) (h : RS w B R bs k false)
    (hL : ∀ hlt : k < bs.length, bs[k] = 3 → Calls Try.prog 18 #[.pointer (some ⟨R, 0, none⟩), .int .i64 ((16 : Int) - d)] w (RValP d bs k w B R)) :
    Calls Try.prog 18 #[.pointer (some ⟨R, 0, none⟩), .int .i64 ((16 : Int) - d)] w (RValP d bs k w B R) := by
  have hLH := Lib.hid hL
  clear hL
  have hst0 := Lib.hid (h.alloc hB hR (.cells #[.int .i64 0, .int .i64 0, .string ⟨#[]⟩, .slice none 0 0] 26))
  have hne1 : ¬ R = w.heap.size := by omega
  have hne2 : ¬ w.heap.size = R := by omega
  clear h
  by_cases hlt : k < bs.length
  · have hY := Lib.hid (rnext_yes _ B R bs k false hB hlen hlt hst0.out)
    have hdc := Lib.hid (drop_cons hlt)
    have hLc := Lib.hid (hLH.out hlt)
    clear hLH
    generalize bs[k] = c at *
    by_cases h1 : c = 1
    · subst h1
      go_enter Try.func18, Try.ntmps18
      go_wp2_with fail
      refine hY.out.mono ?_
      rintro e w1 ⟨rfl, hst1, hup1, hsz1⟩
      have hN := Lib.hid (rnumber_any w1 B R bs (k + 1) hB hlen (by omega) hst1)
      have hup1 := Lib.hid hup1
      clear hst1 hsz1
      go_wp2_with fail
      refine hN.out.mono ?_
      rintro e w2 ⟨u, k', bad', rfl, hu, hkk, hkl, hst2, hup2, hsz2, hstr⟩
      have hup := hup1.out.trans hup2
      obtain ⟨⟨g0, g1, g2, g3⟩, f0, f1, f2, f3⟩ := res4 hup hR
      have hst2 := Lib.hid hst2
      have hup := Lib.hid hup
      have hstr := Lib.hid hstr
      clear hup2 hsz2
      by_cases hodd : u % 2 = 1
      · have hodd' : (((u : Int) % 2) == 1) = true := by rw [beq_iff_eq]; omega
        have hq : (u : Int) / 2 ≤ 9223372036854775807 := by omega
        have hs := Lib.hid (sgn_odd hodd)
        clear hodd
        go_wp2_with fail
        rw [hs.out]
        exact bodyPost_ret (v := .agg #[.int .i64 1, .int .i64 (sgn u), .string ⟨#[]⟩, .slice none 0 0]) (by simp [results, Try.results18, go_sem, *]) rfl
          ⟨.mk 1 (sgn u) ⟨#[]⟩ [], _, k', bad', rfl, RVS.leaf (by unfold I64; omega) (sgn_range (by omega) (by omega)) (by simp [maxLen, ByteArray.size]), by omega, hkl, by rw [big_leaf, show (⟨#[]⟩ : ByteArray).size = 0 from rfl]; split <;> omega,
            (((hst2.out.set_ hB hR _).set_ hB hR _).set_ hB hR _).set_ hB hR _, (((hup.out.alloc.set_ (Nat.le_refl _) _).set_ (Nat.le_refl _) _).set_ (Nat.le_refl _) _).set_ (Nat.le_refl _) _, strong1 hdc.out hstr.out⟩
      · have hodd' : (((u : Int) % 2) == 1) = false := by rw [beq_eq_false_iff_ne]; omega
        have hq : (u : Int) / 2 ≤ 9223372036854775807 := by omega
        have hs := Lib.hid (sgn_even hodd)
        clear hodd
        go_wp2_with fail
        rw [hs.out]
        exact bodyPost_ret (v := .agg #[.int .i64 1, .int .i64 (sgn u), .string ⟨#[]⟩, .slice none 0 0]) (by simp [results, Try.results18, go_sem, *]) rfl
          ⟨.mk 1 (sgn u) ⟨#[]⟩ [], _, k', bad', rfl, RVS.leaf (by unfold I64; omega) (sgn_range (by omega) (by omega)) (by simp [maxLen, ByteArray.size]), by omega, hkl, by rw [big_leaf, show (⟨#[]⟩ : ByteArray).size = 0 from rfl]; split <;> omega,
            (((hst2.out.set_ hB hR _).set_ hB hR _).set_ hB hR _).set_ hB hR _, (((hup.out.alloc.set_ (Nat.le_refl _) _).set_ (Nat.le_refl _) _).set_ (Nat.le_refl _) _).set_ (Nat.le_refl _) _, strong1 hdc.out hstr.out⟩
    · by_cases h2 : c = 2
      · subst h2
        clear h1
        go_enter Try.func18, Try.ntmps18
        go_wp2_with fail
        refine hY.out.mono ?_
        rintro e w1 ⟨rfl, hst1, hup1, hsz1⟩
        have hN := Lib.hid (rnumber_any w1 B R bs (k + 1) hB hlen (by omega) hst1)
        have hup1 := Lib.hid hup1
        clear hst1 hsz1 hY
        go_wp2_with fail
        refine hN.out.mono ?_
        rintro e w2 ⟨u, k', bad', rfl, hu, hkk, hkl, hst2, hup2, hsz2, hstr⟩
        have hup := hup1.out.trans hup2
        obtain ⟨⟨g0, g1, g2, g3⟩, f0, f1, f2, f3⟩ := res4 hup hR
        obtain ⟨⟨A, cp, s0, sc, sb⟩, s1, s2, sf⟩ := hst2
        have sf1 := sf 1
        have sf2 := sf 2
        have hst2 : Hid (RS w2 B R bs k' bad') := ⟨⟨A, cp, s0, sc, sb⟩, s1, s2, sf⟩
        have sbH := Lib.hid sb
        have hup := Lib.hid hup
        have hstr := Lib.hid (strong2 (d := d) hdc.out hstr)
        clear hup2 hsz2 sf sb hN
        cases bad' with
        | true =>
          have hwr : IntKind.u64.wrap ((bs.length : Int) - k') = (bs.length : Int) - k' := by rw [IntKind.wrap_u64]; omega
          go_wp2_with fail
          go_quiet (fail)
          go_wp2_with fail
          exact bodyPost_ret (v := .agg #[.int .i64 0, .int .i64 0, .string ⟨#[]⟩, .slice none 0 0]) (by simp [results, Try.results18, go_sem, *]) rfl
            ⟨.mk 0 0 ⟨#[]⟩ [], _, k', true, rfl, RVS.leaf (by unfold I64; omega) (by unfold I64; omega) (by simp [maxLen, ByteArray.size]), by omega, hkl, by rw [big_leaf, show (⟨#[]⟩ : ByteArray).size = 0 from rfl, if_pos rfl]; omega,
              (((((hst2.out.draw _).set2 hB true).set_ hB hR _).set_ hB hR _).set_ hB hR _).set_ hB hR _, (((((hup.out.draw _).trans (Upd.set1 _ _ _ _)).alloc.set_ (Nat.le_refl _) _).set_ (Nat.le_refl _) _).set_ (Nat.le_refl _) _).set_ (Nat.le_refl _) _,
              fun y r hy => by cases (hstr.out y r hy).1⟩
        | false =>
          have hwr : IntKind.u64.wrap ((bs.length : Int) - k') = (bs.length : Int) - k' := by rw [IntKind.wrap_u64]; omega
          by_cases hbig : bs.length - k' < u
          · have hbig' : (bs.length : Int) - k' < u := by omega
            go_wp2_with fail
            go_quiet (fail)
            go_wp2_with fail
            exact bodyPost_ret (v := .agg #[.int .i64 0, .int .i64 0, .string ⟨#[]⟩, .slice none 0 0]) (by simp [results, Try.results18, go_sem, *]) rfl
              ⟨.mk 0 0 ⟨#[]⟩ [], _, k', true, rfl, RVS.leaf (by unfold I64; omega) (by unfold I64; omega) (by simp [maxLen, ByteArray.size]), by omega, hkl, by rw [big_leaf, show (⟨#[]⟩ : ByteArray).size = 0 from rfl, if_pos rfl]; omega,
                (((((hst2.out.draw _).set2 hB true).set_ hB hR _).set_ hB hR _).set_ hB hR _).set_ hB hR _, (((((hup.out.draw _).trans (Upd.set1 _ _ _ _)).alloc.set_ (Nat.le_refl _) _).set_ (Nat.le_refl _) _).set_ (Nat.le_refl _) _).set_ (Nat.le_refl _) _,
                fun y r hy => by have := (hstr.out y r hy).2.1; omega⟩
          · have hbig' : ¬ (bs.length : Int) - k' < u := by omega
            go_wp2_with fail
            go_quiet (fail)
            go_wp2_with fail
            have hS := (hst2.out.draw nq).set1 hB (k' + u)
            have hU := (hup.out.draw nq).trans (Upd.set1 (w2.drewN nq) R 1 (.int .i64 ((k' + u : Nat) : Int)))
            have hc : ((k' + u : Nat) : Int) = (k' : Int) + (u : Int) := by omega
            rw [hc] at hS hU
            clear hc g0 g1 g2 g3 f0 f1 f2 f3 s0 s1 s2 sf1 sf2 hst2 hup sbH
            generalize (w2.drewN nq).setCell ⟨R, 1, none⟩ (.int .i64 ((k' : Int) + (u : Int))) = W3 at *
            obtain ⟨⟨g0, g1, g2, g3⟩, f0, f1, f2, f3⟩ := res4 hU hR
            have hSH := Lib.hid hS
            have hUH := Lib.hid hU
            obtain ⟨⟨A, cp, s0, sc, sb⟩, s1, -, -⟩ := hS
            clear hU
            obtain ⟨A', hsl, hrb⟩ := slice_mid W3 B A bs cp k' u (by omega) sc sb
            have hcv : ∀ m, (convert 22 9 (.slice A' u (cp - k'))).run Try.prog (W3.drewN m) = .ok (.string ⟨((bs.drop k').take u).toArray⟩) (W3.drewN m) := fun m => by
              have := conv_str (w := W3.drewN m) (B := B) (c := cp - k') (fun hp => by
                obtain ⟨b, off, e, hb, hcell⟩ := hrb hp
                exact ⟨b, off, e, hb, hcell⟩ : RBs (W3.drewN m) B A' ((bs.drop k').take u))
              rw [List.length_take, List.length_drop, Nat.min_eq_left (by omega)] at this
              exact this
            have hcv1 := hcv 1
            rw [← World.drew_is_drewN] at hcv1
            have hw1 : IntKind.i64.wrap (u : Int) = u := IntWalk.i64_in _ (by omega)
            have hw2 : IntKind.i64.wrap ((k' : Int) + u - u) = k' := by rw [Int.add_sub_cancel]; exact IntWalk.i64_in _ (by omega)
            have hw3 : IntKind.i64.wrap (k' : Int) = k' := IntWalk.i64_in _ (by omega)
            clear sb hrb
            go_still_tail 18, (by kernel_rfl)
            change wpList _ _ _ _ _ W3.drew
            go_wp2_with fail
            have hS4 : RS W3.drew B R bs (k' + u) false := hSH.out.draw 1
            have hU4 := hUH.out.draw 1
            rw [← World.drew_is_drewN] at hU4
            have hz : (⟨((bs.drop k').take u).toArray⟩ : ByteArray).size = u := by
              show ((bs.drop k').take u).length = u
              rw [List.length_take, List.length_drop]
              omega
            exact bodyPost_ret (v := .agg #[.int .i64 2, .int .i64 0, .string ⟨((bs.drop k').take u).toArray⟩, .slice none 0 0]) (by simp [results, Try.results18, go_sem, *]) rfl
              ⟨.mk 2 0 ⟨((bs.drop k').take u).toArray⟩ [], _, k' + u, false, rfl, RVS.leaf (by unfold I64; omega) (by unfold I64; omega) (by rw [hz]; unfold maxLen; omega), by omega, by omega, by rw [big_leaf, hz]; simp; omega,
                (((hS4.set_ hB hR _).set_ hB hR _).set_ hB hR _).set_ hB hR _, (((hU4.alloc.set_ (Nat.le_refl _) _).set_ (Nat.le_refl _) _).set_ (Nat.le_refl _) _).set_ (Nat.le_refl _) _,
                fun y r hy => ⟨(hstr.out y r hy).2.2.1, rfl, (hstr.out y r hy).2.2.2⟩⟩
      · by_cases h3 : c = 3
        · exact hLc.out h3
        · have n1 : ((c.toNat : Int) == 1) = false := beq_eq_false_iff_ne.2 (fun e => h1 (UInt8.toNat_inj.1 (by show c.toNat = 1; omega)))
          have n2 : ((c.toNat : Int) == 2) = false := beq_eq_false_iff_ne.2 (fun e => h2 (UInt8.toNat_inj.1 (by show c.toNat = 2; omega)))
          have n3 : ((c.toNat : Int) == 3) = false := beq_eq_false_iff_ne.2 (fun e => h3 (UInt8.toNat_inj.1 (by show c.toNat = 3; omega)))
          have hfin : Hid (dval d (bs.drop k) = none) := by show _ = _; rw [hdc.out, dval_cons, if_neg h1, if_neg h2, if_neg h3]
          clear h1 h2 h3
          go_enter Try.func18, Try.ntmps18
          go_wp2_with fail
          refine hY.out.mono ?_
          rintro e w1 ⟨rfl, hst1, hup1, hsz1⟩
          obtain ⟨⟨g0, g1, g2, g3⟩, f0, f1, f2, f3⟩ := res4 hup1 hR
          have gb := hst1.c2
          have gf := hst1.free 2
          have hst1 := Lib.hid hst1
          have hup1 := Lib.hid hup1
          go_wp2_with fail
          exact bodyPost_ret (v := .agg #[.int .i64 0, .int .i64 0, .string ⟨#[]⟩, .slice none 0 0]) (by simp [results, Try.results18, go_sem, *]) rfl
            ⟨.mk 0 0 ⟨#[]⟩ [], _, k + 1, true, rfl, RVS.leaf (by unfold I64; omega) (by unfold I64; omega) (by simp [maxLen, ByteArray.size]), by omega, by omega, by rw [big_leaf, show (⟨#[]⟩ : ByteArray).size = 0 from rfl, if_pos rfl]; omega,
              ((((hst1.out.set2 hB true).set_ hB hR _).set_ hB hR _).set_ hB hR _).set_ hB hR _, ((((hup1.out.trans (Upd.set1 _ _ _ _)).alloc.set_ (Nat.le_refl _) _).set_ (Nat.le_refl _) _).set_ (Nat.le_refl _) _).set_ (Nat.le_refl _) _,
              fun y r hy => by rw [hfin.out] at hy; cases hy⟩
  · have hke : k = bs.length := by omega
    have hN := Lib.hid (rnext_no _ B R bs k false hB hlen hke hst0.out)
    have hdn : Hid (bs.drop k = []) := List.drop_of_length_le (by omega)
    clear hst0
    go_enter Try.func18, Try.ntmps18
    go_wp2_with fail
    refine hN.out.mono ?_
    rintro e w1 ⟨rfl, hst1, hup1, hsz1⟩
    obtain ⟨⟨g0, g1, g2, g3⟩, f0, f1, f2, f3⟩ := res4 hup1 hR
    have gb := hst1.c2
    have gf := hst1.free 2
    have hst1 := Lib.hid hst1
    have hup1 := Lib.hid hup1
    go_wp2_with fail
    exact bodyPost_ret (v := .agg #[.int .i64 0, .int .i64 0, .string ⟨#[]⟩, .slice none 0 0]) (by simp [results, Try.results18, go_sem, *]) rfl
      ⟨.mk 0 0 ⟨#[]⟩ [], _, k, true, rfl, RVS.leaf (by unfold I64; omega) (by unfold I64; omega) (by simp [maxLen, ByteArray.size]), by omega, by omega, by rw [big_leaf, show (⟨#[]⟩ : ByteArray).size = 0 from rfl, if_pos rfl]; omega,
        ((((hst1.out.set2 hB true).set_ hB hR _).set_ hB hR _).set_ hB hR _).set_ hB hR _, ((((hup1.out.trans (Upd.set1 _ _ _ _)).alloc.set_ (Nat.le_refl _) _).set_ (Nat.le_refl _) _).set_ (Nat.le_refl _) _).set_ (Nat.le_refl _) _,
        fun y r hy => by rw [hdn.out, dval_nil] at hy; cases hy⟩
end Go.Proofs.Ytaninbklippdaaa
