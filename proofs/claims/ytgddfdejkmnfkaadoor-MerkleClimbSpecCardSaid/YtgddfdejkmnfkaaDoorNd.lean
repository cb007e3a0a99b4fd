/- Collide where it finds. -/
import Derived.Test.YtgddfdejkmnfkaaDoorNc
namespace Go.Proofs.YtgddfdejkmnfkaaDoor
open Go.RowKit

theorem climbP_ok (n ix : Nat) (hn : n ≤ 65536) (hi0 : ix < n) (a : List UInt8) (p : List (List UInt8)) (hpl : p.length = pathN n ix) : climbP n ix a p = (clM n ix a p (rows n), 0) := by
  unfold climbP
  rw [if_neg (by rw [show isPl (n : Int) (ix : Int) = true from isPl_iff.2 (by omega)]; decide), if_neg (by simpa using hpl)]
  rfl

set_option maxRecDepth 100000 in
set_option maxHeartbeats 4000000 in
theorem hcollide_yes (n ix : Nat) (hn : n ≤ 65536) (hi0 : ix < n) (a b : List UInt8) (hla : a.length ≤ 800000) (hlb : b.length ≤ 800000) (p q : List (List UInt8)) (hpl : p.length = pathN n ix) (hql : q.length = pathN n ix) (w : World) (A B Ap Bq : Option Addr) (ca cb cp cq : Nat) (hra : RBs w w.heap.size A a) (hna : A = none → a = []) (hrb : RBs w w.heap.size B b) (hnb : B = none → b = []) (hRp : RD w w.heap.size p Ap cp) (hRq : RD w w.heap.size q Bq cq) (hK : KT w) (h0 : 0 < w.heap.size)
    (hab : a ≠ b) (hdd : clM n ix a p (rows n) = clM n ix b q (rows n)) :
    Calls Tryd.prog 35 #[.func (.func 21) #[] #[], .int .i64 (n : Int), .int .i64 (ix : Int), .slice A a.length ca, .slice B b.length cb, .slice Ap p.length cp, .slice Bq q.length cq] w fun e w' => (∃ v1 v2 K, e = .returned (.tuple #[v1, v2, .bool true]) ∧ OB w' w.heap.size v1 (txM n ix a p K) ∧ OB w' w.heap.size v2 (txM n ix b q K) ∧ K ≤ rows n ∧ (∀ j, j < K → clM n ix a p j ≠ clM n ix b q j) ∧ (K < rows n → clM n ix a p K = clM n ix b q K)) ∧ Below w.heap.size w w' := by
  have hu : Tryd.prog.underlying 30 = some (.array 32 5) := by kernel_rfl
  have hi : (Tryd.prog.info? 30).map (·.size) = some 32 := by kernel_rfl
  have h1 := climbP_ok n ix hn hi0 a p hpl
  have h2 := climbP_ok n ix hn hi0 b q hql
  have l1 := clM_len n ix a p (rows n)
  have l2 := clM_len n ix b q (rows n)
  have hMt : Hid (∀ W, Below w.heap.size w W → Calls Tryd.prog 52 #[.func (.func 21) #[] #[], .int .i64 (n : Int), .int .i64 (ix : Int), .slice A a.length ca, .slice B b.length cb, .slice Ap p.length cp, .slice Bq q.length cq] W fun e w' =>
      (∃ v1 v2 K, e = .returned (.tuple #[v1, v2]) ∧ OB w' W.heap.size v1 (txM n ix a p K) ∧ OB w' W.heap.size v2 (txM n ix b q K) ∧ K ≤ rows n ∧ (∀ j, j < K → clM n ix a p j ≠ clM n ix b q j) ∧ (K < rows n → clM n ix a p K = clM n ix b q K)) ∧ Below W.heap.size W w') := Lib.hid fun W hW =>
    hmeet_any n ix hn hi0 a b hla hlb p q hpl hql W A B Ap Bq ca cb cp cq (hra.lift hW hW.size) hna (hrb.lift hW hW.size) hnb (hRp.under hW hW.size) (hRq.under hW hW.size) (hK.below hW h0) (Nat.lt_of_lt_of_le h0 hW.size)
  generalize clM n ix a p (rows n) = d1 at h1 l1 hdd
  generalize clM n ix b q (rows n) = d2 at h2 l2 hdd
  have hd' := Lib.hid hdd
  have hab' := Lib.hid hab
  clear hpl hql hdd hab
  have hsw1 := Lib.hid (DV_size l1)
  have hsw2 := Lib.hid (DV_size l2)
  have hC1 := hclimb_any (n : Int) (ix : Int) a hla p w A Ap ca cp hra hna hRp hK h0
  rw [h1] at hC1
  replace hC1 := Lib.hid hC1
  have hrbH := Lib.hid hrb
  have hRqH := Lib.hid hRq
  have hraH := Lib.hid hra
  have hKH := Lib.hid hK
  replace hRp := Lib.hid hRp
  clear hra hrb hRq hK h1
  go_enter Tryd.func35, Tryd.ntmps35
  go_wp2_with fail
  refine hC1.out.mono ?_
  rintro e w1 ⟨rfl, hb1⟩
  clear hC1
  go_wp2_with (refine wpList_store_row rfl 30 _ _ rfl w1.heap.size _ rfl rfl 30 _ (heap_alloc_last w1 _) ?cj ?cl ?ck ?_
               case cj => rw [hi, hsw1.out]
               case cl => rw [hsw1.out]; rfl
               case ck => exact BV_all _
               rw [World.setRow_alloc_new])
  have hB1 := hb1.trans ((bel1 w1 (.cells (BV d1).toArray 30)).mono hb1.size)
  have kd1 : DB (w1.alloc (.cells (BV d1).toArray 30)) w1.heap.size 30 d1 := heap_alloc_new w1 _
  have s1 : (w1.alloc (.cells (BV d1).toArray 30)).heap.size = w1.heap.size + 1 := by simp
  generalize w1.alloc (.cells (BV d1).toArray 30) = V1 at hB1 kd1 s1 ⊢
  have hC2 := hclimb_any (n : Int) (ix : Int) b hlb q V1 B Bq cb cq (hrbH.out.lift hB1 hB1.size) hnb (hRqH.out.under hB1 hB1.size) (hKH.out.below hB1 h0) (Nat.lt_of_lt_of_le h0 hB1.size)
  rw [h2] at hC2
  replace hC2 := Lib.hid hC2
  clear h2 hb1
  refine hC2.out.mono ?_
  rintro e w2 ⟨rfl, hb2⟩
  clear hC2
  go_upto_region 3 with (refine wpList_store_row rfl 30 _ _ rfl w2.heap.size _ rfl rfl 30 _ (heap_alloc_last w2 _) ?cj ?cl ?ck ?_
                         case cj => rw [hi, hsw2.out]
                         case cl => rw [hsw2.out]; rfl
                         case ck => exact BV_all _
                         rw [World.setRow_alloc_new])
  have kd1 := blk_at (blk_at kd1 hb2) (bel1 w2 (.cells (BV d2).toArray 30))
  have hB2 := hB1.trans (hb2.mono hB1.size)
  have hB := Lib.hid (hB2.trans ((bel1 w2 (.cells (BV d2).toArray 30)).mono hB2.size))
  have kd2 := heap_alloc_new w2 (.cells (BV d2).toArray 30)
  generalize w2.alloc (.cells (BV d2).toArray 30) = V2 at hB kd1 kd2 ⊢
  clear hB1 hB2 hb2
  replace hB := Lib.hid hB.out
  have hdd := hd'.out
  have hab := hab'.out
  have eq := fun W => eq_digest d1 d2 l1 l2 W
  have g3 : (d1 == d2) = true := beq_iff_eq.2 hdd
  have g4 : (d1 != d2) = false := by simpa using hdd
  have hE := bytesEqual_any a b V2 A B ca cb _ _ (hraH.out.lift hB.out hB.out.size) (hrbH.out.lift hB.out hB.out.size)
  rw [beq_eq_false_iff_ne.2 hab] at hE
  replace hE := Lib.hid hE
  clear hdd hab hd' hab'
  go_wp2_with (first
    | (refine wpList_load_guarded (by rfl) 30 _ (by rfl) w1.heap.size (by rfl) 30 _ (0, 0) _ kd1 hu rfl (by rw [hi, hsw1.out]) ?_)
    | (refine wpList_load_guarded (by rfl) 30 _ (by rfl) w2.heap.size (by rfl) 30 _ (0, 0) _ kd2 hu rfl (by rw [hi, hsw2.out]) ?_))
  refine hE.out.mono ?_
  rintro e w3 ⟨rfl, hb3⟩
  have hB := Lib.hid (hB.out.trans (hb3.mono hB.out.size))
  have hM := Lib.hid (hMt.out w3 hB.out)
  clear hE hb3 kd1 kd2 hMt
  go_wp2_with fail
  refine hM.out.mono ?_
  rintro e w4 ⟨⟨v1, v2, K, rfl, ho1, ho2, hk1, hk2, hk3⟩, hb4⟩
  replace ho1 := Lib.hid (OB.mono ho1 hB.out.size)
  replace ho2 := Lib.hid (OB.mono ho2 hB.out.size)
  have hB := Lib.hid (hB.out.trans (hb4.mono hB.out.size))
  clear hM hb4
  go_wp2_with fail
  go_ret3
  exact ⟨⟨_, _, K, rfl, ho1.out, ho2.out, hk1, hk2, hk3⟩, hB.out⟩

set_option maxRecDepth 100000 in
set_option maxHeartbeats 2000000 in
theorem Collide_yes (n ix : Nat) (hn : n ≤ 65536) (hi0 : ix < n) (a b : List UInt8) (hla : a.length ≤ 800000) (hlb : b.length ≤ 800000) (p q : List (List UInt8)) (hpl : p.length = pathN n ix) (hql : q.length = pathN n ix) (w : World) (A B Ap Bq : Option Addr) (ca cb cp cq : Nat) (hra : RBs w w.heap.size A a) (hna : A = none → a = []) (hrb : RBs w w.heap.size B b) (hnb : B = none → b = []) (hRp : RD w w.heap.size p Ap cp) (hRq : RD w w.heap.size q Bq cq) (hK : KT w) (h0 : 0 < w.heap.size)
    (hab : a ≠ b) (hdd : clM n ix a p (rows n) = clM n ix b q (rows n)) :
    Calls Tryd.prog 19 #[.int .i64 (n : Int), .int .i64 (ix : Int), .slice A a.length ca, .slice B b.length cb, .slice Ap p.length cp, .slice Bq q.length cq] w fun e w' => (∃ v1 v2 K, e = .returned (.tuple #[v1, v2, .bool true]) ∧ OB w' w.heap.size v1 (txM n ix a p K) ∧ OB w' w.heap.size v2 (txM n ix b q K) ∧ K ≤ rows n ∧ (∀ j, j < K → clM n ix a p j ≠ clM n ix b q j) ∧ (K < rows n → clM n ix a p K = clM n ix b q K)) ∧ Below w.heap.size w w' := by
  have hC := Lib.hid (hcollide_yes n ix hn hi0 a b hla hlb p q hpl hql w A B Ap Bq ca cb cp cq hra hna hrb hnb hRp hRq hK h0 hab hdd)
  clear hra hrb hRp hRq hK hab hdd hpl hql
  go_enter Tryd.func19, Tryd.ntmps19
  go_wp2_with fail
  refine hC.out.mono ?_
  rintro e w2 ⟨⟨v1, v2, K, rfl, ho1, ho2, hk1, hk2, hk3⟩, hb2⟩
  replace hb2 := Lib.hid hb2
  replace ho1 := Lib.hid ho1
  replace ho2 := Lib.hid ho2
  clear hC
  go_wp2_with fail
  go_ret3
  exact ⟨⟨_, _, K, rfl, ho1.out, ho2.out, hk1, hk2, hk3⟩, hb2.out⟩
/-- What Collide gives: two texts that differ, with one digest. -/
theorem tx_meet (n ix : Nat) {a b : List UInt8} (hab : a ≠ b) (p q : List (List UInt8)) {K : Nat} (hdd : clM n ix a p (rows n) = clM n ix b q (rows n)) (hk1 : K ≤ rows n) (hk2 : ∀ j, j < K → clM n ix a p j ≠ clM n ix b q j) (hk3 : K < rows n → clM n ix a p K = clM n ix b q K) :
    txM n ix a p K ≠ txM n ix b q K ∧ sha (txM n ix a p K) = sha (txM n ix b q K) := by
  refine ⟨tx_ne n ix hab p q K hk2, ?_⟩
  rw [← clM_tx, ← clM_tx]
  by_cases h : K < rows n
  · exact hk3 h
  · obtain rfl : K = rows n := by omega
    exact hdd
end Go.Proofs.YtgddfdejkmnfkaaDoor
