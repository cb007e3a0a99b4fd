/- MerkleBound: the law. -/
import Derived.Test.YtfdoiamgbdjbjaaDoorMy
import Derived.Test.YtfdoiamgbdjbjaaDoorNd
namespace Go.Proofs.YtfdoiamgbdjbjaaDoor
open Go.RowKit

theorem climb_zero {n i : Int} {a : List UInt8} {p : List (List UInt8)} (h : (climbP n i a p).2 = 0) : isPl n i = true ∧ p.length = pathN n.toNat i.toNat := by
  unfold climbP at h
  split at h
  · cases h
  · rename_i h1
    split at h
    · cases h
    · rename_i h2
      exact ⟨by simpa using h1, by simpa using h2⟩
theorem RBs.none2 {w : World} {B : Nat} {A : Option Addr} {l : List UInt8} (h : RBs w B A l) : A = none → l = [] := fun e => by
  subst e
  cases l with
  | nil => rfl
  | cons x r =>
    obtain ⟨b, o, h1, -⟩ := h (by simp)
    cases h1

theorem tx_le (n i : Nat) (a : List UInt8) (p : List (List UInt8)) (hp : ∀ d ∈ p, d.length = 32) : ∀ K, 0 < (txM n i a p K).length ∧ (txM n i a p K).length ≤ 96 + a.length := by
  intro K
  induction K with
  | zero => rw [txM, leafM_len]; omega
  | succ K ih =>
    rw [txM]
    split
    · exact ih
    · have ho : (p.getD (used n i K) []).length ≤ 32 := by
        rw [List.getD_eq_getElem?_getD]
        rcases h : p[used n i K]? with _ | d
        · simp
        · have := hp d (List.mem_of_getElem? h)
          simp [this]
      have hd := clM_len n i a p K
      have hs := sha_length nodeB.data.toList
      unfold stepM nodeM texM
      split <;> (simp only [List.length_append]; omega)

set_option maxRecDepth 100000 in
set_option maxHeartbeats 2000000 in
theorem bound_any (n i : Int) (a b : List UInt8) (p q : List (List UInt8)) (w : World) (A B Ap Bq : Option Addr) (ca cb cp cq : Nat) (hra : RBs w w.heap.size A a) (hrb : RBs w w.heap.size B b) (hRp : RD w w.heap.size p Ap cp) (hRq : RD w w.heap.size q Bq cq) (hK : KT w) (h0 : 0 < w.heap.size) :
    Calls Tryd.prog 6 #[.int .i64 n, .int .i64 i, .slice A a.length ca, .slice B b.length cb, .slice Ap p.length cp, .slice Bq q.length cq] w fun e w' => e = .returned (.bool true) ∧ Below w.heap.size w w' := by
  have hKH := Lib.hid hK
  have hu := Lib.hid (show Tryd.prog.underlying 30 = some (.array 32 5) by kernel_rfl)
  have hi := Lib.hid (show (Tryd.prog.info? 30).map (·.size) = some 32 by kernel_rfl)
  have hS := Lib.hid (sane_any w hK h0)
  have hp32 := Lib.hid hRp.2.2.1
  have hq32 := Lib.hid hRq.2.2.1
  have hna := hra.none2
  have hnb := hrb.none2
  clear hK
  replace hra := Lib.hid hra
  replace hrb := Lib.hid hrb
  replace hRp := Lib.hid hRp
  replace hRq := Lib.hid hRq
  replace hna := Lib.hid hna
  replace hnb := Lib.hid hnb
  go_enter Tryd.func6, Tryd.ntmps6
  go_wp2_with fail
  refine hS.out.mono ?_
  rintro e w1 ⟨rfl, hb1⟩
  clear hS
  replace hb1 := Lib.hid hb1
  by_cases hsz : a.length ≤ 200 ∧ b.length ≤ 200 ∧ p.length ≤ 20 ∧ q.length ≤ 20
  case neg =>
    have hbad : (decide ((200 : Int) < (a.length : Int)) || decide ((200 : Int) < (b.length : Int)) || decide ((20 : Int) < (p.length : Int)) || decide ((20 : Int) < (q.length : Int))) = true := by simp; omega
    go_wp2_with fail
    all_goals
      go_ret
      exact ⟨rfl, hb1.out⟩
  obtain ⟨z1, z2, z3, z4⟩ := hsz
  have f1 : decide ((200 : Int) < (a.length : Int)) = false := decide_eq_false (by omega)
  have f2 : decide ((200 : Int) < (b.length : Int)) = false := decide_eq_false (by omega)
  have f3 : decide ((20 : Int) < (p.length : Int)) = false := decide_eq_false (by omega)
  have f4 : decide ((20 : Int) < (q.length : Int)) = false := decide_eq_false (by omega)
  obtain ⟨d1, e1, h1⟩ : ∃ d e, climbP n i a p = (d, e) := ⟨_, _, rfl⟩
  obtain ⟨d2, e2, h2⟩ : ∃ d e, climbP n i b q = (d, e) := ⟨_, _, rfl⟩
  have l1 : d1.length = 32 := by have := climbP_len n i a p; rw [h1] at this; exact this
  have l2 : d2.length = 32 := by have := climbP_len n i b q; rw [h2] at this; exact this
  have hs1 := Lib.hid (DV_size l1)
  have hs2 := Lib.hid (DV_size l2)
  have hC1 := Climb_any n i a (by omega) p w1 A Ap ca cp (hra.out.lift hb1.out hb1.out.size) hna.out (hRp.out.under hb1.out hb1.out.size) (hKH.out.below hb1.out h0) (Nat.lt_of_lt_of_le h0 hb1.out.size)
  rw [h1] at hC1
  replace hC1 := Lib.hid hC1
  replace h1 := Lib.hid h1
  replace h2 := Lib.hid h2
  go_wp2_with fail
  refine hC1.out.mono ?_
  rintro e w2 ⟨rfl, hb2⟩
  clear hC1
  replace hb1 := Lib.hid (hb1.out.trans (hb2.mono hb1.out.size))
  clear hb2
  go_wp2_with (refine wpList_store_row rfl 30 _ _ rfl w2.heap.size _ rfl rfl 30 _ (heap_alloc_last w2 _) ?cj ?cl ?ck ?_
               case cj => rw [hi.out, hs1.out]
               case cl => rw [hs1.out]; rfl
               case ck => exact BV_all _
               rw [World.setRow_alloc_new])
  have hb := bel1 w2 (.cells (BV d1).toArray 30)
  have k1 : Hid (DB _ w2.heap.size 30 d1) := heap_alloc_new w2 (.cells (BV d1).toArray 30)
  replace hb1 := Lib.hid (hb1.out.trans (hb.mono hb1.out.size))
  clear hb
  generalize w2.alloc (.cells (BV d1).toArray 30) = V1 at hb1 k1 ⊢
  have hC2 := Climb_any n i b (by omega) q V1 B Bq cb cq (hrb.out.lift hb1.out hb1.out.size) hnb.out (hRq.out.under hb1.out hb1.out.size) (hKH.out.below hb1.out h0) (Nat.lt_of_lt_of_le h0 hb1.out.size)
  rw [h2.out] at hC2
  replace hC2 := Lib.hid hC2
  refine hC2.out.mono ?_
  rintro e w3 ⟨rfl, hb2⟩
  clear hC2
  replace hb1 := Lib.hid (hb1.out.trans (hb2.mono hb1.out.size))
  replace k1 := Lib.hid (blk_at k1.out hb2)
  clear hb2
  go_wp2_with (refine wpList_store_row rfl 30 _ _ rfl w3.heap.size _ rfl rfl 30 _ (heap_alloc_last w3 _) ?cj ?cl ?ck ?_
               case cj => rw [hi.out, hs2.out]
               case cl => rw [hs2.out]; rfl
               case ck => exact BV_all _
               rw [World.setRow_alloc_new])
  have hb := bel1 w3 (.cells (BV d2).toArray 30)
  have k2 : Hid (DB _ w3.heap.size 30 d2) := heap_alloc_new w3 (.cells (BV d2).toArray 30)
  replace hb1 := Lib.hid (hb1.out.trans (hb.mono hb1.out.size))
  replace k1 := Lib.hid (blk_at k1.out hb)
  clear hb
  generalize w3.alloc (.cells (BV d2).toArray 30) = V2 at hb1 k1 k2 ⊢
  by_cases hyes : e1 = 0 ∧ e2 = 0 ∧ d1 = d2 ∧ a ≠ b
  case neg =>
    have hCo := Lib.hid (Collide_no n i a b (by omega) (by omega) p q V2 A B Ap Bq ca cb cp cq (hra.out.lift hb1.out hb1.out.size) hna.out (hrb.out.lift hb1.out hb1.out.size) hnb.out (hRp.out.under hb1.out hb1.out.size) (hRq.out.under hb1.out hb1.out.size) (hKH.out.below hb1.out h0) (Nat.lt_of_lt_of_le h0 hb1.out.size) (by
      rw [h1.out, h2.out]
      by_cases c1 : e1 = 0
      · by_cases c2 : e2 = 0
        · by_cases c3 : d1 = d2
          · refine .inr (.inr (.inr ?_))
            by_cases c4 : a = b
            · exact c4
            · exact absurd ⟨c1, c2, c3, c4⟩ hyes
          · exact .inr (.inr (.inl c3))
        · exact .inr (.inl c2)
      · exact .inl c1))
    refine hCo.out.mono ?_
    rintro e w4 ⟨rfl, hb2⟩
    clear hCo
    replace hb1 := Lib.hid (hb1.out.trans (hb2.mono hb1.out.size))
    have k1 := blk_at k1.out hb2
    have k2 := blk_at k2.out hb2
    clear hb2
    by_cases c1 : e1 = 0
    case neg =>
      have g1 : (e1 != 0) = true := by simpa using c1
      clear c1 hyes k1 k2
      go_wp2_with fail
      all_goals
        go_ret
        exact ⟨rfl, hb1.out⟩
    subst c1
    by_cases c2 : e2 = 0
    case neg =>
      have g1 : (e2 != 0) = true := by simpa using c2
      clear c2 hyes k1 k2
      go_wp2_with fail
      all_goals
        go_ret
        exact ⟨rfl, hb1.out⟩
    subst c2
    have eq := fun W => eq_digest d1 d2 l1 l2 W
    by_cases c3 : d1 = d2
    case neg =>
      have g3 : (d1 == d2) = false := beq_eq_false_iff_ne.2 c3
      have g4 : (d1 != d2) = true := by simpa using c3
      clear hyes c3
      go_wp2_with (first
        | (refine wpList_load_guarded (by rfl) 30 _ (by rfl) w2.heap.size (by rfl) 30 _ (0, 0) _ k1 hu.out rfl (by rw [hi.out, hs1.out]) ?_)
        | (refine wpList_load_guarded (by rfl) 30 _ (by rfl) w3.heap.size (by rfl) 30 _ (0, 0) _ k2 hu.out rfl (by rw [hi.out, hs2.out]) ?_))
      all_goals
        go_ret
        exact ⟨rfl, hb1.out⟩
    have g3 : (d1 == d2) = true := beq_iff_eq.2 c3
    have g4 : (d1 != d2) = false := by simpa using c3
    have hab : a = b := by
      by_cases c4 : a = b
      · exact c4
      · exact absurd ⟨rfl, rfl, c3, c4⟩ hyes
    have cv1 := conv_str (c := ca) (hra.out.lift hb1.out hb1.out.size)
    have cv2 := conv_str (c := cb) (hrb.out.lift hb1.out hb1.out.size)
    clear hyes c3
    subst hab
    go_wp2_with (first
      | (refine wpList_load_guarded (by rfl) 30 _ (by rfl) w2.heap.size (by rfl) 30 _ (0, 0) _ k1 hu.out rfl (by rw [hi.out, hs1.out]) ?_)
      | (refine wpList_load_guarded (by rfl) 30 _ (by rfl) w3.heap.size (by rfl) 30 _ (0, 0) _ k2 hu.out rfl (by rw [hi.out, hs2.out]) ?_))
    all_goals
      go_ret
      exact ⟨rfl, hb1.out⟩
  obtain ⟨rfl, rfl, hdd, hab⟩ := hyes
  obtain ⟨hpl1, hpp⟩ := climb_zero (n := n) (i := i) (a := a) (p := p) (by rw [h1.out])
  obtain ⟨-, hqq⟩ := climb_zero (n := n) (i := i) (a := b) (p := q) (by rw [h2.out])
  obtain ⟨g1, g2, g3⟩ := isPl_iff.1 hpl1
  obtain ⟨N, rfl⟩ : ∃ N : Nat, n = N := ⟨n.toNat, by omega⟩
  obtain ⟨I, rfl⟩ : ∃ I : Nat, i = I := ⟨i.toNat, by omega⟩
  simp only [Int.toNat_natCast] at hpp hqq
  have c1 := h1.out
  have c2 := h2.out
  rw [climbP_ok N I (by omega) (by omega) a p hpp] at c1
  rw [climbP_ok N I (by omega) (by omega) b q hqq] at c2
  injection c1 with c1 _
  injection c2 with c2 _
  have hmt : clM N I a p (rows N) = clM N I b q (rows N) := by rw [c1, c2, hdd]
  have hCo := Lib.hid (Collide_yes N I (by omega) (by omega) a b (by omega) (by omega) p q hpp hqq V2 A B Ap Bq ca cb cp cq (hra.out.lift hb1.out hb1.out.size) hna.out (hrb.out.lift hb1.out hb1.out.size) hnb.out (hRp.out.under hb1.out hb1.out.size) (hRq.out.under hb1.out hb1.out.size) (hKH.out.below hb1.out h0) (Nat.lt_of_lt_of_le h0 hb1.out.size) hab hmt)
  refine hCo.out.mono ?_
  rintro e w4 ⟨⟨v1, v2, K, rfl, ho1, ho2, hk1, hk2, hk3⟩, hb2⟩
  have htx := Lib.hid (tx_meet N I hab p q hmt hk1 hk2 hk3)
  clear hCo hk1 hk2 hk3 hmt c1 c2 hpp hqq h1 h2 hpl1
  have hl1 := Lib.hid (tx_le N I a p hp32.out K)
  have hl2 := Lib.hid (tx_le N I b q hq32.out K)
  generalize txM N I a p K = t1 at ho1 htx hl1
  generalize txM N I b q K = t2 at ho2 htx hl2
  replace hb1 := Lib.hid (hb1.out.trans (hb2.mono hb1.out.size))
  have k1 := blk_at k1.out hb2
  have k2 := blk_at k2.out hb2
  clear hb2
  obtain ⟨x1, y1, rfl, -⟩ := ho1.form
  obtain ⟨x2, y2, rfl, -⟩ := ho2.form
  have eq := fun W => eq_digest d1 d2 l1 l2 W
  have g3 : (d1 == d2) = true := beq_iff_eq.2 hdd
  have g4 : (d1 != d2) = false := by simpa using hdd
  have g5 : (a == b) = false := beq_eq_false_iff_ne.2 hab
  have g6 : (t1 == t2) = false := beq_eq_false_iff_ne.2 htx.out.1
  have g7 : (t1 != t2) = true := by simpa using htx.out.1
  have cv1 := conv_str (c := ca) (hra.out.lift hb1.out hb1.out.size)
  have cv2 := conv_str (c := cb) (hrb.out.lift hb1.out hb1.out.size)
  have cv3 := conv_str ho1.reads.1 (c := y1)
  have cv4 := conv_str ho2.reads.1 (c := y2)
  have hSx := Lib.hid (sum_own ho1 (by have := hl1.out; omega) (by have := hl1.out; omega) (hKH.out.below hb1.out h0) (Nat.lt_of_lt_of_le h0 hb1.out.size))
  replace ho2 := Lib.hid ho2
  clear hdd ho1 hab
  go_wp2_with (first
    | (refine wpList_load_guarded (by rfl) 30 _ (by rfl) w2.heap.size (by rfl) 30 _ (0, 0) _ k1 hu.out rfl (by rw [hi.out, hs1.out]) ?_)
    | (refine wpList_load_guarded (by rfl) 30 _ (by rfl) w3.heap.size (by rfl) 30 _ (0, 0) _ k2 hu.out rfl (by rw [hi.out, hs2.out]) ?_))
  refine hSx.out.mono ?_
  rintro e w5 ⟨rfl, hb5⟩
  clear hSx cv1 cv2 cv3 cv4 k1 k2
  have hSy := sum_own (ho2.out.below hb5) (by have := hl2.out; omega) (by have := hl2.out; omega) (hKH.out.below (hb1.out.trans (hb5.mono hb1.out.size)) h0) (Nat.lt_of_lt_of_le h0 (hb1.out.trans (hb5.mono hb1.out.size)).size)
  rw [← htx.out.2] at hSy
  replace hSy := Lib.hid hSy
  replace hb1 := Lib.hid (hb1.out.trans (hb5.mono hb1.out.size))
  have eqS : ∀ W, (Op.equalIn 10000 30 (.agg (BV (sha t1)).toArray) (.agg (BV (sha t1)).toArray)).run Tryd.prog W = .ok true W := fun W => by
    have h := eq_digest (sha t1) (sha t1) (sha_length _) (sha_length _) W
    rwa [beq_self_eq_true] at h
  clear hb5
  go_wp2_with fail
  refine hSy.out.mono ?_
  rintro e w6 ⟨rfl, hb6⟩
  replace hb1 := Lib.hid (hb1.out.trans (hb6.mono hb1.out.size))
  clear hSy hb6
  go_wp2_with fail
  all_goals
    go_ret
    exact ⟨rfl, hb1.out⟩
end Go.Proofs.YtfdoiamgbdjbjaaDoor
