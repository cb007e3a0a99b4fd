/- collide and Collide, where they show nothing. -/
import Derived.Test.YtgddfdejkmnfkaaDoorMv
import Derived.Stop.BytesEq
namespace Go.Proofs.YtgddfdejkmnfkaaDoor
open Go.RowKit

/-- A row is loaded by an operation that has a guard. -/
theorem wpList_load_guarded {ops : Array Oper} {rest : List Oper} {o : Oper} {a : Act} {w : World} {Q : Exit → Act → World → Prop} {P : Program} (hw : Region.wanted o (yielded ops a.tmps) = true) (ty : TypeId) (x : Operand) (ho : o.op = .load ty x)
    (g : Nat) (hx : a.eval x = .pointer (some ⟨g, 0, none⟩)) (t : TypeId) (cs : Array Value) (fr : Nat × Nat) (d : TypeDesc) (hg : w.heap[g]? = some (.cells cs t fr))
    (hu : P.underlying ty = some d) (hd : (match d with | .struct _ | .array _ _ => true | _ => false) = true) (hi : (P.info? ty).map (·.size) = some cs.size)
    (h : wpList P ops Q rest (a.put o.dst (.agg cs)) w) : wpList P ops Q (o :: rest) a w :=
  wpList_step fun K hK => by
    rw [if_pos hw]
    exact wp_load_row ty x ho g hx t cs fr d hg hu hd hi (hK _ _ h)
/-- Two digests are compared. -/
theorem eq_digest (a b : List UInt8) (ha : a.length = 32) (hb : b.length = 32) (W : World) : (Op.equalIn 10000 30 (.agg (BV a).toArray) (.agg (BV b).toArray)).run Tryd.prog W = .ok (a == b) W :=
  run_equalIn_bytes W 9998 30 5 32 (by kernel_rfl) (by kernel_rfl) (fun w => by kernel_rfl) a b ha hb


set_option maxRecDepth 100000 in
set_option maxHeartbeats 4000000 in
theorem hcollide_no (n i : Int) (a b : List UInt8) (hla : a.length ≤ 800000) (hlb : b.length ≤ 800000) (p q : List (List UInt8)) (w : World) (A B Ap Bq : Option Addr) (ca cb cp cq : Nat) (hra : RBs w w.heap.size A a) (hna : A = none → a = []) (hrb : RBs w w.heap.size B b) (hnb : B = none → b = []) (hRp : RD w w.heap.size p Ap cp) (hRq : RD w w.heap.size q Bq cq) (hK : KT w) (h0 : 0 < w.heap.size)
    (hno : (climbP n i a p).2 ≠ 0 ∨ (climbP n i b q).2 ≠ 0 ∨ (climbP n i a p).1 ≠ (climbP n i b q).1 ∨ a = b) :
    Calls Tryd.prog 35 #[.func (.func 21) #[] #[], .int .i64 n, .int .i64 i, .slice A a.length ca, .slice B b.length cb, .slice Ap p.length cp, .slice Bq q.length cq] w fun e w' => e = .returned (.tuple #[.slice none 0 0, .slice none 0 0, .bool false]) ∧ Below w.heap.size w w' := by
  have hu : Tryd.prog.underlying 30 = some (.array 32 5) := by kernel_rfl
  have hi : (Tryd.prog.info? 30).map (·.size) = some 32 := by kernel_rfl
  obtain ⟨d1, e1, h1⟩ : ∃ d e, climbP n i a p = (d, e) := ⟨_, _, rfl⟩
  obtain ⟨d2, e2, h2⟩ : ∃ d e, climbP n i b q = (d, e) := ⟨_, _, rfl⟩
  have l1 : d1.length = 32 := by have := climbP_len n i a p; rw [h1] at this; exact this
  have l2 : d2.length = 32 := by have := climbP_len n i b q; rw [h2] at this; exact this
  have hsw1 := Lib.hid (DV_size l1)
  have hsw2 := Lib.hid (DV_size l2)
  have hC1 := hclimb_any n i a hla p w A Ap ca cp hra hna hRp hK h0
  rw [h1] at hC1
  replace hC1 := Lib.hid hC1
  have hrbH := Lib.hid hrb
  have hRqH := Lib.hid hRq
  have hraH := Lib.hid hra
  have hKH := Lib.hid hK
  rw [h1, h2] at hno
  replace hno := Lib.hid hno
  clear hra hRp hrb hRq hK h1
  go_enter Tryd.func35, Tryd.ntmps35
  go_wp2_with fail
  refine hC1.out.mono ?_
  rintro e w1 ⟨rfl, hb1⟩
  clear hC1
  go_wp2_with (refine wpList_store_row rfl 30 _ _ rfl w1.heap.size _ rfl rfl 30 _ (heap_alloc_last w1 _) ?cj ?cl ?ck ?_
               case cj => rw [hi, hsw1.out]
               case cl => rw [hsw1.out]; rfl
               case ck => exact BV_all _
               rw [World.setRow_alloc_new])
  have hB1 := hb1.trans ((bel1 w1 (.cells (BV d1).toArray 30)).mono hb1.size)
  have kd1 : DB (w1.alloc (.cells (BV d1).toArray 30)) w1.heap.size 30 d1 := heap_alloc_new w1 _
  have s1 : (w1.alloc (.cells (BV d1).toArray 30)).heap.size = w1.heap.size + 1 := by simp
  generalize w1.alloc (.cells (BV d1).toArray 30) = V1 at hB1 kd1 s1 ⊢
  have hC2 := hclimb_any n i b hlb q V1 B Bq cb cq (hrbH.out.lift hB1 hB1.size) hnb (hRqH.out.under hB1 hB1.size) (hKH.out.below hB1 h0) (Nat.lt_of_lt_of_le h0 hB1.size)
  rw [h2] at hC2
  replace hC2 := Lib.hid hC2
  clear h2 hb1
  refine hC2.out.mono ?_
  rintro e w2 ⟨rfl, hb2⟩
  clear hC2
  go_upto_region 3 with (refine wpList_store_row rfl 30 _ _ rfl w2.heap.size _ rfl rfl 30 _ (heap_alloc_last w2 _) ?cj ?cl ?ck ?_
                         case cj => rw [hi, hsw2.out]
                         case cl => rw [hsw2.out]; rfl
                         case ck => exact BV_all _
                         rw [World.setRow_alloc_new])
  have kd1 := blk_at (blk_at kd1 hb2) (bel1 w2 (.cells (BV d2).toArray 30))
  have hB2 := hB1.trans (hb2.mono hB1.size)
  have hB := Lib.hid (hB2.trans ((bel1 w2 (.cells (BV d2).toArray 30)).mono hB2.size))
  have kd2 := heap_alloc_new w2 (.cells (BV d2).toArray 30)
  generalize w2.alloc (.cells (BV d2).toArray 30) = V2 at hB kd1 kd2 ⊢
  clear hB1 hB2 hb2
  replace hB := Lib.hid hB.out
  by_cases c1 : e1 = 0
  case neg =>
    have g1 : (e1 != 0) = true := by simpa using c1
    clear hno kd1 kd2 c1
    go_wp2_with fail
    go_ret3
    exact ⟨rfl, hB.out⟩
  case pos =>
    subst c1
    by_cases c2 : e2 = 0
    case neg =>
      have g2 : (e2 != 0) = true := by simpa using c2
      clear hno kd1 kd2 c2
      go_wp2_with fail
      go_ret3
      exact ⟨rfl, hB.out⟩
    case pos =>
      subst c2
      have eq := fun W => eq_digest d1 d2 l1 l2 W
      by_cases c3 : d1 = d2
      case neg =>
        have g3 : (d1 == d2) = false := beq_eq_false_iff_ne.2 c3
        have g4 : (d1 != d2) = true := by simpa using c3
        clear hno c3
        go_wp2_with (first
          | (refine wpList_load_guarded (by rfl) 30 _ (by rfl) w1.heap.size (by rfl) 30 _ (0, 0) _ kd1 hu rfl (by rw [hi, hsw1.out]) ?_)
          | (refine wpList_load_guarded (by rfl) 30 _ (by rfl) w2.heap.size (by rfl) 30 _ (0, 0) _ kd2 hu rfl (by rw [hi, hsw2.out]) ?_))
        go_ret3
        exact ⟨rfl, hB.out⟩
      case pos =>
        have g3 : (d1 == d2) = true := beq_iff_eq.2 c3
        have g4 : (d1 != d2) = false := by simpa using c3
        have hab : a = b := by
          rcases hno.out with h | h | h | h
          · exact absurd rfl h
          · exact absurd rfl h
          · exact absurd c3 h
          · exact h
        have hE := bytesEqual_any a b V2 A B ca cb _ _ (hraH.out.lift hB.out hB.out.size) (hrbH.out.lift hB.out hB.out.size)
        rw [beq_iff_eq.2 hab] at hE
        replace hE := Lib.hid hE
        clear hno c3 hab
        go_wp2_with (first
          | (refine wpList_load_guarded (by rfl) 30 _ (by rfl) w1.heap.size (by rfl) 30 _ (0, 0) _ kd1 hu rfl (by rw [hi, hsw1.out]) ?_)
          | (refine wpList_load_guarded (by rfl) 30 _ (by rfl) w2.heap.size (by rfl) 30 _ (0, 0) _ kd2 hu rfl (by rw [hi, hsw2.out]) ?_))
        refine hE.out.mono ?_
        rintro e w3 ⟨rfl, hb3⟩
        have hB := Lib.hid (hB.out.trans (hb3.mono hB.out.size))
        clear hE hb3 kd1 kd2
        go_wp2_with fail
        go_ret3
        exact ⟨rfl, hB.out⟩

theorem Collide_no (n i : Int) (a b : List UInt8) (hla : a.length ≤ 800000) (hlb : b.length ≤ 800000) (p q : List (List UInt8)) (w : World) (A B Ap Bq : Option Addr) (ca cb cp cq : Nat) (hra : RBs w w.heap.size A a) (hna : A = none → a = []) (hrb : RBs w w.heap.size B b) (hnb : B = none → b = []) (hRp : RD w w.heap.size p Ap cp) (hRq : RD w w.heap.size q Bq cq) (hK : KT w) (h0 : 0 < w.heap.size)
    (hno : (climbP n i a p).2 ≠ 0 ∨ (climbP n i b q).2 ≠ 0 ∨ (climbP n i a p).1 ≠ (climbP n i b q).1 ∨ a = b) :
    Calls Tryd.prog 19 #[.int .i64 n, .int .i64 i, .slice A a.length ca, .slice B b.length cb, .slice Ap p.length cp, .slice Bq q.length cq] w fun e w' => e = .returned (.tuple #[.slice none 0 0, .slice none 0 0, .bool false]) ∧ Below w.heap.size w w' := by
  have hC := Lib.hid (hcollide_no n i a b hla hlb p q w A B Ap Bq ca cb cp cq hra hna hrb hnb hRp hRq hK h0 hno)
  clear hra hrb hRp hRq hK hno
  go_enter Tryd.func19, Tryd.ntmps19
  go_wp2_with fail
  refine hC.out.mono ?_
  rintro e w2 ⟨rfl, hb2⟩
  replace hb2 := Lib.hid hb2
  go_wp2_with fail
  go_ret3
  exact ⟨rfl, hb2.out⟩
end Go.Proofs.YtgddfdejkmnfkaaDoor
