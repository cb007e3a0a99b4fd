/- One block is added to the state: absorb. -/
import Derived.Test.YtalphobaohffnaaDoorSc
namespace Go.Proofs.YtalphobaohffnaaDoor
open Go.RowKit

/-- The table of the rounds, a variable of the package. -/
def KT (w : World) : Prop := ∀ j, j < 64 → w.cell? ⟨0, j, none⟩ = some (.int .u32 (U (Ktab.getD j 0)))
theorem KT.below {w w' : World} {B : Nat} (h : KT w) (hb : Below B w w') (hB : 0 < B) : KT w' := fun j hj => (hb.cell (p := ⟨0, j, none⟩) hB).trans (h j hj)
/-- All but block R, and what is new, is as it was. -/
def Upd (w w' : World) (R : Nat) : Prop := w.grownBy w' (some R)

theorem U_not (e : UInt32) : bits .xor .u32 (if IntKind.u32.signed = true then -1 else IntKind.u32.max) (U e) = U (~~~e) := by
  have h : (if IntKind.u32.signed = true then -1 else IntKind.u32.max) = U 4294967295 := rfl
  rw [h, U_xor, show (4294967295 : UInt32) = -1 from rfl, UInt32.neg_one_xor]
theorem U_add2 (a b : UInt32) : (U a + U b) % 4294967296 = U (a + b) := by rw [← IntKind.wrap_u32', U_add]
theorem sum5 (a b c d e : UInt32) : ((U a + U b + U c + U d) % 4294967296 + U e) % 4294967296 = U (a + b + c + d + e) := by
  unfold U
  simp only [UInt32.toNat_add]
  omega

def S8.agg (st : S8) : Value := .agg #[.int .u32 (U st.a), .int .u32 (U st.b), .int .u32 (U st.c), .int .u32 (U st.d), .int .u32 (U st.e), .int .u32 (U st.f), .int .u32 (U st.g), .int .u32 (U st.h)]
theorem index8 (st : S8) : ∀ j, j < 8 → ∀ w, (Instr.index 42 (.agg #[.int .u32 (U st.a), .int .u32 (U st.b), .int .u32 (U st.c), .int .u32 (U st.d), .int .u32 (U st.e), .int .u32 (U st.f), .int .u32 (U st.g), .int .u32 (U st.h)]) (.int .i64 ((j : Nat) : Int))).run Tryd.prog w = .ok (.int .u32 (U (st.list.getD j 0))) w
  | 0, _ => fun _ => by kernel_rfl
  | 1, _ => fun _ => by kernel_rfl
  | 2, _ => fun _ => by kernel_rfl
  | 3, _ => fun _ => by kernel_rfl
  | 4, _ => fun _ => by kernel_rfl
  | 5, _ => fun _ => by kernel_rfl
  | 6, _ => fun _ => by kernel_rfl
  | 7, _ => fun _ => by kernel_rfl
theorem upd_of {w w' : World} (h : Below w.heap.size w w') (R : Nat) : Upd w w' R := ⟨h.os, h.tape, h.output, h.size, fun k hk _ => h.block k hk⟩
theorem Upd.put {w w' : World} {R i : Nat} (h : Upd w w' R) (v : Value) : Upd w (w'.setCell ⟨R, i, none⟩ v).drew R :=
  ⟨h.os, h.tape, h.output, by show _ ≤ (w'.setCell ⟨R, i, none⟩ v).heap.size; rw [World.size_setCell]; exact h.size, fun k hk hne => by
    show (w'.setCell ⟨R, i, none⟩ v).heap[k]? = _
    rw [heap_setCell_other _ _ _ _ (fun e => hne (by rw [e]))]; exact h.block k hk hne⟩

set_option maxRecDepth 100000 in
set_option maxHeartbeats 4000000 in
theorem absorb_any (bs : List UInt8) (hl : bs.length = 64) (ss : List UInt32) (hs : ss.length = 8) (w : World) (S : Nat) (hS : 0 < S) (A : Option Addr) (c : Nat) (hr : RBs w w.heap.size A bs) (hw : WB w S 43 ss) (hK : KT w) :
    Calls Tryd.prog 28 #[.pointer (some ⟨S, 0, none⟩), .slice A 64 c] w fun e w' => (∃ v, e = .returned v) ∧ WB w' S 43 (blockSt bs ss) ∧ Upd w w' S := by
  have hwH := Lib.hid hw
  have hKH := Lib.hid hK
  clear hw hK
  go_enter Tryd.func28, Tryd.ntmps28
  go_wp2_with fail
  refine (schedule_any bs hl _ A c hr).mono ?_
  rintro e w1 ⟨rfl, hb1⟩
  have hi : (Tryd.prog.info? 58).map (·.size) = some 64 := by kernel_rfl
  have hsz : (WV (sch bs 48)).toArray.size = 64 := by rw [List.size_toArray, WV_length, sch_length]
  have hsz' := Lib.hid hsz
  clear hsz
  go_wp2_with (refine wpList_store_row rfl 58 _ _ rfl w1.heap.size _ rfl rfl 58 _ (heap_alloc_last w1 _) ?cj ?cl ?ck ?_
               case cj => rw [hi, hsz'.out]
               case cl => rw [hsz'.out]; rfl
               case ck => exact WV_one _)
  rw [World.setRow_alloc_new]
  have hlt := hwH.out.lt
  have hw2 : WB (w1.alloc (.cells (WV (sch bs 48)).toArray 58)) w1.heap.size 58 (sch bs 48) := heap_alloc_last _ _
  have hb2 : Below w.heap.size w (w1.alloc (.cells (WV (sch bs 48)).toArray 58)) := hb1.alloc hb1.size _
  have hz1 : w.heap.size ≤ w1.heap.size := hb1.size
  generalize w1.alloc (.cells (WV (sch bs 48)).toArray 58) = w2 at hw2 hb2 ⊢
  generalize w1.heap.size = g at hw2 hz1 ⊢
  have hwS : WB w2 S 43 ss := hwH.out.below hb2 hlt
  have hK2 : KT w2 := hKH.out.below hb2 (by omega)
  have hlen := sch_length bs 48
  have hlen' := Lib.hid hlen
  have hs' := Lib.hid hs
  have s0 := hwS.cell (i := 0) (by omega)
  have s1 := hwS.cell (i := 1) (by omega)
  have s2 := hwS.cell (i := 2) (by omega)
  have s3 := hwS.cell (i := 3) (by omega)
  have s4 := hwS.cell (i := 4) (by omega)
  have s5 := hwS.cell (i := 5) (by omega)
  have s6 := hwS.cell (i := 6) (by omega)
  have s7 := hwS.cell (i := 7) (by omega)
  have hwSH := Lib.hid hwS
  have hw2H := Lib.hid hw2
  have hK2H := Lib.hid hK2
  have hb2H := Lib.hid hb2
  clear hwS hw2 hK2 hb2 hlen hs hl hsz' hi hb1
  go_wp2_with fail
  go_quiet (fail)
  clear s0 s1 s2 s3 s4 s5 s6 s7
  go_wp2_with fail
  go_loopw [5, 6, 7, 8, 9, 10, 11, 12, 13, 14, 15, 52] (fun a b c d e f g' h _ _ _ i wr => ∃ t : Nat, t ≤ 64 ∧ i = .int .i64 t ∧ ∃ st, st = rnds (sch bs 48) t (S8.of ss) ∧ a = .int .u32 (U st.a) ∧ b = .int .u32 (U st.b) ∧ c = .int .u32 (U st.c) ∧ d = .int .u32 (U st.d) ∧
      e = .int .u32 (U st.e) ∧ f = .int .u32 (U st.f) ∧ g' = .int .u32 (U st.g) ∧ h = .int .u32 (U st.h) ∧ Sm w2 wr) (fun _ _ _ _ _ _ _ _ _ _ _ i _ => 64 - (intOf i).toNat)
  case atStart => exact ⟨0, by omega, rfl, _, rfl, rfl, rfl, rfl, rfl, rfl, rfl, rfl, rfl, Sm.refl _⟩
  case round =>
    obtain ⟨t, ht, rfl, st, hst, rfl, rfl, rfl, rfl, rfl, rfl, rfl, rfl, hsm⟩ := hrel
    have hst' := Lib.hid hst
    clear hst
    by_cases hlt : t < 64
    · have ck := (hsm.cell ⟨0, t, none⟩).trans (hK2H.out t hlt)
      have cw := (hsm.wb hw2H.out).cell (i := t) (by have := hlen'.out; omega)
      have hr : rnds (sch bs 48) (t + 1) (S8.of ss) = rnd (Ktab.getD t 0) ((sch bs 48).getD t 0) st := by rw [rnds, hst'.out]
      generalize Ktab.getD t 0 = k at *
      generalize (sch bs 48).getD t 0 = x at *
      have hr' := Lib.hid hr
      have i0 : (0 : Int) ≤ t := by omega
      have i1 : (t : Int) < 64 := by omega
      clear hr
      go_wp2_with fail
      go_quiet ((go_at_call 38; exact Calls.quiet_of_same (ror_q _ _ (by omega) (by omega) _)))
      clear i0 i1 ck cw
      simp only [U_not, U_xor, U_and, sum5]
      have hp : st.h + (rotr st.e 6 ^^^ rotr st.e 11 ^^^ rotr st.e 25) + ((st.e &&& st.f) ^^^ (~~~st.e &&& st.g)) + k + x = pp st k x := rfl
      have hr2 : rnds (sch bs 48) (t + 1) (S8.of ss) = st.next (pp st k x) (qq st) := hr'.out
      rw [hp]
      generalize pp st k x = p at hr2 ⊢
      have hr2' := Lib.hid hr2
      have hsm2 := hsm.drewN nq
      generalize wr.drewN nq = w4 at hsm2 ⊢
      clear hp hr2 hr' hsm
      go_wp2_with (go_at_call 38; refine (ror_q _ _ (by omega) (by omega) _).mono ?_; rintro e w' ⟨rfl, rfl⟩)
      go_roundw
      case rel =>
        exact ⟨t + 1, by omega, by go_num, st.next p (qq st), hr2'.out.symm, by simp only [U_xor, U_and, U_add2]; rfl, rfl, rfl, rfl, by simp only [U_add2]; rfl, rfl, rfl, rfl, hsm2⟩
      case measure => simp [intOf]; omega
    · obtain rfl : t = 64 := by omega
      have hd : decide (((64 : Nat) : Int) < 64) = false := by simp
      have hwS : WB wr S 43 ss := hsm.wb hwSH.out
      have hupd : Upd w wr S := upd_of (hsm.below hb2H.out) S
      rw [show (((64 : Nat)) : Int) = 64 from rfl]
      clear hsm hlt ht
      obtain ⟨wo, rfl⟩ : ∃ wo : World, wo = wr := ⟨_, rfl⟩
      go_wp2_with fail
      clear hd
      go_loopw [16, 17, 124] (fun _ _ i wr => ∃ j : Nat, j ≤ 8 ∧ i = .int .i64 j ∧ WB wr S 43 (addTo ss st.list j) ∧ Upd w wr S) (fun _ _ i _ => 8 - (intOf i).toNat)
      case atStart => exact ⟨0, by omega, rfl, hwS, hupd⟩
      case round =>
        obtain ⟨j, hj, rfl, hwS, hupd⟩ := hrel
        by_cases hlt : j < 8
        · have hal := addTo_length ss st.list j
          have cs := hwS.cell (i := j) (by have := hs'.out; omega)
          have cf := hwS.frozen j
          have hix := index8 st j hlt
          have hst1 : WB (wr.setCell ⟨S, j, none⟩ (.int .u32 (U ((addTo ss st.list j).getD j 0 + st.list.getD j 0)))).drew S 43 (addTo ss st.list (j + 1)) := hwS.set _
          have hup1 := fun v => Upd.put (i := j) hupd v
          generalize (addTo ss st.list j).getD j 0 = y at *
          generalize st.list.getD j 0 = x at *
          have hst1' := Lib.hid hst1
          have hup1' := Lib.hid hup1
          have i0 : (0 : Int) ≤ j := by omega
          have i1 : (j : Int) < 8 := by omega
          clear hst1 hup1 hal hwS hupd
          go_wp2_with fail
          go_still_tail 9, (by kernel_rfl)
          change wpList _ _ _ _ _ wr.drew
          simp only [U_add]
          go_wp2_with fail
          go_roundw
          case rel => exact ⟨j + 1, by omega, by go_num, hst1'.out, hup1'.out _⟩
          case measure => simp [intOf]; omega
        · obtain rfl : j = 8 := by omega
          go_wp2_with fail
          go_end0
          refine ⟨⟨_, rfl⟩, ?_, hupd⟩
          rw [blockSt, ← hst'.out]
          exact hwS
end Go.Proofs.YtalphobaohffnaaDoor
