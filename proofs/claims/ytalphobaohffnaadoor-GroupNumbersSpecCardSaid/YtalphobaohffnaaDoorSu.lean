/- SHA-256: Sum. -/
import Derived.Laws.EntriesVeiled
import Derived.Test.YtalphobaohffnaaDoorCk
namespace Go.Proofs.YtalphobaohffnaaDoor
open Go.RowKit Go.Shelf
attribute [local go_sem] Oper.semAt_some

def chunk (bs : List UInt8) (k : Nat) : List UInt8 := (bs.drop (64 * k)).take 64
def absAll (bs : List UInt8) : Nat → List UInt32 → List UInt32
  | 0, ss => ss
  | k + 1, ss => blockSt (chunk bs k) (absAll bs k ss)
/-- The hash. -/
def sha (bs : List UInt8) : List UInt8 :=
  obs (absAll (padK (bs.drop (64 * (bs.length / 64))) bs.length 8) (padSize (bs.length % 64) / 64) (absAll bs (bs.length / 64) S0)) 32
theorem chunk_length (bs : List UInt8) (k : Nat) (h : 64 * k + 64 ≤ bs.length) : (chunk bs k).length = 64 := by
  unfold chunk; rw [List.length_take, List.length_drop]; omega
theorem absAll_length (bs : List UInt8) (k : Nat) (ss : List UInt32) : (absAll bs k ss).length = ss.length := by
  induction k with
  | zero => rfl
  | succ k ih => rw [absAll, blockSt_length, ih]
theorem sha_length (bs : List UInt8) : (sha bs).length = 32 := obs_length _ _ (Nat.le_refl _)
theorem RBs.chunk {w : World} {B : Nat} {A : Option Addr} {bs : List UInt8} (h : RBs w B A bs) (k : Nat) (hk : 64 * k + 64 ≤ bs.length) : ∃ b off, A = some ⟨b, off, none⟩ ∧ RBs w B (some ⟨b, off + 64 * k, none⟩) (chunk bs k) := by
  obtain ⟨b, off, e, hb, hc⟩ := h (by omega)
  refine ⟨b, off, e, fun _ => ⟨b, off + 64 * k, rfl, hb, fun j hj => ?_⟩⟩
  have hj' : j < 64 := by rw [chunk_length bs k hk] at hj; exact hj
  rw [Nat.add_assoc, hc (64 * k + j) (by omega)]
  simp [Go.Proofs.YtalphobaohffnaaDoor.chunk]

/-- What Sum keeps between two blocks. -/
structure SumQ (w : World) (D S C : Nat) (ss : List UInt32) (W : World) : Prop where
  st : WB W S 43 ss
  cl : W.heap[C]? = some (.cells #[.func (.func 28) #[.pointer (some ⟨S, 0, none⟩)] #[]] 45 (0, 0))
  db : DB W D 30 (List.replicate 32 0)
  be : Below w.heap.size w W
theorem SumQ.drewN {w : World} {D S C : Nat} {ss : List UInt32} {W : World} (h : SumQ w D S C ss W) (n : Nat) : SumQ w D S C ss (W.drewN n) := ⟨h.st, h.cl, h.db, dN h.be n⟩
theorem SumQ.cell {w : World} {D S C : Nat} {ss : List UInt32} {W : World} (h : SumQ w D S C ss W) : W.cell? ⟨C, 0, none⟩ = some (.func (.func 28) #[.pointer (some ⟨S, 0, none⟩)] #[]) := by
  rw [cell_of_row W C 0 _ _ _ h.cl]; rfl
theorem SumQ.upd {w : World} {D S C : Nat} {ss ss' : List UInt32} {W W' : World} (h : SumQ w D S C ss W) (hu : Upd W W' S) (hw : WB W' S 43 ss') (hS : w.heap.size ≤ S) (hDS : D < S) (hSC : S < C) : SumQ w D S C ss' W' := by
  refine ⟨hw, ?_, ?_, h.be.grown hu h.be.size fun k e => by injection e with e; omega⟩
  · rw [hu.block C (Array.getElem?_eq_some_iff.1 h.cl).1 (by intro e; injection e with e; omega)]; exact h.cl
  · unfold DB; rw [hu.block D h.db.lt (by intro e; injection e with e; omega)]; exact h.db
theorem SumQ.grow {w : World} {D S C B : Nat} {ss : List UInt32} {W W' : World} {row : Option Nat} (h : SumQ w D S C ss W) (hg : W.grownBy W' row) (hr : ∀ r, row = some r → B ≤ r) (hw : w.heap.size ≤ B) (hD : D < B) (hS : S < B) (hC : C < B) : SumQ w D S C ss W' := by
  have far : ∀ k o, W.heap[k]? = some o → k < B → W'.heap[k]? = some o := fun k o hk hlt => by
    rw [hg.block k (Array.getElem?_eq_some_iff.1 hk).1 (fun e => by have := hr k e.symm; omega)]; exact hk
  exact ⟨far S _ h.st hS, far C _ h.cl hC, far D _ h.db hD, h.be.grown hg h.be.size fun k e => Nat.le_trans hw (hr k e)⟩
theorem PB.grow {g B : Nat} {bs : List UInt8} {W W' : World} {row : Option Nat} (h : PB W g bs) (hg : W.grownBy W' row) (hr : ∀ r, row = some r → B ≤ r) (hB : g < B) : PB W' g bs := by
  obtain ⟨cur, hh, r⟩ := h
  refine ⟨cur, ?_, r⟩
  rw [hg.block g (Array.getElem?_eq_some_iff.1 hh).1 (fun e => by have := hr g e.symm; omega)]; exact hh
theorem PB.lt {w : World} {g : Nat} {bs : List UInt8} (h : PB w g bs) : g < w.heap.size := by
  obtain ⟨cur, hh, -⟩ := h
  exact (Array.getElem?_eq_some_iff.1 hh).1
theorem PB.below {w w' : World} {g B : Nat} {bs : List UInt8} (h : PB w g bs) (hb : Below B w w') (hg : g < B) : PB w' g bs := by
  obtain ⟨cur, hh, r⟩ := h
  exact ⟨cur, by rw [hb.block g hg]; exact hh, r⟩
/-- The blocks with the indices xs, one after the other. -/
def foldB (p : List UInt8) (xs : List Nat) (ss : List UInt32) : List UInt32 := xs.foldl (fun ss x => blockSt (chunk p x) ss) ss
theorem foldB_snoc (p : List UInt8) (xs : List Nat) (x : Nat) (ss : List UInt32) : foldB p (xs ++ [x]) ss = blockSt (chunk p x) (foldB p xs ss) := by simp [foldB]
theorem foldB_range (p : List UInt8) (n : Nat) (ss : List UInt32) : foldB p (List.range n) ss = absAll p n ss := by
  induction n with
  | zero => rfl
  | succ n ih => rw [List.range_succ, foldB_snoc, ih, absAll]
theorem foldB_length (p : List UInt8) (xs : List Nat) (ss : List UInt32) : (foldB p xs ss).length = ss.length := by
  induction xs generalizing ss with
  | nil => rfl
  | cons x r ih => show (foldB p r (blockSt (chunk p x) ss)).length = _; rw [ih, blockSt_length]
theorem KpB.of_upd {Bs Bn S : Nat} {W W' : World} (hu : Upd W W' S) (h1 : Bs < W.heap.size) (h2 : Bn < W.heap.size) (n1 : Bs ≠ S) (n2 : Bn ≠ S) : KpB Bs Bn W W' :=
  ⟨World.grownBy.cell_far hu ⟨Bs, 0, none⟩ h1 (by intro e; injection e with e; exact n1 e), World.grownBy.cell_far hu ⟨Bn, 0, none⟩ h2 (by intro e; injection e with e; exact n2 e)⟩
theorem KpB.put {Bs Bn l : Nat} {W : World} {o : Obj} (h1 : Bs ≠ l) (h2 : Bn ≠ l) : KpB Bs Bn W (W.putObj l o) :=
  ⟨by unfold World.cell?; rw [World.putObj_heap_other h1], by unfold World.cell?; rw [World.putObj_heap_other h2]⟩

theorem grownBy_setRow (w : World) (g : Nat) (cs : Array Value) : w.grownBy (w.setRow g cs) (some g) := ⟨rfl, rfl, rfl, by simp, fun k _ hk => setRow_other w g k _ (fun e => hk (by rw [e]))⟩

theorem slice_lh (b off len c k : Nat) (h : 64 * k + 64 ≤ c) (W : World) : (Instr.slice 22 (.slice (some ⟨b, off, none⟩) len c) (some (.int .i64 (64 * (k : Int)))) (some (.int .i64 (64 * (k : Int) + 64))) none).run Tryd.prog W = .ok (.slice (some ⟨b, off + 64 * k, none⟩) 64 (c - 64 * k)) W := by
  have ht : Tryd.prog.underlying 22 = some (.slice (Tryd.prog.elem 22)) := by kernel_rfl
  have he : Tryd.prog.elem 22 = 5 := by kernel_rfl
  rw [run_slice_lh W _ _ _ _ ht .i64 .i64 _ _ (by omega) (by omega) (by omega), he, Tryd.size8]
  have e1 : (64 * (k : Int)).toNat = 64 * k := by omega
  have e2 : (64 * (k : Int) + 64).toNat = 64 * k + 64 := by omega
  simp only [Result.andThen, sliced, e1, e2]
  rw [if_neg (by omega)]
  simp only [Option.map_some, Nat.mul_one, add_none]
  congr 2
  omega
/-- 'b[m:]'. -/
theorem slice_from (W : World) (B : Nat) (A : Option Addr) (bs : List UInt8) (c m : Nat) (hm : m ≤ bs.length) (hc : bs.length ≤ c) (hA : A = none → bs = []) (hr : RBs W B A bs) : ∃ A', (∀ w', (Instr.slice 22 (.slice A bs.length c) (some (.int .i64 (m : Int))) none none).run Tryd.prog w' = .ok (.slice A' (bs.length - m) (c - m)) w') ∧ (A' = none → bs.drop m = []) ∧ RBs W B A' (bs.drop m) := by
  have ht : Tryd.prog.underlying 22 = some (.slice (Tryd.prog.elem 22)) := by kernel_rfl
  have he : Tryd.prog.elem 22 = 5 := by kernel_rfl
  refine ⟨if c = m then A else A.map (·.add m), fun w' => ?_, fun h => ?_, fun hp => ?_⟩
  · rw [run_slice_l w' _ _ _ _ ht .i64 _ (by omega) (by omega), he, Tryd.size8]
    simp [Result.andThen, sliced]
  · have : A = none := by
      split at h
      · exact h
      · simpa using h
    rw [hA this, List.drop_nil]
  · rw [List.length_drop] at hp
    obtain ⟨b, off, rfl, hb, hcc⟩ := hr (by omega)
    split
    · omega
    · refine ⟨b, off + m, by simp [add_none], hb, fun j hj => ?_⟩
      rw [List.length_drop] at hj
      rw [Nat.add_assoc, hcc (m + j) (by omega), List.getElem_drop]

set_option maxRecDepth 100000 in
set_option maxHeartbeats 4000000 in
theorem Sum_any (bs : List UInt8) (hl : bs.length ≤ 1000000) (w : World) (A : Option Addr) (c : Nat) (hr : RBs w w.heap.size A bs) (hA : A = none → bs = []) (hc : bs.length ≤ c) (hK : KT w) (h0 : 0 < w.heap.size) :
    Calls Tryd.prog 19 #[.slice A bs.length c] w fun e w' => e = .returned (.agg (BV (sha bs)).toArray) ∧ Below w.heap.size w w' := by
  have hrH := Lib.hid hr
  have hKH := Lib.hid hK
  clear hr hK
  refine (callsIn_wide (n := 9)).1 ?_
  refine callsIn_of_wp_marks Tryd.func19 rfl trivial ?_ rfl
  refine wpIn_wide.2 ?_
  simp only [Tryd.ntmps19, List.size_toArray, List.length_cons, List.length_nil, Nat.reduceAdd, Nat.reduceSub, Array.replicate_succ, Array.replicate_zero, List.push_toArray, List.append_toArray, List.nil_append, List.cons_append]
  go_wp2_with fail
  refine (start_any _).mono ?_
  rintro e w1 ⟨rfl, hb1⟩
  have hi : (Tryd.prog.info? 43).map (·.size) = some 8 := by kernel_rfl
  have hB1 : Below w.heap.size w w1 := ((Below.refl _ _).alloc (Nat.le_refl _) _).trans (hb1.mono (by simp))
  go_wp2_with (refine wpList_store_row rfl 43 _ _ rfl w1.heap.size _ rfl rfl 43 _ (heap_alloc_last w1 _) ?cj rfl ?ck ?_
               case cj => exact hi
               case ck => exact WV_one _
               rw [World.setRow_alloc_new])
  have hS : w.heap.size < w1.heap.size := by have := hb1.size; simp at this; omega
  have hQ : SumQ w w.heap.size w1.heap.size (w1.heap.size + 1) S0 ((w1.alloc (.cells (WV S0).toArray 43)).alloc (.cells #[.func (.func 28) #[.pointer (some ⟨w1.heap.size, 0, none⟩)] #[]] 45)) := by
    have h2 := (Below.refl w1.heap.size w1).alloc (Nat.le_refl _) (.cells (WV S0).toArray 43)
    have h3 := h2.alloc (by simp) (.cells #[.func (.func 28) #[.pointer (some ⟨w1.heap.size, 0, none⟩)] #[]] 45)
    refine ⟨?_, ?_, ?_, hB1.trans (h3.mono hB1.size)⟩
    · unfold WB
      rw [heap_alloc_old _ _ _ (by simp)]
      exact heap_alloc_new w1 _
    · have := heap_alloc_new (w1.alloc (.cells (WV S0).toArray 43)) (.cells #[.func (.func 28) #[.pointer (some ⟨w1.heap.size, 0, none⟩)] #[]] 45)
      rwa [World.size_alloc] at this
    · have h4 := (hb1.block w.heap.size (by simp)).trans (heap_alloc_new w _)
      unfold DB
      rw [h3.block _ hS]
      exact h4
  generalize ((w1.alloc (.cells (WV S0).toArray 43)).alloc (.cells #[.func (.func 28) #[.pointer (some ⟨w1.heap.size, 0, none⟩)] #[]] 45)) = w3 at hQ ⊢
  generalize w1.heap.size = S at hQ hS ⊢
  obtain ⟨m, hmd⟩ : ∃ m, m = bs.length / 64 := ⟨_, rfl⟩
  have hm : (bs.length : Int) - bs.length % 64 = 64 * (m : Int) := by omega
  rw [hm]
  have hm2 : 64 * m ≤ bs.length := by omega
  have hm3 : bs.length < 64 * m + 64 := by omega
  have hmd' := Lib.hid hmd
  clear hm hb1 hi hB1 hmd
  go_loopw [6] (fun i wr => ∃ k : Nat, k ≤ m ∧ i = .int .i64 (64 * (k : Int)) ∧ SumQ w w.heap.size S (S + 1) (absAll bs k S0) wr) (fun i _ => bs.length - (intOf i).toNat)
  case atStart => exact ⟨0, Nat.zero_le _, rfl, hQ⟩
  case round =>
    obtain ⟨k, hk, rfl, hQ⟩ := hrel
    by_cases hlt : k < m
    · obtain ⟨b, off, rfl, hrk⟩ := (hrH.out.below hQ.be).chunk k (by omega)
      have hsl := slice_lh b off bs.length c k (by omega)
      have hcl := hQ.cell
      have g1 : IntKind.i64.wrap (64 * (k : Int) + 64) = 64 * k + 64 := IntWalk.i64_in _ (by omega)
      have hd : decide (64 * (k : Int) < 64 * m) = true := by simp; omega
      have hQH := Lib.hid hQ
      have hrkH := Lib.hid hrk
      clear hQ hrk
      go_wp2_with fail
      go_still_tail 6, (by kernel_rfl)
      change wpList _ _ _ _ _ wr.drew
      go_wp2_with fail
      clear g1 hd hsl hcl
      have hQd := hQH.out.drewN 1
      refine (absorb_any (chunk bs k) (chunk_length bs k (by omega)) (absAll bs k S0) (absAll_length bs k S0) wr.drew S (by omega) _ _ hrkH.out hQd.st (hKH.out.below hQd.be h0)).mono ?_
      rintro e w5 ⟨⟨v5, rfl⟩, hw5, hu5⟩
      have hQ5 := hQd.upd hu5 hw5 (by omega) hS (Nat.lt_succ_self S)
      have hQ5' := Lib.hid hQ5
      clear hQd hw5 hu5 hQ5
      go_wp2_with fail
      go_roundw
      case rel => exact ⟨k + 1, by omega, congrArg (Value.int .i64) (by omega), hQ5'.out⟩
      case measure => simp [intOf]; omega
    · obtain rfl : k = m := by omega
      have hrd := hrH.out.below hQ.be
      obtain ⟨A', hsl, hA', hr'⟩ := slice_from wr wr.heap.size A bs c (64 * k) (by omega) hc hA hrd
      rw [show ((64 * k : Nat) : Int) = 64 * (k : Int) by omega] at hsl
      have hdl : (bs.drop (64 * k)).length = bs.length - 64 * k := List.length_drop
      have hp := padded_any (bs.drop (64 * k)) (by omega) bs.length (by omega) wr A' (c - 64 * k) hr' hA'
      rw [hdl] at hp
      have hp' := Lib.hid hp
      have hQ' := Lib.hid hQ
      have hd : decide (64 * (k : Int) < 64 * k) = false := by simp
      clear hp hQ hrd hr' hA' hdl hlt hk
      go_wp2_with fail
      refine hp'.out.mono ?_
      rintro e w5 ⟨g, cp, rfl, hcp, hg, hpb, hb5⟩
      go_wp2_with fail
      refine (callsIn_wide.1 (chunk_in Fence.wide 9 trivial rfl _ _ _ _)).mono ?_
      rintro e w6 ⟨rfl, rfl⟩
      have hQ5 := hQ'.out.be.trans (hb5.mono hQ'.out.be.size)
      have hQ5 : SumQ w w.heap.size S (S + 1) (absAll bs k S0) w5 := by
        have h := hQ'.out
        have l1 := (Array.getElem?_eq_some_iff.1 h.cl).1
        exact ⟨h.st.below hb5 h.st.lt, (hb5.block _ l1).trans h.cl, h.db.below hb5 h.db.lt, hQ5⟩
      have hz5 : S + 1 < w5.heap.size := (Array.getElem?_eq_some_iff.1 hQ5.cl).1
      have hgl := hpb.lt
      have hSg : S + 1 < g := by have := (Array.getElem?_eq_some_iff.1 hQ'.out.cl).1; omega
      have hb6 : Below w5.heap.size w5 ((w5.alloc (.cells #[.slice (some ⟨g, 0, none⟩) (padSize (bs.length - 64 * k)) cp] 22)).alloc (.cells #[.int .i64 64] 3)) := ((Below.refl _ _).alloc (Nat.le_refl _) _).alloc (by simp) _
      have hQ6 := hQ5.grow (B := w5.heap.size) (row := none) ⟨hb6.os, hb6.tape, hb6.output, hb6.size, fun i hi _ => hb6.block i hi⟩ (fun r e => by cases e) hQ5.be.size (by omega) (by omega) (by omega)
      have hpb6 := hpb.below hb6 hgl
      have c0 : ((w5.alloc (.cells #[.slice (some ⟨g, 0, none⟩) (padSize (bs.length - 64 * k)) cp] 22)).alloc (.cells #[.int .i64 64] 3)).cell? ⟨w5.heap.size, 0, none⟩ = some (.slice (some ⟨g, 0, none⟩) (padSize (bs.length - 64 * k)) cp) := by
        rw [World.cell?_alloc_lt _ _ _ (by simp)]; simp
      have c1 : ((w5.alloc (.cells #[.slice (some ⟨g, 0, none⟩) (padSize (bs.length - 64 * k)) cp] 22)).alloc (.cells #[.int .i64 64] 3)).cell? ⟨w5.heap.size + 1, 0, none⟩ = some (.int .i64 64) := by
        have := heap_alloc_new (w5.alloc (.cells #[.slice (some ⟨g, 0, none⟩) (padSize (bs.length - 64 * k)) cp] 22)) (.cells #[.int .i64 64] 3)
        rw [World.size_alloc] at this
        rw [cell_of_row _ _ 0 _ _ _ this]; rfl
      have hsz6 : ((w5.alloc (.cells #[.slice (some ⟨g, 0, none⟩) (padSize (bs.length - 64 * k)) cp] 22)).alloc (.cells #[.int .i64 64] 3)).heap.size = w5.heap.size + 2 := by simp
      go_wp2_with fail
      clear hb6 hQ5 hpb hb5 hQ'
      generalize ((w5.alloc (.cells #[.slice (some ⟨g, 0, none⟩) (padSize (bs.length - 64 * k)) cp] 22)).alloc (.cells #[.int .i64 64] 3)) = w6 at hQ6 hpb6 c0 c1 hsz6 ⊢
      generalize w5.heap.size = Bs at hz5 hgl c0 c1 hsz6 ⊢
      obtain ⟨R, hR, hR0⟩ : ∃ R, padSize (bs.length - 64 * k) = 64 * R ∧ R ≤ 2 := by unfold padSize; split; exact ⟨2, rfl, by omega⟩; exact ⟨1, rfl, by omega⟩
      have hpl : (padK (bs.drop (64 * k)) bs.length 8).length = 64 * R := by rw [padK_length _ _ _ (by rw [List.length_drop]; omega), List.length_drop, hR]
      rw [hR] at c0
      have hR' := Lib.hid hR
      have hcp' : 64 * R ≤ cp := by omega
      clear hR hcp
      refine (wpIn_wide (n := 9)).1 ?_
      refine wpIn_rangeFunc_ownG (n := 9) rfl (by omega) (gf := 39) (lb := #[.pointer (some ⟨Bs, 0, none⟩), .pointer (some ⟨Bs + 1, 0, none⟩)]) rfl trivial (enters_of Tryd.func39 (by kernel_rfl) rfl)
        (chunk_stops Fence.wide 8 trivial rfl (by omega) Bs (Bs + 1) g R (64 * R) cp rfl (by omega) hcp' w6 (by omega) (by omega) c0 c1) (fun h1 h2 => ⟨h2.1.trans h1.1, h2.2.trans h1.2⟩) (fun W l o o' hl _ _ _ => KpB.put (by omega) (by omega)) (Below.refl _ _) (fun _ => rfl)
        (fun pre W => SumQ w w.heap.size S (S + 1) (foldB (padK (bs.drop (64 * k)) bs.length 8) (pre.map (·.val)) (absAll bs k S0)) W ∧ PB W g (padK (bs.drop (64 * k)) bs.length 8) ∧ Bs + 1 < W.heap.size)
        (fun _ _ _ => False)
        (fun s W W' row hs hg hr => ⟨hs.1.grow (B := w6.heap.size) hg (fun r e => (hr r e).1) hQ6.be.size (by omega) (by omega) (by omega), hs.2.1.grow (B := w6.heap.size) hg (fun r e => (hr r e).1) (by omega), Nat.lt_of_lt_of_le hs.2.2 hg.size⟩)
        (fun _ _ _ _ _ hs _ _ => hs)
        ⟨hQ6, hpb6, by omega⟩
        (fun x => { tmps := #[.slice A bs.length c, undef, .pointer (some ⟨w.heap.size, 0, none⟩), .pointer (some ⟨S, 0, none⟩), .pointer (some ⟨S + 1, 0, none⟩), .int .i64 (64 * (k : Int)), .int .i64 (64 * (k : Int)), .slice (some ⟨g, 64 * x.val, none⟩) 64 64, .agg (WV S0).toArray,
          .func (.func 28) #[.pointer (some ⟨S, 0, none⟩)] #[], .slice A bs.length c, .int .i64 bs.length, .slice A bs.length c, .int .i64 bs.length, .int .i64 ((bs.length : Int) % 64), .int .i64 (64 * (k : Int)), .int .i64 (64 * (k : Int)), .int .i64 (64 * (k : Int)), .bool false,
          u19, u20, u21, u22, u23, u24, u25, u26, u27, .slice A bs.length c, .int .i64 (64 * (k : Int)), .slice A' (bs.length - 64 * k) (c - 64 * k), .slice A bs.length c, .int .i64 bs.length, .slice (some ⟨g, 0, none⟩) (padSize (bs.length - 64 * k)) cp,
          .func (.func 39) #[] #[.pointer (some ⟨Bs, 0, none⟩), .pointer (some ⟨Bs + 1, 0, none⟩)], .slice (some ⟨g, 64 * x.val, none⟩) 64 64, undef, undef, undef, undef], defers := [] }) ?assign ?body ?done ?stop
      case assign =>
        intro l x W K hK
        gi_wp2
        exact hK
      case body =>
        rintro l pre x W ⟨hq, hp, hbs⟩ _
        have hcl := hq.cell
        have hxx := x.isLt
        obtain ⟨b', off', e', hrx⟩ := hp.reads.chunk x.val (by omega)
        simp only [Option.some.injEq, Addr.mk.injEq] at e'
        obtain ⟨rfl, rfl, -⟩ := e'
        rw [Nat.zero_add] at hrx
        have hcon := absorb_any _ (chunk_length _ x.val (by omega)) _ (by rw [foldB_length, absAll_length]; rfl) W S (by omega) _ 64 hrx hq.st (hKH.out.below hq.be h0)
        have hcon' := Lib.hid hcon
        have hq' := Lib.hid hq
        have hp' := Lib.hid hp
        clear hcon hrx hq hp
        gi_wp2_with (first | (refine ⟨trivial, ?_⟩; gi_at_call 28; refine (CallsIn.inRound l (callsIn_wide.2 hcon'.out)).mono ?_; rintro e w7 ⟨⟨v7, rfl⟩, hw7, hu7⟩) | (gi_at_call 28; refine (CallsIn.inRound l (callsIn_wide.2 hcon'.out)).mono ?_; rintro e w7 ⟨⟨v7, rfl⟩, hw7, hu7⟩))
        refine ⟨KeepsFrom.of_grownBy hu7 (fun j e => by injection e with e; omega), KpB.of_upd hu7 (by omega) hbs (by omega) (by omega), ?_, ?_, Nat.lt_of_lt_of_le hbs hu7.size⟩
        · rw [List.map_append, List.map_singleton, foldB_snoc]
          exact hq'.out.upd hu7 hw7 (by omega) hS (Nat.lt_succ_self S)
        · obtain ⟨cur, hh, r⟩ := hp'.out
          exact ⟨cur, by rw [hu7.block g (Array.getElem?_eq_some_iff.1 hh).1 (by intro e; injection e with e; omega)]; exact hh, r⟩
      case done =>
        rintro DD xs W hD hxs ⟨hq, -⟩ hK
        rw [hxs, foldB_range] at hq
        have hdg := digest_any _ (by rw [absAll_length, absAll_length]; rfl) W S hq.st
        have hdg' := Lib.hid hdg
        have hq' := Lib.hid hq
        have hKd := Lib.hid hK
        clear hq hdg hK
        gi_wp2
        go_wp2_with fail
        refine hdg'.out.mono ?_
        rintro e w7 ⟨rfl, hb7⟩
        have hDW := hq'.out.db.lt
        have hdb : w7.heap[w.heap.size]? = some (.cells (BV (List.replicate 32 0)).toArray 30 (0, 0)) := (hb7.block _ hDW).trans hq'.out.db
        have hi : (Tryd.prog.info? 30).map (·.size) = some 32 := by kernel_rfl
        have hu : Tryd.prog.underlying 30 = some (.array 32 5) := by kernel_rfl
        have hsz : ∀ l : List UInt32, (BV (obs l 32)).toArray.size = 32 := fun l => by rw [List.size_toArray, BV_length, obs_length _ _ (Nat.le_refl _)]
        have hsz' := Lib.hid hsz
        clear hsz
        go_wp2_with (refine wpList_store_row rfl 30 _ _ rfl w.heap.size _ rfl rfl 30 _ hdb ?cj ?cl ?ck ?_
                     case cj => rw [hi, hsz'.out]
                     case cl => rw [hsz'.out]; rfl
                     case ck => exact BV_all _)
        have hfin : obs (absAll (padK (bs.drop (64 * k)) bs.length 8) R (absAll bs k S0)) 32 = sha bs := by
          have e1 := hmd'.out
          have e2 := hR'.out
          have e3 : bs.length % 64 = bs.length - 64 * k := by omega
          unfold sha
          rw [e3, e2, ← e1, Nat.mul_div_cancel_left _ (by omega : 0 < 64)]
        rw [hfin]
        have hszs := hsz'.out (absAll (padK (bs.drop (64 * k)) bs.length 8) R (absAll bs k S0))
        rw [hfin] at hszs
        have hDD : w.heap.size < DD := by have := hQ6.db.lt; omega
        have hKD := hKd.out
        have hlW := (Array.getElem?_eq_some_iff.1 hKD).1
        have hK7 : (w7.setRow w.heap.size (BV (sha bs)).toArray).heap[DD]? = some (.deferred (some [])) := by
          rw [setRow_other _ _ _ _ (by omega), hb7.block _ hlW]; exact hKD
        have hrow := setRow_heap w7 w.heap.size _ (BV (sha bs)).toArray _ _ hdb
        have hB8 : Below w.heap.size w (w7.setRow w.heap.size (BV (sha bs)).toArray) := ((hq'.out.be.trans (hb7.mono hq'.out.be.size))).grown (grownBy_setRow _ _ _) (hq'.out.be.trans (hb7.mono hq'.out.be.size)).size (fun k e => by injection e with e; omega)
        refine ⟨by simp, .inl ⟨_, _, rfl, run_takeDeferred hK7, ?_⟩⟩
        refine ⟨_, results_cell_row rfl _ _ w.heap.size 30 _ (0, 0) _ rfl ((World.putObj_heap_other (by omega)).trans hrow) hu rfl (by rw [hi, hszs]), rfl, ?_⟩
        exact hB8.grown (grownBy_putObj' _ _ _) hB8.size (fun k e => by injection e with e; omega)
      case stop =>
        rintro D c pre W _ _ h _
        exact h.elim
end Go.Proofs.YtalphobaohffnaaDoor
