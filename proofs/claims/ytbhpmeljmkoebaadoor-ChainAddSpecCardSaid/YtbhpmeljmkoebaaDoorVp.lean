/- The reference's Text; clash. -/
import Derived.Test.YtbhpmeljmkoebaaDoorVq
import Derived.Test.YtbhpmeljmkoebaaDoorKSk
namespace Go.Proofs.YtbhpmeljmkoebaaDoor
open Go.RowKit

theorem rnumber_any (n : Int) (w : World) : Calls Tryd.prog 43 #[.int .i64 n] w fun e w' => e = .returned (.agg #[.int .i64 1, .int .i64 n, .string ⟨#[]⟩, .slice none 0 0]) ∧ Below w.heap.size w w' := by
  go_enter Tryd.func43, Tryd.ntmps43
  go_wp2_with fail
  exact bodyPost_ret (v := .agg #[.int .i64 1, .int .i64 n, .string ⟨#[]⟩, .slice none 0 0]) (by simp [results, Tryd.results43, go_sem]) rfl ⟨rfl, (Below.refl _ _).alloc (Nat.le_refl _) _⟩
theorem rtext_any (bs : List UInt8) (w : World) (a : Option Addr) (c : Nat) (h : RBs w w.heap.size a bs) : Calls Tryd.prog 44 #[.slice a bs.length c] w fun e w' => e = .returned (.agg #[.int .i64 2, .int .i64 0, .string ⟨bs.toArray⟩, .slice none 0 0]) ∧ Below w.heap.size w w' := by
  have hcv := fun o => conv_str (c := c) (h.lift (bel1 w o) (bel1 w o).size)
  clear h
  go_enter Tryd.func44, Tryd.ntmps44
  go_wp2_with fail
  exact bodyPost_ret (v := .agg #[.int .i64 2, .int .i64 0, .string ⟨bs.toArray⟩, .slice none 0 0]) (by simp [results, Tryd.results44, go_sem]) rfl ⟨rfl, (Below.refl _ _).alloc (Nat.le_refl _) _⟩
theorem app_byte {W : World} {B : Nat} {v : Value} {l : List UInt8} (ho : OB W B v l) (b : UInt8) (ty : TypeId) (hl : l.length ≤ 1000) (hB : B ≤ W.heap.size) :
    ∃ v' W', (Builtin.append_ #[23, 23] ty #[v, .slice (some ⟨W.heap.size, 0, none⟩) 1 1]).run Tryd.prog (W.alloc (.cells #[.int .u8 (b.toNat : Int)] 5)) = .ok v' W' ∧ OB W' B v' (l ++ [b]) ∧ Below B W W' := by
  have hn := heap_alloc_new W (.cells #[.int .u8 (b.toNat : Int)] 5)
  obtain ⟨v', W', h1, h2, h3⟩ := append_bytesC (W.alloc (.cells #[.int .u8 (b.toNat : Int)] 5)) B ty v l.length (BV l) (World.ownsRow.alloc ho _) (some ⟨W.heap.size, 0, none⟩) 1 1 (BV [b]) rfl (fun _ => ⟨_, rfl, fun j u hu => by rw [add_none, Nat.zero_add, cell_of_row _ W.heap.size j _ _ _ hn]; exact (by simpa [BV] using hu)⟩) (BV_one _) (by omega) (by simp; omega)
  refine ⟨v', W', h1, ?_, ((bel1 W _).mono hB).trans h3⟩
  unfold OB
  rw [BV_append, List.length_append]
  exact h2

set_option maxRecDepth 100000 in
set_option maxHeartbeats 4000000 in
theorem Text_any (l : List Lk) (hl : Short l) (hm : l.length ≤ 1000000000) (r : List Lk) (x : Lk) (hrx : l = r ++ [x]) (w : World) (A : Option Addr) (cap : Nat) (hQ : QL w w.heap.size l A cap) :
    Calls Tryd.prog 33 #[.slice A l.length cap] w fun e w' => (∃ v, e = .returned (.tuple #[.string linkB, v]) ∧ OB w' w.heap.size v (txtL x)) ∧ Below w.heap.size w w' := by
  subst hrx
  obtain ⟨b, off, a, c, rfl, hbB, hr, hDt⟩ := hQ.at_ (i := r.length) (by simp)
  have hg : (r ++ [x])[r.length] = x := by simp
  rw [hg] at hr hDt
  have hf : Hid x.Fine := hQ.fine x (by simp)
  have hd : Hid (x.data.length ≤ 65536) := hl x (by simp)
  have hlen : (r ++ [x]).length = r.length + 1 := by simp
  rw [hlen] at hm ⊢
  have i0 : (0 : Int) ≤ r.length := by omega
  have i1 : (r.length : Int) < (r.length + 1 : Nat) := by omega
  have i2 : ((r.length + 1 : Nat) : Int) ≠ 0 := by omega
  have hwr : IntKind.i64.wrap ((r.length + 1 : Nat) - 1 : Int) = (r.length : Int) := by rw [IntWalk.i64_in _ (by omega)]; omega
  have hu := Lib.hid Tryd.underlying37
  have hii := Lib.hid (LW_info (a := a) (c := c) hf.out.prev)
  have hsz := Lib.hid (LW_size (a := a) (c := c) hf.out.prev)
  replace hr := Lib.hid hr
  replace hDt := Lib.hid hDt
  have hbg : Hid (K.big (gvL x) ≤ 1000000) := by show _ ≤ _; rw [big_gv, hf.out.prev]; have := hd.out; omega
  have hec : Hid (K.encB (gvL x) = txtL x) := by show _ = _; rw [K.encB, if_pos (chk_gv x)]; rfl
  clear hQ hg hl hlen
  generalize r.length = N at *
  go_enter Tryd.func33, Tryd.ntmps33
  go_upto_region 4 with (first
    | (refine wpList_load_part (by rfl) 37 _ (by rfl) b (off + N * 35) (by rfl) (LW x a c) _ hr.out hu.out rfl hii.out ?_)
    | (refine wpList_store_row rfl 37 _ _ rfl w.heap.size _ rfl rfl 37 _ (heap_alloc_last w _) ?cj ?cl ?ck ?_
       case cj => rw [Tryd.iL]; exact congrArg some hsz.out.symm
       case cl => rw [hsz.out]; rfl
       case ck => exact LW_all _ _ _
       rw [World.setRow_alloc_new]))
  have hbx := heap_alloc_new w (.cells (LW x a c).toArray 37)
  have hb1 := Lib.hid (bel1 w (.cells (LW x a c).toArray 37))
  have hlt : w.heap.size < (w.alloc (.cells (LW x a c).toArray 37)).heap.size := by simp
  generalize w.alloc (.cells (LW x a c).toArray 37) = V1 at *
  obtain ⟨p0, p1, p2, p3⟩ := range_parts hf.out.prev (range_of hbx)
  replace p2 := Lib.hid p2
  replace hbx := Lib.hid hbx
  have hp32 := hf.out.prev
  clear hr hii hsz i0 i1 i2 hwr hm p0 p1 p3
  go_wp2_with fail
  go_loopw [5, 6] (fun out i wr => ∃ k : Nat, i = .int .i64 (k : Int) ∧ k ≤ 32 ∧ OB wr V1.heap.size out (x.prev.take k) ∧ Hid (Below V1.heap.size V1 wr)) (fun _ i _ => 32 - (intOf i).toNat)
  case atStart => exact ⟨0, rfl, by omega, World.ownsRow_nil _ _ _ 1, Lib.hid (Below.refl _ _)⟩
  case round =>
    obtain ⟨k, rfl, hk, ho, hbw⟩ := hrel
    by_cases hlt' : k < 32
    · have hc : wr.cell? ⟨w.heap.size, 2 + k, none⟩ = some (.int .u8 ((x.prev[k]'(by omega)).toNat : Int)) := (hbw.out.cell (p := ⟨w.heap.size, 2 + k, none⟩) hlt).trans (by have := p2.out k (.int .u8 ((x.prev[k]'(by omega)).toNat : Int)) (by simp [BV, List.getElem?_eq_getElem (show k < x.prev.length by omega)]); rwa [Nat.zero_add] at this)
      obtain ⟨v', W', hra, ho', hba⟩ := app_byte ho (x.prev[k]'(by omega)) 23 (by rw [List.length_take]; omega) hbw.out.size
      rw [List.take_append_getElem (by omega)] at ho'
      have i0 : (0 : Int) ≤ k := by omega
      have i1 : (k : Int) < 32 := by omega
      replace hra := Lib.hid hra
      replace ho' := Lib.hid ho'
      replace hba := Lib.hid (hbw.out.trans hba)
      clear ho hbw
      generalize x.prev[k]'(by omega) = pb at *
      go_wp2_with (at_builtin; refine Lib.wpList_append_run _ rfl _ _ _ _ rfl _ _ rfl rfl _ _ hra.out ?_)
      go_roundw
      case rel => exact ⟨k + 1, by go_num, by omega, ho'.out, hba⟩
      case measure => simp [intOf]; omega
    · obtain rfl : k = 32 := by omega
      rw [List.take_of_length_le (by omega)] at ho
      obtain ⟨a5, c5, rfl, hc5⟩ := ho.form
      have hbx2 := blk_at hbx.out hbw.out
      have hrd := ho.reads.1
      have hbV := Lib.hid (hb1.out.trans (hbw.out.mono hb1.out.size))
      have hltV : Hid (w.heap.size < wr.heap.size) := Nat.lt_of_lt_of_le hlt hbw.out.size
      clear ho hbw p2 hbx hb1 hlt hc5 hp32
      generalize wr = V at *
      obtain ⟨p0, p1, p2, p3⟩ := range_parts hf.out.prev (range_of hbx2)
      have hN0 : Hid (∀ W, Below V.heap.size V W → W.cell? ⟨w.heap.size, 0, none⟩ = some (.int .i64 x.node)) := fun W hW => (hW.cell (p := ⟨w.heap.size, 0, none⟩) hltV.out).trans p0
      have hN1 : Hid (∀ W, Below V.heap.size V W → W.cell? ⟨w.heap.size, 1, none⟩ = some (.int .i64 x.no)) := fun W hW => (hW.cell (p := ⟨w.heap.size, 1, none⟩) hltV.out).trans p1
      have hN3 : Hid (∀ W, Below V.heap.size V W → W.cell? ⟨w.heap.size, 34, none⟩ = some (.slice a x.data.length c)) := fun W hW => (hW.cell (p := ⟨w.heap.size, 34, none⟩) hltV.out).trans p3
      have hTx5 : Hid (∀ W, Below V.heap.size V W → Calls Tryd.prog 44 #[.slice a5 x.prev.length c5] W fun e w' => e = .returned (.agg #[.int .i64 2, .int .i64 0, .string ⟨x.prev.toArray⟩, .slice none 0 0]) ∧ Below W.heap.size W w') := fun W hW => rtext_any x.prev W a5 c5 (hrd.lift hW hW.size)
      clear p0 p1 p2 p3 hbx2 hrd
      go_wp2_with fail
      refine wp_region_pre 19 0 (fun W => Below V.heap.size V W) (fun W W' => Below W.heap.size W W')
        (fun i v W => match i with
          | 0 => v = .pointer (some ⟨w.heap.size, 0, none⟩)
          | 1 => v = .int .i64 x.node
          | 2 => v = .agg #[.int .i64 1, .int .i64 x.node, .string ⟨#[]⟩, .slice none 0 0]
          | 3 => v = .pointer (some ⟨w.heap.size, 1, none⟩)
          | 4 => v = .int .i64 x.no
          | 5 => v = .agg #[.int .i64 1, .int .i64 x.no, .string ⟨#[]⟩, .slice none 0 0]
          | 6 => v = .slice a5 x.prev.length c5
          | 7 => v = .agg #[.int .i64 2, .int .i64 0, .string ⟨x.prev.toArray⟩, .slice none 0 0]
          | 8 => v = .pointer (some ⟨w.heap.size, 34, none⟩)
          | 9 => v = .slice a x.data.length c
          | 10 => v = .agg #[.int .i64 2, .int .i64 0, .string ⟨x.data.toArray⟩, .slice none 0 0]
          | 11 => ∃ g, v = .slice (some ⟨g, 0, none⟩) 4 4 ∧ W.heap[g]? = some (.cells (row4 x).toArray 64 (0, 0))
          | 12 => ∃ g, v = .agg #[.int .i64 3, .int .i64 0, .string ⟨#[]⟩, .slice (some ⟨g, 0, none⟩) 4 4] ∧ W.heap[g]? = some (.cells (row4 x).toArray 64 (0, 0))
          | 13 => ∃ u, v = .tuple #[u, .int .i64 0] ∧ OB W V.heap.size u (txtL x)
          | 14 => ∃ u, v = .tuple #[u, .int .i64 0] ∧ OB W V.heap.size u (txtL x)
          | 15 => ∃ u, v = u ∧ OB W V.heap.size u (txtL x)
          | 16 => v = .int .i64 0
          | 17 => ∃ u, v = u ∧ OB W V.heap.size u (txtL x)
          | 18 => v = .int .i64 0
          | _ => True) (fun _ => false)
        (by kernel_rfl) (by kernel_rfl) (by kernel_rfl) (by kernel_rfl) (by kernel_rfl) (by kernel_rfl) (by kernel_rfl) ?_ (fun _ _ h => h.size) (dN (Below.refl _ _) 1) ?_ ?_
      · intro i v W W' hb hF
        match i, hF with
        | 0, h => exact h
        | 1, h => exact h
        | 2, h => exact h
        | 3, h => exact h
        | 4, h => exact h
        | 5, h => exact h
        | 6, h => exact h
        | 7, h => exact h
        | 8, h => exact h
        | 9, h => exact h
        | 10, h => exact h
        | 11, ⟨g, h1, h2⟩ => exact ⟨g, h1, blk_at h2 hb⟩
        | 12, ⟨g, h1, h2⟩ => exact ⟨g, h1, blk_at h2 hb⟩
        | 13, ⟨u, h1, h2⟩ => exact ⟨u, h1, h2.below hb⟩
        | 14, ⟨u, h1, h2⟩ => exact ⟨u, h1, h2.below hb⟩
        | 15, ⟨u, h1, h2⟩ => exact ⟨u, h1, h2.below hb⟩
        | 16, h => exact h
        | 17, ⟨u, h1, h2⟩ => exact ⟨u, h1, h2.below hb⟩
        | 18, h => exact h
        | _ + 19, _ => trivial
      · refine ⟨?_, ?_, ?_, ?_, ?_, ?_, ?_, ?_, ?_, ?_, ?_, ?_, ?_, ?_, ?_, ?_, ?_, ?_, ?_, trivial⟩
        · refine stepJ_any rfl fun ac W hAA hG hDD K hK => ?_
          have h4 := hAA.getD (t := 4) (by kernel_rfl)
          simp only [Array.getD_eq_getD_getElem?] at h4
          rw [if_pos (by rfl)]
          exact wp_val (v := .pointer (some ⟨w.heap.size, 0, none⟩)) (w' := W) (by simp [execOp, Act.eval, h4, go_sem]) (hK _ _ hG (Below.refl _ _) rfl (fun h => by cases h))
        · refine stepJ_any rfl fun ac W hAA hG hDD K hK => ?_
          have h30 := hDD.get 0 30 _ rfl rfl (by kernel_rfl)
          simp only [Array.getD_eq_getD_getElem?] at h30
          have m0 := hN0.out W hG
          rw [if_pos (by rfl)]
          exact wp_val (v := .int .i64 x.node) (w' := W) (by simp [execOp, Act.eval, h30, go_sem, m0]) (hK _ _ hG (Below.refl _ _) rfl (fun h => by cases h))
        · refine stepJ_any rfl fun ac W hAA hG hDD K hK => ?_
          have h31 := hDD.get 1 31 _ rfl rfl (by kernel_rfl)
          simp only [Array.getD_eq_getD_getElem?] at h31
          rw [if_pos (by rfl)]
          refine wp_call (f := 43) (args := #[.int .i64 x.node]) (by simp [execOp, Act.eval, h31, go_sem]) ((rnumber_any x.node W).mono fun e W9 he => ?_)
          obtain ⟨rfl, hbw⟩ := he
          exact hK _ _ (hG.trans (hbw.mono hG.size)) hbw rfl (fun h => by cases h)
        · refine stepJ_any rfl fun ac W hAA hG hDD K hK => ?_
          have h4 := hAA.getD (t := 4) (by kernel_rfl)
          simp only [Array.getD_eq_getD_getElem?] at h4
          rw [if_pos (by rfl)]
          exact wp_val (v := .pointer (some ⟨w.heap.size, 1, none⟩)) (w' := W) (by simp [execOp, Act.eval, h4, go_sem]) (hK _ _ hG (Below.refl _ _) rfl (fun h => by cases h))
        · refine stepJ_any rfl fun ac W hAA hG hDD K hK => ?_
          have h33 := hDD.get 3 33 _ rfl rfl (by kernel_rfl)
          simp only [Array.getD_eq_getD_getElem?] at h33
          have m1 := hN1.out W hG
          rw [if_pos (by rfl)]
          exact wp_val (v := .int .i64 x.no) (w' := W) (by simp [execOp, Act.eval, h33, go_sem, m1]) (hK _ _ hG (Below.refl _ _) rfl (fun h => by cases h))
        · refine stepJ_any rfl fun ac W hAA hG hDD K hK => ?_
          have h34 := hDD.get 4 34 _ rfl rfl (by kernel_rfl)
          simp only [Array.getD_eq_getD_getElem?] at h34
          rw [if_pos (by rfl)]
          refine wp_call (f := 43) (args := #[.int .i64 x.no]) (by simp [execOp, Act.eval, h34, go_sem]) ((rnumber_any x.no W).mono fun e W9 he => ?_)
          obtain ⟨rfl, hbw⟩ := he
          exact hK _ _ (hG.trans (hbw.mono hG.size)) hbw rfl (fun h => by cases h)
        · refine stepJ_any rfl fun ac W hAA hG hDD K hK => ?_
          have h5 := hAA.getD (t := 5) (by kernel_rfl)
          simp only [Array.getD_eq_getD_getElem?] at h5
          rw [if_pos (by rfl)]
          exact wp_val (v := .slice a5 x.prev.length c5) (w' := W) (by simp [execOp, Act.eval, h5, go_sem]) (hK _ _ hG (Below.refl _ _) rfl (fun h => by cases h))
        · refine stepJ_any rfl fun ac W hAA hG hDD K hK => ?_
          have h36 := hDD.get 6 36 _ rfl rfl (by kernel_rfl)
          simp only [Array.getD_eq_getD_getElem?] at h36
          rw [if_pos (by rfl)]
          refine wp_call (f := 44) (args := #[.slice a5 x.prev.length c5]) (by simp [execOp, Act.eval, h36, go_sem]) ((hTx5.out W hG).mono fun e W9 he => ?_)
          obtain ⟨rfl, hbw⟩ := he
          exact hK _ _ (hG.trans (hbw.mono hG.size)) hbw rfl (fun h => by cases h)
        · refine stepJ_any rfl fun ac W hAA hG hDD K hK => ?_
          have h4 := hAA.getD (t := 4) (by kernel_rfl)
          simp only [Array.getD_eq_getD_getElem?] at h4
          rw [if_pos (by rfl)]
          exact wp_val (v := .pointer (some ⟨w.heap.size, 34, none⟩)) (w' := W) (by simp [execOp, Act.eval, h4, go_sem]) (hK _ _ hG (Below.refl _ _) rfl (fun h => by cases h))
        · refine stepJ_any rfl fun ac W hAA hG hDD K hK => ?_
          have h38 := hDD.get 8 38 _ rfl rfl (by kernel_rfl)
          simp only [Array.getD_eq_getD_getElem?] at h38
          have m3 := hN3.out W hG
          rw [if_pos (by rfl)]
          exact wp_val (v := .slice a x.data.length c) (w' := W) (by simp [execOp, Act.eval, h38, go_sem, m3]) (hK _ _ hG (Below.refl _ _) rfl (fun h => by cases h))
        · refine stepJ_any rfl fun ac W hAA hG hDD K hK => ?_
          have h39 := hDD.get 9 39 _ rfl rfl (by kernel_rfl)
          simp only [Array.getD_eq_getD_getElem?] at h39
          rw [if_pos (by rfl)]
          refine wp_call (f := 44) (args := #[.slice a x.data.length c]) (by simp [execOp, Act.eval, h39, go_sem]) ((rtext_any x.data W a c (hDt.out.read.lift (hbV.out.trans (hG.mono hbV.out.size)) (hbV.out.trans (hG.mono hbV.out.size)).size)).mono fun e W9 he => ?_)
          obtain ⟨rfl, hbw⟩ := he
          exact hK _ _ (hG.trans (hbw.mono hG.size)) hbw rfl (fun h => by cases h)
        · refine stepJ_any rfl fun ac W hAA hG hDD K hK => ?_
          have h32 := hDD.get 2 32 _ rfl rfl (by kernel_rfl)
          have h35 := hDD.get 5 35 _ rfl rfl (by kernel_rfl)
          have h37 := hDD.get 7 37 _ rfl rfl (by kernel_rfl)
          have h40 := hDD.get 10 40 _ rfl rfl (by kernel_rfl)
          rw [if_pos (by rfl)]
          simp only [Array.getD_eq_getD_getElem?] at h32 h35 h37 h40
          exact wp_val (v := .slice (some ⟨W.heap.size, 0, none⟩) 4 4) (w' := W.alloc (.cells (row4 x).toArray 64)) (by simp [execOp, Act.eval, h32, h35, h37, h40, go_sem, row4]) (hK _ _ (hG.alloc hG.size _) (bel1 W _) ⟨_, rfl, heap_alloc_new W _⟩ (fun h => by cases h))
        · refine stepJ_any rfl fun ac W hAA hG hDD K hK => ?_
          obtain ⟨g11, h41, hg11⟩ := hDD.get 11 41 _ rfl rfl (by kernel_rfl)
          rw [if_pos (by rfl)]
          simp only [Array.getD_eq_getD_getElem?] at h41
          exact wp_val (v := .agg #[.int .i64 3, .int .i64 0, .string ⟨#[]⟩, .slice (some ⟨g11, 0, none⟩) 4 4]) (w' := W) (by simp [execOp, Act.eval, h41, go_sem]) (hK _ _ hG (Below.refl _ _) ⟨g11, rfl, hg11⟩ (fun h => by cases h))
        · refine stepJ_any rfl fun ac W hAA hG hDD K hK => ?_
          obtain ⟨g12, h42, hg12⟩ := hDD.get 12 42 _ rfl rfl (by kernel_rfl)
          rw [if_pos (by rfl)]
          simp only [Array.getD_eq_getD_getElem?] at h42
          refine wp_call (f := 42) (args := #[.agg #[.int .i64 3, .int .i64 0, .string ⟨#[]⟩, .slice (some ⟨g12, 0, none⟩) 4 4]]) (by simp [execOp, Act.eval, h42, go_sem]) ((Go.Proofs.YtbhpmeljmkoebaaDoor.K.rEncode_any (gvL x) hbg.out W W.heap.size _ (Nat.le_refl _) (gv_reads hf.out hd.out hg12)).mono fun e W9 he => ?_)
          obtain ⟨u, rfl, ho, hbw⟩ := he
          rw [hec.out] at ho
          exact hK _ _ (hG.trans (hbw.mono hG.size)) hbw ⟨u, by rw [chk_gv], OB.mono ho hG.size⟩ (fun h => by cases h)
        · refine stepJ_any rfl fun ac W hAA hG hDD K hK => ?_
          obtain ⟨u13, h43, ho⟩ := hDD.get 13 43 _ rfl rfl (by kernel_rfl)
          rw [if_pos (by rfl)]
          simp only [Array.getD_eq_getD_getElem?] at h43
          exact wp_val (v := .tuple #[u13, .int .i64 0]) (w' := W) (by simp [execOp, Act.eval, h43, go_sem]) (hK _ _ hG (Below.refl _ _) ⟨u13, rfl, ho⟩ (fun h => by cases h))
        · refine stepJ_any rfl fun ac W hAA hG hDD K hK => ?_
          obtain ⟨u14, h29, ho⟩ := hDD.get 14 29 _ rfl rfl (by kernel_rfl)
          rw [if_pos (by rfl)]
          simp only [Array.getD_eq_getD_getElem?] at h29
          exact wp_val (v := u14) (w' := W) (by simp [execOp, Act.eval, h29, go_sem]) (hK _ _ hG (Below.refl _ _) ⟨u14, rfl, ho⟩ (fun h => by cases h))
        · refine stepJ_any rfl fun ac W hAA hG hDD K hK => ?_
          obtain ⟨u14, h29, ho⟩ := hDD.get 14 29 _ rfl rfl (by kernel_rfl)
          rw [if_pos (by rfl)]
          simp only [Array.getD_eq_getD_getElem?] at h29
          exact wp_val (v := .int .i64 0) (w' := W) (by simp [execOp, Act.eval, h29, go_sem]) (hK _ _ hG (Below.refl _ _) rfl (fun h => by cases h))
        · refine stepJ_any rfl fun ac W hAA hG hDD K hK => ?_
          obtain ⟨u15, h44, ho⟩ := hDD.get 15 44 _ rfl rfl (by kernel_rfl)
          rw [if_pos (by rfl)]
          simp only [Array.getD_eq_getD_getElem?] at h44
          exact wp_val (v := u15) (w' := W) (by simp [execOp, Act.eval, h44, go_sem]) (hK _ _ hG (Below.refl _ _) ⟨u15, rfl, ho⟩ (fun h => by cases h))
        · refine stepJ_any rfl fun ac W hAA hG hDD K hK => ?_
          have h45 := hDD.get 16 45 _ rfl rfl (by kernel_rfl)
          rw [if_pos (by rfl)]
          simp only [Array.getD_eq_getD_getElem?] at h45
          exact wp_val (v := .int .i64 0) (w' := W) (by simp [execOp, Act.eval, h45, go_sem]) (hK _ _ hG (Below.refl _ _) rfl (fun h => by cases h))
      intro fu T W9 hG hF hne hltb
      have e30 : T 30 = .pointer (some ⟨w.heap.size, 0, none⟩) := hF 0 _ rfl (by omega)
      have e31 : T 31 = .int .i64 x.node := hF 1 _ rfl (by omega)
      have e32 : T 32 = .agg #[.int .i64 1, .int .i64 x.node, .string ⟨#[]⟩, .slice none 0 0] := hF 2 _ rfl (by omega)
      have e33 : T 33 = .pointer (some ⟨w.heap.size, 1, none⟩) := hF 3 _ rfl (by omega)
      have e34 : T 34 = .int .i64 x.no := hF 4 _ rfl (by omega)
      have e35 : T 35 = .agg #[.int .i64 1, .int .i64 x.no, .string ⟨#[]⟩, .slice none 0 0] := hF 5 _ rfl (by omega)
      have e36 : T 36 = .slice a5 x.prev.length c5 := hF 6 _ rfl (by omega)
      have e37 : T 37 = .agg #[.int .i64 2, .int .i64 0, .string ⟨x.prev.toArray⟩, .slice none 0 0] := hF 7 _ rfl (by omega)
      have e38 : T 38 = .pointer (some ⟨w.heap.size, 34, none⟩) := hF 8 _ rfl (by omega)
      have e39 : T 39 = .slice a x.data.length c := hF 9 _ rfl (by omega)
      have e40 : T 40 = .agg #[.int .i64 2, .int .i64 0, .string ⟨x.data.toArray⟩, .slice none 0 0] := hF 10 _ rfl (by omega)
      obtain ⟨g11, e41, -⟩ := hF 11 _ rfl (by omega)
      replace e41 : T 41 = _ := e41
      obtain ⟨g12, e42, -⟩ := hF 12 _ rfl (by omega)
      replace e42 : T 42 = _ := e42
      obtain ⟨u13, e43, -⟩ := hF 13 _ rfl (by omega)
      replace e43 : T 43 = _ := e43
      obtain ⟨u14, e29, -⟩ := hF 14 _ rfl (by omega)
      replace e29 : T 29 = _ := e29
      obtain ⟨u15, e44, -⟩ := hF 15 _ rfl (by omega)
      replace e44 : T 44 = _ := e44
      have e45 : T 45 = .int .i64 0 := hF 16 _ rfl (by omega)
      obtain ⟨u17, e7, ho17⟩ := hF 17 _ rfl (by omega)
      replace e7 : T 7 = _ := e7
      have e8 : T 8 = .int .i64 0 := hF 18 _ rfl (by omega)
      clear hF hne hltb
      simp only [List.take, fillT, List.setIfInBounds_toArray, List.set_cons_zero, List.set_cons_succ, e30, e31, e32, e33, e34, e35, e36, e37, e38, e39, e40, e41, e42, e43, e29, e44, e45, e7, e8]
      clear e30 e31 e32 e33 e34 e35 e36 e37 e38 e39 e40 e41 e42 e43 e29 e44 e45 e7 e8
      refine wpAny_done (by kernel_rfl) ?_ _
      have hBz := Lib.hid (hbV.out.trans (hG.mono hbV.out.size))
      have hoz : Hid (OB W9 w.heap.size u17 (txtL x)) := OB.mono ho17 hbV.out.size
      clear hG hN0 hN1 hN3 hTx5 ho17
      go_wp2_with fail
      go_ret2
      exact ⟨⟨_, rfl, hoz.out⟩, hBz.out⟩
end Go.Proofs.YtbhpmeljmkoebaaDoor
