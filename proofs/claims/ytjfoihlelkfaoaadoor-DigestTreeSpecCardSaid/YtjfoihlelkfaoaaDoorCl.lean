/- The two calls of Climb by which the chapter's examples are held, and Path of nothing. -/
import Derived.Test.YtjfoihlelkfaoaaDoorDn
namespace Go.Proofs.YtjfoihlelkfaoaaDoor
open Go.RowKit

set_option maxRecDepth 100000 in
theorem path_none (w : World) : Calls Tryd.prog 10 #[.slice none 0 0, .int .i64 0] w fun e w' => e = .returned (.tuple #[.slice none 0 0, .int .i64 1]) ∧ w = w' := by
  go_enter Tryd.func10, Tryd.ntmps10
  go_wp2_with fail
  go_ret2
  exact ⟨rfl, rfl⟩

theorem results_row_tmp {P : Program} {fn : Func} {p u : Tmp} {ty : TypeId} (h : fn.results = #[.cell p ty, .tmp u]) (tmps : Array Value) (w : World) (g : Nat) (t : TypeId) (cs : Array Value) (fr : Nat × Nat) (d : TypeDesc)
    (hp : tmps.getD p undef = .pointer (some ⟨g, 0, none⟩)) (hg : w.heap[g]? = some (.cells cs t fr))
    (hu : P.underlying ty = some d) (hd : (match d with | .struct _ | .array _ _ => true | _ => false) = true) (hi : (P.info? ty).map (·.size) = some cs.size) :
    (results fn tmps).run P w = .ok (.tuple #[.agg cs, tmps.getD u undef]) w := by
  rw [results_cell_tmp h, hp]
  simp [asAddr, Result.andThen, run_loadVar_row w g t ty cs fr d hg hu hd hi]

def zeroD : List UInt8 := List.replicate 32 0
set_option maxRecDepth 100000 in
set_option maxHeartbeats 2000000 in
theorem climb_02 (d : List UInt8) (hd : d.length = 32) (w : World) (h0 : 0 < w.heap.size) : Calls Tryd.prog 13 #[.agg (BV d).toArray, .int .i64 0, .int .i64 2, .slice none 0 0] w fun e w' => e = .returned (.tuple #[.agg (BV zeroD).toArray, .int .i64 1]) ∧ Below w.heap.size w w' := by
  obtain ⟨hd1, hd2, hB⟩ := box_zero w d
  have hdes := descent_any 0 2 (by omega) (.inl (by omega))
  rw [show (desc 0 2) = [false] by decide +kernel] at hdes
  have hdes' := Lib.hid hdes
  clear hdes
  go_enter Tryd.func13, Tryd.ntmps13
  go_wp2_with fail
  refine (hdes'.out _).mono ?_
  rintro e w1 ⟨v1, rfl, hob, hb1⟩
  obtain ⟨a1, c1, rfl⟩ : ∃ a1 c1, v1 = .slice a1 1 c1 := by
    rcases hob.2 with ⟨-, h⟩ | ⟨g, cap, cur, h, -⟩
    · simp at h
    · exact ⟨_, cap, h⟩
  have hd3 := hd2.below hb1 hd2.lt
  have hB1 := hB.trans (hb1.mono hB.size)
  have hu : Tryd.prog.underlying 24 = some (.array 32 5) := by kernel_rfl
  have hi : (Tryd.prog.info? 24).map (·.size) = some 32 := by kernel_rfl
  have hs1 : (BV zeroD).toArray.size = 32 := rfl
  have hs1' := Lib.hid hs1
  have hd3 : w1.heap[w.heap.size + 1]? = some (.cells (BV zeroD).toArray 24 (0, 0)) := hd3
  have hself := setRow_self w1 (w.heap.size + 1) _ _ _ hd3
  have hself' := Lib.hid hself
  clear hob hb1 hd1 hd2 hB hs1 hself
  go_wp2_with (first
    | (refine wpList_load_row rfl 24 _ rfl (w.heap.size + 1) rfl 24 _ (0, 0) _ hd3 hu rfl ?ci ?_; case ci => rw [hi, hs1'.out])
    | (refine wpList_store_row rfl 24 _ _ rfl (w.heap.size + 1) _ rfl rfl 24 _ hd3 ?cj rfl ?ck ?_; case cj => rw [hi, hs1'.out]
       case ck => exact BV_all _))
  rw [hself'.out]
  exact bodyPost_ret (results_row_tmp rfl _ _ (w.heap.size + 1) 24 _ (0, 0) _ rfl hd3 hu rfl (by rw [hi, hs1'.out])) rfl ⟨rfl, hB1⟩

set_option maxRecDepth 100000 in
set_option maxHeartbeats 2000000 in
theorem climb_01 (d : List UInt8) (hd : d.length = 32) (w : World) (hK : KT w) (h0 : 0 < w.heap.size) : Calls Tryd.prog 13 #[.agg (BV d).toArray, .int .i64 0, .int .i64 1, .slice none 0 0] w fun e w' => e = .returned (.tuple #[.agg (BV (leafH d)).toArray, .int .i64 0]) ∧ Below w.heap.size w w' := by
  have hKH := Lib.hid hK
  obtain ⟨hd1, hd2, hB⟩ := box_zero w d
  have hdes := descent_any 0 1 (by omega) (.inl (by omega))
  rw [show (desc 0 1) = [] by decide +kernel] at hdes
  have hdes' := Lib.hid hdes
  clear hdes hK
  go_enter Tryd.func13, Tryd.ntmps13
  go_wp2_with fail
  refine (hdes'.out _).mono ?_
  rintro e w1 ⟨v1, rfl, hob, hb1⟩
  obtain ⟨a1, c1, rfl⟩ : ∃ a1 c1, v1 = .slice a1 0 c1 := by
    rcases hob.2 with ⟨h, -⟩ | ⟨g, cap, cur, h, -⟩
    · exact ⟨_, _, h⟩
    · exact ⟨_, cap, h⟩
  have hd3 := hd2.below hb1 hd2.lt
  have hd4 := hd1.below hb1 hd1.lt
  have hB1 := hB.trans (hb1.mono hB.size)
  have hu : Tryd.prog.underlying 24 = some (.array 32 5) := by kernel_rfl
  have hi : (Tryd.prog.info? 24).map (·.size) = some 32 := by kernel_rfl
  have hs1 := DV_size hd
  have hs1' := Lib.hid hs1
  have hs2' := Lib.hid (DV_size (d := leafH d) (tagH_length _ _))
  have hL : Calls Tryd.prog 19 #[.agg (BV d).toArray] w1 (fun e w' => e = .returned (.agg (BV (leafH d)).toArray) ∧ Below w1.heap.size w1 w') := leaf_any d hd w1 (hKH.out.below hB1 h0) (Nat.lt_of_lt_of_le h0 hB1.size)
  have hL' := Lib.hid hL
  have hd3' := Lib.hid hd3
  clear hob hb1 hd1 hd2 hB hs1 hL hd hd3
  go_wp2_with (refine wpList_load_row rfl 24 _ rfl w.heap.size rfl 24 _ (0, 0) _ hd4 hu rfl ?ci ?_; case ci => rw [hi, hs1'.out])
  refine hL'.out.mono ?_
  rintro e w2 ⟨rfl, hb2⟩
  have hd5 := hd3'.out.below hb2 hd3'.out.lt
  have hB2 := hB1.trans (hb2.mono hB1.size)
  have hrow := setRow_heap w2 (w.heap.size + 1) _ (BV (leafH d)).toArray _ _ hd5
  have hB3 := hB2.grown (grownBy_setRow w2 (w.heap.size + 1) (BV (leafH d)).toArray) hB2.size (fun k e => by injection e with e; omega)
  have hrow' := Lib.hid hrow
  have hB3' := Lib.hid hB3
  clear hd4 hrow hB3 hB2 hB1 hb2
  go_wp2_with (refine wpList_store_row rfl 24 _ _ rfl (w.heap.size + 1) _ rfl rfl 24 _ hd5 ?cj ?cl ?ck ?_
               case cj => rw [hi, hs2'.out]
               case cl => rw [hs2'.out]; rfl
               case ck => exact BV_all _)
  generalize w2.setRow (w.heap.size + 1) (BV (leafH d)).toArray = w3 at hrow' hB3' ⊢
  clear hd5
  go_loopw [42] (fun i wr => i = .int .i64 0 ∧ wr = w3) (fun _ _ => 0)
  case atStart => exact ⟨rfl, rfl⟩
  case round =>
    obtain ⟨rfl, rfl⟩ := hrel
    have hr := hrow'.out
    have hself := setRow_self wr (w.heap.size + 1) _ _ _ hr
    have hself' := Lib.hid hself
    clear hself
    go_wp2_with (first
      | (refine wpList_load_row rfl 24 _ rfl (w.heap.size + 1) rfl 24 _ (0, 0) _ hr hu rfl ?cm ?_; case cm => rw [hi, hs2'.out])
      | (refine wpList_store_row rfl 24 _ _ rfl (w.heap.size + 1) _ rfl rfl 24 _ hr ?cn rfl ?co ?_; case cn => rw [hi, hs2'.out]
         case co => exact BV_all _))
    rw [hself'.out]
    exact bodyPost_ret (results_row_tmp rfl _ _ (w.heap.size + 1) 24 _ (0, 0) _ rfl hr hu rfl (by rw [hi, hs2'.out])) rfl ⟨rfl, hB3'.out⟩
end Go.Proofs.YtjfoihlelkfaoaaDoor
