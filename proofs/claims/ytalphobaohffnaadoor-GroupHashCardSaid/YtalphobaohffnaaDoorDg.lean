/- The state's words, as bytes; the first state. -/
import Derived.Test.YtalphobaohffnaaDoorAb
namespace Go.Proofs.YtalphobaohffnaaDoor
open Go.RowKit

def BV (l : List UInt8) : List Value := l.map fun b => .int .u8 (b.toNat : Int)
theorem BV_length (l : List UInt8) : (BV l).length = l.length := by simp [BV]
theorem BV_append (l m : List UInt8) : BV (l ++ m) = BV l ++ BV m := by simp [BV]
theorem BV_one (l : List UInt8) : ∀ u ∈ BV l, u.oneCell' = true := by
  intro u h
  simp only [BV, List.mem_map] at h
  obtain ⟨b, -, rfl⟩ := h
  rfl
/-- A block of bytes. -/
def DB (w : World) (g : Nat) (T : TypeId) (bs : List UInt8) : Prop := w.heap[g]? = some (.cells (BV bs).toArray T (0, 0))
theorem DB.cell {w : World} {g i : Nat} {T : TypeId} {bs : List UInt8} (h : DB w g T bs) (hi : i < bs.length) : w.cell? ⟨g, i, none⟩ = some (.int .u8 ((bs.getD i 0).toNat : Int)) := by
  rw [cell_of_row w g i _ T _ h]
  simp [BV, hi]
theorem DB.frozen {w : World} {g : Nat} {T : TypeId} {bs : List UInt8} (h : DB w g T bs) (i : Nat) : w.frozen? ⟨g, i, none⟩ = false := frozen_of_row w g i _ T h
theorem DB.set {w : World} {g i : Nat} {T : TypeId} {bs : List UInt8} (h : DB w g T bs) (x : UInt8) : DB (w.setCell ⟨g, i, none⟩ (.int .u8 (x.toNat : Int))) g T (bs.set i x) := by
  have := heap_setCell_same w g i _ T (.int .u8 (x.toNat : Int)) h
  unfold DB
  rw [this]
  congr 2
  apply Array.toList_inj.1
  simp [BV, List.map_set]
theorem DB.lt {w : World} {g : Nat} {T : TypeId} {bs : List UInt8} (h : DB w g T bs) : g < w.heap.size := (Array.getElem?_eq_some_iff.1 h).1
theorem DB.below {w w' : World} {g B : Nat} {T : TypeId} {bs : List UInt8} (h : DB w g T bs) (hb : Below B w w') (hg : g < B) : DB w' g T bs := by
  unfold DB; rw [hb.block g hg]; exact h

/-- Byte i of the state. -/
def ob (ss : List UInt32) (i : Nat) : UInt8 := UInt8.ofNat ((ss.getD (i / 4) 0).toNat / 2 ^ (24 - i % 4 * 8))
def obs (ss : List UInt32) (n : Nat) : List UInt8 := (List.range n).map (ob ss) ++ List.replicate (32 - n) 0
theorem obs_length (ss : List UInt32) (n : Nat) (h : n ≤ 32) : (obs ss n).length = 32 := by simp [obs]; omega
theorem obs_succ (ss : List UInt32) (n : Nat) (h : n < 32) : (obs ss n).set n (ob ss n) = obs ss (n + 1) := by
  have e : List.replicate (32 - n) (0 : UInt8) = 0 :: List.replicate (32 - (n + 1)) 0 := by rw [← List.replicate_succ]; congr 1; omega
  unfold obs
  rw [e, List.range_succ, List.map_append, List.set_append_right _ _ (by simp)]
  simp
theorem BV_all (l : List UInt8) : (BV l).toArray.all (·.oneCell') = true := by
  rw [Array.all_eq_true_iff_forall_mem]
  intro x hx
  exact BV_one l x (by simpa using hx)
theorem ob_val (ss : List UInt32) (i : Nat) (x : UInt32) (h : ss.getD (i / 4) 0 = x) (n : Nat) (hn : 24 - i % 4 * 8 = n) : U x / 2 ^ n % 256 = ((ob ss i).toNat : Int) := by
  unfold ob U
  rw [h, hn, UInt8.toNat_ofNat']
  simp

set_option maxRecDepth 100000 in
set_option maxHeartbeats 1000000 in
theorem digest_any (ss : List UInt32) (hs : ss.length = 8) (w : World) (S : Nat) (hw : WB w S 43 ss) :
    Calls Tryd.prog 31 #[.pointer (some ⟨S, 0, none⟩)] w fun e w' => e = .returned (.agg (BV (obs ss 32)).toArray) ∧ Below w.heap.size w w' := by
  have hS := hw.lt
  have hwH := Lib.hid hw
  clear hw
  go_enter Tryd.func31, Tryd.ntmps31
  go_wp2_with fail
  go_loopw [3, 4] (fun _ i wr => ∃ t : Nat, t ≤ 32 ∧ i = .int .i64 t ∧ DB wr w.heap.size 30 (obs ss t) ∧ Below w.heap.size w wr) (fun _ i _ => 32 - (intOf i).toNat)
  case atStart => exact ⟨0, by omega, rfl, heap_alloc_new w _, (Below.refl _ _).alloc (Nat.le_refl _) _⟩
  case round =>
    obtain ⟨t, ht, rfl, hw, hb⟩ := hrel
    by_cases hlt : t < 32
    · have cs := (hwH.out.below hb hS).cell (i := t / 4) (by omega)
      have ct := hw.cell (i := t) (by rw [obs_length _ _ ht]; omega)
      have cf := hw.frozen t
      have i0 : (0 : Int) ≤ t := by omega
      have i1 : (t : Int) < 32 := by omega
      have hst : DB (wr.setCell ⟨w.heap.size, t, none⟩ (.int .u8 (U (ss.getD (t / 4) 0) / 2 ^ (24 - t % 4 * 8) % 256))) w.heap.size 30 (obs ss (t + 1)) := by
        rw [ob_val ss t _ rfl _ rfl, ← obs_succ ss t hlt]
        exact hw.set _
      have hst' := Lib.hid hst
      have hb' := Lib.hid hb
      clear hst hw hb
      go_wp2_with fail
      go_roundw
      case rel => exact ⟨t + 1, by omega, by go_num, hst'.out, hb'.out.setCell (p := ⟨w.heap.size, t, none⟩) (Nat.le_refl _) _⟩
      case measure => simp [intOf]; omega
    · obtain rfl : t = 32 := by omega
      have hu : Tryd.prog.underlying 30 = some (.array 32 5) := by kernel_rfl
      have hi : (Tryd.prog.info? 30).map (·.size) = some 32 := by kernel_rfl
      have hsz : (BV (obs ss 32)).toArray.size = 32 := by rw [List.size_toArray, BV_length, obs_length _ _ (Nat.le_refl _)]
      have hself := setRow_self wr w.heap.size _ _ _ hw
      have hsz' := Lib.hid hsz
      have hself' := Lib.hid hself
      clear hsz hself
      go_wp2_with (first
        | (refine wpList_load_row rfl 30 _ rfl w.heap.size rfl 30 _ (0, 0) _ hw hu rfl ?ci ?_; case ci => rw [hi, hsz'.out])
        | (refine wpList_store_row rfl 30 _ _ rfl w.heap.size _ rfl rfl 30 _ hw ?cj rfl ?ck ?_; case cj => rw [hi, hsz'.out]
           case ck => exact BV_all _))
      rw [hself'.out]
      exact bodyPost_ret (results_cell_row rfl _ _ w.heap.size 30 _ (0, 0) _ rfl hw hu rfl (by rw [hi, hsz'.out])) rfl ⟨rfl, hb⟩

def S0 : List UInt32 := [0x6a09e667, 0xbb67ae85, 0x3c6ef372, 0xa54ff53a, 0x510e527f, 0x9b05688c, 0x1f83d9ab, 0x5be0cd19]
set_option maxRecDepth 100000 in
theorem start_any (w : World) : Calls Tryd.prog 27 #[] w fun e w' => e = .returned (.agg (WV S0).toArray) ∧ Below w.heap.size w w' := by
  go_enter Tryd.func27, Tryd.ntmps27
  have hu : Tryd.prog.underlying 43 = some (.array 8 41) := by kernel_rfl
  have hi : (Tryd.prog.info? 43).map (·.size) = some 8 := by kernel_rfl
  go_wp2_with fail
  exact bodyPost_ret (results_cell_row rfl _ _ w.heap.size 43 _ (0, 0) _ rfl (heap_alloc_new w _) hu rfl (by rw [hi]; rfl)) rfl ⟨rfl, (Below.refl _ _).alloc (Nat.le_refl _) _⟩
end Go.Proofs.YtalphobaohffnaaDoor
