/- CodecDecodeSpec: the law. -/
import Derived.Test.YtaninbklippdaaaRd
import Derived.Test.YtaninbklippdaaaRs
namespace Go.Proofs.Ytaninbklippdaaa
open Go.RowKit

/-- What both decoders give. -/
def decV (bs : List UInt8) : GV := match dec bs with | some x => x | none => .mk 0 0 ⟨#[]⟩ []
def decE (bs : List UInt8) : Int := match dec bs with | some _ => 0 | none => 10
theorem DecPost.both {bs : List UInt8} {w w' : World} {e : Ending} (h : DecPost bs w e w') : ∃ v, e = .returned (.tuple #[v, .int .i64 (decE bs)]) ∧ RV w' w'.heap.size (decV bs) v ∧ Below w.heap.size w w' := by
  unfold DecPost at h
  unfold decE decV
  cases hd : dec bs with
  | some x => rw [hd] at h; exact h
  | none =>
    rw [hd] at h
    refine ⟨_, h.1, ?_, h.2⟩
    exact (RVS.leaf (w := w') (S := fun b => b < w'.heap.size) (by unfold I64; omega) (by unfold I64; omega) (by simp [maxLen, ByteArray.size])).lt (fun b hb => hb)
theorem RBs.stay {w w' : World} {A : Option Addr} {bs : List UInt8} (h : RBs w w.heap.size A bs) (hb : Below w.heap.size w w') : RBs w' w'.heap.size A bs := by
  intro hp
  obtain ⟨b, off, e, hlt, hc⟩ := h hp
  exact ⟨b, off, e, Nat.lt_of_lt_of_le hlt hb.size, fun j hj => (hb.cell (p := ⟨b, off + j, none⟩) hlt).trans (hc j hj)⟩

attribute [local irreducible] Calls
set_option maxRecDepth 100000 in
set_option maxHeartbeats 3200000 in
theorem decodeSpec_any (bs : List UInt8) (w : World) (A : Option Addr) (c : Nat) (hc : bs.length ≤ c) (hm : c ≤ maxLen) (hr : RBs w w.heap.size A bs) : Calls Try.prog 3 #[.slice A bs.length c] w fun e w' => e = .returned (.bool true) ∧ Below w.heap.size w w' := by
  have hl9 : bs.length ≤ 9223372036854775807 := Nat.le_trans hc (Nat.le_trans hm (by decide))
  have hrH := Lib.hid hr
  have hcH := Lib.hid hc
  clear hr hm hc
  by_cases hlong : 2000 < bs.length
  · have hlong' : (2000 : Int) < bs.length := by omega
    go_enter Try.func3, Try.ntmps3
    go_wp2_with fail
    refine (sane_any _).mono ?_
    rintro e w1 ⟨rfl, hb1⟩
    go_wp2_with fail
    go_ret
    exact ⟨rfl, hb1⟩
  · have hlong' : ¬ (2000 : Int) < bs.length := by omega
    have hD : Hid (∀ W, RBs W W.heap.size A bs → Calls Try.prog 5 #[.slice A bs.length c] W (DecPost bs W)) := fun W h => Decode_any bs (by omega) W A c hcH.out h
    have hE : Hid (∀ W, RBs W W.heap.size A bs → Calls Try.prog 6 #[.slice A bs.length c] W (DecPost bs W)) := fun W h => RDecode_any bs (by omega) W A c hcH.out h
    go_enter Try.func3, Try.ntmps3
    go_wp2_with fail
    refine (sane_any _).mono ?_
    rintro e w1 ⟨rfl, hb1⟩
    have hr1 := Lib.hid (hrH.out.stay hb1)
    go_wp2_with fail
    refine (hD.out _ hr1.out).mono ?_
    intro e w2 hp
    obtain ⟨v2, rfl, hv2, hb2⟩ := hp.both
    obtain ⟨a2, c2, rfl, -⟩ := hv2.parts
    have hr2 := Lib.hid (hr1.out.stay hb2)
    have hB2 := Lib.hid (hb1.trans (hb2.mono hb1.size))
    have hv2 := Lib.hid hv2
    clear hp hb2
    go_wp2_with fail
    refine (hE.out _ (hr2.out.stay ((Below.refl _ _).alloc (Nat.le_refl _) _))).mono ?_
    intro e w3 hp
    obtain ⟨v3, rfl, hv3, hb3⟩ := hp.both
    obtain ⟨a3, c3, rfl, -⟩ := hv3.parts
    simp only [World.size_alloc] at hb3
    obtain ⟨p0, p1, p2, p3⟩ := box4 hb3
    have hz3 := hb3.size
    simp only [World.size_alloc] at hz3
    have hlt : w2.heap.size < w3.heap.size := by omega
    have hne : ¬ w2.heap.size = w3.heap.size := by omega
    have hne' : ¬ w3.heap.size = w2.heap.size := by omega
    have hB3 : Hid (Below w.heap.size w w3) := (hB2.out.alloc hB2.out.size (.cells #[.int .i64 (decV bs).kind, .int .i64 (decV bs).num, .string (decV bs).str, .slice a2 (decV bs).els.length c2] 26)).trans (hb3.mono (by have := hB2.out.size; omega))
    have h1 : RV w3 w3.heap.size (decV bs) _ := ((hv2.out.alloc (Nat.le_refl _) _).under hb3 (Nat.le_succ _)).mono (by omega)
    have hS := rSame_any (decV bs) (decV bs) (w3.alloc (.cells #[.int .i64 (decV bs).kind, .int .i64 (decV bs).num, .string (decV bs).str, .slice a3 (decV bs).els.length c3] 26)) w3.heap.size _ _ (by simp) (h1.alloc (Nat.le_refl _) _) (hv3.alloc (Nat.le_refl _) _)
    rw [same_refl] at hS
    have hS := Lib.hid hS
    have q0 := (World.cell?_alloc_lt w3 (.cells #[.int .i64 (decV bs).kind, .int .i64 (decV bs).num, .string (decV bs).str, .slice a3 (decV bs).els.length c3] 26) ⟨w2.heap.size, 0, none⟩ hlt).trans p0
    have q1 := (World.cell?_alloc_lt w3 (.cells #[.int .i64 (decV bs).kind, .int .i64 (decV bs).num, .string (decV bs).str, .slice a3 (decV bs).els.length c3] 26) ⟨w2.heap.size, 1, none⟩ hlt).trans p1
    have q2 := (World.cell?_alloc_lt w3 (.cells #[.int .i64 (decV bs).kind, .int .i64 (decV bs).num, .string (decV bs).str, .slice a3 (decV bs).els.length c3] 26) ⟨w2.heap.size, 2, none⟩ hlt).trans p2
    have q3 := (World.cell?_alloc_lt w3 (.cells #[.int .i64 (decV bs).kind, .int .i64 (decV bs).num, .string (decV bs).str, .slice a3 (decV bs).els.length c3] 26) ⟨w2.heap.size, 3, none⟩ hlt).trans p3
    clear h1 hz3
    clear hp hb3 hv3 hv2 hr1 hr2 hrH hD hE
    go_wp2_with fail
    refine hS.out.mono ?_
    rintro e w4 ⟨rfl, hb4⟩
    go_wp2_with fail
    go_ret
    exact ⟨rfl, (hB3.out.alloc hB3.out.size _).trans (hb4.mono (by have := hB3.out.size; simp; omega))⟩
end Go.Proofs.Ytaninbklippdaaa
