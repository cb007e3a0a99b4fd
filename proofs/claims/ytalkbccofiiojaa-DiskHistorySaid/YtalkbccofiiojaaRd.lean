/- What writes and syncs do to reads, plainly. -/
import Derived.Test.YtalkbccofiiojaaSn
import Derived.Test.YtalkbccofiiojaaLs
import Derived.ChangeShapes
namespace Go.Proofs.Ytalkbccofiiojaa
open Go.RowKit

theorem trodAll_five {H : Type} {enc : TypeId × Value → H} {P : Program} {w : World} {base : Nat} {spare : Nat → Bool} {held : Bool} {t0 t1 t2 t3 t4 : TypeId} {args : Array Value} {ds : List (DataW H)} {ps : List MemPlace}
    (h : DataW.TrodAll enc P w base spare held [t0, t1, t2, t3, t4] args.toList ds ps) :
    ∃ v0 v1 v2 v3 v4 d0 d1 d2 d3 d4 p0 p1 p2 p3 p4, args = #[v0, v1, v2, v3, v4] ∧ ds = [d0, d1, d2, d3, d4] ∧ ps = p0 ++ p1 ++ p2 ++ p3 ++ p4 ∧ DataW.Trod enc P w base spare held t0 v0 d0 p0 ∧ DataW.Trod enc P w base spare held t1 v1 d1 p1 ∧
      DataW.Trod enc P w base spare held t2 v2 d2 p2 ∧ DataW.Trod enc P w base spare held t3 v3 d3 p3 ∧ DataW.Trod enc P w base spare held t4 v4 d4 p4 := by
  obtain ⟨v0, _, d0, _, p0, _, hargs, rfl, rfl, h0, k0⟩ := Go.ChangeShapes.trodAll_cons h
  obtain ⟨v1, _, d1, _, p1, _, rfl, rfl, rfl, h1, k1⟩ := Go.ChangeShapes.trodAll_cons k0
  obtain ⟨v2, _, d2, _, p2, _, rfl, rfl, rfl, h2, k2⟩ := Go.ChangeShapes.trodAll_cons k1
  obtain ⟨v3, _, d3, _, p3, _, rfl, rfl, rfl, h3, k3⟩ := Go.ChangeShapes.trodAll_cons k2
  obtain ⟨v4, _, d4, _, p4, _, rfl, rfl, rfl, h4, k4⟩ := Go.ChangeShapes.trodAll_cons k3
  obtain ⟨rfl, rfl, rfl⟩ := Go.ChangeShapes.trodAll_nil k4
  exact ⟨v0, v1, v2, v3, v4, d0, d1, d2, d3, d4, p0, p1, p2, p3, p4, by cases args; simp_all, rfl, by simp, h0, h1, h2, h3, h4⟩

def wrD (d : Dk) (a : Int) (b : List UInt8) : Dk := ⟨d.secs, d.pend ++ [⟨a, pad b⟩], d.left, d.stop⟩
theorem writeD_cases {d : Dk} {a : Int} {b : List UInt8} (hb : b.length ≤ 128) : writeD d a b = (zeroDk, 40) ∨ writeD d a b = (zeroDk, 2) ∨ ((runB d && hasB d a) = true ∧ d.pend.length ≠ 4096 ∧ writeD d a b = (wrD d a b, 0)) := by
  unfold writeD wrD
  cases h : (runB d && hasB d a) with
  | false => exact .inl (by rw [if_pos rfl])
  | true =>
    rw [if_neg (by decide), if_neg (by omega)]
    by_cases hp : d.pend.length = 4096
    · rw [if_pos hp]; exact .inr (.inl rfl)
    · rw [if_neg hp]; exact .inr (.inr ⟨rfl, hp, rfl⟩)
theorem writeD_cases' {d : Dk} {a : Int} {b : List UInt8} (hb : b.length ≤ 128) (h : (runB d && hasB d a) = true) : writeD d a b = (zeroDk, 2) ∨ (d.pend.length ≠ 4096 ∧ writeD d a b = (wrD d a b, 0)) := by
  rcases writeD_cases (d := d) (a := a) hb with h1 | h1 | ⟨-, h1, h2⟩
  · unfold writeD at h1
    rw [h, if_neg (by decide), if_neg (by omega)] at h1
    split at h1
    · injection h1 with _ h1; omega
    · injection h1 with _ h1; omega
  · exact .inl h1
  · exact .inr ⟨h1, h2⟩
theorem run_wr {d : Dk} {a : Int} {b : List UInt8} (h : (runB d && hasB d a) = true) (hn : d.pend.length ≠ 4096) : runB (wrD d a b) = true := by
  rw [Bool.and_eq_true, hasB_iff, runB_iff, chkB_iff] at h
  obtain ⟨⟨⟨h1, h2, h3, h4, h5, h6, h7⟩, h8⟩, ha⟩ := h
  rw [runB_iff, chkB_iff]
  refine ⟨⟨h1, h2, ?_, h4, h5, h6, ?_⟩, h8⟩
  · simp only [wrD, List.length_append, List.length_singleton]; omega
  · intro x hx
    simp only [wrD, List.mem_append, List.mem_singleton] at hx
    rcases hx with hx | rfl
    · exact h7 x hx
    · exact ⟨ha, pad_length b⟩
theorem has_wr (d : Dk) (a o : Int) (b : List UInt8) : hasB (wrD d a b) o = hasB d o := rfl
theorem readL_wr_same (d : Dk) (a : Int) (b : List UInt8) : readL (wrD d a b) a = pad b := by simp [readL, lastW, wrD, List.foldl_append]
theorem readL_wr_other (d : Dk) (a o : Int) (b : List UInt8) (h : a ≠ o) : readL (wrD d a b) o = readL d o := by simp [readL, lastW, wrD, List.foldl_append, h]
theorem pad_take {b : List UInt8} (h : b.length ≤ 128) : (pad b).take b.length = b := by
  unfold pad
  rw [List.take_of_length_le h, List.take_left]
theorem applyW_getD : ∀ (l : List Wr) (s : List (List UInt8)) (k : Nat), k < s.length → (∀ x ∈ l, 0 ≤ x.pl) → (applyW s l).getD k [] = lastW l k (s.getD k [])
  | [], _, _, _, _ => rfl
  | x :: l, s, k, hk, h => by
    have hx := h x (by simp)
    have ih := applyW_getD l (s.set x.pl.toNat x.data) k (by simpa using hk) (fun y hy => h y (by simp [hy]))
    show (applyW (s.set x.pl.toNat x.data) l).getD k [] = lastW l k (if x.pl = k then x.data else s.getD k [])
    rw [ih]
    congr 1
    by_cases he : x.pl = k
    · rw [if_pos he]
      have : x.pl.toNat = k := by omega
      rw [this]
      simp [List.getD, hk]
    · rw [if_neg he]
      have : x.pl.toNat ≠ k := by omega
      simp [List.getD, List.getElem?_set, this]
def syD (d : Dk) : Dk := ⟨applyW d.secs d.pend, [], lessD d.left d.pend.length, false⟩
theorem syncD_cases {d : Dk} (h : runB d = true) : (perfN d = d.pend.length ∧ syncD d = (syD d, 0)) ∨ ∃ z : Dk, z.stop = true ∧ syncD d = (z, 40) := by
  unfold syncD syD
  rw [h, if_neg (by decide)]
  by_cases hp : perfN d = d.pend.length
  · rw [if_pos hp]; exact .inl ⟨hp, rfl⟩
  · rw [if_neg hp]; exact .inr ⟨_, rfl, rfl⟩
theorem run_sync {d : Dk} (h : runB d = true) (hp : perfN d = d.pend.length) : runB (syD d) = true := by
  rw [runB_iff, chkB_iff] at h
  obtain ⟨⟨h1, h2, h3, h4, h5, h6, h7⟩, h8⟩ := h
  have hl : -1 ≤ lessD d.left d.pend.length ∧ lessD d.left d.pend.length ≤ 65536 := by
    unfold perfN at hp
    unfold lessD
    split at hp
    · rename_i h; rw [if_pos h]; omega
    · rename_i h; rw [if_neg h]; omega
  rw [runB_iff, chkB_iff]
  refine ⟨⟨?_, ?_, Nat.zero_le _, hl.1, hl.2, applyW_128 _ _ h6 (fun x hx => (h7 x hx).2), ?_⟩, rfl⟩
  · show 1 ≤ (applyW d.secs d.pend).length
    rw [applyW_length]; exact h1
  · show (applyW d.secs d.pend).length ≤ 4096
    rw [applyW_length]; exact h2
  · intro x hx
    simp [syD] at hx
theorem read_sync {d : Dk} (h : runB d = true) {k : Nat} (hk : k < d.secs.length) : readL (syD d) k = readL d k := by
  rw [runB_iff, chkB_iff] at h
  have := applyW_getD d.pend d.secs k hk (fun x hx => (h.1.2.2.2.2.2.2 x hx).1.1)
  unfold readL syD
  rw [show ((k : Int)).toNat = k by omega]
  exact this
theorem has_nat {d : Dk} {k : Nat} (hk : k < d.secs.length) : hasB d (k : Int) = true := by rw [hasB_iff]; omega
theorem has_sync (d : Dk) (a : Int) : hasB (syD d) a = hasB d a := by unfold hasB syD; rw [applyW_length]
theorem len_sync (d : Dk) : (syD d).secs.length = d.secs.length := applyW_length _ _
theorem chk_run {d : Dk} (h : runB d = true) : chk d = 0 := by unfold chk; rw [if_pos (runB_iff.1 h).1]
end Go.Proofs.Ytalkbccofiiojaa
