/- Stop, both. -/
import Derived.Test.YtalkbccofiiojaaRr
namespace Go.Proofs.Ytalkbccofiiojaa
open Go.RowKit

theorem stop_range {l : Int} : (l < 0 ∨ (¬ l < 0 ∧ (65536 : Int) < l)) ∨ (¬ l < 0 ∧ ¬ (65536 : Int) < l) := by omega
/-- What was read, and what is new. -/
def Sn (S : Nat → Prop) (w w' : World) (b : Nat) : Prop := S b ∨ (w.heap.size ≤ b ∧ b < w'.heap.size)
theorem Sn.lt {S : Nat → Prop} {w w' : World} (hS : ∀ b, S b → b < w.heap.size) (hb : Below w.heap.size w w') (b : Nat) (h : Sn S w w' b) : b < w'.heap.size := by
  rcases h with h | h
  · exact Nat.lt_of_lt_of_le (hS b h) hb.size
  · exact h.2
theorem Kept.of {S : Nat → Prop} {B : Nat} {w w' : World} (hS : ∀ b, S b → b < B) (hb : Below B w w') : Kept S w w' := fun b o h => hb.cell (p := ⟨b, o, none⟩) (hS b h)
/-- What a function gives that hands back a disk. -/
def DkPost (S : Nat → Prop) (x : Dk × Int) (w : World) (e : Ending) (w' : World) : Prop :=
  Below w.heap.size w w' ∧ ∃ A c A' c', e = .returned (.tuple #[.agg #[.slice A x.1.secs.length c, .slice A' x.1.pend.length c', .int .i64 x.1.left, .bool x.1.stop], .int .i64 x.2]) ∧ DR w' (Sn S w w') A c A' c' x.1
theorem DkPost.of {S : Nat → Prop} {x : Dk × Int} {y : Dk} {m : Int} {w w' : World} {e : Ending} (h : x = (y, m)) (hb : Below w.heap.size w w') (A : Option Addr) (c : Nat) (A' : Option Addr) (c' : Nat)
    (he : e = .returned (.tuple #[.agg #[.slice A y.secs.length c, .slice A' y.pend.length c', .int .i64 y.left, .bool y.stop], .int .i64 m])) (hd : DR w' (Sn S w w') A c A' c' y) : DkPost S x w e w' := by
  subst h; exact ⟨hb, A, c, A', c', he, hd⟩
theorem DkPost.get {S : Nat → Prop} {x : Dk × Int} {y : Dk} {m : Int} {w w' : World} {e : Ending} (p : DkPost S x w e w') (h : x = (y, m)) :
    ∃ A c A' c', e = .returned (.tuple #[.agg #[.slice A y.secs.length c, .slice A' y.pend.length c', .int .i64 y.left, .bool y.stop], .int .i64 m]) ∧ DR w' (Sn S w w') A c A' c' y ∧ Below w.heap.size w w' := by
  subst h
  obtain ⟨hb, A, c, A', c', he, hd⟩ := p
  exact ⟨A, c, A', c', he, hd, hb⟩
theorem DkPost.fail {S : Nat → Prop} {x : Dk × Int} {m : Int} {w w' : World} {e : Ending} (h : x = (zeroDk, m)) (hb : Below w.heap.size w w')
    (he : e = .returned (.tuple #[.agg #[.slice none 0 0, .slice none 0 0, .int .i64 0, .bool false], .int .i64 m])) : DkPost S x w e w' :=
  DkPost.of h hb none 0 none 0 he (DR.zero _ _)

theorem DR.relabel {w : World} {S : Nat → Prop} {A A' : Option Addr} {c c' : Nat} {d : Dk} (h : DR w S A c A' c' d) {l : Int} (hl : I64 l) (st : Bool) : DR w S A c A' c' ⟨d.secs, d.pend, l, st⟩ := ⟨h.cap, h.max, h.cap', h.max', h.secs, h.pend, hl⟩
theorem DR.upw {S : Nat → Prop} {w0 w1 : World} {A A' : Option Addr} {c c' : Nat} {d : Dk} (h : DR w0 S A c A' c' d) (hS : ∀ b, S b → b < w0.heap.size) (hb : Below w0.heap.size w0 w1) : DR w1 (Sn S w0 w1) A c A' c' d := (h.keep (Kept.of hS hb)).mono fun _ hs => .inl hs

set_option maxRecDepth 100000 in
set_option maxHeartbeats 2000000 in
theorem Stop_any (d : Dk) (l : Int) (hl : I64 l) (w : World) (A A' : Option Addr) (c c' : Nat) (S : Nat → Prop) (hS : ∀ b, S b → b < w.heap.size) (hd : DR w S A c A' c' d) :
    Calls Try.prog 25 #[.agg #[.slice A d.secs.length c, .slice A' d.pend.length c', .int .i64 d.left, .bool d.stop], .int .i64 l] w (DkPost S (stopD d l) w) := by
  have hB := Lib.hid (((Below.refl _ w).alloc (Nat.le_refl _) (.cells #[.slice A d.secs.length c, .slice A' d.pend.length c', .int .i64 d.left, .bool d.stop] 25)).alloc (by simp) (.cells #[.slice none 0 0, .slice none 0 0, .int .i64 0, .bool false] 25))
  have hC := Lib.hid (runs_any d _ A A' c c' w.heap.size (by simp; omega) ((hd.mono hS).keep (Kept.below hB.out)))
  have hdh := Lib.hid hd
  clear hd
  go_enter Try.func25, Try.ntmps25
  go_wp2_with fail
  refine hC.out.mono ?_
  rintro e w1 ⟨rfl, hb1⟩
  simp only [World.size_alloc] at hb1
  obtain ⟨z0, z1⟩ := bcell hb1
  obtain ⟨y0, y1, y2, y3⟩ := box4_2 hb1
  have hz := hb1.size
  simp only [World.size_alloc] at hz
  have hB1 := Lib.hid (hB.out.trans (hb1.mono (by omega)))
  clear hb1
  cases hr : runB d with
  | false =>
    have hv := Lib.hid (show stopD d l = (zeroDk, 40) by unfold stopD; rw [if_pos hr])
    clear hr
    go_wp2_with fail
    exact bodyPost_ret (v := .tuple #[.agg #[.slice none 0 0, .slice none 0 0, .int .i64 0, .bool false], .int .i64 40]) (by simp [results, Try.results25, go_sem, z0]) rfl (DkPost.fail hv.out ((((hB1.out.setCell (by simp) _).setCell (by simp) _).setCell (by simp) _).setCell (by simp) _) rfl)
  | true =>
    rcases stop_range (l := l) with (h | ⟨h0, h⟩) | ⟨h0, h1⟩
    · have hv := Lib.hid (show stopD d l = (zeroDk, 1) by unfold stopD; rw [hr, if_neg (by decide), if_pos (by omega)])
      clear hr
      go_wp2_with fail
      exact bodyPost_ret (v := .tuple #[.agg #[.slice none 0 0, .slice none 0 0, .int .i64 0, .bool false], .int .i64 1]) (by simp [results, Try.results25, go_sem, z0]) rfl (DkPost.fail hv.out ((((hB1.out.setCell (by simp) _).setCell (by simp) _).setCell (by simp) _).setCell (by simp) _) rfl)
    · have hv := Lib.hid (show stopD d l = (zeroDk, 1) by unfold stopD; rw [hr, if_neg (by decide), if_pos (by omega)])
      clear hr
      go_wp2_with fail
      exact bodyPost_ret (v := .tuple #[.agg #[.slice none 0 0, .slice none 0 0, .int .i64 0, .bool false], .int .i64 1]) (by simp [results, Try.results25, go_sem, z0]) rfl (DkPost.fail hv.out ((((hB1.out.setCell (by simp) _).setCell (by simp) _).setCell (by simp) _).setCell (by simp) _) rfl)
    · have hv := Lib.hid (show stopD d l = (⟨d.secs, d.pend, l, d.stop⟩, 0) by unfold stopD; rw [hr, if_neg (by decide), if_neg (by omega)])
      clear hr
      go_wp2_with fail
      exact bodyPost_ret (v := .tuple #[.agg #[.slice A d.secs.length c, .slice A' d.pend.length c', .int .i64 l, .bool d.stop], .int .i64 0]) (by simp [results, Try.results25, go_sem, z0]) rfl (DkPost.of hv.out (((((hB1.out.setCell (by simp) _).setCell (by simp) _).setCell (by simp) _).setCell (by simp) _).setCell (by simp) _) A c A' c' rfl ((hdh.out.upw hS (((((hB1.out.setCell (by simp) _).setCell (by simp) _).setCell (by simp) _).setCell (by simp) _).setCell (by simp) _)).relabel hl _))

set_option maxRecDepth 100000 in
set_option maxHeartbeats 2000000 in
theorem rStop_any (d : Dk) (l : Int) (hl : I64 l) (w : World) (A A' : Option Addr) (c c' : Nat) (S : Nat → Prop) (hS : ∀ b, S b → b < w.heap.size) (hd : DR w S A c A' c' d) :
    Calls Try.prog 26 #[.agg #[.slice A d.secs.length c, .slice A' d.pend.length c', .int .i64 d.left, .bool d.stop], .int .i64 l] w (DkPost S (stopD d l) w) := by
  have hB := Lib.hid (((Below.refl _ w).alloc (Nat.le_refl _) (.cells #[.slice A d.secs.length c, .slice A' d.pend.length c', .int .i64 d.left, .bool d.stop] 25)).alloc (by simp) (.cells #[.slice none 0 0, .slice none 0 0, .int .i64 0, .bool false] 25))
  have hC := Lib.hid (rCheck_any d _ A A' c c' w.heap.size (by simp; omega) ((hd.mono hS).keep (Kept.below hB.out)))
  have hdh := Lib.hid hd
  clear hd
  go_enter Try.func26, Try.ntmps26
  go_wp2_with fail
  refine hC.out.mono ?_
  rintro e w1 ⟨rfl, hb1⟩
  simp only [World.size_alloc] at hb1
  obtain ⟨z0, z1⟩ := bcell hb1
  obtain ⟨y0, y1, y2, y3⟩ := box4_2 hb1
  have hz := hb1.size
  simp only [World.size_alloc] at hz
  have hB1 := Lib.hid (hB.out.trans (hb1.mono (by omega)))
  clear hb1
  rcases chk_eq d with ⟨h1, h2⟩ | ⟨h1, h2⟩
  · rw [h2]
    have h1' := Lib.hid h1
    clear h1 h2
    cases hs : d.stop with
    | true =>
      have hr := Lib.hid (show runB d = false by unfold runB; rw [hs]; simp)
      rw [hs] at y3
      have hv := Lib.hid (show stopD d l = (zeroDk, 40) by unfold stopD; rw [if_pos hr.out])
      go_wp2_with fail
      exact bodyPost_ret (v := .tuple #[.agg #[.slice none 0 0, .slice none 0 0, .int .i64 0, .bool false], .int .i64 40]) (by simp [results, Try.results26, go_sem, z0]) rfl (DkPost.fail hv.out ((((hB1.out.setCell (by simp) _).setCell (by simp) _).setCell (by simp) _).setCell (by simp) _) rfl)
    | false =>
      have hr := Lib.hid (show runB d = true by unfold runB; rw [hs, h1'.out]; rfl)
      rw [hs] at y3
      have hs' := Lib.hid hs
      rcases stop_range (l := l) with (h | ⟨h0, h⟩) | ⟨h0, h1⟩
      · have hv := Lib.hid (show stopD d l = (zeroDk, 1) by unfold stopD; rw [hr.out, if_neg (by decide), if_pos (by omega)])
        go_wp2_with fail
        exact bodyPost_ret (v := .tuple #[.agg #[.slice none 0 0, .slice none 0 0, .int .i64 0, .bool false], .int .i64 1]) (by simp [results, Try.results26, go_sem, z0]) rfl (DkPost.fail hv.out ((((hB1.out.setCell (by simp) _).setCell (by simp) _).setCell (by simp) _).setCell (by simp) _) rfl)
      · have hv := Lib.hid (show stopD d l = (zeroDk, 1) by unfold stopD; rw [hr.out, if_neg (by decide), if_pos (by omega)])
        go_wp2_with fail
        exact bodyPost_ret (v := .tuple #[.agg #[.slice none 0 0, .slice none 0 0, .int .i64 0, .bool false], .int .i64 1]) (by simp [results, Try.results26, go_sem, z0]) rfl (DkPost.fail hv.out ((((hB1.out.setCell (by simp) _).setCell (by simp) _).setCell (by simp) _).setCell (by simp) _) rfl)
      · have hv := Lib.hid (show stopD d l = (⟨d.secs, d.pend, l, false⟩, 0) by unfold stopD; rw [hr.out, if_neg (by decide), if_neg (by omega), hs'.out])
        go_wp2_with fail
        exact bodyPost_ret (v := .tuple #[.agg #[.slice A d.secs.length c, .slice A' d.pend.length c', .int .i64 l, .bool false], .int .i64 0]) (by simp [results, Try.results26, go_sem, z0]) rfl (DkPost.of hv.out (((((hB1.out.setCell (by simp) _).setCell (by simp) _).setCell (by simp) _).setCell (by simp) _).setCell (by simp) _) A c A' c' rfl ((hdh.out.upw hS (((((hB1.out.setCell (by simp) _).setCell (by simp) _).setCell (by simp) _).setCell (by simp) _).setCell (by simp) _)).relabel hl _))
  · rw [h2]
    have hr := Lib.hid (show runB d = false by unfold runB; rw [h1]; rfl)
    have hv := Lib.hid (show stopD d l = (zeroDk, 40) by unfold stopD; rw [if_pos hr.out])
    clear h1 h2
    go_wp2_with fail
    exact bodyPost_ret (v := .tuple #[.agg #[.slice none 0 0, .slice none 0 0, .int .i64 0, .bool false], .int .i64 40]) (by simp [results, Try.results26, go_sem, z0]) rfl (DkPost.fail hv.out ((((hB1.out.setCell (by simp) _).setCell (by simp) _).setCell (by simp) _).setCell (by simp) _) rfl)
end Go.Proofs.Ytalkbccofiiojaa
