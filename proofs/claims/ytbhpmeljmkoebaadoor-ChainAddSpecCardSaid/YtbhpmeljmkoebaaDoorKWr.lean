/- write: contracts. -/
import Derived.Test.YtbhpmeljmkoebaaDoorKSz
import Derived.Test.YtbhpmeljmkoebaaDoorKAs
namespace Go.Proofs.YtbhpmeljmkoebaaDoor.K
open Go.RowKit

set_option maxRecDepth 100000 in
set_option maxHeartbeats 400000 in
theorem writeInt_any (x : GV) (w : World) (B : Nat) (v : Value) (hB : B ≤ w.heap.size) (hv : RV w B x v) (b : Value) (l : List UInt8) (hb : OB w B b l) (hl : l.length ≤ 100000000) :
    Calls Tryd.prog 76 #[b, v] w fun e w' => ∃ v', e = .returned v' ∧ App w w' B b v' (l ++ digs (uns x.num).toNat) := by
  obtain ⟨a, cap, rfl, hk, hn, hs, hby, hl'⟩ := hv.parts
  have hun := uns_range hn
  obtain ⟨u, hu⟩ := Int.eq_ofNat_of_zero_le hun.1
  have hu' := Lib.hid hu
  rw [hu, Int.toNat_natCast]
  rw [hu] at hun
  clear hv hl' hu
  go_enter Tryd.func76, Tryd.ntmps76
  go_wp2_with fail
  refine (unsigned_any _ hn _).mono ?_
  rintro e w1 ⟨rfl, rfl⟩
  rw [hu'.out]
  go_wp2_with fail
  refine (writeNumeral_any u (by omega) _ B b l (by simp; omega) (hb.alloc _) hl).mono ?_
  rintro e w1 ⟨v', rfl, ha⟩
  go_wp2_with fail
  go_ret
  exact ⟨v', rfl, (App.of_below hb ((Below.refl _ _).alloc (Nat.le_refl _) _)).trans ha⟩

set_option maxRecDepth 100000 in
set_option maxHeartbeats 400000 in
theorem writeText_any (x : GV) (hbig : big x ≤ 1000000) (w : World) (B : Nat) (v : Value) (hB : B ≤ w.heap.size) (hv : RV w B x v) (b : Value) (l : List UInt8) (hb : OB w B b l) (hl : l.length ≤ 100000000) :
    Calls Tryd.prog 78 #[b, v] w fun e w' => ∃ v', e = .returned v' ∧ App w w' B b v' (l ++ (digs x.str.size ++ x.str.data.toList)) := by
  obtain ⟨a, cap, rfl, hk, hn, hs, hby, hl'⟩ := hv.parts
  have hsz : x.str.size ≤ 1000000 := by cases x; rw [big] at hbig; simp only [GV.str]; omega
  have hd := digs_le10 x.str.size (by omega)
  have hb1 := hb.alloc (.cells #[.int .i64 x.kind, .int .i64 x.num, .string x.str, .slice a x.els.length cap] 64)
  have hbl := hb.lt
  have hne : b.ownBlock ≠ some w.heap.size := fun e => by have := (hbl _ e).2; omega
  have hw : IntKind.u64.wrap (x.str.size : Int) = x.str.size := IntWalk.u64_in _ (by omega)
  clear hv hl' hs hbl
  go_enter Tryd.func78, Tryd.ntmps78
  go_wp2_with fail
  go_region_held3 (fun w' => w'.cell? ⟨w.heap.size, 0, none⟩ = some (.int .i64 x.kind) ∧ w'.cell? ⟨w.heap.size, 1, none⟩ = some (.int .i64 x.num) ∧ w'.cell? ⟨w.heap.size, 2, none⟩ = some (.string x.str) ∧ w'.cell? ⟨w.heap.size, 3, none⟩ = some (.slice a x.els.length cap))
    (first | go_keep | exact keep4 (fun o => hs2.cell (by have := ha.grow.size; simp at this ⊢; omega) (ha.far (by simp) hne)) (by assumption) | exact keep4 (fun o => ha.cell (by simp) hne) (by assumption))
    (first
      | (go_at_call 83; refine (writeNumeral_any x.str.size (by omega) _ B b l (by simp; omega) hb1.drew hl).mono ?_; rintro e w1 ⟨v', rfl, ha⟩)
      | (refine step_app_str rfl _ _ rfl B v' b _ rfl ((App.of_below hb ((Below.refl _ _).alloc (Nat.le_refl _) _)).trans (App.undrew ha)) x.str rfl (by simp; omega) (by have := ha.grow.size; simp at this; omega) ?_; intro v2 w2 ha2 hs2))
  go_wp2_with fail
  go_ret
  exact ⟨v2, rfl, by rw [← List.append_assoc]; exact ha2⟩

set_option maxRecDepth 100000 in
set_option maxHeartbeats 400000 in
theorem writeList_of (x : GV) (hbig : big x ≤ 1000000)
    (ih : ∀ y ∈ x.els, ∀ (w : World) (B : Nat) (v : Value), B ≤ w.heap.size → RV w B y v → ∀ (b : Value) (l : List UInt8), OB w B b l → l.length + 12 * big y ≤ 50000000 →
      Calls Tryd.prog 61 #[b, v] w fun e w' => ∃ v', e = .returned v' ∧ App w w' B b v' (l ++ enc y))
    (w : World) (B : Nat) (v : Value) (hB : B ≤ w.heap.size) (hv : RV w B x v) (b : Value) (lb : List UInt8) (hb : OB w B b lb) (hlb : lb.length + 10 + 12 * bigAll x.els ≤ 50000000) :
    Calls Tryd.prog 80 #[b, v] w fun e w' => ∃ v', e = .returned v' ∧ App w w' B b v' (lb ++ (digs x.els.length ++ encAll x.els)) := by
  have hnums := Lib.hid hv.nums
  obtain ⟨a, cap, rfl, hk, hn, hs, hby, hl⟩ := hv.parts
  obtain ⟨k, n, s, l⟩ := x
  simp only [GV.kind, GV.num, GV.str, GV.els] at hk hn hs hby hl ih hlb ⊢
  rw [big] at hbig
  have ih' := Lib.hid ih
  clear ih hv hk hn hs hby
  have hln := bigAll_length l
  have hd := digs_le10 l.length (by omega)
  have hb1 := hb.alloc (.cells #[.int .i64 k, .int .i64 n, .string s, .slice a l.length cap] 64)
  have hA0 := App.of_below hb ((Below.refl w.heap.size w).alloc (Nat.le_refl _) (.cells #[.int .i64 k, .int .i64 n, .string s, .slice a l.length cap] 64))
  go_enter Tryd.func80, Tryd.ntmps80
  go_wp2_with fail
  refine (writeNumeral_any l.length (by omega) _ B b lb (by simp; omega) hb1 (by omega)).mono ?_
  rintro e w1 ⟨v1, rfl, ha1⟩
  have hne : b.ownBlock ≠ some w.heap.size := fun e => by have := (hb.lt _ e).2; omega
  have hx3 : w1.cell? ⟨w.heap.size, 3, none⟩ = some (.slice a l.length cap) := by
    rw [ha1.cell (by simp) hne, World.cell?_alloc_at _ _ _ _ rfl]; rfl
  have hz1 := ha1.grow.size
  simp only [World.size_alloc] at hz1
  clear hne
  go_wp2_with fail
  go_loopw [0, 16] (fun c i wr => ∃ k' : Nat, k' ≤ l.length ∧ i = .int .i64 k' ∧ App w wr B b c (lb ++ (digs l.length ++ encAll (l.take k'))) ∧ (lb ++ (digs l.length ++ encAll (l.take k'))).length + 12 * bigAll (l.drop k') ≤ 50000000) (fun _ i _ => l.length - (intOf i).toNat)
  case atStart => exact ⟨0, Nat.zero_le _, rfl, by simpa [encAll] using hA0.trans ha1, by simp [encAll]; omega⟩
  case round =>
    obtain ⟨k', hk, rfl, ha, hle⟩ := hrel
    have hz := ha.grow.size
    by_cases hlt : k' < l.length
    · have hbw := ha.below hb hB
      obtain ⟨c, off, a', c', rfl, hbB, hv, c0, c1, c2, c3⟩ := (hl.under hbw (Nat.le_refl _)).at_ hlt
      have hd := Lib.hid (encAll_take l k' hlt)
      have hbd := bigAll_drop l k' hlt
      have hbe := enc_length l[k'] (hnums.out.els (List.getElem_mem hlt)) (by have := bigAll_mem (List.getElem_mem hlt); omega)
      have hle' : (lb ++ (digs l.length ++ encAll (l.take (k' + 1)))).length + 12 * bigAll (l.drop (k' + 1)) ≤ 50000000 := by
        rw [hd.out]
        simp only [List.length_append] at hle ⊢
        omega
      have hle2 : (lb ++ (digs l.length ++ encAll (l.take k'))).length + 12 * big l[k'] ≤ 50000000 := by omega
      clear hbd hbe
      go_wp2_with fail
      refine (ih'.out l[k'] (List.getElem_mem hlt) _ B _ (by simp; omega) (hv.alloc (by omega) _) _ _ (ha.own.alloc _) hle2).mono ?_
      rintro e w2 ⟨v2, rfl, ha2⟩
      have ha3 := (ha.alloc _).trans ha2
      clear hle hle2
      go_wp2_with fail
      go_roundw
      case rel => exact ⟨k' + 1, by omega, by go_num, by rw [hd.out, ← List.append_assoc (digs _), ← List.append_assoc lb]; exact ha3, hle'⟩
      case measure => simp [intOf]; omega
    · go_wp2_with fail
      go_ret
      exact ⟨_, rfl, by rw [List.take_of_length_le (by omega)] at ha; exact ha⟩

set_option maxRecDepth 100000 in
set_option maxHeartbeats 1600000 in
theorem write_any (x : GV) : big x ≤ 1000000 → formed x = true → ∀ (w : World) (B : Nat) (v : Value), B ≤ w.heap.size → RV w B x v → ∀ (b : Value) (lb : List UInt8), OB w B b lb → lb.length + 12 * big x ≤ 50000000 →
    Calls Tryd.prog 61 #[b, v] w fun e w' => ∃ v', e = .returned v' ∧ App w w' B b v' (lb ++ enc x) := by
  induction x using GV.ind with
  | h k n s l ih =>
    intro hbig hf w B v hB hv b lb hb hlb
    rcases formed_kind hf with rfl | rfl | rfl
    · obtain ⟨a, cap, rfl, hk, hn, hs, hby, hl⟩ := hv.parts
      have hnums := Lib.hid hv.nums
      have hv1 := hv
      simp only [GV.kind, GV.num, GV.str, GV.els] at hk hn hs hby hv1 ⊢
      have hbig' := hbig
      rw [big] at hbig' hlb
      have he : Hid (enc (.mk 1 n s l) = 1 :: digs (uns n).toNat) := by rw [enc]; rfl
      have hne : b.ownBlock ≠ some w.heap.size := fun e => by have := (hb.lt _ e).2; omega
      clear hv hl hk hn hs hby ih hf
      have hT := table1
      have hF := field1write
      go_enter Tryd.func61, Tryd.ntmps61
      go_wp2_with fail
      go_region_held3 (fun w' => w'.cell? ⟨w.heap.size, 0, none⟩ = some (.int .i64 1) ∧ w'.cell? ⟨w.heap.size, 1, none⟩ = some (.int .i64 n) ∧ w'.cell? ⟨w.heap.size, 2, none⟩ = some (.string s) ∧ w'.cell? ⟨w.heap.size, 3, none⟩ = some (.slice a l.length cap))
        (first | exact keep4 (fun o => ha3.cell (by have h1 := hs2.grow.size; have h2 := hb1.size; simp only [World.size_alloc] at h1 h2; show w.heap.size < _; omega) (hs2.far (by have h2 := hb1.size; simp only [World.size_alloc] at h2 ⊢; omega) hne)) (by assumption) | exact keep4 (fun o => hs2.cell (by have h2 := hb1.size; simp only [World.size_alloc] at h2 ⊢; show w.heap.size < _; omega) hne) (by assumption) | exact box4 (by assumption) | exact box4_2 (by assumption) | go_keep)
        (first
          | (go_at_call 73; refine (writers_any _).mono ?_; rintro e w1 ⟨rfl, hb1⟩; unfold tableV; have hb1 := unD hb1; simp only [World.size_drew, World.size_alloc] at hb1)
          | (refine step_app rfl _ _ rfl B b b lb rfl ((App.of_below hb (unbox hb1)).alloc _) w1.heap.size [1] 1 rfl (one_byte (by rw [World.cell?_alloc_at _ _ _ _ rfl]; rfl)) (by simp) (by simp; omega) (by have := hb1.size; simp at this ⊢; omega) ?_; intro v2 w2 ha2 hs2)
          | (refine step_app rfl _ _ rfl B b b lb rfl (App.of_below hb (unbox2 hb1)) (w.heap.size + 1) [1] 1 rfl (one_byte (second_cell hb1)) (by simp) (by simp; omega) (by have := hb1.size; simp at this ⊢; omega) ?_; intro v2 w2 ha2 hs2)
          | (go_at_call 76; refine (writeInt_any (.mk 1 n s l) _ B _ (by have := ha2.grow.size; omega) (hv1.under (ha2.below hb hB) (Nat.le_refl _)) _ _ ha2.own (by simp; omega)).mono ?_; rintro e w3 ⟨v3, rfl, ha3⟩))
      all_goals
        go_wp2_with fail
        go_ret
        exact ⟨v3, rfl, by rw [he.out]; simpa [GV.num, GV.str, GV.els] using ha2.trans ha3⟩
    · obtain ⟨a, cap, rfl, hk, hn, hs, hby, hl⟩ := hv.parts
      have hnums := Lib.hid hv.nums
      have hv1 := hv
      simp only [GV.kind, GV.num, GV.str, GV.els] at hk hn hs hby hv1 ⊢
      have hbig' := hbig
      rw [big] at hbig' hlb
      have he : Hid (enc (.mk 2 n s l) = 2 :: (digs s.size ++ s.data.toList)) := by rw [enc]; rfl
      have hne : b.ownBlock ≠ some w.heap.size := fun e => by have := (hb.lt _ e).2; omega
      clear hv hl hk hn hs hby ih hf
      have hT := table2
      have hF := field2write
      go_enter Tryd.func61, Tryd.ntmps61
      go_wp2_with fail
      go_region_held3 (fun w' => w'.cell? ⟨w.heap.size, 0, none⟩ = some (.int .i64 2) ∧ w'.cell? ⟨w.heap.size, 1, none⟩ = some (.int .i64 n) ∧ w'.cell? ⟨w.heap.size, 2, none⟩ = some (.string s) ∧ w'.cell? ⟨w.heap.size, 3, none⟩ = some (.slice a l.length cap))
        (first | exact keep4 (fun o => ha3.cell (by have h1 := hs2.grow.size; have h2 := hb1.size; simp only [World.size_alloc] at h1 h2; show w.heap.size < _; omega) (hs2.far (by have h2 := hb1.size; simp only [World.size_alloc] at h2 ⊢; omega) hne)) (by assumption) | exact keep4 (fun o => hs2.cell (by have h2 := hb1.size; simp only [World.size_alloc] at h2 ⊢; show w.heap.size < _; omega) hne) (by assumption) | exact box4 (by assumption) | exact box4_2 (by assumption) | go_keep)
        (first
          | (go_at_call 73; refine (writers_any _).mono ?_; rintro e w1 ⟨rfl, hb1⟩; unfold tableV; have hb1 := unD hb1; simp only [World.size_drew, World.size_alloc] at hb1)
          | (refine step_app rfl _ _ rfl B b b lb rfl ((App.of_below hb (unbox hb1)).alloc _) w1.heap.size [2] 1 rfl (one_byte (by rw [World.cell?_alloc_at _ _ _ _ rfl]; rfl)) (by simp) (by simp; omega) (by have := hb1.size; simp at this ⊢; omega) ?_; intro v2 w2 ha2 hs2)
          | (refine step_app rfl _ _ rfl B b b lb rfl (App.of_below hb (unbox2 hb1)) (w.heap.size + 1) [2] 1 rfl (one_byte (second_cell hb1)) (by simp) (by simp; omega) (by have := hb1.size; simp at this ⊢; omega) ?_; intro v2 w2 ha2 hs2)
          | (go_at_call 78; refine (writeText_any (.mk 2 n s l) hbig _ B _ (by have := ha2.grow.size; omega) (hv1.under (ha2.below hb hB) (Nat.le_refl _)) _ _ ha2.own (by simp; omega)).mono ?_; rintro e w3 ⟨v3, rfl, ha3⟩))
      all_goals
        go_wp2_with fail
        go_ret
        exact ⟨v3, rfl, by rw [he.out]; simpa [GV.num, GV.str, GV.els] using ha2.trans ha3⟩
    · obtain ⟨a, cap, rfl, hk, hn, hs, hby, hl⟩ := hv.parts
      have hnums := Lib.hid hv.nums
      have hv1 := hv
      simp only [GV.kind, GV.num, GV.str, GV.els] at hk hn hs hby hv1 ⊢
      have hbig' := hbig
      rw [big] at hbig' hlb
      have hln := encAll_length l (fun x hx => hnums.out.els hx) (by omega)
      have hfa : formedAll l = true := by rw [formed] at hf; simp at hf; exact hf.2.2
      have ih' := Lib.hid (fun y (hy : y ∈ (GV.mk 3 n s l).els) (w : World) (B : Nat) (v : Value) (hB : B ≤ w.heap.size) (hv : RV w B y v) (b : Value) (l' : List UInt8) (hb : OB w B b l') (hl : l'.length + 12 * big y ≤ 50000000) => ih y hy (by have := bigAll_mem (show y ∈ l from hy); omega) (formedAll_mem hfa hy) w B v hB hv b l' hb hl)
      have he : Hid (enc (.mk 3 n s l) = 3 :: (digs l.length ++ encAll l)) := by rw [enc]; rfl
      have hne : b.ownBlock ≠ some w.heap.size := fun e => by have := (hb.lt _ e).2; omega
      clear hv hl hk hn hs hby ih hfa hf
      have hT := table3
      have hF := field3write
      go_enter Tryd.func61, Tryd.ntmps61
      go_wp2_with fail
      go_region_held3 (fun w' => w'.cell? ⟨w.heap.size, 0, none⟩ = some (.int .i64 3) ∧ w'.cell? ⟨w.heap.size, 1, none⟩ = some (.int .i64 n) ∧ w'.cell? ⟨w.heap.size, 2, none⟩ = some (.string s) ∧ w'.cell? ⟨w.heap.size, 3, none⟩ = some (.slice a l.length cap))
        (first | exact keep4 (fun o => ha3.cell (by have h1 := hs2.grow.size; have h2 := hb1.size; simp only [World.size_alloc] at h1 h2; show w.heap.size < _; omega) (hs2.far (by have h2 := hb1.size; simp only [World.size_alloc] at h2 ⊢; omega) hne)) (by assumption) | exact keep4 (fun o => hs2.cell (by have h2 := hb1.size; simp only [World.size_alloc] at h2 ⊢; show w.heap.size < _; omega) hne) (by assumption) | exact box4 (by assumption) | exact box4_2 (by assumption) | go_keep)
        (first
          | (go_at_call 73; refine (writers_any _).mono ?_; rintro e w1 ⟨rfl, hb1⟩; unfold tableV; have hb1 := unD hb1; simp only [World.size_drew, World.size_alloc] at hb1)
          | (refine step_app rfl _ _ rfl B b b lb rfl ((App.of_below hb (unbox hb1)).alloc _) w1.heap.size [3] 1 rfl (one_byte (by rw [World.cell?_alloc_at _ _ _ _ rfl]; rfl)) (by simp) (by simp; omega) (by have := hb1.size; simp at this ⊢; omega) ?_; intro v2 w2 ha2 hs2)
          | (refine step_app rfl _ _ rfl B b b lb rfl (App.of_below hb (unbox2 hb1)) (w.heap.size + 1) [3] 1 rfl (one_byte (second_cell hb1)) (by simp) (by simp; omega) (by have := hb1.size; simp at this ⊢; omega) ?_; intro v2 w2 ha2 hs2)
          | (go_at_call 80; refine (writeList_of (.mk 3 n s l) hbig ih'.out _ B _ (by have := ha2.grow.size; omega) (hv1.under (ha2.below hb hB) (Nat.le_refl _)) _ _ ha2.own (by simp [GV.els]; omega)).mono ?_; rintro e w3 ⟨v3, rfl, ha3⟩))
      all_goals
        go_wp2_with fail
        go_ret
        exact ⟨v3, rfl, by rw [he.out]; simpa [GV.num, GV.str, GV.els] using ha2.trans ha3⟩
end Go.Proofs.YtbhpmeljmkoebaaDoor.K
