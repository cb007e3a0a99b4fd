/- Encode, Size; the reference's encode, Encode, Size; its makers of values: contracts. -/
import Derived.Test.YtbhpmeljmkoebaaDoorKWr
namespace Go.Proofs.YtbhpmeljmkoebaaDoor.K
open Go.RowKit

theorem enc_pos (x : GV) : 1 ≤ (enc x).length := by
  obtain ⟨k, n, s, l⟩ := x
  rw [enc]
  split
  · simp
  · split <;> simp

/-- What Encode gives. -/
def encB (x : GV) : List UInt8 := if chk x = 0 then enc x else []
theorem chk_zero {x : GV} (h : chk x = 0) : formed x = true ∧ dep x ≤ 16 := by
  unfold chk at h
  split at h
  · split at h
    · omega
    · exact ⟨by assumption, by omega⟩
  · omega

def EncPost (x : GV) (w : World) (e : Ending) (w' : World) : Prop := ∃ v', e = .returned (.tuple #[v', .int .i64 (chk x)]) ∧ OB w' w.heap.size v' (encB x) ∧ Below w.heap.size w w'

theorem make_any (n : Nat) (h : n ≤ 100000000) : ∀ W, (Instr.makeSlice 23 (.int .i64 0) (.int .i64 (n : Int))).run Tryd.prog W = .ok (.slice (some ⟨W.heap.size, 0, none⟩) 0 n) (W.alloc (.cells (madeCells #[.int .u8 0] n) 5)) := fun W => by
  obtain ⟨i0, hi0, hz0, hz1, hz2⟩ := info_parts Tryd.info8
  have hr := run_make (P := Tryd.prog) W 23 5 i0 (.int .u8 0) Tryd.underlying23 hi0 hz0 .i64 .i64 0 n (by omega) (by omega) (by rw [hz2]; omega) (by omega)
  rw [hr, hz1]
  simp [Value.cells]

theorem OB.made (w : World) (B n : Nat) (hB : B ≤ w.heap.size) (hn : n ≤ 100000000) : OB (w.alloc (.cells (madeCells #[.int .u8 0] n) 5)) B (.slice (some ⟨w.heap.size, 0, none⟩) 0 n) [] :=
  World.ownsRow_made w _ n hB (by unfold maxLen; omega) (by simp [size_madeCells])

set_option maxRecDepth 100000 in
set_option maxHeartbeats 800000 in
theorem Encode_any (x : GV) (hbig : big x ≤ 1000000) (w : World) (B : Nat) (v : Value) (hB : B ≤ w.heap.size) (hv : RV w B x v) : Calls Tryd.prog 52 #[v] w (EncPost x w) := by
  have hC := Lib.hid (check_any x hbig)
  have hnums := Lib.hid hv.nums
  obtain ⟨a, cap, rfl, hk, hn, hs, hby, hl⟩ := hv.parts
  have hv1 := (hv.alloc hB (.cells #[.int .i64 x.kind, .int .i64 x.num, .string x.str, .slice a x.els.length cap] 64)).mono hB
  clear hv hl
  by_cases hc : chk x = 0
  · obtain ⟨hf, hd⟩ := chk_zero hc
    have hc' := Lib.hid hc
    have hlen := enc_length x hnums.out hbig
    have hS := Lib.hid (size_any x hbig hf)
    have hmk := make_any (enc x).length (by omega)
    have hW := Lib.hid (write_any x hbig hf)
    have he : Hid (encB x = enc x) := by unfold encB; rw [if_pos hc]; rfl
    clear hc hf
    go_enter Tryd.func52, Tryd.ntmps52
    go_wp2_with fail
    refine (hC.out _ _ _ (by simp) hv1).mono ?_
    rintro e w1 ⟨rfl, hb1⟩
    rw [hc'.out]
    simp only [World.size_alloc] at hb1
    obtain ⟨hx0, hx1, hx2, hx3⟩ := box4 hb1
    have hz := hb1.size
    simp only [World.size_alloc] at hz
    go_wp2_with fail
    go_region_held3 (fun w' => w'.cell? ⟨w.heap.size, 0, none⟩ = some (.int .i64 x.kind) ∧ w'.cell? ⟨w.heap.size, 1, none⟩ = some (.int .i64 x.num) ∧ w'.cell? ⟨w.heap.size, 2, none⟩ = some (.string x.str) ∧ w'.cell? ⟨w.heap.size, 3, none⟩ = some (.slice a x.els.length cap))
      (first | exact keep4 (fun o => ha3.cell (by simp; omega) (by simp [Value.ownBlock]; omega)) (by assumption) | exact box4 hb2 | go_keep)
      (first
        | (go_at_call 62; refine (hS.out _ w.heap.size _ (by simp; omega) (hv1.under hb1 (by omega)).drew).mono ?_; rintro e w2 ⟨rfl, hb2⟩; have hb2 := hb1.trans ((unD hb2).mono (by simp; omega)); have hz2 : w.heap.size + 1 ≤ w2.heap.size := by simpa using hb2.size)
        | (go_at_call 61; refine (hW.out _ w.heap.size _ (by simp; omega) ((hv1.under hb2 (by omega)).alloc (by omega) _) _ [] (OB.made _ _ _ (by omega) (by omega)) (by simp; omega)).mono ?_; rintro e w3 ⟨v3, rfl, ha3⟩))
    go_wp2_with fail
    go_ret2
    exact ⟨v3, by rw [hc'.out]; rfl, by rw [he.out]; exact ha3.own, (unbox hb2).trans (((Below.refl _ _).alloc (by omega) _).trans (ha3.below (OB.made _ _ _ (by omega) (by omega)) (by simp; omega)))⟩
  · have hc0 : (chk x == 0) = false := by simpa using hc
    have he : Hid (encB x = []) := by unfold encB; rw [if_neg hc]; rfl
    have hc1 : chk x = 1 ∨ chk x = 2 := by unfold chk at hc ⊢; split at hc <;> (try split at hc) <;> simp_all
    go_enter Tryd.func52, Tryd.ntmps52
    go_wp2_with fail
    refine (hC.out _ _ _ (by simp) hv1).mono ?_
    rintro e w1 ⟨rfl, hb1⟩
    have hneq : (chk x != 0) = true := by simpa using hc
    clear hc hc1
    go_wp2_with fail
    go_ret2
    exact ⟨_, rfl, by rw [he.out]; exact OB.nil _ _, unbox (by simpa using hb1)⟩



/-! The reference -/

/-- A row of its own that is new. -/
theorem App.fresh {w w1 : World} {B : Nat} {v : Value} {l : List UInt8} (ho : OB w1 B v l) (hb : Below w.heap.size w w1) {k : Nat} (hk : v.ownBlock = some k) (hle : w.heap.size ≤ k) : App w w1 B (.slice none 0 0) v l :=
  ⟨ho, ⟨hb.os, hb.tape, hb.output, hb.size, fun i hi _ => hb.block i hi⟩, .inr ⟨k, hk, hle⟩⟩
theorem OB.one (w : World) (B : Nat) (c : UInt8) (hB : B ≤ w.heap.size) : OB (w.alloc (.cells #[.int .u8 (c.toNat : Int)] 5)) B (.slice (some ⟨w.heap.size, 0, none⟩) 1 1) [c] := OB.lit w B [c] hB (by simp)
theorem fresh1 {w wr : World} {o : Obj} {c : UInt8} (hb : Below (w.heap.size + 2) ((w.alloc o).alloc (.cells #[.int .u8 (c.toNat : Int)] 5)) wr) : App w wr w.heap.size (.slice none 0 0) (.slice (some ⟨w.heap.size + 1, 0, none⟩) 1 1) [c] := by
  have h := (OB.one (w.alloc o) w.heap.size c (by simp)).below (w' := wr) (by simpa using hb)
  simp only [World.size_alloc] at h
  exact App.fresh h (unbox2 hb) rfl (Nat.le_succ _)
theorem fresh2 {w w1 : World} {o : Obj} {c : UInt8} (hb : Below (w.heap.size + 1) (w.alloc o) w1) : App w (w1.alloc (.cells #[.int .u8 (c.toNat : Int)] 5)) w.heap.size (.slice none 0 0) (.slice (some ⟨w1.heap.size, 0, none⟩) 1 1) [c] := by
  have hz := hb.size
  simp only [World.size_alloc] at hz
  exact App.fresh (OB.one w1 w.heap.size c (by omega)) ((unbox hb).alloc (by omega) _) rfl (Nat.le_trans (Nat.le_succ _) hz)
theorem alloc_bytes {w : World} {g : Nat} {bs : List UInt8} (hg : g < w.heap.size) (hc : ∀ j u, (BV bs)[j]? = some u → w.cell? ((⟨g, 0, none⟩ : Addr).add j) = some u) (o : Obj) : ∀ j u, (BV bs)[j]? = some u → (w.alloc o).cell? ((⟨g, 0, none⟩ : Addr).add j) = some u := by
  intro j u hu
  rw [World.cell?_alloc_lt w o _ (by unfold Addr.add; split <;> exact hg)]
  exact hc j u hu
theorem keepA {w w' : World} {B : Nat} {v v' : Value} {l : List UInt8} {g : Nat} {x0 x1 x2 x3 : Value} (ha : App w w' B v v' l) (hlt : g < w.heap.size) (hne : v.ownBlock ≠ some g)
    (h : w.cell? ⟨g, 0, none⟩ = some x0 ∧ w.cell? ⟨g, 1, none⟩ = some x1 ∧ w.cell? ⟨g, 2, none⟩ = some x2 ∧ w.cell? ⟨g, 3, none⟩ = some x3) :
    w'.cell? ⟨g, 0, none⟩ = some x0 ∧ w'.cell? ⟨g, 1, none⟩ = some x1 ∧ w'.cell? ⟨g, 2, none⟩ = some x2 ∧ w'.cell? ⟨g, 3, none⟩ = some x3 := keep4 (fun _ => ha.cell hlt hne) h

set_option maxRecDepth 100000 in
set_option maxHeartbeats 1600000 in
theorem rencode_any (x : GV) : big x ≤ 1000000 → formed x = true → ∀ (w : World) (B : Nat) (v : Value), B ≤ w.heap.size → RV w B x v →
    Calls Tryd.prog 54 #[v] w fun e w' => ∃ v', e = .returned v' ∧ OB w' w.heap.size v' (enc x) ∧ Below w.heap.size w w' := by
  induction x using GV.ind with
  | h k n s l ih =>
    intro hbig hf w B v hB hv
    have hnums := Lib.hid hv.nums
    obtain ⟨a, cap, rfl, hk, hn, hs, hby, hl⟩ := hv.parts
    have hbig' := hbig
    rw [big] at hbig'
    rcases formed_kind hf with rfl | rfl | rfl
    · simp only [GV.kind, GV.num, GV.str, GV.els] at hk hn hs hby ⊢
      have hun := uns_range hn
      obtain ⟨u, hu⟩ := Int.eq_ofNat_of_zero_le hun.1
      rw [hu] at hun
      have hl10 := digs_le10 u (by omega)
      have hlp := digs_pos u
      have he : Hid (enc (.mk 1 n s l) = 1 :: digs u) := by rw [enc, hu]; rfl
      have hu' := Lib.hid hu
      clear hv hl hk hs hby ih hf hu
      go_enter Tryd.func54, Tryd.ntmps54
      go_wp2_with fail
      refine (runsigned_any _ hn _).mono ?_
      rintro e w1 ⟨rfl, rfl⟩
      rw [hu'.out]
      go_wp2_with fail
      refine (numeral_any 9 u (by omega) (by omega) _).mono ?_
      rintro e w1 ⟨v1, rfl, hv1, hb1⟩
      have hb2 := unbox2 (by simpa using hb1)
      have ho : OB _ w.heap.size _ [1] := ((OB.lit (w.alloc (.cells #[.int .i64 1, .int .i64 n, .string s, .slice a l.length cap] 64)) w.heap.size [1] (by simp) (by simp)).below hb1)
      obtain ⟨g, c, rfl, hg, hlt, hc⟩ := hv1.src (by omega)
      have hz := hb1.size
      simp only [World.size_alloc, List.length_singleton] at hg hz ho
      go_wp2_with (at_builtin; refine app_law rfl _ _ rfl w.heap.size _ _ rfl ho ⟨g, 0, none⟩ (digs u) c rfl hc (by omega) (by simp; omega) (by omega) ?_; intro v' w' ha')
      go_ret
      exact ⟨_, rfl, by rw [he.out]; exact ha'.own, hb2.trans (ha'.below ho (by omega))⟩
    · simp only [GV.kind, GV.num, GV.str, GV.els] at hk hn hs hby ⊢
      have hl10 := digs_le10 s.size (by omega)
      have hlp := digs_pos s.size
      have he : Hid (enc (.mk 2 n s l) = 2 :: (digs s.size ++ s.data.toList)) := by rw [enc]; rfl
      have hw : IntKind.u64.wrap (s.size : Int) = s.size := IntWalk.u64_in _ (by omega)
      clear hv hl hk hs hby ih hf hn hbig
      go_enter Tryd.func54, Tryd.ntmps54
      go_wp2_with fail
      go_region_held3 (fun w' => w'.cell? ⟨w.heap.size, 0, none⟩ = some (.int .i64 2) ∧ w'.cell? ⟨w.heap.size, 1, none⟩ = some (.int .i64 n) ∧ w'.cell? ⟨w.heap.size, 2, none⟩ = some (.string s) ∧ w'.cell? ⟨w.heap.size, 3, none⟩ = some (.slice a l.length cap))
        (first | (with_reducible assumption) | exact box4_2 (by assumption) | exact box4 (by assumption) | go_keep)
        (first
          | (go_at_call 65; refine (numeral_any 9 s.size (by omega) (by omega) _).mono ?_; rintro e w1 ⟨v1, rfl, hv1, hb1⟩; have hb1 := unD hb1; simp only [World.size_drew, World.size_alloc] at hb1 hv1; have hz := hb1.size; simp only [World.size_alloc] at hz; obtain ⟨g, c, rfl, hg, hlt, hc⟩ := hv1.src (by omega))
          | (refine step_app rfl _ _ rfl w.heap.size (.slice (some ⟨w.heap.size + 1, 0, none⟩) 1 1) (.slice none 0 0) [2] rfl (fresh1 (c := 2) hb1) g (digs s.size) c rfl hc (by omega) (by simp; omega) (by omega) ?_; intro v2 w2 ha2 hs2; have hS2 := keepA (g := w.heap.size) hs2 (by omega) (by simp [Value.ownBlock]) (box4_2 hb1); have hz2 : w.heap.size < w2.heap.size := by { have := hs2.grow.size; omega }; have hn2 : v2.ownBlock ≠ some w.heap.size := hs2.far (by omega) (by simp [Value.ownBlock]))
          | (refine step_app rfl _ _ rfl w.heap.size (.slice (some ⟨w1.heap.size, 0, none⟩) 1 1) (.slice none 0 0) [2] rfl (fresh2 (c := 2) hb1) g (digs s.size) c rfl (alloc_bytes hlt hc _) (by omega) (by simp; omega) (by simp; omega) ?_; intro v2 w2 ha2 hs2; have hn1 : w1.heap.size ≠ w.heap.size := by { omega }; have hS2 := keepA (g := w.heap.size) hs2 (by simp; omega) (by simpa [Value.ownBlock] using hn1) (by assumption); have hz2 : w.heap.size < w2.heap.size := by { have := hs2.grow.size; simp only [World.size_alloc] at this; omega }; have hn2 : v2.ownBlock ≠ some w.heap.size := hs2.far (by simp; omega) (by simpa [Value.ownBlock] using hn1))
          | (refine step_app_str rfl _ _ rfl w.heap.size v2 (.slice none 0 0) _ rfl ha2 s rfl (by simp; omega) (by have := ha2.grow.size; omega) ?_; intro v3 w3 ha3 hs3; have hS3 := keepA (g := w.heap.size) hs3 hz2 hn2 hS2))
      all_goals
        go_wp2_with fail
        go_ret
        exact ⟨_, rfl, by rw [he.out]; exact ha3.own, ha3.none_below rfl⟩
    · simp only [GV.kind, GV.num, GV.str, GV.els] at hk hn hs hby ⊢
      have hl10 := digs_le10 l.length (by have := bigAll_length l; omega)
      have hlp := digs_pos l.length
      have hln := bigAll_length l
      have hfa : formedAll l = true := by rw [formed] at hf; simp at hf; exact hf.2.2
      have ih' := Lib.hid (fun y (hy : y ∈ l) => ih y hy (by have := bigAll_mem hy; omega) (formedAll_mem hfa hy))
      have hel := encAll_length l (fun x hx => hnums.out.els hx) (by omega)
      have he : Hid (enc (.mk 3 n s l) = 3 :: (digs l.length ++ encAll l)) := by rw [enc]; rfl
      clear hv hk hs hby ih hf hn hbig hfa
      go_enter Tryd.func54, Tryd.ntmps54
      go_wp2_with fail
      refine (numeral_any 9 l.length (by omega) (by omega) _).mono ?_
      rintro e w1 ⟨v1, rfl, hv1, hb1⟩
      simp only [World.size_alloc] at hb1 hv1
      have hz := hb1.size
      simp only [World.size_alloc] at hz
      have hA := fresh1 (c := 3) hb1
      obtain ⟨hx0, hx1, hx2, hx3⟩ := box4_2 hb1
      obtain ⟨g, c, rfl, hg, hlt, hc⟩ := hv1.src (by omega)
      clear hx0 hx1 hx2
      go_wp2_with (at_builtin; refine app_law rfl _ _ rfl w.heap.size (.slice (some ⟨w.heap.size + 1, 0, none⟩) 1 1) _ rfl hA.own ⟨g, 0, none⟩ (digs l.length) c rfl hc (by omega) (by simp; omega) (by omega) ?_; intro v2 w2 ha2)
      have hx3' : w2.cell? ⟨w.heap.size, 3, none⟩ = some (.slice a l.length cap) := by rw [ha2.cell (by show w.heap.size < _; omega) (by simp [Value.ownBlock])]; exact hx3
      have hn2 : v2.ownBlock ≠ some w.heap.size := ha2.far (by omega) (by simp [Value.ownBlock])
      have hz2 : w.heap.size < w2.heap.size := by have := ha2.grow.size; omega
      have hA2 := hA.trans ha2
      clear hx3
      go_loopw [3, 4] (fun out i wr => ∃ k' : Nat, k' ≤ l.length ∧ i = .int .i64 k' ∧ App w wr w.heap.size (.slice none 0 0) out (3 :: (digs l.length ++ encAll (l.take k'))) ∧ (3 :: (digs l.length ++ encAll (l.take k'))).length + 12 * bigAll (l.drop k') ≤ 50000000 ∧
        wr.cell? ⟨w.heap.size, 3, none⟩ = some (.slice a l.length cap) ∧ out.ownBlock ≠ some w.heap.size ∧ w.heap.size < wr.heap.size) (fun _ i _ => l.length - (intOf i).toNat)
      case atStart => exact ⟨0, Nat.zero_le _, rfl, by simpa [encAll] using hA2, by simp [encAll]; omega, hx3', hn2, hz2⟩
      case round =>
        obtain ⟨k', hk, rfl, ha, hle, hx, hno, hzr⟩ := hrel
        have hno' := Lib.hid hno
        clear hno
        by_cases hlt' : k' < l.length
        · obtain ⟨c, off, a', c', rfl, hbB, hv, c0, c1, c2, c3⟩ := (hl.under (ha.none_below rfl) hB).at_ hlt'
          have hd := Lib.hid (encAll_take l k' hlt')
          have hbd := bigAll_drop l k' hlt'
          have hbe := enc_length l[k'] (hnums.out.els (List.getElem_mem hlt')) (by have := bigAll_mem (List.getElem_mem hlt'); omega)
          have hle' : (3 :: (digs l.length ++ encAll (l.take (k' + 1)))).length + 12 * bigAll (l.drop (k' + 1)) ≤ 50000000 := by
            rw [hd.out]
            simp only [List.length_append, List.length_cons] at hle ⊢
            omega
          have hle2 : (3 :: (digs l.length ++ encAll (l.take k'))).length + 12 * big l[k'] ≤ 50000000 := by omega
          have hep := enc_pos l[k']
          clear hle
          go_wp2_with fail
          refine (ih'.out l[k'] (List.getElem_mem hlt') _ B _ (by omega) hv).mono ?_
          rintro e w3 ⟨v3, rfl, hv3, hb3⟩
          have hz3 := hb3.size
          obtain ⟨g3, cc3, rfl, hg3, hlt3, hc3⟩ := hv3.src (by omega)
          have hA3 := App.of_below ha.own hb3
          have hx3 : w3.cell? ⟨w.heap.size, 3, none⟩ = some (.slice (some ⟨c, off, none⟩) l.length cap) := by rw [hb3.cell hzr]; exact hx
          go_wp2_with (at_builtin; refine app_law rfl _ _ rfl w.heap.size u3 _ rfl hA3.own ⟨g3, 0, none⟩ (enc l[k']) cc3 rfl hc3 (by omega) (by omega) (by omega) ?_; intro v4 w4 ha4)
          go_roundw
          case rel => exact ⟨k' + 1, by omega, by go_num, by have := (ha.trans hA3).trans ha4; rw [hd.out, ← List.append_assoc (digs _), ← List.cons_append]; exact this, hle',
            by rw [ha4.cell (by show w.heap.size < _; omega) hno'.out]; exact hx3, ha4.far (by omega) hno'.out, by have := ha4.grow.size; omega⟩
          case measure => simp [intOf]; omega
        · go_wp2_with fail
          go_ret
          exact ⟨_, rfl, by rw [he.out]; rw [List.take_of_length_le (by omega)] at ha; exact ha.own, ha.none_below rfl⟩
end Go.Proofs.YtbhpmeljmkoebaaDoor.K
