/- Encodings, plain; size. -/
import Derived.Test.YtbhpmeljmkoebaaDoorKBy
import Derived.Test.YtbhpmeljmkoebaaDoorKDp
import Derived.Laws.EntriesVeiled
import Derived.Deep.RegionHeld3
import Derived.Deep.QuietTactic
import Derived.BigQuiet
namespace Go.Proofs.YtbhpmeljmkoebaaDoor.K
open Go.RowKit

mutual
def enc : GV → List UInt8
  | .mk k n s l => if k = 1 then 1 :: digs (uns n).toNat else if k = 2 then 2 :: (digs s.size ++ s.data.toList) else 3 :: (digs l.length ++ encAll l)
def encAll : List GV → List UInt8
  | [] => []
  | x :: r => enc x ++ encAll r
end
theorem encAll_append (l m : List GV) : encAll (l ++ m) = encAll l ++ encAll m := by
  induction l with
  | nil => simp [encAll]
  | cons y r ih => rw [List.cons_append, encAll, encAll, ih, List.append_assoc]
theorem encAll_take (l : List GV) (k : Nat) (h : k < l.length) : encAll (l.take (k + 1)) = encAll (l.take k) ++ enc l[k] := by
  rw [List.take_succ_eq_append_getElem h, encAll_append, encAll, encAll, List.append_nil]

theorem formedAll_mem {l : List GV} {x : GV} (h : formedAll l = true) (hx : x ∈ l) : formed x = true := by
  induction l with
  | nil => cases hx
  | cons y r ih =>
    rw [formedAll, Bool.and_eq_true] at h
    rcases List.mem_cons.1 hx with rfl | hx
    · exact h.1
    · exact ih h.2 hx

/-- Every number in the tree is an int. -/
inductive Nums : GV → Prop
  | mk (k n : Int) (s : ByteArray) (l : List GV) (hn : I64 n) (hl : ∀ i (h : i < l.length), Nums l[i]) : Nums (.mk k n s l)
theorem Nums.num {k n : Int} {s : ByteArray} {l : List GV} (h : Nums (.mk k n s l)) : I64 n := by cases h; assumption
theorem Nums.els {k n : Int} {s : ByteArray} {l : List GV} (h : Nums (.mk k n s l)) {x : GV} (hx : x ∈ l) : Nums x := by
  cases h with
  | mk _ _ _ _ _ hl => obtain ⟨i, hi, rfl⟩ := List.getElem_of_mem hx; exact hl i hi
theorem RV.nums {w : World} {B : Nat} {v : GV} {x : Value} (h : RV w B v x) : Nums v := by
  induction h with
  | mk k n s l a cap b off V hk hn hs hcap hmax hbyte ha hV hc ih => exact .mk k n s l hn fun i hi => ih i hi

/-- An encoding is at most twelve times as long as the tree is big. -/
theorem enc_length (x : GV) : Nums x → big x ≤ 1000000 → (enc x).length ≤ 12 * big x := by
  induction x using GV.ind with
  | h k n s l ih =>
    intro hn hb
    have hall : bigAll l ≤ 1000000 → (encAll l).length ≤ 12 * bigAll l := by
      have ih' : ∀ x ∈ l, big x ≤ 1000000 → (enc x).length ≤ 12 * big x := fun x hx => ih x hx (hn.els hx)
      clear ih hn hb
      induction l with
      | nil => simp [encAll]
      | cons y r ihr =>
        intro hb
        rw [bigAll] at hb
        rw [encAll, bigAll, List.length_append]
        have h1 := ih' y (by simp) (by omega)
        have h2 := ihr (fun x hx => ih' x (by simp [hx])) (by omega)
        omega
    have hln := bigAll_length l
    have hun := uns_range hn.num
    rw [big] at hb
    have hall := hall (by omega)
    have h1 := digs_le10 (uns n).toNat (by omega)
    have h2 := digs_le10 s.size (by omega)
    have h3 := digs_le10 l.length (by omega)
    have h4 : s.data.toList.length = s.size := rfl
    rw [enc, big]
    split
    · simp; omega
    · split
      · simp only [List.length_cons, List.length_append, h4]; omega
      · simp only [List.length_cons, List.length_append]; omega
theorem encAll_length (l : List GV) (h : ∀ x ∈ l, Nums x) (hb : bigAll l ≤ 1000000) : (encAll l).length ≤ 12 * bigAll l := by
  induction l with
  | nil => simp [encAll]
  | cons y r ih =>
    rw [bigAll] at hb
    rw [encAll, bigAll, List.length_append]
    have h1 := enc_length y (h y (by simp)) (by omega)
    have h2 := ih (fun x hx => h x (by simp [hx])) (by omega)
    omega

/-! Walks -/
theorem quiet_left {P : Program} {f : FuncId} {args : Array Value} {w : World} {n : Nat} {v : Value}
    (h : Calls P f args (w.drewN n) fun e w' => e = .returned v ∧ w.drewN n = w') : Calls P f args (w.drewN n) fun e w'' => e = .returned v ∧ ∃ m, w'' = w.drewN m :=
  h.mono fun _ _ ⟨he, hm⟩ => ⟨he, n, hm.symm⟩

/-- The table of writers. -/
def tableV : Value := .agg #[.nilFunc, .nilFunc, .func (.func 75) #[] #[], .func (.func 76) #[] #[], .func (.func 77) #[] #[], .func (.func 78) #[] #[], .func (.func 79) #[] #[], .func (.func 80) #[] #[]]

theorem table1 : ∀ w, (Instr.index 97 (.agg #[.nilFunc, .nilFunc, .func (.func 75) #[] #[], .func (.func 76) #[] #[], .func (.func 77) #[] #[], .func (.func 78) #[] #[], .func (.func 79) #[] #[], .func (.func 80) #[] #[]]) (.int .i64 1)).run Tryd.prog w = .ok (.agg #[.func (.func 75) #[] #[], .func (.func 76) #[] #[]]) w := fun _ => by kernel_rfl
theorem table2 : ∀ w, (Instr.index 97 (.agg #[.nilFunc, .nilFunc, .func (.func 75) #[] #[], .func (.func 76) #[] #[], .func (.func 77) #[] #[], .func (.func 78) #[] #[], .func (.func 79) #[] #[], .func (.func 80) #[] #[]]) (.int .i64 2)).run Tryd.prog w = .ok (.agg #[.func (.func 77) #[] #[], .func (.func 78) #[] #[]]) w := fun _ => by kernel_rfl
theorem table3 : ∀ w, (Instr.index 97 (.agg #[.nilFunc, .nilFunc, .func (.func 75) #[] #[], .func (.func 76) #[] #[], .func (.func 77) #[] #[], .func (.func 78) #[] #[], .func (.func 79) #[] #[], .func (.func 80) #[] #[]]) (.int .i64 3)).run Tryd.prog w = .ok (.agg #[.func (.func 79) #[] #[], .func (.func 80) #[] #[]]) w := fun _ => by kernel_rfl

theorem field1size : ∀ w, (Instr.field 96 (.agg #[.func (.func 75) #[] #[], .func (.func 76) #[] #[]]) 0).run Tryd.prog w = .ok (.func (.func 75) #[] #[]) w := fun _ => by kernel_rfl
theorem field1write : ∀ w, (Instr.field 96 (.agg #[.func (.func 75) #[] #[], .func (.func 76) #[] #[]]) 1).run Tryd.prog w = .ok (.func (.func 76) #[] #[]) w := fun _ => by kernel_rfl
theorem field2size : ∀ w, (Instr.field 96 (.agg #[.func (.func 77) #[] #[], .func (.func 78) #[] #[]]) 0).run Tryd.prog w = .ok (.func (.func 77) #[] #[]) w := fun _ => by kernel_rfl
theorem field2write : ∀ w, (Instr.field 96 (.agg #[.func (.func 77) #[] #[], .func (.func 78) #[] #[]]) 1).run Tryd.prog w = .ok (.func (.func 78) #[] #[]) w := fun _ => by kernel_rfl
theorem field3size : ∀ w, (Instr.field 96 (.agg #[.func (.func 79) #[] #[], .func (.func 80) #[] #[]]) 0).run Tryd.prog w = .ok (.func (.func 79) #[] #[]) w := fun _ => by kernel_rfl
theorem field3write : ∀ w, (Instr.field 96 (.agg #[.func (.func 79) #[] #[], .func (.func 80) #[] #[]]) 1).run Tryd.prog w = .ok (.func (.func 80) #[] #[]) w := fun _ => by kernel_rfl

set_option maxHeartbeats 400000 in
theorem writers_any (w : World) : Calls Tryd.prog 73 #[] w fun e w' => e = .returned tableV ∧ Below w.heap.size w w' := by
  go_enter Tryd.func73, Tryd.ntmps73
  go_wp2_with fail
  exact bodyPost_ret (v := tableV) (by simp [results, Tryd.results73, go_sem, tableV]) rfl ⟨rfl, (Below.refl _ _).alloc (Nat.le_refl _) _⟩

set_option maxHeartbeats 400000 in
theorem sizeInt_any (x : GV) (w : World) (B : Nat) (v : Value) (hv : RV w B x v) : Calls Tryd.prog 75 #[v] w fun e w' => e = .returned (.int .i64 (digs (uns x.num).toNat).length) ∧ Below w.heap.size w w' := by
  obtain ⟨a, cap, rfl, hk, hn, hs, hby, hl⟩ := hv.parts
  have hun := uns_range hn
  obtain ⟨u, hu⟩ := Int.eq_ofNat_of_zero_le hun.1
  have hu' := Lib.hid hu
  rw [hu, Int.toNat_natCast]
  rw [hu] at hun
  clear hv hl hu
  go_enter Tryd.func75, Tryd.ntmps75
  go_wp2_with fail
  refine (unsigned_any _ hn _).mono ?_
  rintro e w1 ⟨rfl, rfl⟩
  rw [hu'.out]
  go_wp2_with fail
  refine (sizeNumeral_any u (by omega) _).mono ?_
  rintro e w1 ⟨rfl, rfl⟩
  go_wp2_with fail
  go_ret
  exact ⟨rfl, (Below.refl _ _).alloc (Nat.le_refl _) _⟩

set_option maxHeartbeats 400000 in
theorem sizeText_any (x : GV) (hb : big x ≤ 1000000) (w : World) (B : Nat) (v : Value) (hv : RV w B x v) : Calls Tryd.prog 77 #[v] w fun e w' => e = .returned (.int .i64 ((digs x.str.size).length + x.str.size : Nat)) ∧ Below w.heap.size w w' := by
  obtain ⟨a, cap, rfl, hk, hn, hs, hby, hl⟩ := hv.parts
  have hsz : x.str.size ≤ 1000000 := by cases x; rw [big] at hb; simp only [GV.str]; omega
  have hd := digs_le10 x.str.size (by omega)
  clear hv hl hs
  go_enter Tryd.func77, Tryd.ntmps77
  go_wp2_with fail
  go_quiet ((go_at_call 81; exact quiet_left (sizeNumeral_any x.str.size (by omega) _)))
  go_wp2_with fail
  go_ret
  exact ⟨retI (by simp), dN ((Below.refl _ _).alloc (Nat.le_refl _) _) _⟩

set_option maxHeartbeats 400000 in
theorem sizeList_of (x : GV) (hb : big x ≤ 1000000) (ih : ∀ y ∈ x.els, ∀ (w : World) (B : Nat) (v : Value), B ≤ w.heap.size → RV w B y v → Calls Tryd.prog 62 #[v] w fun e w' => e = .returned (.int .i64 (enc y).length) ∧ Below w.heap.size w w')
    (w : World) (B : Nat) (v : Value) (hB : B ≤ w.heap.size) (hv : RV w B x v) : Calls Tryd.prog 79 #[v] w fun e w' => e = .returned (.int .i64 ((digs x.els.length).length + (encAll x.els).length : Nat)) ∧ Below w.heap.size w w' := by
  have hnums := Lib.hid hv.nums
  obtain ⟨a, cap, rfl, hk, hn, hs, hby, hl⟩ := hv.parts
  obtain ⟨k, n, s, l⟩ := x
  have hl' := hl.keep (w' := w.alloc (.cells #[.int .i64 k, .int .i64 n, .string s, .slice a l.length cap] 64)) (fun b o h => World.cell?_alloc_lt w _ ⟨b, o, none⟩ (by simpa using Nat.lt_of_lt_of_le h hB))
  simp only [GV.kind, GV.num, GV.str, GV.els] at hk hn hs hby hl' ih ⊢
  rw [big] at hb
  have ih' := Lib.hid ih
  clear ih hv hl hk hn hs hby
  have hln := bigAll_length l
  have hd := digs_le10 l.length (by omega)
  have hel := encAll_length l (fun x hx => hnums.out.els hx) (by omega)
  go_enter Tryd.func79, Tryd.ntmps79
  go_wp2_with fail
  refine (sizeNumeral_any l.length (by omega) _).mono ?_
  rintro e w1 ⟨rfl, rfl⟩
  go_wp2_with fail
  go_loopw [3, 14] (fun c i wr => ∃ k' : Nat, k' ≤ l.length ∧ i = .int .i64 k' ∧ c = .int .i64 ((digs l.length).length + (encAll (l.take k')).length : Nat) ∧ (encAll (l.take k')).length ≤ 12000000 ∧ Below (w.heap.size + 1) (w.alloc (.cells #[.int .i64 k, .int .i64 n, .string s, .slice a l.length cap] 64)) wr) (fun _ i _ => l.length - (intOf i).toNat)
  case atStart => exact ⟨0, Nat.zero_le _, rfl, by simp [encAll], by simp [encAll], Below.refl _ _⟩
  case round =>
    obtain ⟨k', hk, rfl, rfl, hle, hb1⟩ := hrel
    by_cases hlt : k' < l.length
    · obtain ⟨b, off, a', c', rfl, hbB, hv, c0, c1, c2, c3⟩ := (hl'.under hb1 (by omega)).at_ hlt
      have hd := Lib.hid (encAll_take l k' hlt)
      have hz := hb1.size
      simp only [World.size_alloc] at hz
      have hbe := bigAll_mem (List.getElem_mem hlt)
      have hde := enc_length l[k'] (hnums.out.els (List.getElem_mem hlt)) (by omega)
      have hle' : (encAll (l.take (k' + 1))).length ≤ 12000000 := by
        have h1 := encAll_length (l.take (k' + 1)) (fun x hx => hnums.out.els (List.mem_of_mem_take hx))
        have h2 : bigAll (l.take (k' + 1)) ≤ bigAll l := by
          have h3 : bigAll (l.take (k' + 1)) + bigAll (l.drop (k' + 1)) = bigAll l := by
            rw [← bigAll_append, List.take_append_drop]
          omega
        have h4 := h1 (by omega)
        omega
      go_wp2_with fail
      refine (ih'.out l[k'] (List.getElem_mem hlt) _ B _ (by simp; omega) (hv.alloc (by omega) _)).mono ?_
      rintro e w1 ⟨rfl, hb2⟩
      have hb3 := (hb1.alloc (by omega) _).trans (hb2.mono (by simp; omega))
      go_wp2_with fail
      go_roundw
      case rel => exact ⟨k' + 1, by omega, by go_num, by rw [hd.out, List.length_append]; go_num, hle', hb3⟩
      case measure => simp [intOf]; omega
    · go_wp2_with fail
      go_ret
      exact ⟨retI (by rw [List.take_of_length_le (by omega)]), unbox hb1⟩

theorem formed_kind {k n : Int} {s : ByteArray} {l : List GV} (h : formed (.mk k n s l) = true) : k = 1 ∨ k = 2 ∨ k = 3 := by
  rw [formed] at h
  by_cases h1 : k = 1
  · exact .inl h1
  · by_cases h2 : k = 2
    · exact .inr (.inl h2)
    · by_cases h3 : k = 3
      · exact .inr (.inr h3)
      · rw [if_neg h1, if_neg h2, if_neg h3] at h; cases h

set_option maxHeartbeats 800000 in
theorem size_any (x : GV) : big x ≤ 1000000 → formed x = true → ∀ (w : World) (B : Nat) (v : Value), B ≤ w.heap.size → RV w B x v → Calls Tryd.prog 62 #[v] w fun e w' => e = .returned (.int .i64 (enc x).length) ∧ Below w.heap.size w w' := by
  induction x using GV.ind with
  | h k n s l ih =>
    intro hbig hf w B v hB hv
    rcases formed_kind hf with rfl | rfl | rfl
    · obtain ⟨a, cap, rfl, hk, hn, hs, hby, hl⟩ := hv.parts
      have hnums := Lib.hid hv.nums
      have hv1 := hv.alloc hB (.cells #[.int .i64 1, .int .i64 n, .string s, .slice a l.length cap] 64)
      simp only [GV.kind, GV.num, GV.str, GV.els] at hk hn hs hby hv1 ⊢
      have hbig' := hbig
      rw [big] at hbig'
      have hl10 := digs_le10 (uns n).toNat (by have := uns_range hn; omega)
      have he : Hid (enc (.mk 1 n s l) = 1 :: digs (uns n).toNat) := by rw [enc]; rfl
      clear hv hl hk hn hs hby ih hf
      have hT := table1
      have hF := field1size
      go_enter Tryd.func62, Tryd.ntmps62
      go_wp2_with fail
      go_region_held3 (fun w' => w'.cell? ⟨w.heap.size, 0, none⟩ = some (.int .i64 1) ∧ w'.cell? ⟨w.heap.size, 1, none⟩ = some (.int .i64 n) ∧ w'.cell? ⟨w.heap.size, 2, none⟩ = some (.string s) ∧ w'.cell? ⟨w.heap.size, 3, none⟩ = some (.slice a l.length cap))
        (first | exact box4 (by assumption) | go_keep)
        (first
          | (go_at_call 73; refine (writers_any _).mono ?_; rintro e w1 ⟨rfl, hb1⟩; unfold tableV; have hb1 := unD hb1; simp only [World.size_drew, World.size_alloc] at hb1)
          | (go_at_call 75; refine (sizeInt_any (.mk 1 n s l) _ B _ (hv1.under (by assumption) (by omega))).mono ?_; rintro e w2 ⟨rfl, hb2⟩; simp only [GV.num]; have hb2 := hb1.trans (hb2.mono (by have := hb1.size; simp only [World.size_alloc] at this; omega))))
      go_wp2_with fail
      go_ret
      exact ⟨retI (by rw [he.out, IntWalk.i64_in _ (by omega)]; simp; omega), unbox (by assumption)⟩
    · obtain ⟨a, cap, rfl, hk, hn, hs, hby, hl⟩ := hv.parts
      have hnums := Lib.hid hv.nums
      have hv1 := hv.alloc hB (.cells #[.int .i64 2, .int .i64 n, .string s, .slice a l.length cap] 64)
      simp only [GV.kind, GV.num, GV.str, GV.els] at hk hn hs hby hv1 ⊢
      have hbig' := hbig
      rw [big] at hbig'
      have hl10 := digs_le10 s.size (by omega)
      have hsz : s.data.toList.length = s.size := rfl
      have hsz := Lib.hid hsz
      have he : Hid (enc (.mk 2 n s l) = 2 :: (digs s.size ++ s.data.toList)) := by rw [enc]; rfl
      clear hv hl hk hn hs hby ih hf
      have hT := table2
      have hF := field2size
      go_enter Tryd.func62, Tryd.ntmps62
      go_wp2_with fail
      go_region_held3 (fun w' => w'.cell? ⟨w.heap.size, 0, none⟩ = some (.int .i64 2) ∧ w'.cell? ⟨w.heap.size, 1, none⟩ = some (.int .i64 n) ∧ w'.cell? ⟨w.heap.size, 2, none⟩ = some (.string s) ∧ w'.cell? ⟨w.heap.size, 3, none⟩ = some (.slice a l.length cap))
        (first | exact box4 (by assumption) | go_keep)
        (first
          | (go_at_call 73; refine (writers_any _).mono ?_; rintro e w1 ⟨rfl, hb1⟩; unfold tableV; have hb1 := unD hb1; simp only [World.size_drew, World.size_alloc] at hb1)
          | (go_at_call 77; refine (sizeText_any (.mk 2 n s l) hbig _ B _ (hv1.under (by assumption) (by omega))).mono ?_; rintro e w2 ⟨rfl, hb2⟩; simp only [GV.str]; have hb2 := hb1.trans (hb2.mono (by have := hb1.size; simp only [World.size_alloc] at this; omega))))
      go_wp2_with fail
      go_ret
      exact ⟨retI (by rw [he.out, IntWalk.i64_in _ (by omega)]; simp only [List.length_cons, List.length_append, hsz.out]; omega), unbox (by assumption)⟩
    · obtain ⟨a, cap, rfl, hk, hn, hs, hby, hl⟩ := hv.parts
      have hnums := Lib.hid hv.nums
      have hv1 := hv.alloc hB (.cells #[.int .i64 3, .int .i64 n, .string s, .slice a l.length cap] 64)
      simp only [GV.kind, GV.num, GV.str, GV.els] at hk hn hs hby hv1 ⊢
      have hbig' := hbig
      rw [big] at hbig'
      have hl10 := digs_le10 l.length (by omega)
      have hel := encAll_length l (fun x hx => hnums.out.els hx) (by omega)
      have hfa : formedAll l = true := by rw [formed] at hf; simp at hf; exact hf.2.2
      have ih' := Lib.hid (fun y (hy : y ∈ (GV.mk 3 n s l).els) => ih y hy (by have := bigAll_mem (show y ∈ l from hy); omega) (formedAll_mem hfa hy))
      have he : Hid (enc (.mk 3 n s l) = 3 :: (digs l.length ++ encAll l)) := by rw [enc]; rfl
      clear hv hl hk hn hs hby ih hfa hf
      have hT := table3
      have hF := field3size
      go_enter Tryd.func62, Tryd.ntmps62
      go_wp2_with fail
      go_region_held3 (fun w' => w'.cell? ⟨w.heap.size, 0, none⟩ = some (.int .i64 3) ∧ w'.cell? ⟨w.heap.size, 1, none⟩ = some (.int .i64 n) ∧ w'.cell? ⟨w.heap.size, 2, none⟩ = some (.string s) ∧ w'.cell? ⟨w.heap.size, 3, none⟩ = some (.slice a l.length cap))
        (first | exact box4 (by assumption) | go_keep)
        (first
          | (go_at_call 73; refine (writers_any _).mono ?_; rintro e w1 ⟨rfl, hb1⟩; unfold tableV; have hb1 := unD hb1; simp only [World.size_drew, World.size_alloc] at hb1)
          | (go_at_call 79; refine (sizeList_of (.mk 3 n s l) hbig ih'.out _ B _ (by have := hb1.size; simp only [World.size_alloc] at this; omega) (hv1.under (by assumption) (by omega))).mono ?_; rintro e w2 ⟨rfl, hb2⟩; simp only [GV.els]; have hb2 := hb1.trans (hb2.mono (by have := hb1.size; simp only [World.size_alloc] at this; omega))))
      go_wp2_with fail
      go_ret
      exact ⟨retI (by rw [he.out, IntWalk.i64_in _ (by omega)]; simp only [List.length_cons, List.length_append]; omega), unbox (by assumption)⟩
end Go.Proofs.YtbhpmeljmkoebaaDoor.K
