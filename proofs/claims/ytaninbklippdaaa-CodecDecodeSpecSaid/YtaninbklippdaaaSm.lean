/- Same, EqualFunc; the reference's Same, Encode, Size: contracts. -/
import Derived.Test.YtaninbklippdaaaEn
namespace Go.Proofs.Ytaninbklippdaaa
open Go.RowKit

mutual
def same : GV → GV → Bool
  | .mk k n s l, .mk k' n' s' l' => k == k' && (n == n' && (decide (s.toList = s'.toList) && (l.length == l'.length && sameAll l l')))
def sameAll : List GV → List GV → Bool
  | x :: r, y :: t => same x y && sameAll r t
  | [], _ => true
  | _ :: _, [] => true
end
theorem sameAll_drop (l m : List GV) (k : Nat) (h : k < l.length) (h' : k < m.length) : sameAll (l.drop k) (m.drop k) = (same l[k] m[k] && sameAll (l.drop (k + 1)) (m.drop (k + 1))) := by
  rw [List.drop_eq_getElem_cons h, List.drop_eq_getElem_cons h', sameAll]

/-- Two boxes of four cells, made first. -/
theorem box8 {w wr : World} {x0 x1 x2 x3 y0 y1 y2 y3 : Value} {t t' : TypeId} (hb : Below (w.heap.size + 2) ((w.alloc (.cells #[x0, x1, x2, x3] t)).alloc (.cells #[y0, y1, y2, y3] t')) wr) :
    (wr.cell? ⟨w.heap.size, 0, none⟩ = some x0 ∧ wr.cell? ⟨w.heap.size, 1, none⟩ = some x1 ∧ wr.cell? ⟨w.heap.size, 2, none⟩ = some x2 ∧ wr.cell? ⟨w.heap.size, 3, none⟩ = some x3) ∧
    (wr.cell? ⟨w.heap.size + 1, 0, none⟩ = some y0 ∧ wr.cell? ⟨w.heap.size + 1, 1, none⟩ = some y1 ∧ wr.cell? ⟨w.heap.size + 1, 2, none⟩ = some y2 ∧ wr.cell? ⟨w.heap.size + 1, 3, none⟩ = some y3) := by
  refine ⟨box4_2 hb, ?_⟩
  refine ⟨?_, ?_, ?_, ?_⟩ <;> (rw [hb.cell (by simp), World.cell?_alloc_at _ _ _ _ (by simp)]; rfl)

def SameAt (P : Program) (f : Nat) (x : GV) : Prop := ∀ (y : GV) (w : World) (B : Nat) (v v' : Value), B ≤ w.heap.size → RV w B x v → RV w B y v' → Calls P f #[v, v'] w fun e w' => e = .returned (.bool (same x y)) ∧ Below w.heap.size w w'

set_option maxRecDepth 100000 in
set_option maxHeartbeats 800000 in
theorem equalFunc_of (l : List GV) (ih : ∀ x ∈ l, SameAt Try.prog 13 x) (m : List GV)
    (w : World) (B : Nat) (hB : B ≤ w.heap.size) (a a' : Option Addr) (cap cap' : Nat) (h : RL w B l a cap) (h' : RL w B m a' cap') :
    Calls Try.prog 23 #[.slice a l.length cap, .slice a' m.length cap', .func (.func 13) #[] #[]] w fun e w' => e = .returned (.bool (l.length == m.length && sameAll l m)) ∧ Below w.heap.size w w' := by
  have hm : l.length ≤ 9223372036854775807 := Nat.le_trans h.1 (Nat.le_trans h.2.1 (by decide))
  have hm' : m.length ≤ 9223372036854775807 := Nat.le_trans h'.1 (Nat.le_trans h'.2.1 (by decide))
  have ih' := Lib.hid ih
  clear ih
  by_cases hlen : l.length = m.length
  · have hne : ((l.length : Int) != (m.length : Int)) = false := by simp [hlen]
    have hq := Lib.hid hlen
    clear hlen
    go_enter Try.func23, Try.ntmps23
    go_wp2_with fail
    go_loopw [17] (fun i wr => ∃ k : Nat, k ≤ l.length ∧ i = .int .i64 k ∧ sameAll l m = sameAll (l.drop k) (m.drop k) ∧ Below w.heap.size w wr) (fun i _ => l.length - (intOf i).toNat)
    case atStart => exact ⟨0, Nat.zero_le _, rfl, rfl, Below.refl _ _⟩
    case round =>
      obtain ⟨k, hk, rfl, hf, hb⟩ := hrel
      have hf' := Lib.hid hf
      clear hf
      by_cases hlt : k < l.length
      · have hlt' : k < m.length := by have := hq.out; omega
        obtain ⟨b, off, a1, c1, rfl, hbB, hv, c0, c1, c2, c3⟩ := (h.under hb hB).at_ hlt
        obtain ⟨b', off', a2, c2, rfl, hbB', hv', d0, d1, d2, d3⟩ := (h'.under hb hB).at_ hlt'
        have hd := Lib.hid (sameAll_drop l m k hlt hlt')
        have hz := hb.size
        have hbl : b < wr.heap.size := by omega
        have hbl' : b' < wr.heap.size := by omega
        go_wp2_with fail
        refine (ih'.out l[k] (List.getElem_mem hlt) m[k] _ B _ _ (by simp; omega) ((hv.alloc (by omega) _).alloc (by simp; omega) _) ((hv'.alloc (by omega) _).alloc (by simp; omega) _)).mono ?_
        rintro e w1 ⟨rfl, hb1⟩
        have hb2 := ((hb.alloc hb.size _).alloc (by simp; omega) _).trans (hb1.mono (by simp; omega))
        by_cases hx : same l[k] m[k] = true
        · go_wp2_with fail
          go_roundw
          case rel => exact ⟨k + 1, by omega, by go_num, by rw [hf'.out, hd.out, hx, Bool.true_and], hb2⟩
          case measure => simp [intOf]; omega
        · have hx' : same l[k] m[k] = false := by simpa using hx
          clear hx
          go_wp2_with fail
          go_ret
          exact ⟨retB (by rw [hf'.out, hd.out, hx', Bool.false_and, Bool.and_false]), hb2⟩
      · go_wp2_with fail
        go_ret
        exact ⟨retB (by rw [hf'.out, List.drop_of_length_le (by omega), sameAll, Bool.and_true, hq.out]; simp), hb⟩
  · have hne : ((l.length : Int) != (m.length : Int)) = true := bne_iff_ne.2 (by omega)
    have hq : Hid ((l.length == m.length) = false) := beq_eq_false_iff_ne.2 hlen
    go_enter Try.func23, Try.ntmps23
    go_wp2_with fail
    go_ret
    exact ⟨retB (by rw [hq.out]; rfl), Below.refl _ _⟩

set_option maxRecDepth 100000 in
set_option maxHeartbeats 800000 in
theorem Same_any (x : GV) : SameAt Try.prog 13 x := by
  induction x using GV.ind with
  | h k n s l ih =>
    intro y w B v v' hB hv hv'
    obtain ⟨k', n', s', l'⟩ := y
    obtain ⟨a, cap, rfl, hk, hn, hs, hby, hl⟩ := hv.parts
    obtain ⟨a', cap', rfl, hk', hn', hs', hby', hl'⟩ := hv'.parts
    have hEq := Lib.hid (equalFunc_of l ih l')
    simp only [GV.kind, GV.num, GV.str, GV.els] at *
    clear ih hv hv' hs hs' hk hk' hn hn' hby hby'
    have hl2 := (hl.keep (w' := w.alloc (.cells #[.int .i64 k, .int .i64 n, .string s, .slice a l.length cap] 26)) (fun b o h => World.cell?_alloc_lt w _ ⟨b, o, none⟩ (by simpa using Nat.lt_of_lt_of_le h hB))).keep (w' := (w.alloc (.cells #[.int .i64 k, .int .i64 n, .string s, .slice a l.length cap] 26)).alloc (.cells #[.int .i64 k', .int .i64 n', .string s', .slice a' l'.length cap'] 26)) (fun b o h => World.cell?_alloc_lt _ _ ⟨b, o, none⟩ (by simpa using Nat.lt_succ_of_lt (Nat.lt_of_lt_of_le h hB)))
    have hl2' := (hl'.keep (w' := w.alloc (.cells #[.int .i64 k, .int .i64 n, .string s, .slice a l.length cap] 26)) (fun b o h => World.cell?_alloc_lt w _ ⟨b, o, none⟩ (by simpa using Nat.lt_of_lt_of_le h hB))).keep (w' := (w.alloc (.cells #[.int .i64 k, .int .i64 n, .string s, .slice a l.length cap] 26)).alloc (.cells #[.int .i64 k', .int .i64 n', .string s', .slice a' l'.length cap'] 26)) (fun b o h => World.cell?_alloc_lt _ _ ⟨b, o, none⟩ (by simpa using Nat.lt_succ_of_lt (Nat.lt_of_lt_of_le h hB)))
    clear hl hl'
    have hB2 : Below w.heap.size w ((w.alloc (.cells #[.int .i64 k, .int .i64 n, .string s, .slice a l.length cap] 26)).alloc (.cells #[.int .i64 k', .int .i64 n', .string s', .slice a' l'.length cap'] 26)) := ((Below.refl _ _).alloc (Nat.le_refl _) _).alloc (by simp) _
    by_cases h1 : (k == k') = true
    · by_cases h2 : (n == n') = true
      · by_cases h3 : s.toList = s'.toList
        · have hfin : Hid (same (.mk k n s l) (.mk k' n' s' l') = (l.length == l'.length && sameAll l l')) := by rw [same, h1, h2, decide_eq_true h3]; rfl
          go_enter Try.func13, Try.ntmps13
          go_wp2_with fail
          refine (hEq.out _ B (by simp; omega) a a' cap cap' hl2 hl2').mono ?_
          rintro e w1 ⟨rfl, hb1⟩
          have hb2 := hB2.trans (hb1.mono (by simp; omega))
          go_wp2_with fail
          go_ret
          exact ⟨retB hfin.out.symm, hb2⟩
        · have hfin : Hid (same (.mk k n s l) (.mk k' n' s' l') = false) := by rw [same, h1, h2, decide_eq_false h3]; rfl
          go_enter Try.func13, Try.ntmps13
          go_wp2_with fail
          go_ret
          exact ⟨retB hfin.out.symm, hB2⟩
      · have h2' : (n == n') = false := by simpa using h2
        clear h2
        have hfin : Hid (same (.mk k n s l) (.mk k' n' s' l') = false) := by rw [same, h1, h2']; rfl
        go_enter Try.func13, Try.ntmps13
        go_wp2_with fail
        go_ret
        exact ⟨retB hfin.out.symm, hB2⟩
    · have h1' : (k == k') = false := by simpa using h1
      clear h1
      have hfin : Hid (same (.mk k n s l) (.mk k' n' s' l') = false) := by rw [same, h1']; rfl
      go_enter Try.func13, Try.ntmps13
      go_wp2_with fail
      go_ret
      exact ⟨retB hfin.out.symm, hB2⟩

theorem OB.len {w : World} {B : Nat} {v : Value} {l : List UInt8} (h : OB w B v l) : ∃ a c, v = .slice a l.length c := by
  rcases h.2 with ⟨rfl, h0⟩ | ⟨g, cap, cur, rfl, _⟩
  · exact ⟨none, 0, by rw [h0]⟩
  · exact ⟨_, cap, rfl⟩

theorem encB_length (x : GV) (hn : Nums x) (hb : big x ≤ 1000000) : (encB x).length ≤ 12 * big x := by
  unfold encB
  split
  · exact enc_length x hn hb
  · simp
end Go.Proofs.Ytaninbklippdaaa
