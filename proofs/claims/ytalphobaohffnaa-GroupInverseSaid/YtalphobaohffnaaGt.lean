/- element, mul, pow of the laws: contracts. -/
import Derived.Test.YtalphobaohffnaaGs
namespace Go.Proofs.Ytalphobaohffnaa
open Go.RowKit

/-- The element for any number. -/
def anE (n : Int) : Nat := (elV (md n + 1)).toNat
theorem anE_El (n : Int) : El (anE n) ∧ elV (md n + 1) = (anE n : Int) := by
  have h := md_range n
  have hv := elV_vd (n := md n + 1) (by omega) (by omega)
  obtain ⟨k, hk, he⟩ := vd_nat hv
  have e : anE n = k := by unfold anE; rw [hk]; rfl
  rw [e]
  exact ⟨he, hk⟩
set_option maxRecDepth 100000 in
set_option maxHeartbeats 1000000 in
theorem element_any (n : Int) (w : World) : Calls Try.prog 15 #[.int .i64 n] w fun e w' => e = .returned (.int .i64 (anE n : Int)) ∧ w' = w := by
  have he := Lib.hid (anE_El n).2
  have hr := md_range n
  go_enter Try.func15, Try.ntmps15
  by_cases h : n.tmod 1073741789 < 0
  · have hm := rem_md' h
    have hw := IntWalk.wrap64_in (n.tmod 1073741789 + 1073741789) (by have := rem_lo n; omega)
    rw [hm] at hw
    have hw2 := IntWalk.wrap64_in (md n + 1) (by omega)
    go_wp2_with fail
    refine (Element_any _ _).mono ?_
    rintro e w1 ⟨rfl, rfl⟩
    rw [he.out]
    go_wp2_with fail
    go_ret
    exact ⟨rfl, rfl⟩
  · have hm := rem_md h
    have hw2 := IntWalk.wrap64_in (md n + 1) (by omega)
    go_wp2_with fail
    refine (Element_any _ _).mono ?_
    rintro e w1 ⟨rfl, rfl⟩
    rw [he.out]
    go_wp2_with fail
    go_ret
    exact ⟨rfl, rfl⟩

theorem mulV_El {a b : Nat} (ha : El a) (hb : El b) : mulV a b = ((a * b % 2147483579 : Nat) : Int) ∧ mulE a b = 0 := by
  unfold mulV mulE
  rw [vd_El.2 ha, vd_El.2 hb]
  exact ⟨rfl, rfl⟩
/-- The product of the first k of the list. -/
def prN (l : List Nat) : Nat := l.foldl (fun c x => c * x % 2147483579) 1
theorem prN_El {l : List Nat} (h : ∀ x ∈ l, El x) : ∀ k, El (prN (l.take k)) := by
  have key : ∀ (l : List Nat) (c : Nat), El c → (∀ x ∈ l, El x) → El (l.foldl (fun c x => c * x % 2147483579) c) := by
    intro l
    induction l with
    | nil => intro c hc _; exact hc
    | cons x l ih => intro c hc hl; exact ih _ (hc.mul (hl x (List.mem_cons_self ..))) (fun y hy => hl y (List.mem_cons_of_mem _ hy))
  intro k
  exact key _ _ El.one (fun x hx => h x (List.mem_of_mem_take hx))
theorem prN_take {l : List Nat} {k : Nat} (h : k < l.length) : prN (l.take (k + 1)) = prN (l.take k) * l[k] % 2147483579 := by
  unfold prN
  rw [List.take_succ_eq_append_getElem h, List.foldl_append]
  rfl
/-- The integers for numbers. -/
def ints (l : List Nat) : List Int := l.map fun x : Nat => (x : Int)
set_option maxRecDepth 100000 in
set_option maxHeartbeats 1000000 in
theorem mul_any (l : List Nat) (hl : ∀ x ∈ l, El x) (hm : l.length ≤ 9223372036854775807) (w : World) (A : Option Addr) (c : Nat) (h : IR w (· < w.heap.size) A (ints l)) :
    Calls Try.prog 16 #[.slice A l.length c] w fun e w' => e = .returned (.int .i64 (prN l : Int)) ∧ w' = w := by
  have hh := Lib.hid h
  have hil : (ints l).length = l.length := by simp [ints]
  clear h
  replace hil := Lib.hid hil
  go_enter Try.func16, Try.ntmps16
  go_wp2_with fail
  go_loopw [3, 10] (fun n i wr => wr = w ∧ ∃ k : Nat, k ≤ l.length ∧ n = .int .i64 (prN (l.take k) : Int) ∧ i = .int .i64 (k : Int)) (fun _ i _ => l.length - (intOf i).toNat)
  case atStart => exact ⟨rfl, 0, Nat.zero_le _, rfl, rfl⟩
  case round =>
    obtain ⟨rfl, k, hk, rfl, rfl⟩ := hrel
    by_cases hlt : k < l.length
    · obtain ⟨b, off, rfl, hs, hc0, hI⟩ := hh.out.at_ (i := k) (by have := hil.out; omega)
      rw [show (ints l)[k]'(by have := hil.out; omega) = ((l[k] : Nat) : Int) by simp [ints]] at hc0
      have hst := Lib.hid (prN_take hlt)
      have hmu := Lib.hid (mulV_El (prN_El hl k) (hl l[k] (List.getElem_mem hlt)))
      have j0 : (0 : Int) ≤ k := by omega
      have j1 : (k : Int) < l.length := by omega
      clear hI
      generalize l[k] = x at *
      generalize prN (l.take k) = y at *
      go_wp2_with fail
      refine (Mul_eq hmu.out _).mono ?_
      rintro e w1 ⟨rfl, rfl⟩
      rw [← hst.out]
      go_wp2_with fail
      go_roundw
      case rel => exact ⟨trivial, k + 1, by omega, rfl, by go_num⟩
      case measure => simp [intOf]; omega
    · have hle : ¬ ((k : Int) < l.length) := by omega
      have hkl : k = l.length := by omega
      rw [hkl, List.take_of_length_le (Nat.le_refl _)]
      rw [hkl] at hle
      clear hlt hkl
      go_wp2_with fail
      go_ret
      exact ⟨rfl, rfl⟩
/-- The product of two, made by the call. -/
theorem mul2 {a b : Nat} (ha : El a) (hb : El b) (W w : World) (h : Hid (Below W.heap.size W w)) :
    Calls Try.prog 16 #[.slice (some ⟨w.heap.size, 0, none⟩) 2 2] (w.alloc (.cells #[.int .i64 (a : Int), .int .i64 (b : Int)] 3)) fun e w' => e = .returned (.int .i64 ((a * b % 2147483579 : Nat) : Int)) ∧ Hid (Below W.heap.size W w') := by
  have i64 : ∀ {x : Nat}, El x → I64 (x : Int) := fun h => by have := h.2.1; unfold I64; omega
  have hr := IR.two (i64 ha) (i64 hb) w 3
  refine (mul_any [a, b] (fun x hx => ?_) (by simp) _ _ 2 hr).mono ?_
  · rcases List.mem_cons.1 hx with rfl | hx
    · exact ha
    · rcases List.mem_cons.1 hx with rfl | hx
      · exact hb
      · cases hx
  · rintro e w1 ⟨rfl, rfl⟩
    refine ⟨?_, Lib.hid (h.out.trans ((bnew w _).mono h.out.size))⟩
    have : prN [a, b] = a * b % 2147483579 := by
      show 1 * a % 2147483579 * b % 2147483579 = _
      rw [Nat.one_mul, Nat.mod_eq_of_lt ha.2.1]
    rw [this]
set_option maxRecDepth 100000 in
set_option maxHeartbeats 1000000 in
theorem pow_any {a : Nat} (ha : El a) (n : Int) (hn : I64 n) (W w : World) (h : Hid (Below W.heap.size W w)) :
    Calls Try.prog 17 #[.int .i64 (a : Int), .int .i64 n] w fun e w' => e = .returned (.int .i64 (pz a n : Int)) ∧ Hid (Below W.heap.size W w') := by
  have hp : powV (a : Int) n = (pz a n : Int) ∧ powE (a : Int) = 0 := by
    unfold powV powE
    rw [vd_El.2 ha, pz_eq]
    exact ⟨rfl, rfl⟩
  replace hp := Lib.hid hp
  go_enter Try.func17, Try.ntmps17
  go_wp2_with fail
  refine (Pow_eq hp.out hn _).mono ?_
  rintro e w1 ⟨rfl, hb⟩
  replace h := Lib.hid (h.out.trans (hb.mono h.out.size))
  clear hb
  go_wp2_with fail
  go_ret
  exact ⟨rfl, h⟩
/-- The same, with the result named. -/
theorem mul_eq {a b c : Nat} (ha : El a) (hb : El b) (hc : a * b % 2147483579 = c) (W w : World) (h : Hid (Below W.heap.size W w)) :
    Calls Try.prog 16 #[.slice (some ⟨w.heap.size, 0, none⟩) 2 2] (w.alloc (.cells #[.int .i64 (a : Int), .int .i64 (b : Int)] 3)) fun e w' => e = .returned (.int .i64 (c : Int)) ∧ Hid (Below W.heap.size W w') := by
  subst hc
  exact mul2 ha hb W w h
theorem pow_eq {a c : Nat} (ha : El a) {n : Int} (hn : I64 n) (hc : pz a n = c) (W w : World) (h : Hid (Below W.heap.size W w)) :
    Calls Try.prog 17 #[.int .i64 (a : Int), .int .i64 n] w fun e w' => e = .returned (.int .i64 (c : Int)) ∧ Hid (Below W.heap.size W w') := by
  subst hc
  exact pow_any ha n hn W w h
end Go.Proofs.Ytalphobaohffnaa
