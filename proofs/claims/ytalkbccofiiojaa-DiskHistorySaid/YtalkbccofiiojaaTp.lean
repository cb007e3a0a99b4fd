/- DiskTogether: the plain part. -/
import Derived.Test.YtalkbccofiiojaaRd
namespace Go.Proofs.Ytalkbccofiiojaa
open Go.RowKit

structure Ac where
  sync : Bool
  pl : UInt8
  by_ : UInt8
def plT (n : Nat) (a : Ac) : Nat := a.pl.toNat % n
def wT (n : Nat) (a : Ac) : Wr := ⟨(plT n a : Nat), pad [a.by_]⟩
def xT (d : Dk) (l : List Ac) (k : Nat) : Dk := ⟨applyW d.secs ((l.map (wT d.secs.length)).take k), [], lessD d.left k, false⟩
def zT (d : Dk) (l : List Ac) (k : Nat) : Dk := ⟨(xT d l k).secs, ([] : List Wr) ++ [(l.map (wT d.secs.length)).getD k ⟨0, []⟩], lessD d.left k, false⟩
def endT (d : Dk) (l : List Ac) : Dk := ⟨tornS (applyW d.secs ((l.map (wT d.secs.length)).take d.left.toNat)) ((l.map (wT d.secs.length)).getD d.left.toNat ⟨0, []⟩), [], 0, true⟩
def yT (d : Dk) (l : List Ac) (k : Nat) : Dk := ⟨d.secs, (l.map (wT d.secs.length)).take k, d.left, false⟩

theorem wT_ok {d : Dk} (h : runB d = true) (a : Ac) : (0 ≤ (wT d.secs.length a).pl ∧ (wT d.secs.length a).pl < d.secs.length) ∧ (wT d.secs.length a).data.length = 128 := by
  have h1 := (chkB_iff.1 (runB_iff.1 h).1).1
  have h2 : plT d.secs.length a < d.secs.length := Nat.mod_lt _ (by omega)
  exact ⟨⟨by simp only [wT]; omega, by simp only [wT]; omega⟩, pad_length _⟩
theorem wTs_ok {d : Dk} (h : runB d = true) (l : List Ac) : ∀ x ∈ l.map (wT d.secs.length), (0 ≤ x.pl ∧ x.pl < d.secs.length) ∧ x.data.length = 128 := by
  intro x hx
  obtain ⟨a, -, rfl⟩ := List.mem_map.1 hx
  exact wT_ok h a
theorem xT_len (d : Dk) (l : List Ac) (k : Nat) : (xT d l k).secs.length = d.secs.length := applyW_length _ _
theorem lessD_ok {l : Int} {k : Nat} (h : -1 ≤ l ∧ l ≤ 65536) (hk : l = -1 ∨ (k : Int) ≤ l) : -1 ≤ lessD l k ∧ lessD l k ≤ 65536 := by
  unfold lessD
  split <;> omega
theorem run_xT {d : Dk} (h : runB d = true) (l : List Ac) (k : Nat) (hk : d.left = -1 ∨ (k : Int) ≤ d.left) : runB (xT d l k) = true := by
  have ho := wTs_ok h l
  rw [runB_iff, chkB_iff] at h
  obtain ⟨⟨h1, h2, h3, h4, h5, h6, h7⟩, h8⟩ := h
  have hl := lessD_ok ⟨h4, h5⟩ hk
  rw [runB_iff, chkB_iff]
  refine ⟨⟨by rw [xT_len]; exact h1, by rw [xT_len]; exact h2, Nat.zero_le _, hl.1, hl.2, ?_, ?_⟩, rfl⟩
  · exact applyW_128 _ _ h6 fun x hx => (ho x (List.mem_of_mem_take hx)).2
  · intro x hx; simp [xT] at hx
theorem mapT_getD (n : Nat) (l : List Ac) (k : Nat) (hk : k < l.length) : (l.map (wT n)).getD k ⟨0, []⟩ = wT n l[k] := by
  simp [List.getD, hk]
theorem write_xT {d : Dk} (h : runB d = true) (l : List Ac) (k : Nat) (hk : d.left = -1 ∨ (k : Int) ≤ d.left) (hl : k < l.length) :
    writeD (xT d l k) (plT d.secs.length l[k] : Nat) [l[k].by_] = (zT d l k, 0) := by
  have hr := run_xT h l k hk
  have hw := (wT_ok h l[k]).1
  have hh : hasB (xT d l k) (plT d.secs.length l[k] : Nat) = true := by rw [hasB_iff, xT_len]; exact hw
  unfold writeD
  rw [hr, hh, if_neg (by decide), if_neg (by simp), if_neg (by simp [xT])]
  unfold zT
  rw [mapT_getD _ _ _ hl]
  rfl
theorem sync_zT {d : Dk} (h : runB d = true) (l : List Ac) (k : Nat) (hk : d.left = -1 ∨ (k : Int) ≤ d.left) (hl : k < l.length) :
    (runB (zT d l k) = true) ∧ ((d.left = -1 ∨ ((k + 1 : Nat) : Int) ≤ d.left) ∧ syncD (zT d l k) = (xT d l (k + 1), 0) ∨ d.left = k ∧ syncD (zT d l k) = (endT d l, 40)) := by
  have hr := run_xT h l k hk
  have ho := wT_ok h l[k]
  have hz : zT d l k = ⟨(xT d l k).secs, [wT d.secs.length l[k]], lessD d.left k, false⟩ := by
    unfold zT; rw [mapT_getD _ _ _ hl]; rfl
  have hrz : runB (zT d l k) = true := by
    rw [runB_iff, chkB_iff] at hr
    rw [hz, runB_iff, chkB_iff]
    obtain ⟨⟨h1, h2, h3, h4, h5, h6, h7⟩, h8⟩ := hr
    refine ⟨⟨h1, h2, by simp, h4, h5, h6, ?_⟩, rfl⟩
    intro x hx
    simp only [List.mem_singleton] at hx
    subst hx
    rw [xT_len]
    exact ho
  refine ⟨hrz, ?_⟩
  have hd := chkB_iff.1 (runB_iff.1 h).1
  have hap : applyW (xT d l k).secs [wT d.secs.length l[k]] = (xT d l (k + 1)).secs := by
    show applyW (applyW _ _) _ = applyW _ _
    unfold applyW
    rw [← List.foldl_append]
    congr 1
    rw [List.take_add_one, List.getElem?_map, List.getElem?_eq_getElem hl]
    rfl
  unfold syncD
  rw [hrz, if_neg (by decide)]
  by_cases hc : d.left = -1 ∨ ((k + 1 : Nat) : Int) ≤ d.left
  · refine .inl ⟨hc, ?_⟩
    have hp : perfN (zT d l k) = (zT d l k).pend.length := by
      rw [hz]
      unfold perfN lessD
      simp only [List.length_singleton]
      split <;> (split at * <;> omega)
    rw [if_pos hp, hz]
    show ((⟨applyW (xT d l k).secs [wT d.secs.length l[k]], [], lessD (lessD d.left k) 1, false⟩ : Dk), (0 : Int)) = _
    rw [hap]
    have : lessD (lessD d.left k) 1 = lessD d.left (k + 1) := by
      unfold lessD; split <;> (split at * <;> omega)
    rw [this]
    rfl
  · have hlk : d.left = k := by omega
    refine .inr ⟨hlk, ?_⟩
    have hp : perfN (zT d l k) = 0 := by
      rw [hz]
      unfold perfN lessD
      simp only [List.length_singleton]
      split <;> (split at * <;> omega)
    have hn : ¬ perfN (zT d l k) = (zT d l k).pend.length := by rw [hp, hz]; simp
    rw [if_neg hn, hp, hz]
    unfold endT
    have hlt : d.left.toNat = k := by omega
    rw [hlt, mapT_getD _ _ _ hl]
    rfl
theorem run_yT {d : Dk} (h : runB d = true) (l : List Ac) (k : Nat) (hl : l.length ≤ 20) : runB (yT d l k) = true := by
  have ho := wTs_ok h l
  rw [runB_iff, chkB_iff] at h
  obtain ⟨⟨h1, h2, h3, h4, h5, h6, h7⟩, h8⟩ := h
  rw [runB_iff, chkB_iff]
  exact ⟨⟨h1, h2, by simp [yT]; omega, h4, h5, h6, fun x hx => ho x (List.mem_of_mem_take hx)⟩, rfl⟩
theorem write_yT {d : Dk} (h : runB d = true) (l : List Ac) (k : Nat) (hl : l.length ≤ 20) (hk : k < l.length) :
    writeD (yT d l k) (plT d.secs.length l[k] : Nat) [l[k].by_] = (yT d l (k + 1), 0) := by
  have hr := run_yT h l k hl
  have hw := (wT_ok h l[k]).1
  have hh : hasB (yT d l k) (plT d.secs.length l[k] : Nat) = true := by rw [hasB_iff]; exact hw
  unfold writeD
  rw [hr, hh, if_neg (by decide), if_neg (by simp), if_neg (by simp [yT]; omega)]
  unfold yT
  rw [List.take_add_one, List.getElem?_map, List.getElem?_eq_getElem hk]
  rfl
theorem yT_zero {d : Dk} (hp : d.pend.length = 0) (hs : d.stop = false) (l : List Ac) : yT d l 0 = d := by
  cases d with
  | mk a b c e =>
    simp only at hp hs
    subst hs
    have := List.eq_nil_of_length_eq_zero hp
    subst this
    simp [yT]
theorem xT_zero {d : Dk} (hp : d.pend.length = 0) (hs : d.stop = false) (l : List Ac) : xT d l 0 = d := by
  cases d with
  | mk a b c e =>
    simp only at hp hs
    subst hs
    have := List.eq_nil_of_length_eq_zero hp
    subst this
    simp only [xT, lessD, List.take_zero, applyW, List.foldl_nil]
    split <;> simp_all
theorem sync_yT {d : Dk} (h : runB d = true) (l : List Ac) (hl : l.length ≤ 20) :
    ((d.left = -1 ∨ (l.length : Int) ≤ d.left) ∧ syncD (yT d l l.length) = (xT d l l.length, 0)) ∨ (0 ≤ d.left ∧ d.left < l.length ∧ syncD (yT d l l.length) = (endT d l, 40)) := by
  have hr := run_yT h l l.length hl
  have hd := chkB_iff.1 (runB_iff.1 h).1
  have hz : yT d l l.length = ⟨d.secs, l.map (wT d.secs.length), d.left, false⟩ := by
    unfold yT; rw [List.take_of_length_le (by simp)]
  unfold syncD
  rw [hr, if_neg (by decide)]
  by_cases hc : d.left = -1 ∨ (l.length : Int) ≤ d.left
  · refine .inl ⟨hc, ?_⟩
    have hp : perfN (yT d l l.length) = (yT d l l.length).pend.length := by
      rw [hz]
      unfold perfN
      simp only [List.length_map]
      split <;> omega
    rw [if_pos hp, hz]
    unfold xT
    rw [List.take_of_length_le (by simp), List.length_map]
  · refine .inr ⟨by omega, by omega, ?_⟩
    have hp : perfN (yT d l l.length) = d.left.toNat := by
      rw [hz]
      unfold perfN
      simp only [List.length_map]
      split <;> omega
    have hn : ¬ perfN (yT d l l.length) = (yT d l l.length).pend.length := by rw [hp, hz]; simp; omega
    rw [if_neg hn, hp, hz]
    rfl
end Go.Proofs.Ytalkbccofiiojaa
