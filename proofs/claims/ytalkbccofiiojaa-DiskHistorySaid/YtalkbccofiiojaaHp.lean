/- DiskHistory: the plain part. -/
import Derived.Test.YtalkbccofiiojaaTp
namespace Go.Proofs.Ytalkbccofiiojaa
open Go.RowKit

def sect (f s : UInt8) : List UInt8 := (zero128.set 0 f).set 64 s
theorem sect_length (f s : UInt8) : (sect f s).length = 128 := by unfold sect; simp [zero128]
theorem dbl_sect (c : UInt8) : dbl c = sect c c := rfl
def setA (l : List UInt8) (acts : List Ac) : List UInt8 := acts.foldl (fun l a => l.set (a.pl.toNat % 4) a.by_) l
def secsH (P Q : List UInt8) : List (List UInt8) := List.zipWith sect P Q
def wH (a : Ac) : Wr := ⟨((a.pl.toNat % 4 : Nat) : Int), dbl a.by_⟩
theorem setA_length (l : List UInt8) (acts : List Ac) : (setA l acts).length = l.length := by
  unfold setA
  induction acts generalizing l with
  | nil => rfl
  | cons p ps ih => rw [List.foldl_cons, ih]; simp
theorem secsH_length {P Q : List UInt8} (h : P.length = 4) (k : Q.length = 4) : (secsH P Q).length = 4 := by unfold secsH; simp [h, k]
theorem secsH_getD {P Q : List UInt8} (h : P.length = 4) (k : Q.length = 4) {j : Nat} (hj : j < 4) : (secsH P Q).getD j [] = sect (P.getD j 0) (Q.getD j 0) := by
  unfold secsH
  rw [List.getD_eq_getElem?_getD, List.getElem?_zipWith, List.getElem?_eq_getElem (by omega), List.getElem?_eq_getElem (by omega)]
  simp [List.getD, h, k, hj]
theorem secsH_128 (P Q : List UInt8) : ∀ s ∈ secsH P Q, s.length = 128 := by
  intro s hs
  unfold secsH at hs
  obtain ⟨i, h1, rfl⟩ := List.getElem_of_mem hs
  rw [List.getElem_zipWith]
  exact sect_length _ _
theorem secsH_set (P Q : List UInt8) (j : Nat) (c e : UInt8) : (secsH P Q).set j (sect c e) = secsH (P.set j c) (Q.set j e) := by
  unfold secsH
  induction P generalizing Q j with
  | nil => simp
  | cons p P ih =>
    cases Q with
    | nil => simp
    | cons q Q =>
      cases j with
      | zero => simp
      | succ j => simp [ih]
theorem apply_H (P Q : List UInt8) (l : List Ac) : applyW (secsH P Q) (l.map wH) = secsH (setA P l) (setA Q l) := by
  induction l generalizing P Q with
  | nil => rfl
  | cons a l ih =>
    show applyW ((secsH P Q).set _ (dbl a.by_)) (l.map wH) = _
    rw [dbl_sect, secsH_set, ih]
    rfl
theorem take_sect (c e : UInt8) : (sect c e).take 64 = c :: List.replicate 63 0 := by
  unfold sect zero128
  rw [List.take_set_of_le (by omega), List.take_set, List.take_replicate]
  rfl
theorem drop_sect (c e : UInt8) : (sect c e).drop 64 = e :: List.replicate 63 0 := by
  unfold sect zero128
  rw [List.drop_set, if_neg (by omega), List.drop_set, if_pos (by omega), List.drop_replicate]
  rfl
theorem sect_split (c e : UInt8) : sect c e = (c :: List.replicate 63 0) ++ (e :: List.replicate 63 0) := by
  rw [← take_sect c e, ← drop_sect c e, List.take_append_drop]
theorem torn_H {P Q : List UInt8} (h : P.length = 4) (k : Q.length = 4) (a : Ac) : tornS (secsH P Q) (wH a) = secsH (P.set (a.pl.toNat % 4) a.by_) Q := by
  have hj : a.pl.toNat % 4 < 4 := Nat.mod_lt _ (by omega)
  unfold tornS
  show (secsH P Q).set (((a.pl.toNat % 4 : Nat) : Int)).toNat ((dbl a.by_).take 64 ++ ((secsH P Q).getD (((a.pl.toNat % 4 : Nat) : Int)).toNat []).drop 64) = _
  rw [Int.toNat_natCast, secsH_getD h k hj, dbl_sect, take_sect, drop_sect, ← sect_split, secsH_set]
  congr 1
  rw [List.getD_eq_getElem?_getD, List.getElem?_eq_getElem (by omega)]
  simp
def dH (P : List UInt8) (l : List Ac) (room : Nat) : Dk := ⟨secsH P P, l.map wH, room, false⟩
theorem run_dH {P : List UInt8} {l : List Ac} {room : Nat} (h : P.length = 4) (hl : l.length ≤ 40) (hr : room ≤ 255) : runB (dH P l room) = true := by
  rw [runB_iff, chkB_iff]
  have h4 := secsH_length h h
  refine ⟨⟨by show 1 ≤ (secsH P P).length; omega, by show (secsH P P).length ≤ 4096; omega, by show (l.map wH).length ≤ 4096; simp; omega, by show -1 ≤ (room : Int); omega, by show (room : Int) ≤ 65536; omega, secsH_128 P P, ?_⟩, rfl⟩
  intro x hx
  obtain ⟨a, -, rfl⟩ := List.mem_map.1 hx
  refine ⟨?_, dbl_length _⟩
  show 0 ≤ ((a.pl.toNat % 4 : Nat) : Int) ∧ ((a.pl.toNat % 4 : Nat) : Int) < ((secsH P P).length : Nat)
  rw [h4]
  omega
theorem has_dH {P : List UInt8} {l : List Ac} {room : Nat} (h : P.length = 4) {j : Nat} (hj : j < 4) : hasB (dH P l room) (j : Nat) = true := by
  rw [hasB_iff]
  show 0 ≤ ((j : Nat) : Int) ∧ ((j : Nat) : Int) < ((secsH P P).length : Nat)
  rw [secsH_length h h]
  omega
theorem read_dH {P : List UInt8} {l : List Ac} {room : Nat} (h : P.length = 4) {j : Nat} (hj : j < 4) : readL (dH P l room) (j : Nat) = sect ((setA P l).getD j 0) ((setA P l).getD j 0) := by
  have h4 : (setA P l).length = 4 := by rw [setA_length, h]
  unfold readL
  show lastW (l.map wH) (j : Nat) ((secsH P P).getD ((j : Nat) : Int).toNat []) = _
  rw [Int.toNat_natCast, ← applyW_getD _ _ _ (by rw [secsH_length h h]; exact hj) (fun x hx => by obtain ⟨a, -, rfl⟩ := List.mem_map.1 hx; show 0 ≤ ((a.pl.toNat % 4 : Nat) : Int); omega), apply_H, secsH_getD h4 h4 hj]
theorem write_dH {P : List UInt8} {l : List Ac} {room : Nat} (h : P.length = 4) (hl : l.length ≤ 40) (hr : room ≤ 255) (a : Ac) : writeD (dH P l room) ((a.pl.toNat % 4 : Nat) : Int) (dbl a.by_) = (dH P (l ++ [a]) room, 0) := by
  have hj : a.pl.toNat % 4 < 4 := Nat.mod_lt _ (by omega)
  unfold writeD
  rw [run_dH h hl hr, has_dH h hj, if_neg (by decide), if_neg (by rw [dbl_length]; omega), if_neg (by show ¬ (l.map wH).length = 4096; simp; omega)]
  unfold dH
  rw [List.map_append, pad_full (dbl_length _)]
  rfl
def tornH (P : List UInt8) (l : List Ac) (room : Nat) : Dk := ⟨secsH (setA P (l.take (room + 1))) (setA P (l.take room)), [], 0, true⟩
theorem sync_dH {P : List UInt8} {l : List Ac} {room : Nat} (h : P.length = 4) (hl : l.length ≤ 40) (hr : room ≤ 255) : syncD (dH P l room) = if l.length ≤ room then (dH (setA P l) [] (room - l.length), 0) else (tornH P l room, 40) := by
  have hpf : perfN (dH P l room) = min room l.length := by
    unfold perfN dH
    rw [if_neg (by show ¬ (room : Int) = -1; omega)]
    simp
  unfold syncD
  rw [run_dH h hl hr, if_neg (by decide), hpf]
  show (if min room l.length = (l.map wH).length then _ else _) = _
  rw [List.length_map]
  by_cases hc : l.length ≤ room
  · rw [if_pos (by omega), if_pos hc]
    unfold dH
    simp only [List.length_map, List.map_nil]
    rw [apply_H]
    have : lessD (room : Int) l.length = ((room - l.length : Nat) : Int) := by unfold lessD; rw [if_neg (by omega)]; omega
    rw [this]
  · rw [if_neg (by omega), if_neg hc]
    have hm : min room l.length = room := by omega
    rw [hm]
    unfold tornH dH
    simp only [← List.map_take]
    have hg : (l.map wH).getD room ⟨0, []⟩ = wH (l[room]'(by omega)) := by
      rw [List.getD_eq_getElem?_getD, List.getElem?_map, List.getElem?_eq_getElem (by omega)]; rfl
    have h4 : (setA P (l.take room)).length = 4 := by rw [setA_length, h]
    rw [apply_H, hg, torn_H h4 h4]
    congr 3
    unfold setA
    rw [List.take_add_one, List.foldl_append, List.getElem?_eq_getElem (by omega)]
    rfl
/-- A disk whose halves begin with given bytes. -/
def HR (d : Dk) (P Q : List UInt8) : Prop := runB d = true ∧ ∀ j : Nat, j < 4 → hasB d (j : Nat) = true ∧ readL d (j : Nat) = sect (P.getD j 0) (Q.getD j 0)
theorem HR_dH {P : List UInt8} {l : List Ac} {room : Nat} (h : P.length = 4) (hl : l.length ≤ 40) (hr : room ≤ 255) : HR (dH P l room) (setA P l) (setA P l) :=
  ⟨run_dH h hl hr, fun _ hj => ⟨has_dH h hj, read_dH h hj⟩⟩
theorem HR_secs {P Q : List UInt8} (h : P.length = 4) (k : Q.length = 4) : HR ⟨secsH P Q, [], -1, false⟩ P Q := by
  have h4 := secsH_length h k
  refine ⟨?_, fun j hj => ⟨?_, ?_⟩⟩
  · rw [runB_iff, chkB_iff]
    exact ⟨⟨by show 1 ≤ (secsH P Q).length; omega, by show (secsH P Q).length ≤ 4096; omega, Nat.zero_le _, by show (-1 : Int) ≤ -1; omega, by show (-1 : Int) ≤ 65536; omega, secsH_128 P Q, fun x hx => by simp at hx⟩, rfl⟩
  · rw [hasB_iff]
    show 0 ≤ ((j : Nat) : Int) ∧ ((j : Nat) : Int) < ((secsH P Q).length : Nat)
    rw [h4]
    omega
  · show (secsH P Q).getD ((j : Nat) : Int).toNat [] = _
    rw [Int.toNat_natCast, secsH_getD h k hj]
theorem HR_restD (P : List UInt8) (l : List Ac) (room : Nat) (h : P.length = 4) : HR (restD (dH P l room)) P P := HR_secs h h
theorem HR_restT (P : List UInt8) (l : List Ac) (room : Nat) (h : P.length = 4) : HR (restD (tornH P l room)) (setA P (l.take (room + 1))) (setA P (l.take room)) := HR_secs (by rw [setA_length, h]) (by rw [setA_length, h])
theorem setA_take_succ (P : List UInt8) (l : List Ac) (k : Nat) (hk : k < l.length) : setA P (l.take (k + 1)) = (setA P (l.take k)).set (l[k].pl.toNat % 4) l[k].by_ := by
  unfold setA
  rw [List.take_add_one, List.foldl_append, List.getElem?_eq_getElem hk]
  rfl
theorem setA_append (P : List UInt8) (l : List Ac) (a : Ac) : setA P (l ++ [a]) = (setA P l).set (a.pl.toNat % 4) a.by_ := by
  unfold setA
  rw [List.foldl_append]
  rfl
theorem sect_0 (c e : UInt8) : (sect c e)[0]'(by rw [sect_length]; omega) = c := by
  simp [sect, zero128]
theorem sect_64 (c e : UInt8) : (sect c e)[64]'(by rw [sect_length]; omega) = e := by
  simp [sect, zero128]
theorem sect_1 (c e : UInt8) : (sect c e)[1]'(by rw [sect_length]; omega) = 0 := by
  simp [sect, zero128]
theorem sect_127 (c e : UInt8) : (sect c e)[127]'(by rw [sect_length]; omega) = 0 := by
  simp [sect, zero128]
end Go.Proofs.Ytalkbccofiiojaa
