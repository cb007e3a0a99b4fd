/- Lists of tokens in memory; the table of scanners. -/
import Derived.Test.YtndfchnmajfmiaaDoorTo
import Derived.Laws.EntriesVeiled
import Derived.Deep.AppendLies
import Derived.Deep.RegionHeld3
import Derived.Laws.Rows
namespace Go.Proofs.YtndfchnmajfmiaaDoor
open Go.RowKit

/-- A token's cells. -/
def tkC (t : Tk) : List Value := [.int .i64 t.k, .string ⟨t.s.toArray⟩, .int .i64 t.n, .int .i64 t.p]
def flatT (m : List Tk) : List Value := m.flatMap tkC
theorem flatT_length (m : List Tk) : (flatT m).length = m.length * 4 := by
  induction m with
  | nil => rfl
  | cons t r ih => unfold flatT at ih ⊢; rw [List.flatMap_cons, List.length_append, ih]; simp [tkC]; omega
theorem flatT_append (m l : List Tk) : flatT (m ++ l) = flatT m ++ flatT l := by unfold flatT; rw [List.flatMap_append]
theorem flatT_one (t : Tk) : flatT [t] = tkC t := by simp [flatT]
theorem flatT_get (m : List Tk) : ∀ (i : Nat) (h : i < m.length), (flatT m)[i * 4]? = some (.int .i64 m[i].k) ∧ (flatT m)[i * 4 + 1]? = some (.string ⟨m[i].s.toArray⟩) ∧ (flatT m)[i * 4 + 2]? = some (.int .i64 m[i].n) ∧ (flatT m)[i * 4 + 3]? = some (.int .i64 m[i].p) := by
  induction m with
  | nil => intro i h; simp at h
  | cons t r ih =>
    intro i h
    have e : flatT (t :: r) = tkC t ++ flatT r := by unfold flatT; rw [List.flatMap_cons]
    cases i with
    | zero => rw [e]; simp [tkC]
    | succ i =>
      obtain ⟨h0, h1, h2, h3⟩ := ih i (by simpa using h)
      have hl : (tkC t).length = 4 := rfl
      rw [e]
      refine ⟨?_, ?_, ?_, ?_⟩
      · rw [List.getElem?_append_right (by rw [hl]; omega), hl, show (i + 1) * 4 - 4 = i * 4 by omega, h0]; rfl
      · rw [List.getElem?_append_right (by rw [hl]; omega), hl, show (i + 1) * 4 + 1 - 4 = i * 4 + 1 by omega, h1]; rfl
      · rw [List.getElem?_append_right (by rw [hl]; omega), hl, show (i + 1) * 4 + 2 - 4 = i * 4 + 2 by omega, h2]; rfl
      · rw [List.getElem?_append_right (by rw [hl]; omega), hl, show (i + 1) * 4 + 3 - 4 = i * 4 + 3 by omega, h3]; rfl

/-- A slice of tokens at address A, below block B. -/
def TR (w : World) (B : Nat) (A : Option Addr) (m : List Tk) : Prop :=
  0 < m.length → ∃ b off, A = some ⟨b, off, none⟩ ∧ b < B ∧ ∀ i (h : i < m.length), w.cell? ⟨b, off + i * 4, none⟩ = some (.int .i64 m[i].k) ∧ w.cell? ⟨b, off + i * 4 + 1, none⟩ = some (.string ⟨m[i].s.toArray⟩) ∧
    w.cell? ⟨b, off + i * 4 + 2, none⟩ = some (.int .i64 m[i].n) ∧ w.cell? ⟨b, off + i * 4 + 3, none⟩ = some (.int .i64 m[i].p)
theorem TR.keep {w w' : World} {B : Nat} {A : Option Addr} {m : List Tk} (hk : ∀ b o, b < B → w'.cell? ⟨b, o, none⟩ = w.cell? ⟨b, o, none⟩) (h : TR w B A m) : TR w' B A m := by
  intro hp
  obtain ⟨b, off, e, hb, hc⟩ := h hp
  exact ⟨b, off, e, hb, fun i hi => by rw [hk _ _ hb, hk _ _ hb, hk _ _ hb, hk _ _ hb]; exact hc i hi⟩
theorem TR.below {w w' : World} {B B' : Nat} {A : Option Addr} {m : List Tk} (h : TR w B A m) (hb : Below B' w w') (hB : B ≤ B') : TR w' B A m :=
  h.keep fun b o hlt => hb.cell (p := ⟨b, o, none⟩) (Nat.lt_of_lt_of_le hlt hB)
theorem TR.mono {w : World} {B B' : Nat} {A : Option Addr} {m : List Tk} (h : TR w B A m) (hB : B ≤ B') : TR w B' A m := fun hp => by
  obtain ⟨b, off, e, hb, hc⟩ := h hp
  exact ⟨b, off, e, Nat.lt_of_lt_of_le hb hB, hc⟩
theorem TR.nil (w : World) (B : Nat) (A : Option Addr) : TR w B A [] := fun h => by simp at h

/-- A row of tokens of the call's own. -/
def TO (w : World) (B : Nat) (v : Value) (m : List Tk) : Prop := w.ownsRow B 35 4 v m.length (flatT m)
theorem TO.nil (w : World) (B : Nat) : TO w B (.slice none 0 0) [] := World.ownsRow_nil w B _ 4
theorem TO.below {w w' : World} {B : Nat} {v : Value} {m : List Tk} (h : TO w B v m) (hb : Below w.heap.size w w') : TO w' B v m :=
  World.ownsRow.kept (row := none) h ⟨hb.os, hb.tape, hb.output, hb.size, fun k hk _ => hb.block k hk⟩ (by cases hv : v.ownBlock <;> simp)
theorem TO.lt {w : World} {B : Nat} {v : Value} {m : List Tk} (h : TO w B v m) : ∀ k, v.ownBlock = some k → B ≤ k ∧ k < w.heap.size := World.ownsRow.lt h
theorem TO.form {w : World} {B : Nat} {v : Value} {m : List Tk} (h : TO w B v m) : ∃ A c, v = .slice A m.length c ∧ m.length ≤ c ∧ TR w w.heap.size A m := by
  rcases Nat.eq_zero_or_pos m.length with h0 | h0
  · have hm : m = [] := List.eq_nil_of_length_eq_zero h0
    subst hm
    rcases h.2 with ⟨rfl, _⟩ | ⟨g, cap, cur, rfl, _, _, hc, _⟩
    · exact ⟨none, 0, rfl, Nat.le_refl _, TR.nil _ _ _⟩
    · exact ⟨_, cap, rfl, by simp, TR.nil _ _ _⟩
  · obtain ⟨g, c, e, hb, hlt⟩ := World.ownsRow.form h h0
    have hcells := World.ownsRow.cells h (g := g) (by rw [e]; rfl)
    have hcap : m.length ≤ c := by
      rcases h.2 with ⟨rfl, _⟩ | ⟨g', cap, cur, e', _, _, hc, _⟩
      · cases e
      · rw [e'] at e; injection e with _ _ e; omega
    refine ⟨some ⟨g, 0, none⟩, c, e, hcap, fun _ => ⟨g, 0, rfl, hlt, fun i hi => ?_⟩⟩
    obtain ⟨h0, h1, h2, h3⟩ := flatT_get m i hi
    have k := fun j u (hu : (flatT m)[j]? = some u) => hcells j u hu
    simp only [add_none] at k
    exact ⟨k _ _ h0, by rw [Nat.add_assoc]; exact k _ _ h1, by rw [Nat.add_assoc]; exact k _ _ h2, by rw [Nat.add_assoc]; exact k _ _ h3⟩

theorem Tryd.infoT : (Tryd.prog.info? 35).map (fun i => (i.zero, i.size, i.bytes)) = some (some (.agg #[.int .i64 0, .string ⟨#[]⟩, .int .i64 0, .int .i64 0]), 4, 40) := by kernel_rfl

/-- append of one token, whose cells lie in a block of their own. -/
theorem app_tok {ops : Array Oper} {rest : List Oper} {o : Oper} {a : Act} {Q : Exit → Act → World → Prop} {w : World} (hgd : o.guard = none) (s x : Operand)
    (ho : o.op = .call { callee := .builtin .append, args := #[s, x], argTypes := #[23, 23] })
    (B : Nat) (v : Value) (m : List Tk) (hs : a.eval s = v) (hown : TO w B v m) (t : Tk) (hx : a.eval x = .slice (some ⟨w.heap.size, 0, none⟩) 1 1) (hlen : m.length ≤ 100000000) (hB : B ≤ w.heap.size)
    (h : ∀ v' w', TO w' B v' (m ++ [t]) → Below B w w' → w.heap.size < w'.heap.size → wpList Tryd.prog ops Q rest (a.put o.dst v') w') :
    wpList Tryd.prog ops Q (o :: rest) a (w.alloc (.cells #[.int .i64 t.k, .string ⟨t.s.toArray⟩, .int .i64 t.n, .int .i64 t.p] 35)) := by
  obtain ⟨i0, hi0, hz0, hz1, hz2⟩ := info_parts Tryd.infoT
  refine wpList_append_lies _ hgd s x 23 ho B 35 i0 _ 4 40 Tryd.underlying23 hi0 hz0 hz1 hz2 rfl (by decide) v m.length (flatT m) hs (World.ownsRow.alloc hown _) ⟨w.heap.size, 0, none⟩ 1 1 (tkC t) hx rfl
    (World.news_of_block (cs := #[.int .i64 t.k, .string ⟨t.s.toArray⟩, .int .i64 t.n, .int .i64 t.p]) (heap_alloc_new w _)) (by simp [tkC, Value.oneCell']) (by omega) (by unfold maxLen; omega) (by omega) (by simp; omega) _ rfl ?_
  intro g cap w1 h1 h2 h3 h4
  refine h _ w1 ?_ ?_ ?_
  · unfold TO
    rw [flatT_append, flatT_one, List.length_append]
    exact h1
  · exact ((Below.refl B w).alloc hB _).grown h2 (by simp; omega) fun k hk => (hown.lt k hk).1
  · have := h2.size
    simp only [World.size_alloc] at this
    omega

/-- The table of scanners. -/
def scanCells : List Value := [.func (.func 48) #[] #[], .func (.func 49) #[] #[], .func (.func 48) #[] #[], .func (.func 50) #[] #[],
  .func (.func 39) #[] #[], .func (.func 51) #[] #[], .func (.func 52) #[] #[], .func (.func 53) #[] #[],
  .func (.func 48) #[] #[], .func (.func 49) #[] #[], .func (.func 48) #[] #[], .func (.func 54) #[] #[],
  .func (.func 55) #[] #[], .func (.func 56) #[] #[]]
def zeroCells : Array Value := #[.nilFunc, .nilFunc, .nilFunc, .nilFunc, .nilFunc, .nilFunc, .nilFunc, .nilFunc, .nilFunc, .nilFunc, .nilFunc, .nilFunc, .nilFunc, .nilFunc]

set_option maxHeartbeats 400000 in
theorem scanners_any (w : World) : Calls Tryd.prog 40 #[] w fun e w' => e = .returned (.agg scanCells.toArray) ∧ Below w.heap.size w w' := by
  go_enter Tryd.func40, Tryd.ntmps40
  go_wp2_with fail
  exact bodyPost_ret (v := .agg scanCells.toArray) (by simp [results, Tryd.results40, go_sem, scanCells]) rfl ⟨rfl, (Below.refl _ _).alloc (Nat.le_refl _) _⟩

/-- How many bytes a scanner takes, by the class of the first one. -/
def szOf (l : List UInt8) : Nat := match l with
  | [] => 1
  | c :: _ => if cls c = 2 then run partB l else if cls c = 3 then run digitB l else if cls c = 6 then slashN l else 1
/-- What they mean. -/
def tkOf (l : List UInt8) (p : Nat) : Option (Option Tk) := match l with
  | [] => none
  | c :: _ => if cls c = 1 then some none else if cls c = 2 then nameTk (l.take (szOf l)) p else if cls c = 3 then numTk (l.take (szOf l)) p
    else if cls c = 5 then some (some ⟨3, [c], 0, p⟩) else if cls c = 6 then (if 1 < szOf l then some none else some (some ⟨3, [c], 0, p⟩)) else none

/-- A class's scanner: what its two functions give. -/
structure Scanner (c : UInt8) (F G : Nat) : Prop where
  cell0 : scanCells[cls c * 2]? = some (.func (.func F) #[] #[])
  cell1 : scanCells[cls c * 2 + 1]? = some (.func (.func G) #[] #[])
  enF : ∀ args w, Sem.run Tryd.prog (callFunc F args) w = .ok (.enter F args) w
  enG : ∀ args w, Sem.run Tryd.prog (callFunc G args) w = .ok (.enter G args) w
  size : ∀ (s : ByteArray) (w : World), s.size ≤ 65536 → s.data.toList.head? = some c → KW w → Calls Tryd.prog F #[.string s] w fun e w' => e = .returned (.int .i64 (szOf s.data.toList : Nat)) ∧ w = w'
  token : ∀ (s : ByteArray) (p : Nat) (w : World), s.size ≤ 65536 → s.data.toList.head? = some c → KW w → ∀ t : ByteArray, t.data.toList = s.data.toList.take (szOf s.data.toList) → Calls Tryd.prog G #[.string t, .int .i64 p] w (TkPost (tkOf s.data.toList p) p w)

theorem szOf_cls {l : List UInt8} {c : UInt8} (h : l.head? = some c) : szOf l = if cls c = 2 then run partB l else if cls c = 3 then run digitB l else if cls c = 6 then slashN l else 1 := by
  cases l with
  | nil => cases h
  | cons d r => simp only [List.head?_cons, Option.some.injEq] at h; subst h; rfl
theorem tkOf_cls {l : List UInt8} {c : UInt8} (h : l.head? = some c) (p : Nat) : tkOf l p = if cls c = 1 then some none else if cls c = 2 then nameTk (l.take (szOf l)) p else if cls c = 3 then numTk (l.take (szOf l)) p
    else if cls c = 5 then some (some ⟨3, [c], 0, p⟩) else if cls c = 6 then (if 1 < szOf l then some none else some (some ⟨3, [c], 0, p⟩)) else none := by
  cases l with
  | nil => cases h
  | cons d r => simp only [List.head?_cons, Option.some.injEq] at h; subst h; rfl
theorem cls_of (c : UInt8) : cls c = 0 ∨ cls c = 1 ∨ cls c = 2 ∨ cls c = 3 ∨ cls c = 4 ∨ cls c = 5 ∨ cls c = 6 := by have := cls_le c; omega
theorem all_imp {P Q : UInt8 → Bool} (h : ((List.range 256).all fun i => !P (UInt8.ofNat i) || Q (UInt8.ofNat i)) = true) {c : UInt8} (hp : P c = true) : Q c = true := by
  have := all_bytes (P := fun c => !P c || Q c) h c
  simp only [hp, Bool.not_true, Bool.false_or] at this
  exact this
theorem cls2 {c : UInt8} (h : cls c = 2) : letterB c = true := all_imp (P := fun c => decide (cls c = 2)) (Q := letterB) (by decide +kernel) (by simpa using h)
theorem cls3 {c : UInt8} (h : cls c = 3) : digitB c = true := all_imp (P := fun c => decide (cls c = 3)) (Q := digitB) (by decide +kernel) (by simpa using h)
theorem cls6 {c : UInt8} (h : cls c = 6) : c = 47 := by simpa using all_imp (P := fun c => decide (cls c = 6)) (Q := fun c => decide (c = 47)) (by decide +kernel) (c := c) (by simpa using h)

theorem len_take {t s : ByteArray} {n : Nat} (h : t.data.toList = s.data.toList.take n) : t.size = min n s.size := by
  have := congrArg List.length h
  rw [List.length_take] at this
  exact this
theorem slashN_le {l : List UInt8} (h : l.head? = some 47) : 1 ≤ slashN l ∧ slashN l ≤ l.length := by
  cases l with
  | nil => cases h
  | cons c r =>
    simp only [List.head?_cons, Option.some.injEq] at h
    subst h
    have h1 := run_le (· != 10) (47 :: r)
    have h2 : run (· != 10) ((47 : UInt8) :: r) = run (· != 10) r + 1 := run_pos (by decide)
    unfold slashN
    split
    · omega
    · simp
theorem szOf_le {l : List UInt8} (h : l ≠ []) : 1 ≤ szOf l ∧ szOf l ≤ l.length := by
  cases l with
  | nil => exact absurd rfl h
  | cons c r =>
    rw [szOf_cls (c := c) rfl]
    have h1 := run_le partB (c :: r)
    have h2 := run_le digitB (c :: r)
    split
    · rename_i hc
      have : run partB (c :: r) = run partB r + 1 := run_pos (by simp [partB, cls2 hc])
      omega
    · split
      · rename_i hc
        have : run digitB (c :: r) = run digitB r + 1 := run_pos (cls3 hc)
        omega
      · split
        · rename_i hc
          exact slashN_le (by rw [cls6 hc]; rfl)
        · simp

theorem scanner_of (c : UInt8) : ∃ F G, Scanner c F G := by
  have one : ∀ (s : ByteArray) (w : World), szOf s.data.toList = 1 → Calls Tryd.prog 48 #[.string s] w fun e w' => e = .returned (.int .i64 (szOf s.data.toList : Nat)) ∧ w = w' := fun s w h => by rw [h]; exact sizeOne_any s w
  rcases cls_of c with h | h | h | h | h | h | h
  · refine ⟨48, 49, by rw [h]; rfl, by rw [h]; rfl, by intro args w; simp [go_sem], by intro args w; simp [go_sem], fun s w _ hc _ => one s w (by rw [szOf_cls hc, h]; rfl), fun s p w _ hc _ t _ => ?_⟩
    rw [tkOf_cls hc, h]; exact wrong_any t p w
  · refine ⟨48, 50, by rw [h]; rfl, by rw [h]; rfl, by intro args w; simp [go_sem], by intro args w; simp [go_sem], fun s w _ hc _ => one s w (by rw [szOf_cls hc, h]; rfl), fun s p w _ hc _ t _ => ?_⟩
    rw [tkOf_cls hc, h]; exact nothing_any t p w
  · refine ⟨39, 51, by rw [h]; rfl, by rw [h]; rfl, by intro args w; simp [go_sem], by intro args w; simp [go_sem], fun s w hs hc hK => ?_, fun s p w hs hc hK t ht => ?_⟩
    · rw [szOf_cls hc, if_pos h]; exact sizeName_any s (by omega) w hK
    · rw [tkOf_cls hc, if_neg (by omega), if_pos h, ← ht]; exact name_any t (by have := len_take ht; omega) p w hK
  · refine ⟨52, 53, by rw [h]; rfl, by rw [h]; rfl, by intro args w; simp [go_sem], by intro args w; simp [go_sem], fun s w hs hc hK => ?_, fun s p w hs hc hK t ht => ?_⟩
    · rw [szOf_cls hc, if_neg (by omega), if_pos h]; exact sizeNumber_any s (by omega) w hK
    · have hne : s.data.toList ≠ [] := fun e => by rw [e] at hc; cases hc
      have h1 := szOf_le hne
      have h2 := len_take ht
      have h3 : s.data.toList.length = s.size := rfl
      rw [tkOf_cls hc, if_neg (by omega), if_neg (by omega), if_pos h, ← ht]
      refine number_any t (by omega) (by omega) ?_ p w hK
      rw [ht, szOf_cls hc, if_neg (by omega), if_pos h]
      exact run_all digitB _
  · refine ⟨48, 49, by rw [h]; rfl, by rw [h]; rfl, by intro args w; simp [go_sem], by intro args w; simp [go_sem], fun s w _ hc _ => one s w (by rw [szOf_cls hc, h]; rfl), fun s p w _ hc _ t _ => ?_⟩
    rw [tkOf_cls hc, h]; exact wrong_any t p w
  · refine ⟨48, 54, by rw [h]; rfl, by rw [h]; rfl, by intro args w; simp [go_sem], by intro args w; simp [go_sem], fun s w _ hc _ => one s w (by rw [szOf_cls hc, h]; rfl), fun s p w _ hc _ t ht => ?_⟩
    have hsz : szOf s.data.toList = 1 := by rw [szOf_cls hc, h]; rfl
    have he : t.data.toList = [c] := by
      rw [ht, hsz]
      cases hl : s.data.toList with
      | nil => rw [hl] at hc; cases hc
      | cons d r => rw [hl] at hc; simp only [List.head?_cons, Option.some.injEq] at hc; subst hc; rfl
    rw [tkOf_cls hc, h]
    have := sign_any t p w
    rw [he] at this
    exact this
  · have h47 := cls6 h
    refine ⟨55, 56, by rw [h]; rfl, by rw [h]; rfl, by intro args w; simp [go_sem], by intro args w; simp [go_sem], fun s w hs hc hK => ?_, fun s p w hs hc hK t ht => ?_⟩
    · rw [szOf_cls hc, if_neg (by omega), if_neg (by omega), if_pos h]
      exact sizeSlash_any s (by omega) (by rw [hc, h47]) w
    · have hne : s.data.toList ≠ [] := fun e => by rw [e] at hc; cases hc
      have h1 := szOf_le hne
      have h2 := len_take ht
      have h3 : s.data.toList.length = s.size := rfl
      have hts : t.size = szOf s.data.toList := by omega
      rw [tkOf_cls hc, if_neg (by omega), if_neg (by omega), if_neg (by omega), if_neg (by omega), if_pos h]
      have := signOrComment_any t (by omega) p w
      rw [hts] at this
      by_cases h4 : 1 < szOf s.data.toList
      · rw [if_pos h4] at this ⊢; exact this
      · have he : t.data.toList = [c] := by
          rw [ht, show szOf s.data.toList = 1 by omega]
          cases hl : s.data.toList with
          | nil => rw [hl] at hc; cases hc
          | cons d r => rw [hl] at hc; simp only [List.head?_cons, Option.some.injEq] at hc; subst hc; rfl
        rw [if_neg h4, he] at this
        rw [if_neg h4]
        exact this

theorem nameB_run {c : UInt8} {r : List UInt8} (h : letterB c = true) : nameB ((c :: r).take (run partB (c :: r))) = decide (run partB (c :: r) ≤ 32) := by
  have hp : partB c = true := by simp [partB, h]
  have e : run partB (c :: r) = run partB r + 1 := run_pos hp
  rw [e, List.take_succ_cons]
  simp only [nameB, h, Bool.true_and]
  have h1 := run_le partB r
  rw [List.length_take, Nat.min_eq_left h1]
  have h2 : (r.take (run partB r)).all partB = true := List.all_eq_true.2 (run_all partB r)
  rw [h2, Bool.and_true]
  rfl
theorem cls_cases (c : UInt8) : (spaceB c = true ∧ cls c = 1 ∧ letterB c = false ∧ digitB c = false) ∨ (letterB c = true ∧ cls c = 2 ∧ spaceB c = false) ∨ (digitB c = true ∧ cls c = 3 ∧ spaceB c = false ∧ letterB c = false) ∨
    (c = 47 ∧ cls c = 6 ∧ spaceB c = false ∧ letterB c = false ∧ digitB c = false ∧ signB c = true) ∨ (c ≠ 47 ∧ cls c = 5 ∧ signB c = true ∧ spaceB c = false ∧ letterB c = false ∧ digitB c = false) ∨ (c ≠ 47 ∧ (cls c = 0 ∨ cls c = 4) ∧ spaceB c = false ∧ letterB c = false ∧ digitB c = false ∧ signB c = false) := by
  have := all_bytes (P := fun c => decide ((spaceB c = true ∧ cls c = 1 ∧ letterB c = false ∧ digitB c = false) ∨ (letterB c = true ∧ cls c = 2 ∧ spaceB c = false) ∨ (digitB c = true ∧ cls c = 3 ∧ spaceB c = false ∧ letterB c = false) ∨
    (c = 47 ∧ cls c = 6 ∧ spaceB c = false ∧ letterB c = false ∧ digitB c = false ∧ signB c = true) ∨ (c ≠ 47 ∧ cls c = 5 ∧ signB c = true ∧ spaceB c = false ∧ letterB c = false ∧ digitB c = false) ∨ (c ≠ 47 ∧ (cls c = 0 ∨ cls c = 4) ∧ spaceB c = false ∧ letterB c = false ∧ digitB c = false ∧ signB c = false))) (by decide +kernel) c
  simpa using this
/-- A scanner gives a piece. -/
theorem piece_of (l : List UInt8) (hl : l ≠ []) (p : Nat) : piece l p = (tkOf l p).map fun t => (szOf l, t) := by
  cases l with
  | nil => exact absurd rfl hl
  | cons c r =>
    rw [tkOf_cls (c := c) rfl, szOf_cls (c := c) rfl, piece]
    rcases cls_cases c with ⟨h1, h2, -⟩ | ⟨h1, h2, h3⟩ | ⟨h1, h2, h3, h4⟩ | ⟨h1, h2, h3, h4, h5, h6⟩ | ⟨h1, h2, h3, h4, h5, h6⟩ | ⟨h1, h2, h3, h4, h5, h6⟩
    · simp [h1, h2]
    · simp only [h3, h1, h2, Bool.false_eq_true, if_false, if_true, show ¬ (2 : Nat) = 1 by decide, nameTk]
      rw [nameB_run h1]
      by_cases h : run partB (c :: r) ≤ 32 <;> simp [h]
    · simp only [h3, h4, h1, h2, Bool.false_eq_true, if_false, if_true, show ¬ (3 : Nat) = 1 by decide, show ¬ (3 : Nat) = 2 by decide, numTk]
      have e : run digitB (c :: r) = run digitB r + 1 := run_pos h1
      have h7 : (List.take (run digitB (c :: r)) (c :: r)).length = run digitB (c :: r) := by rw [List.length_take]; exact Nat.min_eq_left (run_le _ _)
      have h8 : (List.take (run digitB (c :: r)) (c :: r)).head? = some c := by rw [e, List.take_succ_cons]; rfl
      rw [h7, h8]
      by_cases h : num ((c :: r).take (run digitB (c :: r))) ≤ two40 ∧ (run digitB (c :: r) = 1 ∨ c ≠ 48)
      · rw [if_pos h, if_pos ⟨h.1, h.2.imp id (fun h' => by simpa using h')⟩]; rfl
      · rw [if_neg h, if_neg (fun h' => h ⟨h'.1, h'.2.imp id (fun h'' => by simpa using h'')⟩)]; rfl
    · subst h1
      simp only [h2, h3, h4, h5, h6, Bool.false_eq_true, if_false, if_true, true_and, show ¬ (6 : Nat) = 1 by decide, show ¬ (6 : Nat) = 2 by decide, show ¬ (6 : Nat) = 3 by decide, show ¬ (6 : Nat) = 5 by decide]
      unfold slashN
      simp only [List.drop_succ_cons, List.drop_zero]
      by_cases h : r.head? = some 47
      · have e : run (· != 10) ((47 : UInt8) :: r) = run (· != 10) r + 1 := run_pos (by decide)
        have e2 : 1 ≤ run (· != 10) r := by
          cases r with
          | nil => cases h
          | cons d r' =>
            simp only [List.head?_cons, Option.some.injEq] at h
            subst h
            have : run (· != 10) ((47 : UInt8) :: r') = run (· != 10) r' + 1 := run_pos (by decide)
            omega
        rw [if_pos h, if_pos h, if_pos (by omega)]
        rfl
      · rw [if_neg h, if_neg h]
        simp
    · simp [h1, h2, h3, h4, h5, h6]
    · rcases h2 with h2 | h2 <;> simp [h1, h2, h3, h4, h5, h6]
end Go.Proofs.YtndfchnmajfmiaaDoor
