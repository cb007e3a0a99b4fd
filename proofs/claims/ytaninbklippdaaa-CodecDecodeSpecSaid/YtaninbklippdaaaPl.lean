/- Encodings and decodings are inverse to each other; equality; sizes: plain lemmas. -/
import Derived.Test.YtaninbklippdaaaDe
namespace Go.Proofs.Ytaninbklippdaaa
open Go.RowKit

theorem bytes_ext {s t : ByteArray} (h : s.toList = t.toList) : s = t := by
  rw [ByteArray.toList_eq, ByteArray.toList_eq] at h
  cases s; cases t
  congr 1
  exact Array.toList_inj.1 h
theorem bytes_nil {s : ByteArray} (h : s.toList.isEmpty = true) : s = ⟨#[]⟩ := by
  rw [ByteArray.toList_eq] at h
  cases s
  congr 1
  apply Array.toList_inj.1
  simpa using h

/-! Numerals -/
theorem rnum_digs (k : Nat) : ∀ (u sh acc : Nat) (r : List UInt8), u < 128 ^ (k + 1) → u * 2 ^ sh < 18446744073709551616 → (0 < sh → 0 < u) → rnum (digs u ++ r) sh acc = some (acc + u * 2 ^ sh, r) := by
  induction k with
  | zero =>
    intro u sh acc r hu hb hp
    have hs : u < 128 := by simpa using hu
    have e : (UInt8.ofNat u).toNat = u := by simp; omega
    rw [digs_small hs, List.singleton_append, rnum, e, Nat.mod_eq_of_lt hs, if_neg (by omega), if_neg (by omega), if_neg (by omega)]
  | succ k ih =>
    intro u sh acc r hu hb hp
    by_cases hs : u < 128
    · have e : (UInt8.ofNat u).toNat = u := by simp; omega
      rw [digs_small hs, List.singleton_append, rnum, e, Nat.mod_eq_of_lt hs, if_neg (by omega), if_neg (by omega), if_neg (by omega)]
    · have e : (UInt8.ofNat (u % 128 + 128)).toNat = u % 128 + 128 := by simp; omega
      have e2 : (u % 128 + 128) % 128 = u % 128 := by omega
      have hm : u % 128 * 2 ^ sh ≤ u * 2 ^ sh := Nat.mul_le_mul_right _ (by omega)
      have h7 : 2 ^ (sh + 7) = 128 * 2 ^ sh := by rw [Nat.pow_add, Nat.mul_comm]
      have hd : u / 128 * (128 * 2 ^ sh) + u % 128 * 2 ^ sh = u * 2 ^ sh := by
        rw [← Nat.mul_assoc, ← Nat.add_mul]
        congr 1
        omega
      rw [digs_big hs, List.cons_append, rnum, e, e2, if_neg (by omega), if_pos (by omega),
        ih (u / 128) (sh + 7) _ r (by rw [Nat.div_lt_iff_lt_mul (by omega)]; rw [Nat.pow_succ] at hu; exact hu) (by rw [h7]; omega) (fun _ => by omega), h7]
      congr 2
      omega
theorem rnum_enc (u : Nat) (r : List UInt8) (h : u < 18446744073709551616) : rnum (digs u ++ r) 0 0 = some (u, r) := by
  have h1 := rnum_digs 9 u 0 0 r (by omega) (by omega) (by omega)
  simpa using h1

theorem digs_cons {b : UInt8} {v : Nat} (h : 128 ≤ b.toNat) (hv : 0 < v) : digs (b.toNat % 128 + 128 * v) = b :: digs v := by
  have hb := b.toNat_lt
  rw [digs_big (by omega)]
  congr 1
  · apply UInt8.toNat_inj.1
    simp; omega
  · congr 1; omega
theorem rnum_inv : ∀ (bs : List UInt8) (sh acc : Nat) {u : Nat} {r : List UInt8}, rnum bs sh acc = some (u, r) → ∃ v, u = acc + v * 2 ^ sh ∧ bs = digs v ++ r ∧ (0 < sh → 0 < v)
  | [], _, _, _, _, h => by simp [rnum] at h
  | b :: t, sh, acc, u, r, h => by
    rw [rnum] at h
    split at h
    · cases h
    · split at h
      · rename_i h128
        obtain ⟨v, rfl, rfl, hv⟩ := rnum_inv t _ _ h
        have hv := hv (by omega)
        refine ⟨b.toNat % 128 + 128 * v, ?_, ?_, fun _ => by omega⟩
        · have h7 : 2 ^ (sh + 7) = 128 * 2 ^ sh := by rw [Nat.pow_add, Nat.mul_comm]
          rw [h7, Nat.add_mul, ← Nat.mul_assoc, Nat.mul_comm v 128]
          omega
        · rw [digs_cons h128 hv]; rfl
      · split at h
        · cases h
        · rename_i h128 hz
          simp only [Option.some.injEq, Prod.mk.injEq] at h
          obtain ⟨rfl, rfl⟩ := h
          have hb : b.toNat % 128 = b.toNat := Nat.mod_eq_of_lt (by omega)
          refine ⟨b.toNat, by rw [hb], ?_, fun _ => by omega⟩
          rw [digs_small (by omega)]
          simp

/-! Decode of an encoding -/
theorem dvals_enc (d : Nat) : ∀ (l : List GV) (r : List UInt8), (∀ x ∈ l, ∀ r, dval d (enc x ++ r) = some (x, r)) → dvals (dval d) l.length (encAll l ++ r) = some (l, r)
  | [], r, _ => rfl
  | x :: t, r, h => by
    rw [List.length_cons, dvals, encAll, List.append_assoc, h x (by simp)]
    simp only [Option.bind_some]
    rw [dvals_enc d t r fun y hy => h y (by simp [hy])]
    rfl
theorem dval_enc (x : GV) : ∀ (d : Nat) (r : List UInt8), big x ≤ 1000000 → Nums x → formed x = true → dep x ≤ d → dval d (enc x ++ r) = some (x, r) := by
  induction x using GV.ind with
  | h k n s l ih =>
    intro d r hb hn hf hd
    rw [big] at hb
    have hln := bigAll_length l
    rcases formed_kind hf with rfl | rfl | rfl
    · have hun := uns_range hn.num
      have hs : s = ⟨#[]⟩ := bytes_nil (by rw [formed] at hf; simp at hf; simpa using hf.1)
      have hl : l = [] := by rw [formed] at hf; simp at hf; exact hf.2
      subst hs hl
      rw [enc, if_pos rfl, List.cons_append, dval_cons, if_pos rfl, rnum_enc _ _ (by omega)]
      show some (GV.mk 1 (sgn ((uns n).toNat : Int)) ⟨#[]⟩ [], r) = _
      rw [Int.toNat_of_nonneg hun.1, sgn_uns]
    · have hn0 : n = 0 := by rw [formed] at hf; simp at hf; exact hf.1
      have hl : l = [] := by rw [formed] at hf; simp at hf; exact hf.2
      subst hn0 hl
      have hsz : s.data.toList.length = s.size := rfl
      rw [enc, if_neg (by omega), if_pos rfl, List.cons_append, dval_cons, if_neg (by decide), if_pos rfl, List.append_assoc, rnum_enc _ _ (by omega)]
      simp only [Option.bind_some]
      rw [if_pos (by rw [List.length_append, hsz]; omega), List.take_left' hsz, List.drop_left' hsz]
    · have hn0 : n = 0 := by rw [formed] at hf; simp at hf; exact hf.1
      have hs : s = ⟨#[]⟩ := bytes_nil (by rw [formed] at hf; simp at hf; simpa using hf.2.1)
      have hfa : formedAll l = true := by rw [formed] at hf; simp at hf; exact hf.2.2
      subst hn0 hs
      rw [dep, if_pos rfl] at hd
      obtain ⟨d', rfl⟩ : ∃ d', d = d' + 1 := ⟨d - 1, by omega⟩
      rw [enc, if_neg (by omega), if_neg (by omega), List.cons_append, dval_cons, if_neg (by decide), if_neg (by decide), if_pos rfl, dlist, List.append_assoc, rnum_enc _ _ (by omega)]
      simp only [Option.bind_some]
      have hm : ∀ x ∈ l, dep x ≤ depAll l := by
        clear ih hn hf hb hln hfa hd
        induction l with
        | nil => simp
        | cons y t iht =>
          intro x hx
          rw [depAll]
          rcases List.mem_cons.1 hx with rfl | hx
          · omega
          · have := iht x hx; omega
      rw [dvals_enc d' l r fun y hy r => ih y hy d' r (by have := bigAll_mem hy; omega) (hn.els hy) (formedAll_mem hfa hy) (by have := hm y hy; omega)]
      rfl
theorem dec_enc {x : GV} (hb : big x ≤ 1000000) (hn : Nums x) (hc : chk x = 0) : dec (enc x) = some x := by
  obtain ⟨hf, hd⟩ := chk_zero hc
  have h := dval_enc x 16 [] hb hn hf hd
  rw [List.append_nil] at h
  rw [dec, h]; rfl

/-! Encode of what was decoded -/
theorem dvals_inv {d : Nat} (hf : ∀ bs x r, dval d bs = some (x, r) → formed x = true ∧ dep x ≤ d ∧ Nums x ∧ bs = enc x ++ r) : ∀ (n : Nat) (bs : List UInt8) {l : List GV} {r : List UInt8}, dvals (dval d) n bs = some (l, r) →
    formedAll l = true ∧ depAll l ≤ d ∧ (∀ x ∈ l, Nums x) ∧ bs = encAll l ++ r ∧ l.length = n
  | 0, bs, l, r, h => by
    simp only [dvals, Option.some.injEq, Prod.mk.injEq] at h
    obtain ⟨rfl, rfl⟩ := h
    exact ⟨rfl, Nat.zero_le _, by simp, by simp [encAll], rfl⟩
  | n + 1, bs, l, r, h => by
    rw [dvals] at h
    cases h1 : dval d bs with
    | none => rw [h1] at h; cases h
    | some p =>
      rw [h1] at h
      simp only [Option.bind_some] at h
      cases h2 : dvals (dval d) n p.2 with
      | none => rw [h2] at h; cases h
      | some q =>
        rw [h2] at h
        simp only [Option.map_some, Option.some.injEq, Prod.mk.injEq] at h
        obtain ⟨rfl, rfl⟩ := h
        obtain ⟨f1, f2, f3, f4⟩ := hf bs p.1 p.2 h1
        obtain ⟨g1, g2, g3, g4, g5⟩ := dvals_inv hf n p.2 (l := q.1) (r := q.2) h2
        refine ⟨by rw [formedAll, f1, g1]; rfl, by rw [depAll]; omega, fun x hx => ?_, by rw [f4, encAll, List.append_assoc, ← g4], by simp [g5]⟩
        rcases List.mem_cons.1 hx with rfl | hx
        · exact f3
        · exact g3 x hx
theorem dval_inv_of (d : Nat) (hL : ∀ bs l r, dlist d bs = some (l, r) → formedAll l = true ∧ 1 + depAll l ≤ d ∧ (∀ x ∈ l, Nums x) ∧ bs = digs l.length ++ (encAll l ++ r)) (bs : List UInt8) (x : GV) (r : List UInt8) (h : dval d bs = some (x, r)) :
    formed x = true ∧ dep x ≤ d ∧ Nums x ∧ bs = enc x ++ r := by
  have e0 : (⟨#[]⟩ : ByteArray).toList = [] := by rw [ByteArray.toList_eq]
  cases bs with
  | nil => rw [dval_nil] at h; cases h
  | cons c t =>
    rw [dval_cons] at h
    split at h
    · rename_i hc
      subst hc
      cases h1 : rnum t 0 0 with
      | none => rw [h1] at h; cases h
      | some p =>
        obtain ⟨u, r1⟩ := p
        have hu := rnum_lt t 0 0 (by simp) (by omega) h1
        obtain ⟨v, hv, rfl, _⟩ := rnum_inv t 0 0 h1
        rw [h1] at h
        simp only [Option.map_some, Option.some.injEq, Prod.mk.injEq] at h
        obtain ⟨rfl, rfl⟩ := h
        have hv' : v = u := by simp at hv; omega
        subst hv'
        refine ⟨by simp [formed, e0], by simp [dep], .mk _ _ _ _ (sgn_range (by omega) (by omega)) (fun i h => absurd h (by simp)), ?_⟩
        rw [enc, if_pos rfl, uns_sgn _ (by omega)]
        rfl
    · split at h
      · rename_i hc
        subst hc
        cases h1 : rnum t 0 0 with
        | none => rw [h1] at h; cases h
        | some p =>
          obtain ⟨u, r1⟩ := p
          obtain ⟨v, hv, rfl, _⟩ := rnum_inv t 0 0 h1
          rw [h1] at h
          simp only [Option.bind_some] at h
          split at h
          · rename_i hle
            simp only [Option.some.injEq, Prod.mk.injEq] at h
            obtain ⟨rfl, rfl⟩ := h
            have hv' : v = u := by simp at hv; omega
            subst hv'
            have hsz : (⟨(r1.take v).toArray⟩ : ByteArray).size = v := by simp [ByteArray.size]; omega
            refine ⟨by simp [formed], by simp [dep], .mk _ _ _ _ (by unfold I64; omega) (fun i h => absurd h (by simp)), ?_⟩
            rw [enc, if_neg (by omega), if_pos rfl, hsz, List.cons_append, List.append_assoc]
            simp
          · cases h
      · split at h
        · rename_i hc
          subst hc
          cases h1 : dlist d t with
          | none => rw [h1] at h; cases h
          | some q =>
            obtain ⟨l, r1⟩ := q
            rw [h1] at h
            simp only [Option.map_some, Option.some.injEq, Prod.mk.injEq] at h
            obtain ⟨rfl, rfl⟩ := h
            obtain ⟨f1, f2, f3, f4⟩ := hL t l r1 h1
            refine ⟨by simp [formed, e0, f1], by simp [dep]; omega, .mk _ _ _ _ (by unfold I64; omega) (fun i h => f3 _ (List.getElem_mem h)), ?_⟩
            rw [enc, if_neg (by omega), if_neg (by omega), f4, List.cons_append, List.append_assoc]
        · cases h
theorem dval_inv (d : Nat) : ∀ (bs : List UInt8) (x : GV) (r : List UInt8), dval d bs = some (x, r) → formed x = true ∧ dep x ≤ d ∧ Nums x ∧ bs = enc x ++ r := by
  induction d with
  | zero => exact dval_inv_of 0 (fun bs l r h => by simp [dlist] at h)
  | succ d ih =>
    refine dval_inv_of (d + 1) fun bs l r h => ?_
    rw [dlist] at h
    cases h1 : rnum bs 0 0 with
    | none => rw [h1] at h; cases h
    | some p =>
      obtain ⟨u, r1⟩ := p
      obtain ⟨v, hv, rfl, _⟩ := rnum_inv bs 0 0 h1
      rw [h1] at h
      simp only [Option.bind_some] at h
      have hv' : v = u := by simp at hv; omega
      subst hv'
      obtain ⟨g1, g2, g3, g4, g5⟩ := dvals_inv ih v r1 h
      exact ⟨g1, by omega, g3, by rw [g5, ← g4]⟩
theorem dec_inv {bs : List UInt8} {x : GV} (h : dec bs = some x) : chk x = 0 ∧ Nums x ∧ enc x = bs := by
  unfold dec at h
  cases h1 : dval 16 bs with
  | none => rw [h1] at h; cases h
  | some p =>
    rw [h1] at h
    simp only [Option.bind_some] at h
    split at h
    · rename_i h0
      simp only [Option.some.injEq] at h
      subst h
      obtain ⟨f1, f2, f3, f4⟩ := dval_inv 16 bs p.1 p.2 h1
      refine ⟨by unfold chk; rw [if_pos f1, if_neg (by omega)], f3, ?_⟩
      rw [f4, List.eq_nil_of_length_eq_zero h0, List.append_nil]
    · cases h

/-- A tree is no bigger than its encoding, as far as it was read from it. -/
theorem big_enc (x : GV) : formed x = true → big x ≤ (enc x).length := by
  induction x using GV.ind with
  | h k n s l ih =>
    intro hf
    have hl : ∀ l : List GV, (∀ x ∈ l, formed x = true → big x ≤ (enc x).length) → formedAll l = true → bigAll l ≤ (encAll l).length := by
      intro l
      induction l with
      | nil => intro _ _; simp [bigAll]
      | cons y t iht =>
        intro h hf
        rw [formedAll, Bool.and_eq_true] at hf
        rw [bigAll, encAll, List.length_append]
        have := h y (by simp) hf.1
        have := iht (fun x hx => h x (by simp [hx])) hf.2
        omega
    have hsz : s.data.toList.length = s.size := rfl
    rcases formed_kind hf with rfl | rfl | rfl
    · have hs : s = ⟨#[]⟩ := bytes_nil (by rw [formed] at hf; simp at hf; simpa using hf.1)
      have hl : l = [] := by rw [formed] at hf; simp at hf; exact hf.2
      subst hs hl
      rw [big, enc, if_pos rfl]
      simp [bigAll, ByteArray.size]
    · have hl : l = [] := by rw [formed] at hf; simp at hf; exact hf.2
      subst hl
      rw [big, enc, if_neg (by omega), if_pos rfl]
      simp only [List.length_cons, List.length_append, hsz, bigAll]
      omega
    · have hs : s = ⟨#[]⟩ := bytes_nil (by rw [formed] at hf; simp at hf; simpa using hf.2.1)
      have hfa : formedAll l = true := by rw [formed] at hf; simp at hf; exact hf.2.2
      subst hs
      have h1 := hl l ih hfa
      rw [big, enc, if_neg (by omega), if_neg (by omega)]
      simp only [List.length_cons, List.length_append]
      have : (⟨#[]⟩ : ByteArray).size = 0 := rfl
      omega

/-! Equality -/
theorem same_iff (x : GV) : ∀ y, same x y = true ↔ x = y := by
  induction x using GV.ind with
  | h k n s l ih =>
    intro y
    obtain ⟨k', n', s', l'⟩ := y
    have hall : ∀ l l' : List GV, (∀ x ∈ l, ∀ y, same x y = true ↔ x = y) → ((l.length = l'.length ∧ sameAll l l' = true) ↔ l = l') := by
      intro l
      induction l with
      | nil => intro l' _; cases l' <;> simp [sameAll]
      | cons x t iht =>
        intro l' h
        cases l' with
        | nil => simp
        | cons y t' =>
          have h1 := h x (by simp) y
          have h2 := iht t' fun z hz => h z (by simp [hz])
          rw [sameAll, Bool.and_eq_true, h1, List.cons.injEq, ← h2, List.length_cons, List.length_cons]
          constructor
          · rintro ⟨a, b, c⟩; exact ⟨b, by omega, c⟩
          · rintro ⟨a, b, c⟩; exact ⟨by omega, a, c⟩
    rw [same]
    simp only [Bool.and_eq_true, beq_iff_eq, decide_eq_true_eq, GV.mk.injEq]
    constructor
    · rintro ⟨h1, h2, h3, h4, h5⟩
      exact ⟨h1, h2, bytes_ext h3, (hall l l' ih).1 ⟨h4, h5⟩⟩
    · rintro ⟨h1, h2, h3, h4⟩
      have h5 := (hall l l' ih).2 h4
      exact ⟨h1, h2, by rw [h3], h5.1, h5.2⟩
theorem same_refl (x : GV) : same x x = true := (same_iff x x).2 rfl

/-- No encoding is the beginning of another one. -/
theorem enc_prefix {x y : GV} (hx : big x ≤ 1000000) (hy : big y ≤ 1000000) (nx : Nums x) (ny : Nums y) (cx : chk x = 0) (cy : chk y = 0) {r r' : List UInt8} (h : enc x ++ r = enc y ++ r') : x = y := by
  obtain ⟨f1, d1⟩ := chk_zero cx
  obtain ⟨f2, d2⟩ := chk_zero cy
  have h1 := dval_enc x 16 r hx nx f1 d1
  have h2 := dval_enc y 16 r' hy ny f2 d2
  rw [h, h2] at h1
  simp only [Option.some.injEq, Prod.mk.injEq] at h1
  exact h1.1.symm

theorem digs_mono (k : Nat) : ∀ (u v : Nat), v < 128 ^ (k + 1) → u ≤ v → (digs u).length ≤ (digs v).length := by
  induction k with
  | zero =>
    intro u v hv h
    rw [digs_small (show u < 128 by omega), digs_small (show v < 128 by omega)]
    simp
  | succ k ih =>
    intro u v hv h
    by_cases hu : u < 128
    · rw [digs_small hu]; have := digs_pos v; simp; omega
    · rw [digs_big hu, digs_big (show ¬ v < 128 by omega), List.length_cons, List.length_cons]
      have := ih (u / 128) (v / 128) (by rw [Nat.div_lt_iff_lt_mul (by omega)]; rw [Nat.pow_succ] at hv; exact hv) (by omega)
      omega
end Go.Proofs.Ytaninbklippdaaa
