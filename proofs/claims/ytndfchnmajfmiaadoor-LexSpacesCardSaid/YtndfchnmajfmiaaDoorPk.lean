/- Gaps between tokens, as plain lists. -/
import Derived.Test.YtndfchnmajfmiaaDoorPb
namespace Go.Proofs.YtndfchnmajfmiaaDoor

/-- Nothing but white space and whole comments. -/
def GapW (g : List UInt8) : Prop := ∀ x p, lexR (g ++ x) p = lexR x (p + g.length)
theorem GapW.nil : GapW [] := fun _ _ => rfl
theorem GapW.space {c : UInt8} (hc : spaceB c = true) {g : List UInt8} (h : GapW g) : GapW (c :: g) := fun x p => by
  rw [List.cons_append, lexR_step (piece_space _ _ hc), List.drop_succ_cons, List.drop_zero]
  show pre [] (lexR (g ++ x) (p + 1)) = _
  rw [pre_nil, h x (p + 1)]
  congr 1
  simp
  omega
theorem piece_note (r : List UInt8) (p : Nat) : piece (47 :: 47 :: r) p = some (run (· != 10) (47 :: 47 :: r), none) := by
  rw [piece, if_neg (by decide), if_neg (by decide), if_neg (by decide), if_pos ⟨rfl, rfl⟩]
theorem GapW.note {ws : List UInt8} (hw : ∀ b ∈ ws, b ≠ 10) {g : List UInt8} (h : GapW g) : GapW (47 :: 47 :: (ws ++ 10 :: g)) := fun x p => by
  have hr : run (· != 10) (47 :: 47 :: (ws ++ 10 :: (g ++ x))) = ws.length + 2 := by
    have := run_all_append (· != 10) (47 :: 47 :: ws) (10 :: (g ++ x)) (fun c hc => by
      rcases List.mem_cons.1 hc with rfl | hc
      · rfl
      · rcases List.mem_cons.1 hc with rfl | hc
        · rfl
        · simpa using hw c hc) (fun c hc => by simp only [List.head?_cons, Option.some.injEq] at hc; subst hc; rfl)
    simpa using this
  have he : (47 :: 47 :: (ws ++ 10 :: g)) ++ x = 47 :: 47 :: (ws ++ 10 :: (g ++ x)) := by simp
  rw [he, lexR_step (piece_note _ _), hr]
  have hd : (47 :: 47 :: (ws ++ 10 :: (g ++ x))).drop (ws.length + 2) = 10 :: (g ++ x) := by simp
  rw [hd]
  show pre [] (lexR (10 :: (g ++ x)) (p + (ws.length + 2))) = _
  rw [pre_nil]
  have := (GapW.space (c := 10) (by decide) h) x (p + (ws.length + 2))
  rw [List.cons_append] at this
  rw [this]
  congr 1
  simp
  omega

theorem sameL_snoc {l m : List Tk} {t u : Tk} (h : sameL l m = true) (hu : sameT t u = true) : sameL (l ++ [t]) (m ++ [u]) = true := by
  induction l generalizing m with
  | nil => cases m with
    | nil => rw [List.nil_append, List.nil_append, sameL, hu]; rfl
    | cons _ _ => cases h
  | cons a r ih => cases m with
    | nil => cases h
    | cons b s =>
      rw [sameL, Bool.and_eq_true] at h
      rw [List.cons_append, List.cons_append, sameL, h.1, ih h.2]
      rfl

/-- A beginning of a source that holds the tokens l. -/
def Sp (l : List Tk) (z : List UInt8) : Prop := ∀ x, ∃ m, lexL (z ++ x) = pre m (lexR x z.length) ∧ sameL l m = true
theorem Sp.begin : Sp [] [10] := fun x => ⟨[], by
  have := GapW.space (c := 10) (by decide) GapW.nil x 0
  rw [pre_nil]
  exact this, rfl⟩
theorem Sp.step {l : List Tk} {z : List UInt8} (h : Sp l z) {t : Tk} (hv : validB t = true) {g : List UInt8} (hg : GapW g) : Sp (l ++ [t]) (z ++ (spell t ++ 32 :: g)) := fun x => by
  obtain ⟨m, hm, hs⟩ := h (spell t ++ 32 :: (g ++ x))
  obtain ⟨h1, -⟩ := piece_spell hv (x := 32 :: (g ++ x)) (fun c hc => by simp only [List.head?_cons, Option.some.injEq] at hc; subst hc; decide) z.length
  refine ⟨m ++ [⟨t.k, t.s, t.n, z.length⟩], ?_, sameL_snoc hs (sameT_self t _)⟩
  have he : z ++ (spell t ++ 32 :: g) ++ x = z ++ (spell t ++ 32 :: (g ++ x)) := by simp
  rw [he, hm, lexR_step h1, List.drop_left]
  have := (GapW.space (c := 32) (by decide) hg) x (z.length + (spell t).length)
  rw [List.cons_append] at this
  rw [this, ← pre_pre]
  show pre m (pre [⟨t.k, t.s, t.n, z.length⟩] _) = pre m (pre _ _)
  congr 3
  simp
  omega
theorem Sp.done {l : List Tk} {z : List UInt8} (h : Sp l z) : ∃ m, lexL z = .ok m ∧ sameL l m = true := by
  obtain ⟨m, hm, hs⟩ := h []
  rw [List.append_nil, lexR_nil, pre_ok, List.append_nil] at hm
  exact ⟨m, hm, hs⟩

/-- What stands between tokens: is a comment open at its end? -/
def scan : Bool → List UInt8 → Option Bool
  | c, [] => some c
  | c, b :: r => if (b != 10 && (c || (b == 47 && r.head? == some 47))) || spaceB b then scan (b != 10 && (c || (b == 47 && r.head? == some 47))) r else none
theorem scan_body (ws x : List UInt8) (hw : ∀ b ∈ ws, b ≠ 10) : scan true (ws ++ x) = scan true x := by
  induction ws with
  | nil => rfl
  | cons b r ih =>
    have hb : (b != 10) = true := by simpa using hw b (by simp)
    rw [List.cons_append, scan, hb]
    simp only [Bool.true_or, Bool.and_true, if_true, if_pos]
    exact ih fun c hc => hw c (by simp [hc])
theorem scan_space {c : UInt8} (hc : spaceB c = true) (x : List UInt8) : scan false (c :: x) = scan false x := by
  have h47 : (c == 47) = false := by
    have := all_imp (P := spaceB) (Q := fun c => !(c == 47)) (by decide +kernel) hc
    simpa using this
  rw [scan, hc, h47]
  simp
theorem scan_end (x : List UInt8) : scan true (10 :: x) = scan false x := by
  rw [scan]; rfl
theorem scan_note (ws x : List UInt8) (hw : ∀ b ∈ ws, b ≠ 10) : scan false (47 :: 47 :: (ws ++ x)) = scan true x := by
  rw [scan]
  show scan true (47 :: (ws ++ x)) = _
  rw [← List.cons_append]
  exact scan_body _ _ fun b hb => by
    rcases List.mem_cons.1 hb with rfl | hb
    · decide
    · exact hw b hb

/-- What stands before the next token. -/
theorem lexR_gap (N : Nat) : ∀ (l : List UInt8) (p : Nat) (m : List Tk), l.length ≤ N → lexR l p = .ok m →
    ∃ g rest c, l = g ++ rest ∧ scan false g = some c ∧ ((rest = [] ∧ m = []) ∨ (c = false ∧ ∃ t m' r, rest = spell t ++ r ∧ 1 ≤ (spell t).length ∧ m = t :: m' ∧ t.p = (p + g.length : Nat) ∧ lexR r (p + g.length + (spell t).length) = .ok m')) := by
  induction N with
  | zero =>
    intro l p m hl h
    obtain rfl : l = [] := List.eq_nil_of_length_eq_zero (by omega)
    rw [lexR_nil] at h
    injection h with h
    exact ⟨[], [], false, rfl, rfl, .inl ⟨rfl, h.symm⟩⟩
  | succ N ih =>
    intro l p m hl h
    rcases lexR_cases l p with ⟨rfl, h1⟩ | ⟨h0, h1, h2⟩ | ⟨n, t, hp, hn1, hn2, he⟩
    · rw [h1] at h
      injection h with h
      exact ⟨[], [], false, rfl, rfl, .inl ⟨rfl, h.symm⟩⟩
    · rw [h2] at h; cases h
    · rw [he] at h
      cases hx : lexR (l.drop n) (p + n) with
      | error q => rw [hx] at h; cases h
      | ok m0 =>
        rw [hx] at h
        injection h with h
        cases t with
        | some tk =>
          have hsp := piece_text hp
          have hpp := (piece_tok hp).2
          have hlen : (spell tk).length = n := by rw [hsp, List.length_take]; omega
          refine ⟨[], l, false, rfl, rfl, .inr ⟨rfl, tk, m0, l.drop n, ?_, by omega, h.symm, hpp, ?_⟩⟩
          · rw [hsp, List.take_append_drop]
          · rw [hlen]; exact hx
        | none =>
          have hm : m = m0 := h.symm
          subst hm
          match l, hp with
          | c :: r, hp =>
            rw [piece] at hp
            split at hp
            · rename_i hc
              injection hp with hp
              injection hp with hp _
              subst hp
              rw [List.drop_succ_cons, List.drop_zero] at hx
              obtain ⟨g, rest, c', e1, e2, e3⟩ := ih r (p + 1) m (by simp at hl; omega) hx
              refine ⟨c :: g, rest, c', by rw [e1]; rfl, by rw [scan_space hc]; exact e2, ?_⟩
              rcases e3 with e3 | ⟨f1, t, m', r', f2, f3, f4, f5, f6⟩
              · exact .inl e3
              · refine .inr ⟨f1, t, m', r', f2, f3, f4, by rw [f5]; simp; omega, ?_⟩
                rw [← f6]
                congr 1
                simp
                omega
            · split at hp
              · split at hp <;> simp at hp
              · split at hp
                · split at hp <;> simp at hp
                · split at hp
                  · rename_i hc
                    obtain ⟨rfl, hc2⟩ := hc
                    injection hp with hp
                    injection hp with hp _
                    subst hp
                    match r, hc2 with
                    | d :: r2, hc2 =>
                      simp only [List.head?_cons, Option.some.injEq] at hc2
                      subst hc2
                      have hr : run (· != 10) (47 :: 47 :: r2) = run (· != 10) r2 + 2 := by rw [run_pos (by rfl), run_pos (by rfl)]
                      rw [hr] at hx
                      have hd : (47 :: 47 :: r2 : List UInt8).drop (run (· != 10) r2 + 2) = r2.drop (run (· != 10) r2) := rfl
                      rw [hd] at hx
                      have hbody : ∀ b ∈ r2.take (run (· != 10) r2), b ≠ 10 := fun b hb => by simpa using run_all (· != 10) r2 b hb
                      have hrl := run_le (· != 10) r2
                      have htl : (r2.take (run (· != 10) r2)).length = run (· != 10) r2 := by rw [List.length_take]; omega
                      by_cases hend : run (· != 10) r2 < r2.length
                      · have h10 := run_end (· != 10) r2 hend
                        have h10' : r2[run (· != 10) r2] = 10 := by simpa using h10
                        have hsplit : r2.drop (run (· != 10) r2) = 10 :: r2.drop (run (· != 10) r2 + 1) := by
                          rw [List.drop_eq_getElem_cons hend, h10']
                        rw [hsplit, lexR_step (piece_space _ _ (by decide)), List.drop_succ_cons, List.drop_zero] at hx
                        have hx' : lexR (r2.drop (run (· != 10) r2 + 1)) (p + (run (· != 10) r2 + 2) + 1) = .ok m := by
                          rw [← hx]
                          exact (pre_nil _).symm
                        obtain ⟨g, rest, c', e1, e2, e3⟩ := ih _ _ m (by rw [List.length_drop]; simp at hl; omega) hx'
                        have hgl : (47 :: 47 :: (r2.take (run (· != 10) r2) ++ 10 :: g) : List UInt8).length = run (· != 10) r2 + 2 + 1 + g.length := by simp; omega
                        refine ⟨47 :: 47 :: (r2.take (run (· != 10) r2) ++ 10 :: g), rest, c', ?_, by rw [scan_note _ _ hbody, scan_end]; exact e2, ?_⟩
                        · have : r2 = r2.take (run (· != 10) r2) ++ 10 :: (g ++ rest) := by rw [← e1, ← hsplit, List.take_append_drop]
                          conv => lhs; rw [this]
                          simp
                        · rcases e3 with e3 | ⟨f1, t, m', r', f2, f3, f4, f5, f6⟩
                          · exact .inl e3
                          · refine .inr ⟨f1, t, m', r', f2, f3, f4, by rw [f5, hgl]; omega, ?_⟩
                            rw [← f6, hgl]
                            congr 1
                            omega
                      · have hall : r2.take (run (· != 10) r2) = r2 := List.take_of_length_le (by omega)
                        rw [List.drop_of_length_le (by omega), lexR_nil] at hx
                        injection hx with hx
                        refine ⟨47 :: 47 :: r2, [], true, by simp, ?_, .inl ⟨rfl, hx.symm⟩⟩
                        have := scan_note r2 [] (by rw [hall] at hbody; exact hbody)
                        rw [List.append_nil] at this
                        rw [this]
                        rfl
                  · split at hp <;> simp at hp
end Go.Proofs.YtndfchnmajfmiaaDoor
