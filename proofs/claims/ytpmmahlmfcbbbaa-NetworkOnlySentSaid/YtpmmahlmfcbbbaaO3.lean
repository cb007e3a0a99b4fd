/- For NetworkOnlySent: the net's box and the row of what was sent; the region that makes two boxes for what happens gives. -/
import Derived.Test.YtpmmahlmfcbbbaaO2
import Derived.Test.YtpmmahlmfcbbbaaL5p
import Derived.Test.YtpmmahlmfcbbbaaIs
namespace Go.Proofs.Ytpmmahlmfcbbbaa
open Go.RowKit

/-- The box of the net, and the packets that were sent, in a row of the call's own. -/
structure SO (w0 : World) (n : Nt) (R : List Pk) (v : Value) (w : World) : Prop where
  bel : Below w0.heap.size w0 w
  lt : w0.heap.size < w.heap.size
  row : ∃ xs, w.ownsRow (w0.heap.size + 1) 28 3 v R.length xs ∧ PkV w (fun b => b < w.heap.size ∧ Er v b ∧ b ≠ w0.heap.size) xs R
  box : ∃ A c A' c', w.heap[w0.heap.size]? = some (.cells #[.slice A n.q.length c, .slice A' n.ap.length c'] 25 (0, 0)) ∧ NR w (fun b => b < w.heap.size ∧ Er v b) A c A' c' n
theorem SO.step {w0 w w' : World} {n : Nt} {R : List Pk} {v : Value} (h : SO w0 n R v w) (hb : Below w.heap.size w w') : SO w0 n R v w' := by
  obtain ⟨xs, h1, h2⟩ := h.row
  obtain ⟨A, c, A', c', h3, h4⟩ := h.box
  exact ⟨h.bel.trans (hb.mono h.bel.size), Nat.lt_of_lt_of_le h.lt hb.size, ⟨xs, ownsRow_below h1 hb, (h2.keep fun b o hs => hb.cell (p := ⟨b, o, none⟩) hs.1).mono fun b hs => ⟨Nat.lt_of_lt_of_le hs.1 hb.size, hs.2⟩⟩, A, c, A', c', blk_step h3 hb,
    (h4.keep fun b o hs => hb.cell (p := ⟨b, o, none⟩) hs.1).mono fun b hs => ⟨Nat.lt_of_lt_of_le hs.1 hb.size, hs.2⟩⟩
theorem SO.own_ne {w0 w : World} {n : Nt} {R : List Pk} {v : Value} (h : SO w0 n R v w) {b : Nat} (hb : b ≤ w0.heap.size ∨ w.heap.size ≤ b) : Er v b := fun e => by
  obtain ⟨xs, h1, -⟩ := h.row
  have := World.ownsRow.lt h1 b e
  omega
theorem SO.app {w0 W : World} {n : Nt} {R : List Pk} {v : Value} (h : SO w0 n R v W) (ty : TypeId) (s : Nat) (p : Pk) (A : Option Addr) (c : Nat) (hI : I64 p.frm ∧ I64 p.to) (hl : p.data.length ≤ c ∧ c ≤ maxLen) (hp : RBs W (fun b => b < W.heap.size ∧ Er v b) A p.data)
    (hs : W.heap[s]? = some (.cells #[.int .i64 p.frm, .int .i64 p.to, .slice A p.data.length c] 28 (0, 0))) (hn : R.length ≤ 100) :
    ∃ v' W', (Builtin.append_ #[22, 22] ty #[v, .slice (some ⟨s, 0, none⟩) 1 1]).run Try.prog W = .ok v' W' ∧ SO w0 n (R ++ [p]) v' W' ∧ W.grownBy W' v.ownBlock ∧ ∀ b, b < W.heap.size → Er v b → Er v' b := by
  obtain ⟨xs, h1, h2⟩ := h.row
  obtain ⟨A1, c1, A1', c1', h3, h4⟩ := h.box
  obtain ⟨i0, hi0, hz0, hz1, hz2⟩ := info_parts Try.infoP
  obtain ⟨v', W', hr, ho, hg, hv⟩ := run_append_src_row (P := Try.prog) W (w0.heap.size + 1) 22 22 ty 28 i0 _ 3 40 Try.underlying22 hi0 hz0 hz1 hz2 rfl v R.length xs h1 (.slice (some ⟨s, 0, none⟩) 1 1) 1 [.int .i64 p.frm, .int .i64 p.to, .slice A p.data.length c]
    (Src.ofRow Try.underlying22 W (some ⟨s, 0, none⟩) 1 1 _ rfl (by decide) (fun _ => ⟨_, rfl, fun j u hu => by rw [add_none, Nat.zero_add, cell_of_row W s j _ _ _ hs]; simpa using hu⟩) (by simp [Value.oneCell'])) (by omega) (by omega) h.lt
  have hsz := hg.size
  have hown : ∀ k, v.ownBlock = some k → w0.heap.size + 1 ≤ k := fun k hk => (World.ownsRow.lt h1 k hk).1
  have same : ∀ b, b < W.heap.size → Er v b → W'.heap[b]? = W.heap[b]? := fun b hb he => hg.block b hb (fun e => he e.symm)
  have er : ∀ b, b < W.heap.size → Er v b → Er v' b := fun b hb he e => by
    rcases hv with hv | hv
    · exact he (hv.symm.trans e)
    · rw [hv] at e
      injection e with e
      omega
  have hp2 : RBs W (fun b => b < W.heap.size ∧ Er v b ∧ b ≠ w0.heap.size) A p.data := (hp.off fun o k n h => slice_box h3 h).mono fun b hb => ⟨hb.1.1, hb.1.2, hb.2⟩
  refine ⟨v', W', hr, ⟨h.bel.grown hg (by have := h.lt; omega) fun k hk => by have := hown k hk; omega, by have := h.lt; omega, ⟨_, by rw [List.length_append]; exact ho, ?_⟩, A1, c1, A1', c1', (same _ h.lt (fun e => by have := hown _ e; omega)).trans h3, ?_⟩, hg, er⟩
  · exact ((h2.append (PkV.one p A c hI hl hp2)).keep fun b o hb => World.cell?_of_block (same b hb.1 hb.2.1)).mono fun b hb => ⟨Nat.lt_of_lt_of_le hb.1 hsz, er b hb.1 hb.2.1, hb.2.2⟩
  · exact (h4.keep fun b o hb => World.cell?_of_block (same b hb.1 hb.2)).mono fun b hb => ⟨Nat.lt_of_lt_of_le hb.1 hsz, er b hb.1 hb.2⟩
/-- The box of the net, stored anew. -/
theorem SO.put {w0 w : World} {n m : Nt} {R : List Pk} {v : Value} (h : SO w0 n R v w) {D D' : Option Addr} {d d' : Nat} (hd : NR w (fun b => b < w.heap.size ∧ Er v b) D d D' d' m) :
    SO w0 m R v ((w.setCell ⟨w0.heap.size, 0, none⟩ (.slice D m.q.length d)).setCell ⟨w0.heap.size, 1, none⟩ (.slice D' m.ap.length d')) := by
  have hne : v.ownBlock = none ∨ v.ownBlock ≠ some w0.heap.size := .inr (h.own_ne (.inl (Nat.le_refl _)))
  obtain ⟨xs, h1, h2⟩ := h.row
  obtain ⟨A, c, A', c', h3, -⟩ := h.box
  refine ⟨(h.bel.setCell (p := ⟨w0.heap.size, 0, none⟩) (Nat.le_refl _) _).setCell (p := ⟨w0.heap.size, 1, none⟩) (Nat.le_refl _) _, by have := h.lt; simpa using this, ⟨xs, (h1.kept (grownBy_setCell1 w w0.heap.size 0 _) hne).kept (grownBy_setCell1 _ w0.heap.size 1 _) hne, ?_⟩, D, d, D', d',
    heap_setCell_same (w.setCell ⟨w0.heap.size, 0, none⟩ (.slice D m.q.length d)) w0.heap.size 1 _ _ (.slice D' m.ap.length d') (heap_setCell_same w w0.heap.size 0 _ _ (.slice D m.q.length d) h3), ?_⟩
  · exact (h2.keep ((Kept.set fun b hb => hb.2.2).trans (Kept.set fun b hb => hb.2.2))).mono fun b hb => ⟨by simpa using hb.1, hb.2⟩
  · exact ((hd.off fun o k n h => slice_box h3 h).keep ((Kept.set fun b hb => hb.2).trans (Kept.set fun b hb => hb.2))).mono fun b hb => ⟨by simpa using hb.1.1, hb.1.2⟩

theorem SO.form {w0 w : World} {n : Nt} {R : List Pk} {v : Value} (h : SO w0 n R v w) : ∃ A c, v = .slice A R.length c := by
  obtain ⟨xs, h1, -⟩ := h.row
  rcases h1.2 with ⟨h2, h3⟩ | ⟨_, _, _, h2, -⟩
  · exact ⟨none, 0, by rw [h3]; exact h2⟩
  · exact ⟨_, _, h2⟩
/-- A packet that was sent. -/
theorem SO.at_ {w0 w : World} {n : Nt} {R : List Pk} {v : Value} (h : SO w0 n R v w) {k : Nat} (hk : k < R.length) : ∃ g c Ap cp, v = .slice (some ⟨g, 0, none⟩) R.length c ∧ g < w.heap.size ∧
    (w.cell? ⟨g, k * 3, none⟩ = some (.int .i64 R[k].frm) ∧ w.cell? ⟨g, k * 3 + 1, none⟩ = some (.int .i64 R[k].to) ∧ w.cell? ⟨g, k * 3 + 2, none⟩ = some (.slice Ap R[k].data.length cp)) ∧ RBs w (· < w.heap.size) Ap R[k].data := by
  obtain ⟨xs, ho, hp⟩ := h.row
  rcases ho.2 with ⟨-, h0⟩ | ⟨g, c, cur, rfl, hb, hg, hc, hm, hs, ht⟩
  · omega
  have hcl := fun (i : Nat) (u : Value) (hu : xs[i]? = some u) => World.ownsRow.cells ho (g := g) rfl i u hu
  obtain ⟨v, h0, h1, h2, ⟨Ap, cp, rfl, h3, h4, h5⟩, h6⟩ := hp.2 k hk
  refine ⟨g, c, Ap, cp, rfl, (Array.getElem?_eq_some_iff.1 hg).1, ⟨?_, ?_, ?_⟩, h5.mono fun b hb => hb.1⟩
  · have := hcl _ _ h0; rwa [add_none, Nat.zero_add] at this
  · have := hcl _ _ h1; rwa [add_none, Nat.zero_add] at this
  · have := hcl _ _ h2; rwa [add_none, Nat.zero_add] at this

/-! The region that makes two boxes. -/
structure Sg where
  A : Option Addr
  c : Nat
  A' : Option Addr
  c' : Nat
  Ap : Option Addr
  cp : Nat
  g7 : Nat
  g8 : Nat
def Sg.zero : Sg := ⟨none, 0, none, 0, none, 0, 0, 0⟩
def xrow (X : Nt) (s : Sg) : Array Value := #[.slice s.A X.q.length s.c, .slice s.A' X.ap.length s.c']
def krow (p : Pk) (s : Sg) : Array Value := #[.int .i64 p.frm, .int .i64 p.to, .slice s.Ap p.data.length s.cp]
def znet : Array Value := #[.slice none 0 0, .slice none 0 0]
def zpkt : Array Value := #[.int .i64 0, .int .i64 0, .slice none 0 0]
def Zs (v : Value) (s : Sg) (L : Nat → Bool) (W : World) (b : Nat) : Prop := b < W.heap.size ∧ Er v b ∧ (L 10 = true → b ≠ s.g7) ∧ (L 11 = true → b ≠ s.g8)
structure GS (wr : World) (v : Value) (X : Nt) (p : Pk) (s : Sg) (L : Nat → Bool) (W : World) : Prop where
  bel : Below wr.heap.size wr W
  b7 : L 10 = true → wr.heap.size ≤ s.g7 ∧ W.heap[s.g7]? = some (.cells (if L 12 = true then xrow X s else znet) 25 (0, 0))
  b8 : L 11 = true → wr.heap.size ≤ s.g8 ∧ W.heap[s.g8]? = some (.cells (if L 13 = true then krow p s else zpkt) 28 (0, 0))
  ne : L 10 = true → L 11 = true → s.g7 ≠ s.g8
  rd : L 5 = true → (p.data.length ≤ s.cp ∧ s.cp ≤ maxLen) ∧ (I64 p.frm ∧ I64 p.to) ∧ NR W (Zs v s L W) s.A s.c s.A' s.c' X ∧ RBs W (Zs v s L W) s.Ap p.data
def RS (L : Nat → Bool) (s s' : Sg) : Prop := (L 5 = true → s'.A = s.A ∧ s'.c = s.c ∧ s'.A' = s.A' ∧ s'.c' = s.c' ∧ s'.Ap = s.Ap ∧ s'.cp = s.cp) ∧ (L 10 = true → s'.g7 = s.g7) ∧ (L 11 = true → s'.g8 = s.g8)
theorem RS.refl (L : Nat → Bool) (s : Sg) : RS L s s := ⟨fun _ => ⟨rfl, rfl, rfl, rfl, rfl, rfl⟩, fun _ => rfl, fun _ => rfl⟩
theorem updS_ne {L : Nat → Bool} {i k : Nat} (h : k ≠ i) : updS L i k = L k := if_neg h
theorem updS_eq (L : Nat → Bool) (i : Nat) : updS L i i = true := if_pos rfl
variable {wr : World} {v : Value} {X : Nt} {p : Pk} {s : Sg} {L : Nat → Bool} {W : World}
theorem GS.val (h : GS wr v X p s L W) (i : Nat) (hi : i ≠ 5 ∧ i ≠ 10 ∧ i ≠ 11 ∧ i ≠ 12 ∧ i ≠ 13) : GS wr v X p s (updS L i) W := by
  obtain ⟨h5, h10, h11, h12, h13⟩ := hi
  have e : ∀ k, k ≠ i → updS L i k = L k := fun k hk => updS_ne hk
  have ez : Zs v s (updS L i) W = Zs v s L W := by funext b; unfold Zs; rw [e 10 (Ne.symm h10), e 11 (Ne.symm h11)]
  exact ⟨h.bel, by rw [e 10 (Ne.symm h10), e 12 (Ne.symm h12)]; exact h.b7, by rw [e 11 (Ne.symm h11), e 13 (Ne.symm h13)]; exact h.b8, by rw [e 10 (Ne.symm h10), e 11 (Ne.symm h11)]; exact h.ne, by rw [e 5 (Ne.symm h5), ez]; exact h.rd⟩
theorem GS.call (h : GS wr v X p s L W) {A A' Ap : Option Addr} {c c' cp : Nat} {W' : World} (hb : Below W.heap.size W W') (hown : ∀ b, wr.heap.size ≤ b → Er v b) (hc : p.data.length ≤ cp ∧ cp ≤ maxLen) (hI : I64 p.frm ∧ I64 p.to)
    (hr : RBs W' (Sn (fun b => b < wr.heap.size ∧ Er v b) W W') Ap p.data) (hd : NR W' (Sn (fun b => b < wr.heap.size ∧ Er v b) W W') A c A' c' X) (h12 : L 12 = false) (h13 : L 13 = false) : GS wr v X p ⟨A, c, A', c', Ap, cp, s.g7, s.g8⟩ (updS L 5) W' := by
  have hz : ∀ b, Sn (fun b => b < wr.heap.size ∧ Er v b) W W' b → Zs v ⟨A, c, A', c', Ap, cp, s.g7, s.g8⟩ (updS L 5) W' b := fun b hb' => by
    have hs := h.bel.size
    refine ⟨?_, ?_, fun hl => ?_, fun hl => ?_⟩
    · rcases hb' with hb' | hb'
      · exact Nat.lt_of_lt_of_le hb'.1 (Nat.le_trans hs hb.size)
      · exact hb'.2
    · rcases hb' with hb' | hb'
      · exact hb'.2
      · exact hown b (by omega)
    · have := h.b7 ((updS_ne (by omega)).symm.trans hl)
      have hlt := (Array.getElem?_eq_some_iff.1 this.2).1
      have := this.1
      show b ≠ s.g7
      rcases hb' with hb' | hb'
      · have := hb'.1; omega
      · omega
    · have := h.b8 ((updS_ne (by omega)).symm.trans hl)
      have hlt := (Array.getElem?_eq_some_iff.1 this.2).1
      have := this.1
      show b ≠ s.g8
      rcases hb' with hb' | hb'
      · have := hb'.1; omega
      · omega
  refine ⟨h.bel.trans (hb.mono h.bel.size), fun hl => ?_, fun hl => ?_, fun h1 h2 => h.ne ((updS_ne (by omega)).symm.trans h1) ((updS_ne (by omega)).symm.trans h2), fun _ => ⟨hc, hI, hd.mono hz, hr.mono hz⟩⟩
  · obtain ⟨h1, h2⟩ := h.b7 ((updS_ne (by omega)).symm.trans hl)
    refine ⟨h1, ?_⟩
    rw [updS_ne (by omega), h12] at *
    exact blk_step h2 hb
  · obtain ⟨h1, h2⟩ := h.b8 ((updS_ne (by omega)).symm.trans hl)
    refine ⟨h1, ?_⟩
    rw [updS_ne (by omega), h13] at *
    exact blk_step h2 hb
theorem GS.new7 (h : GS wr v X p s L W) (h10 : L 10 = false) (h12 : L 12 = false) : GS wr v X p { s with g7 := W.heap.size } (updS L 10) (W.alloc (.cells znet 25)) := by
  have hb := bnew W (.cells znet 25)
  refine ⟨h.bel.trans (hb.mono h.bel.size), fun _ => ⟨h.bel.size, ?_⟩, fun hl => ?_, fun _ hl => ?_, fun hl => ?_⟩
  · rw [updS_ne (by omega), h12]; exact heap_alloc_new W _
  · obtain ⟨h1, h2⟩ := h.b8 ((updS_ne (by omega)).symm.trans hl)
    refine ⟨h1, ?_⟩
    rw [updS_ne (by omega)]
    exact blk_step h2 hb
  · obtain ⟨h1, h2⟩ := h.b8 ((updS_ne (by omega)).symm.trans hl)
    have := (Array.getElem?_eq_some_iff.1 h2).1
    show W.heap.size ≠ s.g8
    omega
  · obtain ⟨q1, q2, q3, q4⟩ := h.rd ((updS_ne (by omega)).symm.trans hl)
    have hz : ∀ b, Zs v s L W b → Zs v { s with g7 := W.heap.size } (updS L 10) (W.alloc (.cells znet 25)) b := fun b hb' => ⟨Nat.lt_of_lt_of_le hb'.1 hb.size, hb'.2.1, fun _ => Nat.ne_of_lt hb'.1, fun hl => hb'.2.2.2 ((updS_ne (by omega)).symm.trans hl)⟩
    exact ⟨q1, q2, (q3.keep fun b o hs => hb.cell (p := ⟨b, o, none⟩) hs.1).mono hz, (q4.keep fun b o hs => hb.cell (p := ⟨b, o, none⟩) hs.1).mono hz⟩
theorem GS.new8 (h : GS wr v X p s L W) (h11 : L 11 = false) (h13 : L 13 = false) : GS wr v X p { s with g8 := W.heap.size } (updS L 11) (W.alloc (.cells zpkt 28)) := by
  have hb := bnew W (.cells zpkt 28)
  refine ⟨h.bel.trans (hb.mono h.bel.size), fun hl => ?_, fun _ => ⟨h.bel.size, ?_⟩, fun hl _ => ?_, fun hl => ?_⟩
  · obtain ⟨h1, h2⟩ := h.b7 ((updS_ne (by omega)).symm.trans hl)
    refine ⟨h1, ?_⟩
    rw [updS_ne (by omega)]
    exact blk_step h2 hb
  · rw [updS_ne (by omega), h13]; exact heap_alloc_new W _
  · obtain ⟨h1, h2⟩ := h.b7 ((updS_ne (by omega)).symm.trans hl)
    have := (Array.getElem?_eq_some_iff.1 h2).1
    show s.g7 ≠ W.heap.size
    omega
  · obtain ⟨q1, q2, q3, q4⟩ := h.rd ((updS_ne (by omega)).symm.trans hl)
    have hz : ∀ b, Zs v s L W b → Zs v { s with g8 := W.heap.size } (updS L 11) (W.alloc (.cells zpkt 28)) b := fun b hb' => ⟨Nat.lt_of_lt_of_le hb'.1 hb.size, hb'.2.1, fun hl => hb'.2.2.1 ((updS_ne (by omega)).symm.trans hl), fun _ => Nat.ne_of_lt hb'.1⟩
    exact ⟨q1, q2, (q3.keep fun b o hs => hb.cell (p := ⟨b, o, none⟩) hs.1).mono hz, (q4.keep fun b o hs => hb.cell (p := ⟨b, o, none⟩) hs.1).mono hz⟩
theorem GS.put7 (h : GS wr v X p s L W) (h10 : L 10 = true) : GS wr v X p s (updS L 12) (W.setRow s.g7 (xrow X s)) := by
  obtain ⟨k1, k2⟩ := h.b7 h10
  have hsz : (W.setRow s.g7 (xrow X s)).heap.size = W.heap.size := by simp
  refine ⟨h.bel.grown (grownBy_setRow W s.g7 (xrow X s)) h.bel.size (fun k hk => by injection hk; omega), fun _ => ⟨k1, ?_⟩, fun hl => ?_, fun h1 h2 => h.ne ((updS_ne (by omega)).symm.trans h1) ((updS_ne (by omega)).symm.trans h2), fun hl => ?_⟩
  · rw [updS_eq, if_pos rfl]
    exact setRow_heap W s.g7 _ _ _ _ k2
  · have hl' : L 11 = true := (updS_ne (by omega)).symm.trans hl
    obtain ⟨h1, h2⟩ := h.b8 hl'
    refine ⟨h1, ?_⟩
    rw [updS_ne (by omega)]
    exact (setRow_other W s.g7 s.g8 _ (Ne.symm (h.ne h10 hl'))).trans h2
  · obtain ⟨q1, q2, q3, q4⟩ := h.rd ((updS_ne (by omega)).symm.trans hl)
    have hk : Kept (Zs v s L W) W (W.setRow s.g7 (xrow X s)) := fun b o hb => World.cell?_of_block (setRow_other W s.g7 b _ (hb.2.2.1 h10))
    have hz : ∀ b, Zs v s L W b → Zs v s (updS L 12) (W.setRow s.g7 (xrow X s)) b := fun b hb => ⟨by rw [hsz]; exact hb.1, hb.2.1, fun hl => hb.2.2.1 ((updS_ne (by omega)).symm.trans hl), fun hl => hb.2.2.2 ((updS_ne (by omega)).symm.trans hl)⟩
    exact ⟨q1, q2, (q3.keep hk).mono hz, (q4.keep hk).mono hz⟩
theorem GS.put8 (h : GS wr v X p s L W) (h11 : L 11 = true) : GS wr v X p s (updS L 13) (W.setRow s.g8 (krow p s)) := by
  obtain ⟨k1, k2⟩ := h.b8 h11
  have hsz : (W.setRow s.g8 (krow p s)).heap.size = W.heap.size := by simp
  refine ⟨h.bel.grown (grownBy_setRow W s.g8 (krow p s)) h.bel.size (fun k hk => by injection hk; omega), fun hl => ?_, fun _ => ⟨k1, ?_⟩, fun h1 h2 => h.ne ((updS_ne (by omega)).symm.trans h1) ((updS_ne (by omega)).symm.trans h2), fun hl => ?_⟩
  · have hl' : L 10 = true := (updS_ne (by omega)).symm.trans hl
    obtain ⟨h1, h2⟩ := h.b7 hl'
    refine ⟨h1, ?_⟩
    rw [updS_ne (by omega)]
    exact (setRow_other W s.g8 s.g7 _ (h.ne hl' h11)).trans h2
  · rw [updS_eq, if_pos rfl]
    exact setRow_heap W s.g8 _ _ _ _ k2
  · obtain ⟨q1, q2, q3, q4⟩ := h.rd ((updS_ne (by omega)).symm.trans hl)
    have hk : Kept (Zs v s L W) W (W.setRow s.g8 (krow p s)) := fun b o hb => World.cell?_of_block (setRow_other W s.g8 b _ (hb.2.2.2 h11))
    have hz : ∀ b, Zs v s L W b → Zs v s (updS L 13) (W.setRow s.g8 (krow p s)) b := fun b hb => ⟨by rw [hsz]; exact hb.1, hb.2.1, fun hl => hb.2.2.1 ((updS_ne (by omega)).symm.trans hl), fun hl => hb.2.2.2 ((updS_ne (by omega)).symm.trans hl)⟩
    exact ⟨q1, q2, (q3.keep hk).mono hz, (q4.keep hk).mono hz⟩
end Go.Proofs.Ytpmmahlmfcbbbaa
