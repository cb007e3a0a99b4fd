/- Boxes with nets and packets, carried along. -/
import Derived.Test.YtpmmahlmfcbbbaaN6
import Derived.Test.YtpmmahlmfcbbbaaN4
import Derived.Test.YtpmmahlmfcbbbaaNg
namespace Go.Proofs.Ytpmmahlmfcbbbaa
open Go.RowKit

theorem NtPost.got {w w' : World} {x : Nt × Int} {n : Nt} {m : Int} {e : Ending} (p : NtPost (· < w.heap.size) x w e w') (hx : x = (n, m)) :
    ∃ A c A' c', e = .returned (.tuple #[.agg #[.slice A n.q.length c, .slice A' n.ap.length c'], .int .i64 m]) ∧ NR w' (· < w'.heap.size) A c A' c' n ∧ Below w.heap.size w w' := by
  subst hx
  obtain ⟨A, c, A', c', he, hd, hb⟩ := p.get
  exact ⟨A, c, A', c', he, hd.mono (Sn.lt (fun _ h => h) hb), hb⟩
theorem DvPost.got {w w' : World} {p q : Pk} {x n : Nt} {k m : Int} {e : Ending} (h : DvPost (· < w.heap.size) p x k w e w') (hp : p = q) (hx : x = n) (hk : k = m) :
    ∃ Ap cp A c A' c', e = .returned (.tuple #[.agg #[.int .i64 q.frm, .int .i64 q.to, .slice Ap q.data.length cp], .agg #[.slice A n.q.length c, .slice A' n.ap.length c'], .int .i64 m]) ∧
      (q.data.length ≤ cp ∧ cp ≤ maxLen) ∧ RBs w' (· < w'.heap.size) Ap q.data ∧ (I64 q.frm ∧ I64 q.to) ∧ NR w' (· < w'.heap.size) A c A' c' n ∧ Below w.heap.size w w' := by
  subst hp hx hk
  obtain ⟨hb, Ap, cp, A, c, A', c', he, h1, h2, h3, h4⟩ := h
  exact ⟨Ap, cp, A, c, A', c', he, h1, h2.mono (Sn.lt (fun _ h => h) hb), h3, h4.mono (Sn.lt (fun _ h => h) hb), hb⟩
/-- A box with a net. -/
structure NB (w : World) (B : Nat) (A : Option Addr) (c : Nat) (A' : Option Addr) (c' : Nat) (n : Nt) : Prop where
  blk : w.heap[B]? = some (.cells #[.slice A n.q.length c, .slice A' n.ap.length c'] 25 (0, 0))
  net : NR w (· < w.heap.size) A c A' c' n
theorem NB.step {w w' : World} {B : Nat} {A A' : Option Addr} {c c' : Nat} {n : Nt} (h : NB w B A c A' c' n) (hb : Below w.heap.size w w') : NB w' B A c A' c' n := ⟨blk_step h.blk hb, h.net.step hb⟩
theorem NB.new {w : World} {A A' : Option Addr} {c c' : Nat} {n : Nt} (h : NR w (· < w.heap.size) A c A' c' n) : NB (w.alloc (.cells #[.slice A n.q.length c, .slice A' n.ap.length c'] 25)) w.heap.size A c A' c' n := ⟨heap_alloc_new w _, h.step (bnew w _)⟩
theorem NB.cells {w : World} {B : Nat} {A A' : Option Addr} {c c' : Nat} {n : Nt} (h : NB w B A c A' c' n) : w.cell? ⟨B, 0, none⟩ = some (.slice A n.q.length c) ∧ w.cell? ⟨B, 1, none⟩ = some (.slice A' n.ap.length c') := ⟨cell_of_row w B 0 _ _ _ h.blk, cell_of_row w B 1 _ _ _ h.blk⟩
/-- A box with a packet. -/
structure KB (w : World) (B : Nat) (A : Option Addr) (c : Nat) (p : Pk) : Prop where
  blk : w.heap[B]? = some (.cells #[.int .i64 p.frm, .int .i64 p.to, .slice A p.data.length c] 28 (0, 0))
  cap : p.data.length ≤ c ∧ c ≤ maxLen
  dat : RBs w (· < w.heap.size) A p.data
  num : I64 p.frm ∧ I64 p.to
theorem RBs.step {w w' : World} {A : Option Addr} {l : List UInt8} (h : RBs w (· < w.heap.size) A l) (hb : Below w.heap.size w w') : RBs w' (· < w'.heap.size) A l := (h.keep (Kept.below hb)).mono fun _ hlt => Nat.lt_of_lt_of_le hlt hb.size
theorem KB.step {w w' : World} {B : Nat} {A : Option Addr} {c : Nat} {p : Pk} (h : KB w B A c p) (hb : Below w.heap.size w w') : KB w' B A c p := ⟨blk_step h.blk hb, h.cap, h.dat.step hb, h.num⟩
theorem KB.new {w : World} {A : Option Addr} {c : Nat} {p : Pk} (h1 : p.data.length ≤ c ∧ c ≤ maxLen) (h : RBs w (· < w.heap.size) A p.data) (h2 : I64 p.frm ∧ I64 p.to) : KB (w.alloc (.cells #[.int .i64 p.frm, .int .i64 p.to, .slice A p.data.length c] 28)) w.heap.size A c p := ⟨heap_alloc_new w _, h1, h.step (bnew w _), h2⟩
theorem KB.cells {w : World} {B : Nat} {A : Option Addr} {c : Nat} {p : Pk} (h : KB w B A c p) : w.cell? ⟨B, 0, none⟩ = some (.int .i64 p.frm) ∧ w.cell? ⟨B, 1, none⟩ = some (.int .i64 p.to) ∧ w.cell? ⟨B, 2, none⟩ = some (.slice A p.data.length c) := ⟨cell_of_row w B 0 _ _ _ h.blk, cell_of_row w B 1 _ _ _ h.blk, cell_of_row w B 2 _ _ _ h.blk⟩

/-! What the chapter's examples give, plainly. -/
def pS : Pk := ⟨1, 3, [7]⟩
def nA : Nt := ⟨[pS], []⟩
def nB : Nt := ⟨[pS, pS], []⟩
def nC : Nt := ⟨[pS, pS], [(1, 3)]⟩
def nD : Nt := ⟨[pS], [(1, 3)]⟩
theorem s1 : (delivN zeroNt 0 = zeroPk ∧ (loseN zeroNt 0).1 = zeroNt) ∧ (loseN zeroNt 0).2 = 1 := ⟨⟨rfl, rfl⟩, by decide +kernel⟩
theorem s2 : sendN zeroNt ⟨3, 3, []⟩ = (zeroNt, 60) := rfl
theorem s3 : cutN zeroNt 2 2 true = (zeroNt, 1) := rfl
theorem s4 : sendN zeroNt pS = (nA, 0) := rfl
theorem s5 : repN nA 0 = (nB, 0) := rfl
theorem s6 : cutN nB 3 1 true = (nC, 0) := by
  unfold cutN
  rw [if_neg (by decide +kernel), if_neg (by decide +kernel)]
  have : cutL nB.ap (linkP 3 1) true = [(1, 3)] := by decide +kernel
  rw [this]
  rfl
theorem s7 : (delivN nB 0 = pS ∧ (loseN nB 0).1 = nA) ∧ (loseN nB 0).2 = 0 := ⟨⟨rfl, rfl⟩, rfl⟩
theorem s8 : (delivN nC 1 = zeroPk ∧ (loseN nC 1).1 = nD) ∧ (loseN nC 1).2 = 0 := ⟨⟨rfl, rfl⟩, rfl⟩
end Go.Proofs.Ytpmmahlmfcbbbaa
