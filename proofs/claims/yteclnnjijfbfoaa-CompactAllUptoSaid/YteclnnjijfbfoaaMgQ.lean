/-
  The queue of heads in memory: its block, the row of heads (six cells each), a box for each source.
-/
import Derived.Test.YteclnnjijfbfoaaMgN
import Derived.Test.YteclnnjijfbfoaaMgA
import Derived.Test.YteclnnjijfbfoaaMgF
import Derived.Laws.OwnMore
namespace Go.Proofs.Yteclnnjijfbfoaa
open Go.RowKit

def srcV (bl : Nat) : Value := .func (.func 47) #[] #[.pointer (some ⟨bl, 0, none⟩)]
def cmpV : Value := .func (.func 32) #[] #[]
def hdC (h : Hd) : List Value := [.string ⟨h.e.key.toArray⟩, .int .u64 (h.e.seq : Int), .bool h.e.gone, .slice h.q h.e.val.length h.c, srcV h.bl, .int .i64 (h.num : Int)]
def hcs : List Hd → List Value
  | [] => []
  | h :: t => hdC h ++ hcs t
theorem hcs_length : ∀ hs : List Hd, (hcs hs).length = hs.length * 6
  | [] => rfl
  | h :: t => by
    have := hcs_length t
    simp only [hcs, List.length_append, List.length_cons, this, hdC, List.length_nil]
    omega
theorem hcs_append : ∀ a b : List Hd, hcs (a ++ b) = hcs a ++ hcs b
  | [], b => rfl
  | h :: t, b => by simp [hcs, hcs_append t b]
theorem hcs_take : ∀ (hs : List Hd) (n : Nat), (hcs hs).take (n * 6) = hcs (hs.take n)
  | [], n => by simp [hcs]
  | h :: t, 0 => by simp [hcs]
  | h :: t, n + 1 => by
    rw [List.take_succ_cons]
    show (hdC h ++ hcs t).take ((n + 1) * 6) = hdC h ++ hcs (t.take n)
    rw [← hcs_take t n, show (n + 1) * 6 = n * 6 + 1 + 1 + 1 + 1 + 1 + 1 by omega]
    simp only [hdC, List.cons_append, List.nil_append, List.take_succ_cons]
theorem hcs_at : ∀ {hs : List Hd} {i : Nat} {a : Hd}, hs[i]? = some a → ∀ k, k < 6 → (hcs hs)[i * 6 + k]? = (hdC a)[k]?
  | [], _, _, h, _, _ => by simp at h
  | x :: t, 0, a, h, k, hk => by
    obtain rfl := Option.some.inj h
    show (hdC x ++ hcs t)[0 * 6 + k]? = _
    rw [List.getElem?_append_left (by simp [hdC]; omega)]
    simp
  | x :: t, i + 1, a, h, k, hk => by
    show (hdC x ++ hcs t)[(i + 1) * 6 + k]? = _
    rw [List.getElem?_append_right (by simp [hdC]; omega), show (i + 1) * 6 + k - (hdC x).length = i * 6 + k by simp [hdC]; omega]
    exact hcs_at (by simpa using h) k hk
theorem hcs_set : ∀ (hs : List Hd) (i : Nat) (b : Hd), i < hs.length →
    ((((((hcs hs).set (i * 6) (.string ⟨b.e.key.toArray⟩)).set (i * 6 + 1) (.int .u64 (b.e.seq : Int))).set (i * 6 + 2) (.bool b.e.gone)).set (i * 6 + 3) (.slice b.q b.e.val.length b.c)).set (i * 6 + 4) (srcV b.bl)).set (i * 6 + 5) (.int .i64 (b.num : Int)) = hcs (hs.set i b)
  | [], _, _, h => by simp at h
  | x :: t, 0, b, _ => by simp [hcs, hdC]
  | x :: t, i + 1, b, h => by
    have ih := hcs_set t i b (by simpa using h)
    simp only [List.set_cons_succ, hcs]
    rw [← ih]
    simp only [hdC, List.cons_append, List.nil_append, show (i + 1) * 6 = i * 6 + 1 + 1 + 1 + 1 + 1 + 1 by omega, show ∀ k, i * 6 + 1 + 1 + 1 + 1 + 1 + 1 + k = i * 6 + k + 1 + 1 + 1 + 1 + 1 + 1 by omega, List.set_cons_succ]

def set6 (w : World) (g o : Nat) (a b c d e f : Value) : World := (((((w.setCell ⟨g, o, none⟩ a).setCell ⟨g, o + 1, none⟩ b).setCell ⟨g, o + 2, none⟩ c).setCell ⟨g, o + 3, none⟩ d).setCell ⟨g, o + 4, none⟩ e).setCell ⟨g, o + 5, none⟩ f
theorem set6_fr (w : World) (g o : Nat) (a b c d e f : Value) (S : Nat → Prop) (hS : S g) : Fr S w (set6 w g o a b c d e f) :=
  (((((Fr.setCell S w (p := ⟨g, o, none⟩) hS a).then (Fr.setCell S _ (p := ⟨g, o + 1, none⟩) hS b)).then (Fr.setCell S _ (p := ⟨g, o + 2, none⟩) hS c)).then (Fr.setCell S _ (p := ⟨g, o + 3, none⟩) hS d)).then (Fr.setCell S _ (p := ⟨g, o + 4, none⟩) hS e)).then (Fr.setCell S _ (p := ⟨g, o + 5, none⟩) hS f)
theorem set6_row {w : World} {B g cap n : Nat} {hs : List Hd} (h : w.ownsRow B 106 6 (.slice (some ⟨g, 0, none⟩) n cap) n (hcs hs)) {i : Nat} (hi : i < hs.length) (b : Hd) :
    (set6 w g (i * 6) (.string ⟨b.e.key.toArray⟩) (.int .u64 (b.e.seq : Int)) (.bool b.e.gone) (.slice b.q b.e.val.length b.c) (srcV b.bl) (.int .i64 (b.num : Int))).ownsRow B 106 6 (.slice (some ⟨g, 0, none⟩) n cap) n (hcs (hs.set i b)) := by
  have h1 := (World.ownsRow.stored h (i * 6) (.string ⟨b.e.key.toArray⟩)).1
  have h2 := (World.ownsRow.stored h1 (i * 6 + 1) (.int .u64 (b.e.seq : Int))).1
  have h3 := (World.ownsRow.stored h2 (i * 6 + 2) (.bool b.e.gone)).1
  have h4 := (World.ownsRow.stored h3 (i * 6 + 3) (.slice b.q b.e.val.length b.c)).1
  have h5 := (World.ownsRow.stored h4 (i * 6 + 4) (srcV b.bl)).1
  have h6 := (World.ownsRow.stored h5 (i * 6 + 5) (.int .i64 (b.num : Int))).1
  rw [hcs_set hs i b hi] at h6
  exact h6

/-- The queue: its block qb, the row of heads (where hp says, room cap), the sources' boxes; A: from here on all is the merge's own; below lie the lists. -/
structure QM (w : World) (A qb : Nat) (hp : Option Addr) (cap : Nat) (hs : List Hd) : Prop where
  q : w.heap[qb]? = some (.cells #[.slice hp hs.length cap, cmpV] 104 (0, 0))
  qlo : A ≤ qb
  row : w.ownsRow A 106 6 (.slice hp hs.length cap) hs.length (hcs hs)
  box : ∀ h ∈ hs, A ≤ h.bl ∧ ∃ p c, w.heap[h.bl]? = some (.cells #[.slice p h.rest.length c] 26 (0, 0)) ∧ En w (fun k => k < A) (.slice p h.rest.length c) h.rest
  val : ∀ h ∈ hs, By w (fun k => k < A) (.slice h.q h.e.val.length h.c) h.e.val
  bls : hs.Pairwise fun a b => a.bl ≠ b.bl
  few : hs.length ≤ 1024
/-- A block that is none of the queue's. -/
def OffQ (S : Nat → Prop) (qb : Nat) (hp : Option Addr) (hs : List Hd) (A : Nat) : Prop := (∀ k, S k → A ≤ k) ∧ ¬ S qb ∧ (∀ a, hp = some a → ¬ S a.block) ∧ ∀ h ∈ hs, ¬ S h.bl
theorem QM.fr {w w' : World} {A qb : Nat} {hp : Option Addr} {cap : Nat} {hs : List Hd} (h : QM w A qb hp cap hs) {S : Nat → Prop} (hf : Fr S w w') (hS : OffQ S qb hp hs A) : QM w' A qb hp cap hs := by
  obtain ⟨s1, s2, s3, s4⟩ := hS
  refine ⟨(hf.block _ (block_lt h.q) s2).trans h.q, h.qlo, ?_, fun x hx => ?_, fun x hx => (h.val x hx).step hf fun k _ hk hs => absurd (s1 k hs) (by omega), h.bls, h.few⟩
  · refine ⟨h.row.1, ?_⟩
    rcases h.row.2 with hn | ⟨g, cap, cur, e, h1, h2, h3⟩
    · exact .inl hn
    · refine .inr ⟨g, cap, cur, e, h1, (hf.block _ (block_lt h2) ?_).trans h2, h3⟩
      injection e with e1 _ _
      exact s3 _ e1
  · obtain ⟨b1, p, c, b2, b3⟩ := h.box x hx
    exact ⟨b1, p, c, (hf.block _ (block_lt b2) (s4 x hx)).trans b2, b3.step hf fun k _ hk hs => absurd (s1 k hs) (by omega)⟩
theorem QM.below {w w' : World} {A qb : Nat} {hp : Option Addr} {cap : Nat} {hs : List Hd} (h : QM w A qb hp cap hs) (hb : Below w.heap.size w w') : QM w' A qb hp cap hs :=
  h.fr (Fr.of_new hb (fun _ => False)) ⟨fun _ h => h.elim, id, fun _ _ => id, fun _ _ => id⟩
theorem QM.room {w : World} {A qb : Nat} {hp : Option Addr} {cap : Nat} {hs : List Hd} (h : QM w A qb hp cap hs) : hs.length ≤ cap ∧ cap ≤ 9223372036854775807 := by
  rcases h.row.2 with ⟨e, h0⟩ | ⟨g, cap', cur, e, h1, h2, h3, h4, _⟩
  · injection e with _ e1 e2; subst e2; constructor <;> omega
  · injection e with _ _ e2
    subst e2
    unfold maxLen at h4
    exact ⟨h3, h4⟩
theorem QM.at_ {w : World} {A qb : Nat} {hp : Option Addr} {cap : Nat} {hs : List Hd} (h : QM w A qb hp cap hs) {i : Nat} {a : Hd} (ha : hs[i]? = some a) :
    ∃ g, hp = some ⟨g, 0, none⟩ ∧ A ≤ g ∧ g < w.heap.size ∧ w.cell? ⟨g, i * 6, none⟩ = some (.string ⟨a.e.key.toArray⟩) ∧ w.cell? ⟨g, i * 6 + 1, none⟩ = some (.int .u64 (a.e.seq : Int)) ∧ w.cell? ⟨g, i * 6 + 2, none⟩ = some (.bool a.e.gone) ∧
      w.cell? ⟨g, i * 6 + 3, none⟩ = some (.slice a.q a.e.val.length a.c) ∧ w.cell? ⟨g, i * 6 + 4, none⟩ = some (srcV a.bl) ∧ w.cell? ⟨g, i * 6 + 5, none⟩ = some (.int .i64 (a.num : Int)) := by
  have hi := (List.getElem?_eq_some_iff.1 ha).1
  rcases h.row.2 with ⟨_, h0⟩ | ⟨g, cap', cur, e, h1, h2, _⟩
  · omega
  · injection e with e1 _ _
    have hr := h.row
    rw [e1] at hr
    have hc := fun k (hk : k < 6) => (World.ownsRow.cellAt hr (i * 6 + k) (by omega)).trans (hcs_at ha k hk)
    exact ⟨g, e1, h1, block_lt h2, hc 0 (by omega), hc 1 (by omega), hc 2 (by omega), hc 3 (by omega), hc 4 (by omega), hc 5 (by omega)⟩
end Go.Proofs.Yteclnnjijfbfoaa
