/-
  The walk over glacierlaw7.Opened where the bytes are a table; a row of keys in memory.
-/
import Derived.Test.YtagehnclkneolaaGreatDoorSuR
import Derived.Test.YtagehnclkneolaaGreatDoorSuQ
import Derived.Test.YtagehnclkneolaaGreatDoorGUd
namespace Go.Proofs.YtagehnclkneolaaGreatDoor
open Go.RowKit

set_option maxRecDepth 100000 in
set_option maxHeartbeats 1000000 in
theorem opened_yes (w : World) (q : Option Addr) (c : Nat) (b : List UInt8) (B : Nat) (h : Rd w B (.slice q b.length c) b) (hB : B ≤ w.heap.size) (ht : Tabs w) (hb40 : b.length ≤ 1073741824) (L : List Ent) (bks : List TBk) (ho : opnP b = .inr (L, bks)) :
    Calls Tryz.prog 6 #[.slice q b.length c] w fun x w' => ∃ tb rb base base', x = .returned (.tuple #[.pointer (some ⟨tb, 0, none⟩), .pointer (some ⟨rb, 0, none⟩), .bool true]) ∧ TblM w' base tb L bks.length ∧ RTbM w' base' rb L bks ∧ Below w.heap.size w w' := by
  have HC := Lib.hid (open_any w q c b B h hB ht hb40)
  have HR := Lib.hid h
  have HO := Lib.hid ho
  clear h ht ho
  go_enter Tryz.func6, Tryz.ntmps6
  go_wp2_with fail
  refine HC.out.mono ?_
  rintro x w1 ⟨hot, hb1⟩
  rcases hot with ⟨at_, e, g, hop, _⟩ | ⟨L2, bks2, tb, hop, rfl, hT⟩
  · rw [HO.out] at hop
    cases hop
  · rw [HO.out] at hop
    obtain ⟨rfl, rfl⟩ : L = L2 ∧ bks = bks2 := by simpa using hop
    have HB1 := Lib.hid hb1
    have HT1 := Lib.hid hT
    have HC2 := Lib.hid (refOpen_any w1 q c b B (HR.out.under hb1 hB) (Nat.le_trans hB hb1.size) hb40)
    clear hop hb1 hT HC
    go_wp2_with fail
    refine HC2.out.mono ?_
    rintro x w2 ⟨hot, hb2⟩
    rcases hot with ⟨at_, e, hop, _⟩ | ⟨L2, bks2, rb, hop, rfl, hT2⟩
    · rw [HO.out] at hop
      cases hop
    · rw [HO.out] at hop
      obtain ⟨rfl, rfl⟩ : L = L2 ∧ bks = bks2 := by simpa using hop
      have HB2 := Lib.hid hb2
      have HT2 := Lib.hid hT2
      clear hop hb2 hT2 HC2
      go_wp2_with fail
      go_ret3
      exact ⟨tb, rb, _, _, rfl, HT1.out.below HB2.out, HT2.out, HB1.out.trans (HB2.out.mono HB1.out.size)⟩

/-! ### a row of keys -/
def kV (s : List UInt8) : Value := .string ⟨s.toArray⟩
theorem slStr : SlT 35 9 1 16 :=
  ⟨Tryz.underlying35, by simp [Program.elem, Tryz.underlying35], fun _ => by kernel_rfl, ⟨.string ⟨#[]⟩, by kernel_rfl, rfl⟩, by omega, by omega⟩
/-- The keys that are asked for. -/
def keysL (key : List UInt8) (l : List Ent) : List (List UInt8) := key :: [] :: (l.map fun e => [e.key, e.key ++ [120]]).flatten
theorem keysL_len (key : List UInt8) (l : List Ent) : (keysL key l).length = 2 + 2 * l.length := by
  have h : ((l.map fun e => [e.key, e.key ++ [120]]).flatten).length = 2 * l.length := by
    induction l with
    | nil => rfl
    | cons e r ih => simp [ih]; omega
  simp [keysL, h]; omega
theorem keysL_snoc (key : List UInt8) (l : List Ent) (e : Ent) : keysL key (l ++ [e]) = keysL key l ++ [e.key, e.key ++ [120]] := by simp [keysL]
theorem keysL_le {key : List UInt8} {l : List Ent} {M : Nat} (hk : key.length ≤ M) (hl : ∀ e ∈ l, e.key.length + 1 ≤ M) : ∀ k ∈ keysL key l, k.length ≤ M := by
  intro k hk2
  simp only [keysL, List.mem_cons, List.mem_flatten, List.mem_map] at hk2
  rcases hk2 with rfl | rfl | ⟨r, ⟨e, he, rfl⟩, hr⟩
  · exact hk
  · simp
  · have := hl e he
    simp only [List.mem_cons, List.not_mem_nil, or_false] at hr
    rcases hr with rfl | rfl
    · omega
    · rw [List.length_append, List.length_singleton]; omega
def KsR (w : World) (base : Nat) (v : Value) (ks : List (List UInt8)) : Prop := w.ownsRow base 9 1 v ks.length (ks.map kV)
theorem KsR.new (w : World) (a b : List UInt8) : KsR (w.alloc (.cells #[kV a, kV b] 9)) w.heap.size (.slice (some ⟨w.heap.size, 0, none⟩) 2 2) [a, b] :=
  ⟨by simp, .inr ⟨w.heap.size, 2, #[kV a, kV b], rfl, Nat.le_refl _, heap_alloc_new w _, Nat.le_refl _, by unfold maxLen; omega, by simp, by simp⟩⟩
theorem kV_one (ks : List (List UInt8)) : ∀ x ∈ ks.map kV, x.oneCell' = true := by
  intro x hx
  simp only [List.mem_map] at hx
  obtain ⟨a, _, rfl⟩ := hx
  rfl
end Go.Proofs.YtagehnclkneolaaGreatDoor
