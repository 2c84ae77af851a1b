/-
  step: any act on both disks.
-/
import Derived.Test.YtlekffhacmdnnaaStpB
import Derived.Test.YtlekffhacmdnnaaStpC
namespace Go.Proofs.Ytlekffhacmdnnaa
open Go.RowKit

theorem step_any (w : World) (S : Nat → Prop) (db rb : Nat) (D E : Dsk) (hp : Pair S w db rb D E) (nv bv pv : Value) (x : PAct) (hA : ActC w S nv bv pv x) (hx : FitA x) (hD : D.files.length ≤ 1099511627774) (hE : E.files.length ≤ 1099511627774) (hbD : D.born ≤ 1099511627776) (hbE : E.born ≤ 1099511627776) :
    Calls Try.prog 12 #[.pointer (some ⟨db, 0, none⟩), .pointer (some ⟨rb, 0, none⟩), actV x nv bv pv] w fun e w' => e = .returned (.bool (ans D x == ans E x)) ∧ Pair (More S w.heap.size) w' db rb (act D x) (act E x) ∧ Fr S w w' := by
  by_cases h1 : x.op = 1
  · have q := fun F : Dsk => show ans F x = ansApp F x.name x.bytes by simp [ans, h1]
    have r := fun F : Dsk => show act F x = actApp F x.name x.bytes by simp [act, h1]
    rw [q D, q E, r D, r E]
    refine (step_1 w S db rb D E hp nv bv pv x hA hx h1 hD hE).mono ?_
    rintro e w' ⟨rfl, h⟩
    exact ⟨ret_eq rfl, h⟩
  by_cases h2 : x.op = 2
  · have q := fun F : Dsk => show ans F x = ansNames F x.names by simp [ans, h2]
    have r := fun F : Dsk => show act F x = actSync F x.names by simp [act, h2]
    rw [q D, q E, r D, r E]
    refine (step_2 w S db rb D E hp nv bv pv x hA hx h2 hD hE).mono ?_
    rintro e w' ⟨rfl, h⟩
    exact ⟨ret_eq rfl, h⟩
  by_cases h3 : x.op = 3
  · have q := fun F : Dsk => show ans F x = ansRen F x.name x.dest by simp [ans, h3]
    have r := fun F : Dsk => show act F x = actRen F x.name x.dest by simp [act, h3]
    rw [q D, q E, r D, r E]
    refine (step_3 w S db rb D E hp nv bv pv x hA hx h3 hD hE).mono ?_
    rintro e w' ⟨rfl, h⟩
    exact ⟨ret_eq rfl, h⟩
  by_cases h4 : x.op = 4
  · have q := fun F : Dsk => show ans F x = ansNames F x.names by simp [ans, h4]
    have r := fun F : Dsk => show act F x = actDel F x.names by simp [act, h4]
    rw [q D, q E, r D, r E]
    refine (step_4 w S db rb D E hp nv bv pv x hA hx h4 hD hE).mono ?_
    rintro e w' ⟨rfl, h⟩
    exact ⟨ret_eq rfl, h⟩
  have q := fun F : Dsk => show ans F x = 0 by simp [ans, h1, h2, h3, h4]
  rw [q D, q E]
  by_cases h5 : x.op = 5
  · have r := fun F : Dsk => show act F x = crash F x.picks by simp [act, h5]
    rw [r D, r E]
    exact step_5 w S db rb D E hp nv bv pv x hA hx h5 hD hE
  by_cases h6 : x.op = 6
  · have r := fun F : Dsk => show act F x = ⟨F.size, [], F.born + 1⟩ by simp [act, h6]
    rw [r D, r E]
    exact step_6 w S db rb D E hp nv bv pv x hA hx h6 hD hE hbD hbE
  have r := fun F : Dsk => show act F x = F by simp [act, h1, h2, h3, h4, h5, h6]
  rw [r D, r E]
  exact step_0 w S db rb D E hp nv bv pv x hA hx (by simp [h1]) (by simp [h2]) (by simp [h3]) (by simp [h4]) (by simp [h5]) (by simp [h6]) hD hE

/-- A play. -/
def plays (D : Dsk) (l : List PAct) : Dsk := l.foldl act D
theorem plays_snoc (D : Dsk) (l : List PAct) (k : Nat) (x : PAct) (h : l[k]? = some x) : plays D (l.take (k + 1)) = act (plays D (l.take k)) x := by
  unfold plays
  rw [take_snoc l k x h, List.foldl_append]
  rfl
/-- Two disks, one made behind the other. -/
theorem pair_of {S Sd : Nat → Prop} {w2 w3 : World} {db rb : Nat} {D E : Dsk} (hd : Dk w2 Sd db D) (hr : Rf w3 (fun k => w2.heap.size ≤ k) rb E) (hb : Below w2.heap.size w2 w3) (h1 : ∀ k, Sd k → S k) (h2 : ∀ k, w2.heap.size ≤ k → S k) : Pair S w3 db rb D E :=
  ⟨fun k => Sd k ∧ k < w2.heap.size, _, (hd.mono (S' := fun k => Sd k ∧ k < w2.heap.size) fun k hk hs => ⟨hs, hk⟩).after hb, hr, fun k hk => ⟨h1 k hk.1, fun hle => by have := hk.2; omega⟩, h2⟩
end Go.Proofs.Ytlekffhacmdnnaa
