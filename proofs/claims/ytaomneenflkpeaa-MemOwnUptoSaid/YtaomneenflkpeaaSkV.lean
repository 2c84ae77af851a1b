/-
  The program's table as the bundle of contracts that the laws' walks want: 'MemW Sk'.
-/
import Derived.Test.YtaomneenflkpeaaSkO
import Derived.Test.YtaomneenflkpeaaSkU
namespace Go.Proofs.Ytaomneenflkpeaa
open Go.RowKit Go.Shelf

theorem mem_entries (w : World) (g : Nat) (lb : Array Value) : Calls Try.prog 48 #[.func (.func g) #[] lb] w fun r w' => r = .returned (.func (.func 61) #[] #[.pointer (some ⟨w.heap.size, 0, none⟩)]) ∧ w' = w.alloc (.cells #[.func (.func g) #[] lb] 98) := by
  go_enter Try.func48, Try.ntmps48
  go_wp2_with fail
  go_ret
  exact ⟨rfl, rfl⟩

def probe (key : List UInt8) : Ent := ⟨key, 18446744073709551615, false, []⟩
theorem plc_probe (key : List UInt8) (L : List Ent) (hfit : ∀ e ∈ L, FitE e) : plcE (probe key) L = fromE key L := by
  have h : ∀ f, FitE f → lessE f (probe key) = Op.bytesLess f.key key := fun f hf => by
    have := hf.seq
    simp [lessE, probe, show ¬ (18446744073709551615 < f.seq) by omega]
  unfold plcE fromE
  congr 1
  induction L with
  | nil => rfl
  | cons a r ih =>
    have h1 := h a (hfit a (by simp))
    have h2 := ih fun e he => hfit e (by simp [he])
    simp only [List.takeWhile_cons, h1, h2]

section
variable {w Y : World} {S B0 : Nat → Prop} {mb : Nat} {T : PTb} {sz : Nat} {dv hv : Value} {hh : Nat} {ns : List Nd} {bk : Option Nat}
theorem SkAt.rs (h : SkAt w S mb T sz dv hv hh ns bk) (hb : Below w.heap.size w Y) (hB : ∀ k, B0 k → w.heap.size ≤ k) (P : Nat) : RsAt Y B0 (ns.drop P) := by
  refine ⟨fun i nd hi => ?_, fun i nd hi => ?_⟩
  · rw [List.getElem?_drop] at hi
    have h1 := (h.lk.nb _ nd hi).2
    have hl := block_lt h1
    exact ⟨(hb.block _ hl).trans h1, fun hk => by have := hB _ hk; omega⟩
  · rw [List.getElem?_drop] at hi
    have h1 := (h.lk.tb _ nd hi).2
    have hl := block_lt h1
    have hh1 := h.h1 nd (List.mem_of_getElem? hi)
    refine ⟨fun hk => by have := hB _ hk; omega, hh1.1, hh1.2, _, (hb.block _ hl).trans h1, ?_⟩
    have h2 := tows_at (f := nxt (ns.drop (P + i + 1))) (n := nd.h) (l := 0) (by omega)
    rw [nxt_zero (fun nd hnd => (h.h1 nd hnd).1)] at h2
    rw [List.getElem?_toArray, h2, List.getElem?_drop, show P + (i + 1) = P + i + 1 by omega]
    rfl
theorem SkAt.told (h : SkAt w S mb T sz dv hv hh ns bk) (P : Nat) : told ns.length (ns.drop P) = T.L.drop P := by
  unfold Proofs.Ytaomneenflkpeaa.told
  rw [List.filter_eq_self.2 (fun nd hnd => by
    have := h.numl nd (List.mem_of_mem_drop hnd)
    simpa using this), ← h.ents, List.map_drop]
end

set_option maxRecDepth 100000 in
set_option maxHeartbeats 2000000 in
theorem tb_from (w0 w : World) (S B0 G : Nat → Prop) (mb : Nat) (T : PTb) (h0 : Sk w0 S mb T) (hb0 : Below w0.heap.size w0 w) (hB : ∀ k, B0 k → w0.heap.size ≤ k ∧ k < w.heap.size) (hG : ∀ k, w.heap.size ≤ k → G k) (key : List UInt8) :
    Calls Try.prog 33 #[.pointer (some ⟨mb, 0, none⟩), .string ⟨key.toArray⟩] w fun r Y => ∃ gf lb, r = .returned (.func (.func gf) #[] lb) ∧ (∀ args W, (callFunc gf args).run Try.prog W = .ok (.enter gf args) W) ∧
      Below w.heap.size w Y ∧ SeqE gf lb (T.L.drop (fromE key T.L)) G B0 Y := by
  obtain ⟨dv, hv, hh, ns, bk, h, hi, _⟩ := h0
  have HF := Lib.hid (sk_from w S mb T (sizeE T.L) dv hv hh ns bk (h.after hb0) (probe key))
  have hfit := fun e he => (h.wf.fit e he)
  rw [plc_probe key T.L hfit] at HF
  obtain ⟨P, hP⟩ : ∃ P, fromE key T.L = P := ⟨_, rfl⟩
  rw [hP] at HF ⊢
  have hm8 : True := trivial
  have HS := Lib.hid h
  have HB0 := Lib.hid hb0
  have HB := Lib.hid hB
  have HG := Lib.hid hG
  unfold verV probe at HF
  clear h hi hfit hm8 hP hB hG hb0
  go_enter Try.func33, Try.ntmps33
  go_wp2_with fail
  refine HF.out.mono ?_
  rintro r Y ⟨sb, fb, cb, rfl, hbY, l1, l2, l3, h1, h2, h3⟩
  have HY := Lib.hid (And.intro hbY (And.intro h1 (And.intro h2 h3)))
  have HL := Lib.hid (And.intro l1 (And.intro l2 l3))
  clear hbY l1 l2 l3 h1 h2 h3
  go_wp2_with fail
  refine (mem_entries _ _ _).mono ?_
  rintro r Y2 ⟨rfl, hY2⟩
  replace hY2 := hY2.symm
  have hb2 : Below Y.heap.size Y Y2 := by rw [← hY2]; exact (Below.refl _ _).alloc (Nat.le_refl _) _
  have hib : Y2.heap[Y.heap.size]? = some (.cells #[.func (.func 62) #[] #[.pointer (some ⟨sb, 0, none⟩), .pointer (some ⟨fb, 0, none⟩), .pointer (some ⟨cb, 0, none⟩)]] 98 (0, 0)) := by rw [← hY2]; exact heap_alloc_new Y _
  have hbw : Below w.heap.size w Y2 := HY.out.1.trans (hb2.mono HY.out.1.size)
  have hs1 := HY.out.1.size
  have hs2 := hb2.size
  have hb02 : Below w0.heap.size w0 Y2 := HB0.out.trans (hbw.mono HB0.out.size)
  have hrs : RsAt Y2 B0 (ns.drop P) := HS.out.rs hb02 (fun k hk => (HB.out k hk).1) P
  have hsq : SqC Y2 B0 sb fb cb bk ns.length (ns.drop P) := by
    obtain ⟨_, h1, h2, h3⟩ := HY.out
    obtain ⟨l1, l2, l3⟩ := HL.out
    refine ⟨(hb2.block _ (block_lt h1)).trans h1, ?_, (hb2.block _ (block_lt h3)).trans h3, ⟨fun hk => by have := HB.out _ hk; omega, fun hk => by have := HB.out _ hk; omega, fun hk => by have := HB.out _ hk; omega⟩, fun k hk => by have := HB.out _ hk; omega, fun b hk => ?_, fun hne hn => hne (by rw [HS.out.bnil hn]; simp)⟩
    · rw [(hb2.block _ (block_lt h2)).trans h2, List.getElem?_drop]
      rfl
    · have hc := (HS.out.blank b hk).2
      have hl := block_lt hc
      exact ⟨(hb02.block _ hl).trans hc, fun hk => by have := HB.out _ hk; omega⟩
  have hin := from1_still Y2 B0 Y2.heap.size sb fb cb ns.length bk (ns.drop P) hsq hrs (fun nd hnd => HS.out.wf.fit nd.ent (by rw [← HS.out.ents]; exact List.mem_map_of_mem (List.mem_of_mem_drop hnd)))
  rw [HS.out.told P] at hin
  have hse := entries1_seq Y2 B0 G Y.heap.size _ _ (T.L.drop P) hib (fun k hk => by have := HB.out k hk; omega) (fun k hk => HG.out k (by omega)) hin (enters_of Try.func62 (by kernel_rfl) rfl)
  have HE := Lib.hid (And.intro hbw hse)
  clear hb2 hib hbw hs1 hs2 hb02 hrs hsq hin hse hY2
  go_wp2_with fail
  go_ret
  exact ⟨_, _, rfl, enters_of Try.func61 (by kernel_rfl) rfl, HE.out.1, HE.out.2⟩

set_option maxRecDepth 100000 in
set_option maxHeartbeats 2000000 in
theorem tb_all (w0 w : World) (S B0 G : Nat → Prop) (mb : Nat) (T : PTb) (h0 : Sk w0 S mb T) (hb0 : Below w0.heap.size w0 w) (hB : ∀ k, B0 k → w0.heap.size ≤ k ∧ k < w.heap.size) (hG : ∀ k, w.heap.size ≤ k → G k) :
    Calls Try.prog 14 #[.pointer (some ⟨mb, 0, none⟩)] w fun r Y => ∃ gf lb, r = .returned (.func (.func gf) #[] lb) ∧ (∀ args W, (callFunc gf args).run Try.prog W = .ok (.enter gf args) W) ∧
      Below w.heap.size w Y ∧ SeqE gf lb T.L G B0 Y := by
  have HF := Lib.hid (tb_from w0 w S B0 G mb T h0 hb0 hB hG [])
  have hz : fromE [] T.L = 0 := by
    unfold fromE
    cases T.L with
    | nil => rfl
    | cons a r =>
      have h1 : Op.bytesLess a.key [] = false := by cases a.key <;> rfl
      simp [h1]
  rw [hz, List.drop_zero] at HF
  clear h0 hb0 hB hG hz
  go_enter Try.func14, Try.ntmps14
  go_wp2_with fail
  refine HF.out.mono ?_
  rintro r Y ⟨gf, lb, rfl, h1, h2⟩
  have HE := Lib.hid (And.intro h1 h2)
  clear h1 h2
  go_wp2_with fail
  go_ret
  exact ⟨gf, lb, rfl, HE.out⟩

theorem Sk.wf' {w : World} {S : Nat → Prop} {mb : Nat} {T : PTb} (h : Sk w S mb T) : WfT T := by
  obtain ⟨_, _, _, _, _, h, _, _⟩ := h
  exact h.wf
end Go.Proofs.Ytaomneenflkpeaa
