/-
  The walk over past.item, where one change has been made since.
-/
import Derived.Test.YtaomneenflkpeaaSkS
import Derived.Test.YtaomneenflkpeaaSkK
namespace Go.Proofs.Ytaomneenflkpeaa
open Go.RowKit Go.MapKept

/-- A change that was filled. -/
def ChF (w : World) (b num : Nat) (e : Ent) (nb : Nat) : Prop := w.heap[b]? = some (.cells (chC num e (some nb)) 113 (0, 0))
/-- A sequence's past in its box. -/
def PaB (w : World) (pb mm : Nat) (q : Option Nat) : Prop := w.heap[pb]? = some (.cells #[.map (some mm), pv q] 117 (0, 0))

set_option maxRecDepth 100000 in
set_option maxHeartbeats 4000000 in
theorem item_first (w : World) (pb mm b nb num : Nat) (e0 : Ent) (nd : Nd) (hp : PaB w pb mm (some b)) (hc : ChF w b num e0 nb) (hb : ChB w nb) (hm : MapM w mm none) (hn : NdB w nd) :
    Calls Try.prog 63 #[.pointer (some ⟨pb, 0, none⟩), .pointer (some ⟨nd.blk, 0, none⟩)] w fun r w' => r = .returned (verV ((lookM (some (num, e0)) nd.num).getD nd.ent)) ∧ MapM w' mm (some (num, e0)) ∧ PaB w' pb mm (some nb) ∧ Fr (fun k => k = mm ∨ k = pb) w w' := by
  obtain ⟨z, hz⟩ : ∃ z, (lookM (some (num, e0)) nd.num).getD nd.ent = z := ⟨_, rfl⟩
  rw [hz]
  have HZ0 := Lib.hid hz
  clear hz
  obtain ⟨X, hX⟩ : ∃ X, w.alloc (.cells #[.string ⟨#[]⟩, .int .u64 0, .bool false, .string ⟨#[]⟩] 59) = X := ⟨_, rfl⟩
  have hbX : Below w.heap.size w X := by rw [← hX]; exact (Below.refl _ _).alloc (Nat.le_refl _) _
  have hXb : X.heap[w.heap.size]? = some (.cells #[.string ⟨#[]⟩, .int .u64 0, .bool false, .string ⟨#[]⟩] 59 (0, 0)) := by rw [← hX]; exact heap_alloc_new w _
  have kp : ∀ {k : Nat} {o : Obj}, w.heap[k]? = some o → X.heap[k]? = some o := fun h => (hbX.block _ (Array.getElem?_eq_some_iff.1 h).1).trans h
  have HPa : Hid (PaB X pb mm (some b)) := Lib.hid (kp hp)
  have HCf : Hid (ChF X b num e0 nb) := Lib.hid (kp hc)
  have HCb : Hid (ChB X nb) := Lib.hid (kp hb)
  have HMm : Hid (MapM X mm none) := Lib.hid (kp hm)
  have HNd : Hid (NdB X nd) := Lib.hid (kp hn)
  have HB := Lib.hid hbX
  have HXb := Lib.hid hXb
  have HLt : Hid (mm < w.heap.size ∧ pb < w.heap.size) := Lib.hid ⟨(Array.getElem?_eq_some_iff.1 hm).1, block_lt hp⟩
  have hne : mm ≠ pb := fun e => by
    subst e
    have h1 := hm
    unfold MapM at h1
    unfold PaB at hp
    rw [hp] at h1
    cases h1
  have HNe := Lib.hid hne
  clear hp hc hb hm hn hbX hXb kp hne
  go_enter Try.func63, Try.ntmps63
  go_wp2_with fail
  go_loopg [] 1 (fun g wr => (g = 1 ∧ X = wr) ∨ (g = 0 ∧ MapM wr mm (some (num, e0)) ∧ PaB wr pb mm (some nb) ∧ Fr (fun k => k = mm ∨ k = pb) X wr))
  case atStart => exact .inl ⟨rfl, rfl⟩
  case round =>
    rcases hrel with ⟨rfl, hwr⟩ | ⟨rfl, hm, hp, hf⟩
    · subst hwr
      have x0 : X.cell? ⟨pb, 0, none⟩ = some (.map (some mm)) := cell_of HPa.out rfl
      have x1 : X.cell? ⟨pb, 1, none⟩ = some (.pointer (some ⟨b, 0, none⟩)) := cell_of HPa.out rfl
      have b0 : X.cell? ⟨b, 0, none⟩ = some (.int .i64 (num : Int)) := cell_of HCf.out rfl
      have b5 : X.cell? ⟨b, 5, none⟩ = some (.pointer (some ⟨nb, 0, none⟩)) := cell_of HCf.out rfl
      have b1 : X.cell? ⟨b, 1, none⟩ = some (.string ⟨e0.key.toArray⟩) := cell_of HCf.out rfl
      have b2 : X.cell? ⟨b, 2, none⟩ = some (.int .u64 (e0.seq : Int)) := cell_of HCf.out rfl
      have b3 : X.cell? ⟨b, 3, none⟩ = some (.bool e0.gone) := cell_of HCf.out rfl
      have b4 : X.cell? ⟨b, 4, none⟩ = some (.string ⟨e0.val.toArray⟩) := cell_of HCf.out rfl
      have hlk : ∀ W : World, W.heap[mm]? = some (.map #[] 0) → (Instr.lookup 115 (.map (some mm)) (.int .i64 (num : Int)) true).run Try.prog W = .ok (.tuple #[.agg #[.string ⟨#[]⟩, .int .u64 0, .bool false, .string ⟨#[]⟩], .bool false]) W := fun W hW => MapM.look (w := W) (mm := mm) (m := none) hW num
      have hmX' : X.heap[mm]? = some (.map #[] 0) := HMm.out
      go_wp2_with fail
      have hpl := cell_lt x0
      have hbl := cell_lt b0
      have hml := (Array.getElem?_eq_some_iff.1 hmX').1
      have a0 : ∀ o, (X.alloc o).cell? ⟨pb, 0, none⟩ = some (.map (some mm)) := fun o => (World.cell?_of_block (alloc_old hpl o)).trans x0
      have a1 : ∀ o, (X.alloc o).cell? ⟨pb, 1, none⟩ = some (.pointer (some ⟨b, 0, none⟩)) := fun o => (World.cell?_of_block (alloc_old hpl o)).trans x1
      have a4 : ∀ o, (X.alloc o).cell? ⟨b, 0, none⟩ = some (.int .i64 (num : Int)) := fun o => (World.cell?_of_block (alloc_old hbl o)).trans b0
      have am : ∀ o, (X.alloc o).heap[mm]? = some (.map #[] 0) := fun o => (alloc_old hml o).trans hmX'
      clear hpl hbl hml
      go_region_held3 (fun w' => w'.cell? ⟨pb, 0, none⟩ = some (.map (some mm)) ∧ w'.cell? ⟨pb, 1, none⟩ = some (.pointer (some ⟨b, 0, none⟩)) ∧ w'.cell? ⟨b, 0, none⟩ = some (.int .i64 (num : Int)) ∧ w'.heap[mm]? = some (.map #[] 0))
        (first
          | exact ⟨x0, x1, b0, hmX'⟩
          | exact ⟨a0 _, a1 _, a4 _, am _⟩)
        (fail)
      all_goals
        obtain ⟨V, hV⟩ : ∃ V, (X.alloc (.cells #[.string ⟨#[]⟩, .int .u64 0, .bool false, .string ⟨#[]⟩] 59)).drew = V := ⟨_, rfl⟩
        have hbV : Below X.heap.size X V := by rw [← hV]; exact below_drew ((Below.refl _ _).alloc (Nat.le_refl _) _)
        have HBV := Lib.hid hbV
        have hVp := (hbV.block pb (block_lt HPa.out)).trans HPa.out
        have hVc := (hbV.block b (block_lt HCf.out)).trans HCf.out
        have hVm : V.heap[mm]? = some (.map #[] 0) := (hbV.block mm (Array.getElem?_eq_some_iff.1 hmX').1).trans hmX'
        rw [hV]
        clear hV hbV a0 a1 a4 am x0 x1 b0 b1 b2 b3 b4 b5 hmX'
        have x0 : V.cell? ⟨pb, 0, none⟩ = some (.map (some mm)) := cell_of hVp rfl
        have x1 : V.cell? ⟨pb, 1, none⟩ = some (.pointer (some ⟨b, 0, none⟩)) := cell_of hVp rfl
        have b0 : V.cell? ⟨b, 0, none⟩ = some (.int .i64 (num : Int)) := cell_of hVc rfl
        have b1 : V.cell? ⟨b, 1, none⟩ = some (.string ⟨e0.key.toArray⟩) := cell_of hVc rfl
        have b2 : V.cell? ⟨b, 2, none⟩ = some (.int .u64 (e0.seq : Int)) := cell_of hVc rfl
        have b3 : V.cell? ⟨b, 3, none⟩ = some (.bool e0.gone) := cell_of hVc rfl
        have b4 : V.cell? ⟨b, 4, none⟩ = some (.string ⟨e0.val.toArray⟩) := cell_of hVc rfl
        go_wp2_with fail
        go_still_tail 18, (by kernel_rfl)
        change wpList _ _ _ _ _ V.drew
        obtain ⟨V2, hV2⟩ : ∃ V2, V.drew = V2 := ⟨_, rfl⟩
        have hup := map_upd V2 mm (by rw [← hV2]; exact hVm) (num : Int) (.agg #[.string ⟨e0.key.toArray⟩, .int .u64 (e0.seq : Int), .bool e0.gone, .string ⟨e0.val.toArray⟩])
        obtain ⟨V3, hV3⟩ : ∃ V3, V2.putObj mm (.map #[{ key := .int .i64 (num : Int), val := .agg #[.string ⟨e0.key.toArray⟩, .int .u64 (e0.seq : Int), .bool e0.gone, .string ⟨e0.val.toArray⟩], born := 0 }] 1) = V3 := ⟨_, rfl⟩
        rw [hV3] at hup
        rw [hV2]
        have hV2p : V2.heap[pb]? = some (.cells #[.map (some mm), pv (some b)] 117 (0, 0)) := by rw [← hV2]; exact hVp
        have hV3p : V3.heap[pb]? = some (.cells #[.map (some mm), pv (some b)] 117 (0, 0)) := by rw [← hV3]; exact (World.putObj_heap_other HNe.out.symm).trans hV2p
        have hbm : b ≠ mm := fun e => by rw [e, hVm] at hVc; cases hVc
        have hV3c : V3.heap[b]? = some (.cells (chC num e0 (some nb)) 113 (0, 0)) := by rw [← hV3, World.putObj_heap_other hbm, ← hV2]; exact hVc
        have c1 : V3.cell? ⟨pb, 1, none⟩ = some (.pointer (some ⟨b, 0, none⟩)) := cell_of hV3p rfl
        have c5 : V3.cell? ⟨b, 5, none⟩ = some (.pointer (some ⟨nb, 0, none⟩)) := cell_of hV3c rfl
        have z1 := frozen_of (i := 1) hV3p
        have HM3 : Hid (MapM V3 mm (some (num, e0))) := Lib.hid (by
          unfold MapM
          rw [← hV3]
          exact World.putObj_heap_same (by rw [← hV2]; exact (Array.getElem?_eq_some_iff.1 hVm).1))
        have HF3 : Hid (Fr (fun k => k = mm ∨ k = pb) X V3) := Lib.hid (by
          have h1 : Fr (fun k => k = mm ∨ k = pb) X V2 := by rw [← hV2]; exact Fr.of_new (below_drew HBV.out) _
          rw [← hV3]
          exact h1.then ⟨rfl, rfl, rfl, by simp [World.putObj], fun k _ hk => World.putObj_heap_other fun e => hk (show k = mm ∨ k = pb from .inl e)⟩)
        have HP3 := Lib.hid hV3p
        clear hVp hVc hVm hV2 hV3 hV2p hV3p hV3c hbm
        go_wp2_with fail
        go_roundg 0
        case measure => omega
        case rel =>
          refine .inr ⟨rfl, ?_, ?_, ?_⟩
          · exact (setCell_other HNe.out _).trans HM3.out
          · exact setCell_same HP3.out _
          · exact HF3.out.then (Fr.setCell _ _ (p := ⟨pb, 1, none⟩) (.inr rfl) _)
    · have kpn : ∀ {k : Nat} {o : Obj}, X.heap[k]? = some o → k ≠ mm → k ≠ pb → wr.heap[k]? = some o := fun h h1 h2 => hf.keep h fun h => h.elim h1 h2
      have nmm : ∀ {k : Nat} {c : Array Value} {t : TypeId} {z : Nat × Nat}, X.heap[k]? = some (.cells c t z) → k ≠ mm := fun h e => by
        rw [e] at h
        have h9 := HMm.out
        unfold MapM at h9
        rw [h9] at h
        cases h
      have hnd : NdB wr nd := kpn HNd.out (nmm HNd.out) (kind_ne HNd.out HPa.out (by decide))
      have hnb : ChB wr nb := kpn HCb.out (nmm HCb.out) (kind_ne HCb.out HPa.out (by decide))
      have hxb := kpn HXb.out (nmm HXb.out) (kind_ne HXb.out HPa.out (by decide))
      have x0 : wr.cell? ⟨pb, 0, none⟩ = some (.map (some mm)) := cell_of hp rfl
      have x1 : wr.cell? ⟨pb, 1, none⟩ = some (.pointer (some ⟨nb, 0, none⟩)) := cell_of hp rfl
      have x5 : wr.cell? ⟨nb, 5, none⟩ = some (.pointer none) := cell_of hnb rfl
      have n4 : wr.cell? ⟨nd.blk, 4, none⟩ = some (.int .i64 (nd.num : Int)) := cell_of hnd rfl
      have HM := Lib.hid hm
      have HPn := Lib.hid hp
      have HF := Lib.hid hf
      have HNr := Lib.hid hnd
      have HXr := Lib.hid hxb
      obtain ⟨y, hy⟩ : ∃ y, (lookM (some (num, e0)) nd.num).getD noE = y := ⟨_, rfl⟩
      obtain ⟨is, his⟩ : ∃ is, (lookM (some (num, e0)) nd.num).isSome = is := ⟨_, rfl⟩
      have HZ : Hid ((is = true → z = y) ∧ (is = false → z = nd.ent)) := Lib.hid (by
        rw [← hy, ← his, ← HZ0.out]
        cases lookM (some (num, e0)) nd.num <;> simp)
      have hlk : ∀ W : World, W.heap[mm]? = some (.map (esM (some (num, e0))) (clM (some (num, e0)))) → (Instr.lookup 115 (.map (some mm)) (.int .i64 (nd.num : Int)) true).run Try.prog W = .ok (.tuple #[.agg #[.string ⟨y.key.toArray⟩, .int .u64 (y.seq : Int), .bool y.gone, .string ⟨y.val.toArray⟩], .bool is]) W := fun W hW => by
        have h := MapM.look (w := W) (mm := mm) (m := some (num, e0)) hW nd.num
        rw [hy, his] at h
        exact h
      have hmX' : wr.heap[mm]? = some (.map (esM (some (num, e0))) (clM (some (num, e0)))) := hm
      obtain ⟨es, hes⟩ : ∃ es, esM (some (num, e0)) = es := ⟨_, rfl⟩
      obtain ⟨cl, hcl⟩ : ∃ cl, clM (some (num, e0)) = cl := ⟨_, rfl⟩
      rw [hes, hcl] at hlk hmX'
      have HEs := Lib.hid (And.intro hes hcl)
      clear hm hp hf hnd hnb hxb kpn nmm hy his hes hcl
      go_wp2_with fail
      have hpl := cell_lt x0
      have hnl := cell_lt n4
      have hml := (Array.getElem?_eq_some_iff.1 hmX').1
      have a0 : ∀ o, (wr.alloc o).cell? ⟨pb, 0, none⟩ = some (.map (some mm)) := fun o => (World.cell?_of_block (alloc_old hpl o)).trans x0
      have a4 : ∀ o, (wr.alloc o).cell? ⟨nd.blk, 4, none⟩ = some (.int .i64 (nd.num : Int)) := fun o => (World.cell?_of_block (alloc_old hnl o)).trans n4
      have am : ∀ o, (wr.alloc o).heap[mm]? = some (.map es cl) := fun o => (alloc_old hml o).trans hmX'
      clear hpl hnl hml
      go_region_held3 (fun w' => w'.cell? ⟨pb, 0, none⟩ = some (.map (some mm)) ∧ w'.cell? ⟨nd.blk, 4, none⟩ = some (.int .i64 (nd.num : Int)) ∧ w'.heap[mm]? = some (.map es cl))
        (first
          | exact ⟨x0, n4, hmX'⟩
          | exact ⟨a0 _, a4 _, am _⟩)
        (fail)
      all_goals
        obtain ⟨V, hV⟩ : ∃ V, (wr.alloc (.cells #[.string ⟨y.key.toArray⟩, .int .u64 (y.seq : Int), .bool y.gone, .string ⟨y.val.toArray⟩] 59)).drew = V := ⟨_, rfl⟩
        have hbV : Below wr.heap.size wr V := by rw [← hV]; exact below_drew ((Below.refl _ _).alloc (Nat.le_refl _) _)
        have hVy : V.heap[wr.heap.size]? = some (.cells #[.string ⟨y.key.toArray⟩, .int .u64 (y.seq : Int), .bool y.gone, .string ⟨y.val.toArray⟩] 59 (0, 0)) := by rw [← hV]; exact heap_alloc_new wr _
        have hVr := (hbV.block w.heap.size (block_lt HXr.out)).trans HXr.out
        have hVn := (hbV.block nd.blk (block_lt HNr.out)).trans HNr.out
        have y0 : V.cell? ⟨wr.heap.size, 0, none⟩ = some (.string ⟨y.key.toArray⟩) := cell_of hVy rfl
        have y1 : V.cell? ⟨wr.heap.size, 1, none⟩ = some (.int .u64 (y.seq : Int)) := cell_of hVy rfl
        have y2 : V.cell? ⟨wr.heap.size, 2, none⟩ = some (.bool y.gone) := cell_of hVy rfl
        have y3 : V.cell? ⟨wr.heap.size, 3, none⟩ = some (.string ⟨y.val.toArray⟩) := cell_of hVy rfl
        have r0 := cell_of (i := 0) hVr rfl
        have z0 := frozen_of (i := 0) hVr
        have r1 := cell_of (i := 1) hVr rfl
        have z1 := frozen_of (i := 1) hVr
        have r2 := cell_of (i := 2) hVr rfl
        have z2 := frozen_of (i := 2) hVr
        have r3 := cell_of (i := 3) hVr rfl
        have z3 := frozen_of (i := 3) hVr
        have d0 : V.cell? ⟨nd.blk, 0, none⟩ = some (.string ⟨nd.ent.key.toArray⟩) := cell_of hVn rfl
        have d1 : V.cell? ⟨nd.blk, 1, none⟩ = some (.int .u64 (nd.ent.seq : Int)) := cell_of hVn rfl
        have d2 : V.cell? ⟨nd.blk, 2, none⟩ = some (.bool nd.ent.gone) := cell_of hVn rfl
        have d3 : V.cell? ⟨nd.blk, 3, none⟩ = some (.string ⟨nd.ent.val.toArray⟩) := cell_of hVn rfl
        have HVr := Lib.hid hVr
        have HVm : Hid (V.heap[mm]? = some (.map es cl)) := Lib.hid ((hbV.block mm (Array.getElem?_eq_some_iff.1 hmX').1).trans hmX')
        have HVp : Hid (PaB V pb mm (some nb)) := Lib.hid ((hbV.block pb (block_lt HPn.out)).trans HPn.out)
        have HBV : Hid (Fr (fun k => k = mm ∨ k = pb) X V) := Lib.hid (HF.out.then (Fr.of_new hbV _))
        have HEnd : Hid (∀ V2, (∀ k, k ≠ w.heap.size → V2.heap[k]? = V.heap[k]?) → Fr (fun k => k = w.heap.size) V V2 → MapM V2 mm (some (num, e0)) ∧ PaB V2 pb mm (some nb) ∧ Fr (fun k => k = mm ∨ k = pb) w V2) := Lib.hid (fun V2 h1 h2 => by
          refine ⟨by unfold MapM; rw [HEs.out.1, HEs.out.2]; exact (h1 mm (by have := HLt.out.1; omega)).trans HVm.out, (h1 pb (by have := HLt.out.2; omega)).trans HVp.out, ?_⟩
          have h3 : Fr (fun k => k = mm ∨ k = pb) w V := (Fr.of_new HB.out _).then HBV.out
          exact ⟨h2.os.trans h3.os, h2.tape.trans h3.tape, h2.output.trans h3.output, Nat.le_trans h3.size h2.size, fun k hk hn => (h1 k (by omega)).trans (h3.block k hk hn)⟩)
        rw [hV]
        clear hV hbV hVy hVr hVn
        cases is
        · have hz := HZ.out.2 rfl
          subst hz
          go_wp2_with fail
          have hfr := set4_fr V w.heap.size (.string ⟨nd.ent.key.toArray⟩) (.int .u64 (nd.ent.seq : Int)) (.bool nd.ent.gone) (.string ⟨nd.ent.val.toArray⟩) (fun k => k = w.heap.size) rfl
          refine bodyPost_ret (v := .agg #[.string ⟨nd.ent.key.toArray⟩, .int .u64 (nd.ent.seq : Int), .bool nd.ent.gone, .string ⟨nd.ent.val.toArray⟩]) (results_ver rfl _ _ w.heap.size _ rfl (set4_heap HVr.out _ _ _ _) rfl) rfl ⟨rfl, HEnd.out _ (fun k hk => by simp only [setCell_other hk]) hfr⟩
        · have hz := HZ.out.1 rfl
          subst hz
          go_wp2_with fail
          have hfr := set4_fr V w.heap.size (.string ⟨z.key.toArray⟩) (.int .u64 (z.seq : Int)) (.bool z.gone) (.string ⟨z.val.toArray⟩) (fun k => k = w.heap.size) rfl
          refine bodyPost_ret (v := .agg #[.string ⟨z.key.toArray⟩, .int .u64 (z.seq : Int), .bool z.gone, .string ⟨z.val.toArray⟩]) (results_ver rfl _ _ w.heap.size _ rfl (set4_heap HVr.out _ _ _ _) rfl) rfl ⟨rfl, HEnd.out _ (fun k hk => by simp only [setCell_other hk]) hfr⟩
end Go.Proofs.Ytaomneenflkpeaa
