/-
  For the laws on pruning, plainly: pruned again it stays; nothing of what may be seen is another one.
-/
import Derived.Test.YteclnnjijfbfoaaMgC
namespace Go.Proofs.Yteclnnjijfbfoaa

theorem right_sub {l m : List Ent} (h : rightE l = true) (hs : m.Sublist l) : rightE m = true := by
  obtain ⟨h1, h2⟩ := rightE_iff.1 h
  exact rightE_iff.2 ⟨fun e he => h1 e (hs.subset he), List.Pairwise.sublist hs h2⟩
theorem prn_sub (l : List Ent) (keep : Nat) (bot : Bool) : (prnE l keep bot).Sublist l := List.filter_sublist
theorem prn_prn {l : List Ent} (hs : SrtE l) (keep : Nat) (bot : Bool) : prnE (prnE l keep bot) keep bot = prnE l keep bot := by
  have hp : SrtE (prnE l keep bot) := List.Pairwise.sublist (prn_sub l keep bot) hs
  refine srt_ext (List.Pairwise.sublist (prn_sub _ keep bot) hp) hp fun x => ?_
  rw [mem_prnE hp]
  constructor
  · exact fun h => h.1
  · intro h
    refine ⟨h, ?_⟩
    rcases ((mem_prnE hs keep bot x).1 h).2 with h1 | ⟨h1, h2, h3⟩
    · exact .inl h1
    · exact .inr ⟨h1, fun y hy => h2 y ((prn_sub l keep bot).subset hy), h3⟩
theorem seen_prn {l : List Ent} (hs : SrtE l) {keep up : Nat} (hu : keep ≤ up) (bot : Bool) : seenE (prnE l keep bot) up = seenE l up := by
  have hp : SrtE (prnE l keep bot) := List.Pairwise.sublist (prn_sub l keep bot) hs
  refine srt_ext (srt_filter hp _) (srt_filter hs _) fun x => ?_
  rw [mem_seenE hp, mem_seenE hs]
  constructor
  · rintro ⟨h1, h2, h3, h4⟩
    obtain ⟨hx, hw⟩ := (mem_prnE hs keep bot x).1 h1
    refine ⟨hx, h2, h3, fun y hy hk hyu => ?_⟩
    rcases Nat.lt_or_ge keep y.seq with h5 | h5
    · exact h4 y ((mem_prnE hs keep bot y).2 ⟨hy, .inl h5⟩) hk hyu
    · rcases hw with h6 | ⟨_, h7, _⟩
      · omega
      · exact h7 y hy hk h5
  · rintro ⟨h1, h2, h3, h4⟩
    refine ⟨(mem_prnE hs keep bot x).2 ⟨h1, ?_⟩, h2, h3, fun y hy => h4 y ((prn_sub l keep bot).subset hy)⟩
    rcases Nat.lt_or_ge keep x.seq with h5 | h5
    · exact .inl h5
    · exact .inr ⟨h5, fun y hy hk hyk => h4 y hy hk (by omega), by simp [h2]⟩
end Go.Proofs.Yteclnnjijfbfoaa
