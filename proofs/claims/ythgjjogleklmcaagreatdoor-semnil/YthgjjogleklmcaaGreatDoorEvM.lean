/- The reckoner: part EvM. -/
import Derived.Test.YthgjjogleklmcaaGreatDoorEvD7
namespace Go.Proofs.YthgjjogleklmcaaGreatDoor.Ev
open Go.RowKit
set_option linter.unusedVariables false

/-! ### calls that were reckoned before -/
section
variable {P : Program} {w0 : Base} {E E' : Env} {H : St} {w w' : World}
/-- what is there now, some blocks of it besides are to stand -/
def Base.at (w0 : Base) (w : World) (G : Nat → Prop) (h0 : w0.w.heap.size ≤ w.heap.size) (hG : ∀ k, G k → k < w.heap.size) : Base :=
  ⟨w, fun k => w0.F k ∨ G k, fun k h => h.elim (fun q => Nat.lt_of_lt_of_le (w0.lt k q) h0) (hG k), fun k => w0.G k ∨ G k, fun k h => h.elim (fun q => .inl (w0.gF k q)) .inr⟩
theorem Rep.at {G : Nat → Prop} {h0 : w0.w.heap.size ≤ w.heap.size} {hG : ∀ k, G k → k < w.heap.size} (h : Rep P w0 E H w) (ap : ∀ b k B, H.tr.get b = some k → E.bl b = some B → ¬ G B) : Rep P (w0.at w G h0 hG) E H w :=
  ⟨⟨rfl, rfl, rfl, Nat.le_refl _, fun _ _ => rfl⟩, h.blk, h.inj, fun b k B hk hB => (h.own b k B hk hB).imp id fun q r => r.elim q (ap b k B hk hB), h.fresh, fun b k B hk hB r => r.elim (h.far b k B hk hB) (ap b k B hk hB)⟩
theorem Rep.back {G : Nat → Prop} {h0 : w0.w.heap.size ≤ w.heap.size} {hG : ∀ k, G k → k < w.heap.size} (h : Rep P (w0.at w G h0 hG) E H w') (hs : Stays w0 w) : Rep P w0 E H w' :=
  ⟨⟨h.stays.os.trans hs.os, h.stays.tape.trans hs.tape, h.stays.output.trans hs.output, Nat.le_trans hs.size h.stays.size, fun k hk => (h.stays.block k (.inl hk)).trans (hs.block k hk)⟩, h.blk, h.inj, fun b k B hk hB => (h.own b k B hk hB).imp id fun q r => q (.inl r), h.fresh, fun b k B hk hB r => h.far b k B hk hB (.inl r)⟩
end
theorem boolEq_eq {a b : Bool} (h : boolEq a b = true) : a = b := by cases a <;> cases b <;> first | rfl | cases h
theorem sameT_eq : ∀ (a b : BT Value), sameT a b = true → a = b
  | .leaf k v, .leaf k' v', h => by
    obtain ⟨h1, h2⟩ := bsel_and (by simpa only [sameT] using h)
    obtain rfl := Nat.eq_of_beq_eq_true h1
    cases v <;> cases v' <;> first | rfl | (cases h2; done) | skip
    rw [sameV_eq _ _ h2]
  | .node m l r, .node m' l' r', h => by
    obtain ⟨h1, h⟩ := bsel_and (by simpa only [sameT] using h)
    obtain ⟨h2, h3⟩ := bsel_and h
    rw [Nat.eq_of_beq_eq_true h1, sameT_eq _ _ h2, sameT_eq _ _ h3]
  | .leaf _ _, .node _ _ _, h => by simp [sameT] at h
  | .node _ _ _, .leaf _ _, h => by simp [sameT] at h
theorem sameB_eq {m : MBlk} {b : Blk} (h : sameB m b = true) : b = blkOf m := by
  cases b with
  | cells e n d cs g fz st ro =>
    obtain ⟨h1, h⟩ := bsel_and (by simpa only [sameB] using h)
    obtain ⟨h2, h⟩ := bsel_and h
    obtain ⟨h3, h⟩ := bsel_and h
    obtain ⟨h4, h⟩ := bsel_and h
    obtain ⟨h5, h⟩ := bsel_and h
    obtain ⟨h6, h⟩ := bsel_and h
    obtain ⟨h7, h8⟩ := bsel_and h
    unfold blkOf
    rw [sameT_eq _ _ h8, Nat.eq_of_beq_eq_true h1, Nat.eq_of_beq_eq_true h2, Nat.eq_of_beq_eq_true h3, boolEq_eq h4, Nat.eq_of_beq_eq_true h5, boolEq_eq h6, boolEq_eq h7]
  | _ => simp [sameB] at h
theorem put_all : ∀ {l : List (Nat × MBlk)} {t : BT Blk} {b : Nat} {k : Blk}, (putAll l t).get b = some k → (∃ m, (b, m) ∈ l ∧ k = blkOf m) ∨ t.get b = some k
  | [], t, b, k, h => .inr h
  | p :: r, t, b, k, h => by
    rcases put_all (l := r) h with ⟨m, h1, h2⟩ | h1
    · exact .inl ⟨m, List.mem_cons_of_mem _ h1, h2⟩
    · rcases BT.get_put _ _ _ _ _ h1 with ⟨rfl, h2⟩ | ⟨_, h2⟩
      · exact .inl ⟨p.2, by simp, (Option.some.inj h2).symm⟩
      · exact .inr h2
theorem drop_all : ∀ {l : List (Nat × MBlk)} {t : BT Blk} {b : Nat} {k : Blk}, (dropAll l t).get b = some k → t.get b = some k ∧ ∀ m, (b, m) ∉ l
  | [], t, b, k, h => ⟨h, fun m hm => by cases hm⟩
  | p :: r, t, b, k, h => by
    obtain ⟨h1, h2⟩ := drop_all (l := r) h
    rcases BT.get_put _ _ _ _ _ h1 with ⟨_, h3⟩ | ⟨h3, h4⟩
    · cases h3
    · refine ⟨h4, fun m hm => ?_⟩
      rcases List.mem_cons.1 hm with e | e
      · exact h3 (by rw [← e])
      · exact h2 m e
theorem all_in : ∀ {l : List (Nat × MBlk)} {t : BT Blk}, allIn l t = true → ∀ b m, (b, m) ∈ l → t.get b = some (blkOf m)
  | [], _, _, b, m, h => by cases h
  | p :: r, t, h, b, m, hm => by
    obtain ⟨h1, h2⟩ := bsel_and h
    rcases List.mem_cons.1 hm with rfl | hm
    · have h1 : osel (t.get b) false (sameB m) = true := h1
      cases hg : t.get b with
      | none => rw [hg] at h1; cases h1
      | some k =>
        rw [hg, osel_s] at h1
        rw [sameB_eq h1]
    · exact all_in h2 b m hm

/-- what was reckoned of a call -/
structure MemoOk (P : Tb) (N : Nat) (m : Memo) : Prop where
  ex : ∃ Hin Hout : St, Hin.next = N ∧ (∀ b k, Hin.tr.get b = some k → ∃ q, (b, q) ∈ m.tin ∧ k = blkOf q) ∧ JobOk P (.call m.f m.args Hin) (.val m.v Hout) ∧ Hout.next ≤ m.next ∧ ∀ b q, (b, q) ∈ m.tout → Hout.tr.get b = some (blkOf q)
def MemosOk (P : Tb) : Prop := ∀ N m, P.memo.get N = some m → MemoOk P N m
section
variable {P : Tb} {H : St}
theorem memo_ok {m : Memo} {f : FuncId} {args : List Value} (hm : MemoOk P H.next m) (hf : memoFits H f args m = true) : JobOk P (.call f args H) (memoDo H m) := by
  obtain ⟨Hin, Hout, hN, hin, hj, hnx, hout⟩ := hm.ex
  obtain ⟨h1, hf⟩ := bsel_and hf
  obtain ⟨h2, h3⟩ := bsel_and hf
  obtain rfl := Nat.eq_of_beq_eq_true h1
  obtain rfl := sameL_eq _ _ h2
  have hall := all_in h3
  intro w0 E w cargs hR ha hg
  obtain ⟨G, hGd⟩ : ∃ G : Nat → Prop, ∀ B, G B ↔ ∃ b k, H.tr.get b = some k ∧ (∀ q, (b, q) ∉ m.tin) ∧ E.bl b = some B := ⟨_, fun B => Iff.rfl⟩
  have hG : ∀ B, G B → B < w.heap.size := fun B h => by
    obtain ⟨b, k, q1, q2, q3⟩ := (hGd B).1 h
    obtain ⟨B', o, g1, g2, _⟩ := hR.blk b k q1
    rw [q3] at g1; cases g1
    exact (Array.getElem?_eq_some_iff.1 g2).1
  have hi : ∀ {b k}, Hin.tr.get b = some k → H.tr.get b = some k ∧ ∃ q, (b, q) ∈ m.tin := fun {b k} h => by
    obtain ⟨q, q1, rfl⟩ := hin b k h
    exact ⟨hall b q q1, q, q1⟩
  have hnG : ∀ {b k B}, Hin.tr.get b = some k → E.bl b = some B → ¬ G B := fun {b k B} h hB hq => by
    obtain ⟨b', k', q1, q2, q3⟩ := (hGd B).1 hq
    obtain ⟨g1, q, g2⟩ := hi h
    have := hR.inj b b' k k' B g1 q1 hB q3
    subst this
    exact q2 q g2
  have hRin : Rep P.P (w0.at w G hR.stays.size hG) E Hin w :=
    ⟨⟨rfl, rfl, rfl, Nat.le_refl _, fun _ _ => rfl⟩, fun b k h => hR.blk b k (hi h).1, fun b b' k k' B h h' => hR.inj b b' k k' B (hi h).1 (hi h').1,
      fun b k B h hB => (hR.own b k B (hi h).1 hB).imp id fun q r => r.elim q (hnG h hB), fun b hb => hR.fresh b (by rw [← hN]; exact hb), fun b k B h hB r => r.elim (hR.far b k B (hi h).1 hB) (hnG h hB)⟩
  refine (hj _ E w cargs hRin ha hg).mono fun e w' hq => ?_
  obtain ⟨E', c, hE, hR', hv, rfl⟩ := hq
  have old : ∀ {b k}, (putAll m.tout (dropAll m.tin H.tr)).get b = some k → Hout.tr.get b = some k ∨ (H.tr.get b = some k ∧ ∀ q, (b, q) ∉ m.tin) := fun {b k} h => by
    rcases put_all h with ⟨q, q1, rfl⟩ | h
    · exact .inl (hout b q q1)
    · exact .inr (drop_all h)
  have hb : ∀ {b k B}, H.tr.get b = some k → E'.bl b = some B → E.bl b = some B := fun {b k B} h hB => by
    obtain ⟨B0, o, g1, _⟩ := hR.blk b k h
    rw [hE.bl _ _ g1] at hB
    rw [g1, hB]
  have hGo : ∀ {b k B}, H.tr.get b = some k → (∀ q, (b, q) ∉ m.tin) → E'.bl b = some B → G B := fun {b k B} h hn hB => (hGd B).2 ⟨b, k, h, hn, hb h hB⟩
  refine ⟨E', c, hE, ⟨(hR'.back hR.stays).stays, ?_, ?_, ?_, fun b hb => hR'.fresh b (Nat.le_trans hnx hb), ?_⟩, hv, rfl⟩
  · intro b k h
    rcases old h with h | ⟨h, hn⟩
    · exact hR'.blk b k h
    · obtain ⟨B, o, g1, g2, g3⟩ := hR.blk b k h
      refine ⟨B, o, hE.bl _ _ g1, ?_, g3.mono hE g1⟩
      rw [hR'.stays.block B (.inr ((hGd B).2 ⟨b, k, h, hn, g1⟩))]
      exact g2
  · intro b b' k k' B h h' hB hB'
    rcases old h with h | ⟨h, hn⟩ <;> rcases old h' with h' | ⟨h', hn'⟩
    · exact hR'.inj b b' k k' B h h' hB hB'
    · exact absurd (.inr (hGo h' hn' hB')) (hR'.far b k B h hB)
    · exact absurd (.inr (hGo h hn hB)) (hR'.far b' k' B h' hB')
    · exact hR.inj b b' k k' B h h' (hb h hB) (hb h' hB')
  · intro b k B h hB
    rcases old h with h | ⟨h, hn⟩
    · exact (hR'.own b k B h hB).imp id fun q r => q (.inl r)
    · exact hR.own b k B h (hb h hB)
  · intro b k B h hB r
    rcases old h with h | ⟨h, hn⟩
    · exact hR'.far b k B h hB (.inl r)
    · exact hR.far b k B h (hb h hB) r
theorem stepF_ok (K : TbOk P) (hM : MemosOk P) {ih : Job → Got} (hi : ∀ j, JobOk P j (ih j)) (hD : ∀ f args H p H' p', ih (.callD f args H p) = .valD H' p' → CallDOk P f args H p H' p') {f : FuncId} {args : List Value} :
    JobOk P (.call f args H) (stepF P ih f args H) := by
  unfold stepF
  cases hm : P.memo.get H.next with
  | none => rw [osel_n]; exact stepF0_ok K hi hD
  | some m =>
    rw [osel_s]
    cases hf : memoFits H f args m with
    | false => rw [bsel_f]; exact stepF0_ok K hi hD
    | true => rw [bsel_t]; exact memo_ok (hM _ m hm) hf
end
end Go.Proofs.YthgjjogleklmcaaGreatDoor.Ev
