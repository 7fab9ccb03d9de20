/- The reckoner: part EvW. -/
import Derived.Test.YthgjjogleklmcaaGreatDoorEvS
namespace Go.Proofs.YthgjjogleklmcaaGreatDoor.Ev
open Go.RowKit
set_option linter.unusedVariables false

/-! ### what a block is in the world -/
def setA : Array Value → Nat → List Value → Array Value
  | C, _, [] => C
  | C, o, v :: r => setA (C.setIfInBounds o v) (o + 1) r
theorem setA_size : ∀ (vs : List Value) (C : Array Value) (o : Nat), (setA C o vs).size = C.size
  | [], C, o => rfl
  | v :: r, C, o => by rw [setA, setA_size r]; simp
theorem setA_get : ∀ (vs : List Value) (C : Array Value) (o i : Nat), (setA C o vs)[i]? = if o ≤ i ∧ i < o + vs.length ∧ i < C.size then vs[i - o]? else C[i]?
  | [], C, o, i => by rw [setA, if_neg]; simp; omega
  | v :: r, C, o, i => by
    rw [setA, setA_get r, Array.size_setIfInBounds]
    simp only [List.length_cons]
    by_cases h : i = o
    · subst h
      rw [if_neg (by omega)]
      by_cases h2 : i < C.size
      · rw [if_pos (by omega)]; simp [h2]
      · rw [if_neg (by omega), Array.getElem?_eq_none (by simp; omega), Array.getElem?_eq_none (by omega)]
    · by_cases h2 : o + 1 ≤ i ∧ i < o + 1 + r.length ∧ i < C.size
      · rw [if_pos h2, if_pos (by omega)]
        have : i - o = (i - (o + 1)) + 1 := by omega
        rw [this]; simp
      · rw [if_neg h2, if_neg (by omega), Array.getElem?_setIfInBounds_ne (by omega)]

theorem heap_setCells : ∀ (vs : List Value) (o : Nat) (w : World) {b : Nat} {C : Array Value} {e : TypeId} {f : Nat × Nat}, w.heap[b]? = some (.cells C e f) →
    (w.setCells b o vs).heap[b]? = some (.cells (setA C o vs) e f)
  | [], _, w, b, C, e, f, h => h
  | v :: r, o, w, b, C, e, f, h => by
    rw [World.setCells]
    refine heap_setCells r (o + 1) (w.setCell ⟨b, o, none⟩ v) ?_
    simp [World.setCell, Array.getElem?_modify, h]

/-- only the block B may have turned -/
structure Only (B : Nat) (w w' : World) : Prop where
  os : w'.os = w.os
  tape : w'.tape = w.tape
  output : w'.output = w.output
  size : w'.heap.size = w.heap.size
  block : ∀ k, k ≠ B → w'.heap[k]? = w.heap[k]?
theorem only_setCells : ∀ (vs : List Value) (o : Nat) (w : World) (b : Nat), Only b w (w.setCells b o vs)
  | [], _, w, b => ⟨rfl, rfl, rfl, rfl, fun _ _ => rfl⟩
  | v :: r, o, w, b => by
    have h := only_setCells r (o + 1) (w.setCell ⟨b, o, none⟩ v) b
    refine ⟨h.os, h.tape, h.output, h.size.trans (by simp [World.setCell]), fun k hk => (h.block k hk).trans (Below.heap_setCell _ _ _ _ hk)⟩

def cellsOf (P : Program) (t : TypeId) : Nat := ((P.info? t).map (·.size)).getD 0

def EntR (E : Env) (e c : MapEntry) : Prop := VR E e.key c.key ∧ VR E e.val c.val ∧ c.born = e.born
inductive EntsR (E : Env) : List MapEntry → List MapEntry → Prop where
  | nil : EntsR E [] []
  | cons {e c : MapEntry} {es cs : List MapEntry} (h : EntR E e c) (h' : EntsR E es cs) : EntsR E (e :: es) (c :: cs)
theorem EntsR.mono {E E' : Env} (hE : E.le E') {es cs : List MapEntry} (h : EntsR E es cs) : EntsR E' es cs := by
  induction h with
  | nil => exact .nil
  | cons h h' ih => exact .cons ⟨h.1.mono hE, h.2.1.mono hE, h.2.2⟩ ih

/-- a row of cells -/
structure RowR (P : Program) (E : Env) (b : Nat) (elem : TypeId) (n : Nat) (cs : BT Value) (g : Bool) (fz : Nat) (st ro : Bool) (C : Array Value) (fr : Nat × Nat) : Prop where
  le : n ≤ C.size
  exact : g = false → C.size = n
  grown : g = true → C.size = E.cp b * cellsOf P elem
  bound : ∀ i v, cs.get i = some v → i < n
  cells : ∀ i v, cs.get i = some v → ∃ c, C[i]? = some c ∧ VR E v c
  free : ro = false → ∀ i, fz ≤ i → i < C.size → ¬ (fr.1 ≤ i ∧ i < fr.2)
  mark : st = false → fr.1 = fr.2 ∨ fr.2 ≤ fz

def BlkR (P : Program) (E : Env) (b : Nat) : Blk → Obj → Prop
  | .cells elem n d cs g fz st ro, o => ∃ C fr, o = .cells C elem fr ∧ RowR P E b elem n cs g fz st ro C fr
  | .map es clock, o => ∃ cs, o = .map ⟨cs⟩ clock ∧ EntsR E es cs
  | .siter s pos, o => o = .stringIter ⟨s.toArray⟩ pos

def roOf : Blk → Bool
  | .cells _ _ _ _ _ _ _ ro => ro
  | _ => false
/-- may it be written? what is of the call's own; what was there ahead of it is read alone -/
theorem RowR.mono {P : Program} {E E' : Env} (hE : E.le E') {b : Nat} {B : Nat} (hb : E.bl b = some B) {elem : TypeId} {n : Nat} {cs : BT Value} {g : Bool} {fz : Nat} {st ro : Bool} {C : Array Value} {fr : Nat × Nat}
    (h : RowR P E b elem n cs g fz st ro C fr) : RowR P E' b elem n cs g fz st ro C fr :=
  ⟨h.le, h.exact, fun hg => by rw [hE.cp _ _ hb]; exact h.grown hg, h.bound, fun i v hv => let ⟨c, h1, h2⟩ := h.cells i v hv; ⟨c, h1, h2.mono hE⟩, h.free, h.mark⟩
theorem BlkR.mono {P : Program} {E E' : Env} (hE : E.le E') {b B : Nat} (hb : E.bl b = some B) {k : Blk} {o : Obj} (h : BlkR P E b k o) : BlkR P E' b k o := by
  cases k with
  | cells elem n d cs g fz st ro => obtain ⟨C, fr, h1, h2⟩ := h; exact ⟨C, fr, h1, h2.mono hE hb⟩
  | map es clock => obtain ⟨cs, h1, h2⟩ := h; exact ⟨cs, h1, h2.mono hE⟩
  | siter s pos => exact h

/-- what was there at a time, and which of its blocks are to stand -/
structure Base where
  w : World
  F : Nat → Prop
  lt : ∀ k, F k → k < w.heap.size
  /-- those of them that no number leads to -/
  G : Nat → Prop
  gF : ∀ k, G k → F k
structure Stays (w0 : Base) (w : World) : Prop where
  os : w.os = w0.w.os
  tape : w.tape = w0.w.tape
  output : w.output = w0.w.output
  size : w0.w.heap.size ≤ w.heap.size
  block : ∀ k, w0.F k → w.heap[k]? = w0.w.heap[k]?
theorem Stays.below {w0 : Base} {w w' : World} (h : Stays w0 w) (hb : Below w.heap.size w w') : Stays w0 w' :=
  ⟨hb.os.trans h.os, hb.tape.trans h.tape, hb.output.trans h.output, Nat.le_trans h.size hb.size, fun k hk => (hb.block k (Nat.lt_of_lt_of_le (w0.lt k hk) h.size)).trans (h.block k hk)⟩
theorem Stays.only {w0 : Base} {w w' : World} {B : Nat} (h : Stays w0 w) (hB : ¬ w0.F B) (hw : Only B w w') : Stays w0 w' :=
  ⟨hw.os.trans h.os, hw.tape.trans h.tape, hw.output.trans h.output, by rw [hw.size]; exact h.size, fun k hk => (hw.block k (fun e => hB (e ▸ hk))).trans (h.block k hk)⟩

/-- THE HEAP OF THE RECKONER IS IN THE WORLD: each block that it has lies somewhere, no two in one place; those that it may write are none of those that are to stand. -/
structure Rep (P : Program) (w0 : Base) (E : Env) (H : St) (w : World) : Prop where
  stays : Stays w0 w
  blk : ∀ b k, H.tr.get b = some k → ∃ B o, E.bl b = some B ∧ w.heap[B]? = some o ∧ BlkR P E b k o
  inj : ∀ b b' k k' B, H.tr.get b = some k → H.tr.get b' = some k' → E.bl b = some B → E.bl b' = some B → b = b'
  own : ∀ b k B, H.tr.get b = some k → E.bl b = some B → roOf k = true ∨ ¬ w0.F B
  fresh : ∀ b, H.next ≤ b → E.bl b = none
  far : ∀ b k B, H.tr.get b = some k → E.bl b = some B → ¬ w0.G B

section
variable {P : Program} {w0 : Base} {E : Env} {H : St} {w : World}

/-- what turns none of the blocks -/
theorem Rep.heap (h : Rep P w0 E H w) {w' : World} (hb : Below w.heap.size w w') : Rep P w0 E H w' :=
  ⟨h.stays.below hb, fun b k hk => let ⟨B, o, h1, h2, h3⟩ := h.blk b k hk
    ⟨B, o, h1, (hb.block B (by rcases Nat.lt_or_ge B w.heap.size with h | h; exact h; rw [Array.getElem?_eq_none h] at h2; cases h2)).trans h2, h3⟩, h.inj, h.own, h.fresh, h.far⟩
theorem Rep.drew (h : Rep P w0 E H w) : Rep P w0 E H w.drew := h.heap ((Below.refl _ w).drew)

/-- one more number -/
def Env.with (E : Env) (b B c : Nat) : Env := ⟨fun i => if i = b then some B else E.bl i, fun i => if i = b then c else E.cp i, E.hole, E.one⟩
theorem Env.le_with {b B c : Nat} (h : E.bl b = none) : E.le (E.with b B c) :=
  ⟨fun i C hi => by
    have : i ≠ b := by rintro rfl; rw [h] at hi; cases hi
    simp [Env.with, this, hi], fun i C hi => by
    have : i ≠ b := by rintro rfl; rw [h] at hi; cases hi
    simp [Env.with, this], rfl⟩
theorem Env.with_bl {b B c : Nat} : (E.with b B c).bl b = some B := by simp [Env.with]
theorem Env.with_cp {b B c : Nat} : (E.with b B c).cp b = c := by simp [Env.with]
theorem Env.with_ne {b B c i : Nat} (h : i ≠ b) : (E.with b B c).bl i = E.bl i := by simp [Env.with, h]

/-- A NEW BLOCK. -/
theorem Rep.new (h : Rep P w0 E H w) {k : Blk} {o : Obj} {c : Nat} (hk : BlkR P (E.with H.next w.heap.size c) H.next k o) :
    Rep P w0 (E.with H.next w.heap.size c) (newB H k) (w.alloc o) := by
  have hn := h.fresh H.next (Nat.le_refl _)
  have hle := Env.le_with (E := E) (B := w.heap.size) (c := c) hn
  have hlt : ∀ b k B, H.tr.get b = some k → E.bl b = some B → B < w.heap.size := fun b k B hb hB => by
    obtain ⟨B', o', h1, h2, _⟩ := h.blk b k hb
    rw [hB] at h1; cases h1
    rcases Nat.lt_or_ge B w.heap.size with h | h
    · exact h
    · rw [Array.getElem?_eq_none h] at h2; cases h2
  have old : ∀ b k', (newB H k).tr.get b = some k' → (b = H.next ∧ k' = k) ∨ (b ≠ H.next ∧ H.tr.get b = some k') := fun b k' hb => by
    rcases BT.get_put _ _ _ _ _ hb with ⟨h1, h2⟩ | h1
    · exact .inl ⟨h1, by cases h2; rfl⟩
    · exact .inr h1
  refine ⟨h.stays.below ((Below.refl _ w).alloc (Nat.le_refl _) o), ?_, ?_, ?_, ?_, ?_⟩
  · intro b k' hb
    rcases old b k' hb with ⟨rfl, rfl⟩ | ⟨hne, hb⟩
    · exact ⟨w.heap.size, o, Env.with_bl, (by show (w.heap.push o)[w.heap.size]? = _; simp), hk⟩
    · obtain ⟨B, o', h1, h2, h3⟩ := h.blk b k' hb
      exact ⟨B, o', hle.bl _ _ h1, by rw [Below.heap_alloc _ _ _ (hlt b k' B hb h1)]; exact h2, h3.mono hle h1⟩
  · intro b b' k1 k2 B hb hb' h1 h2
    rcases old b k1 hb with ⟨rfl, rfl⟩ | ⟨hne, hq⟩ <;> rcases old b' k2 hb' with ⟨rfl, rfl⟩ | ⟨hne', hq'⟩
    · rfl
    · rw [Env.with_bl] at h1; cases h1
      rw [Env.with_ne hne'] at h2
      exact absurd (hlt _ _ _ hq' h2) (Nat.lt_irrefl _)
    · rw [Env.with_bl] at h2; cases h2
      rw [Env.with_ne hne] at h1
      exact absurd (hlt _ _ _ hq h1) (Nat.lt_irrefl _)
    · rw [Env.with_ne hne] at h1; rw [Env.with_ne hne'] at h2
      exact h.inj _ _ _ _ _ hq hq' h1 h2
  · intro b k' B hb hB
    rcases old b k' hb with ⟨rfl, rfl⟩ | ⟨hne, hb⟩
    · rw [Env.with_bl] at hB; cases hB; exact .inr fun hF => absurd (w0.lt _ hF) (Nat.not_lt.2 h.stays.size)
    · rw [Env.with_ne hne] at hB; exact h.own _ _ _ hb hB
  · intro b hb
    have hb : H.next + 1 ≤ b := hb
    rw [Env.with_ne (by omega)]; exact h.fresh b (by omega)
  · intro b k' B hb hB
    rcases old b k' hb with ⟨rfl, rfl⟩ | ⟨hne, hb⟩
    · rw [Env.with_bl] at hB; cases hB; exact fun hG => absurd (w0.lt _ (w0.gF _ hG)) (Nat.not_lt.2 h.stays.size)
    · rw [Env.with_ne hne] at hB; exact h.far _ _ _ hb hB

/-- ONE BLOCK TURNS. -/
theorem Rep.set (h : Rep P w0 E H w) {b B : Nat} {k k' : Blk} {o' : Obj} {w' : World} (hb : H.tr.get b = some k) (hB : E.bl b = some B) (hro : roOf k = false)
    (hw : Only B w w') (ho : w'.heap[B]? = some o') (hk : BlkR P E b k' o') : Rep P w0 E ⟨H.next, H.tr.put b (some k')⟩ w' := by
  have hbase : ¬ w0.F B := (h.own b k B hb hB).resolve_left (by simp [hro])
  have old : ∀ i j, (H.tr.put b (some k')).get i = some j → (i = b ∧ j = k') ∨ (i ≠ b ∧ H.tr.get i = some j) := fun i j hi => by
    rcases BT.get_put _ _ _ _ _ hi with ⟨h1, h2⟩ | h1
    · exact .inl ⟨h1, by cases h2; rfl⟩
    · exact .inr h1
  refine ⟨h.stays.only hbase hw, ?_, ?_, ?_, h.fresh, ?_⟩
  · intro i j hi
    rcases old i j hi with ⟨rfl, rfl⟩ | ⟨hne, hi⟩
    · exact ⟨B, o', hB, ho, hk⟩
    · obtain ⟨B2, o2, h1, h2, h3⟩ := h.blk i j hi
      have : B2 ≠ B := by rintro rfl; exact hne (h.inj _ _ _ _ _ hi hb h1 hB)
      exact ⟨B2, o2, h1, (hw.block _ this).trans h2, h3⟩
  · intro i i' k1 k2 B2 hi hi' h1 h2
    have g : ∀ i j, (H.tr.put b (some k')).get i = some j → ∃ j', H.tr.get i = some j' := fun i j hi => by
      rcases old i j hi with ⟨rfl, rfl⟩ | ⟨hne, hi⟩
      · exact ⟨_, hb⟩
      · exact ⟨_, hi⟩
    obtain ⟨j1, hj1⟩ := g i k1 hi
    obtain ⟨j2, hj2⟩ := g i' k2 hi'
    exact h.inj _ _ _ _ _ hj1 hj2 h1 h2
  · intro i j B2 hi h1
    rcases old i j hi with ⟨rfl, rfl⟩ | ⟨hne, hi⟩
    · rw [hB] at h1; cases h1; exact .inr hbase
    · exact h.own _ _ _ hi h1
  · intro i j B2 hi h1
    rcases old i j hi with ⟨rfl, rfl⟩ | ⟨hne, hi⟩
    · exact h.far _ _ _ hb h1
    · exact h.far _ _ _ hi h1

/-- A BLOCK GOES, AND ONE OF ANOTHER NUMBER COMES IN ITS PLACE. -/
theorem Rep.rename (h : Rep P w0 E H w) {b B : Nat} {k k' : Blk} {o' : Obj} {w' : World} {c : Nat} (hb : H.tr.get b = some k) (hB : E.bl b = some B) (hro : roOf k = false)
    (hw : Only B w w') (ho : w'.heap[B]? = some o') (hk : BlkR P (E.with H.next B c) H.next k' o') :
    Rep P w0 (E.with H.next B c) ⟨Nat.succ H.next, (H.tr.put b none).put H.next (some k')⟩ w' := by
  have hbase : ¬ w0.F B := (h.own b k B hb hB).resolve_left (by simp [hro])
  have hn := h.fresh H.next (Nat.le_refl _)
  have hle := Env.le_with (E := E) (B := B) (c := c) hn
  have old : ∀ i j, ((H.tr.put b none).put H.next (some k')).get i = some j → (i = H.next ∧ j = k') ∨ (i ≠ H.next ∧ i ≠ b ∧ H.tr.get i = some j) := fun i j hi => by
    rcases BT.get_put _ _ _ _ _ hi with ⟨h1, h2⟩ | ⟨h1, h2⟩
    · exact .inl ⟨h1, by cases h2; rfl⟩
    · rcases BT.get_put _ _ _ _ _ h2 with ⟨h3, h4⟩ | ⟨h3, h4⟩
      · cases h4
      · exact .inr ⟨h1, h3, h4⟩
  refine ⟨h.stays.only hbase hw, ?_, ?_, ?_, ?_, ?_⟩
  · intro i j hi
    rcases old i j hi with ⟨rfl, rfl⟩ | ⟨hne, hnb, hi⟩
    · exact ⟨B, o', Env.with_bl, ho, hk⟩
    · obtain ⟨B2, o2, h1, h2, h3⟩ := h.blk i j hi
      have : B2 ≠ B := by rintro rfl; exact hnb (h.inj _ _ _ _ _ hi hb h1 hB)
      exact ⟨B2, o2, hle.bl _ _ h1, (hw.block _ this).trans h2, h3.mono hle h1⟩
  · intro i i' k1 k2 B2 hi hi' h1 h2
    rcases old i k1 hi with ⟨rfl, rfl⟩ | ⟨hne, hnb, hq⟩ <;> rcases old i' k2 hi' with ⟨rfl, rfl⟩ | ⟨hne', hnb', hq'⟩
    · rfl
    · rw [Env.with_bl] at h1; cases h1; rw [Env.with_ne hne'] at h2
      exact absurd (h.inj _ _ _ _ _ hq' hb h2 hB) hnb'
    · rw [Env.with_bl] at h2; cases h2; rw [Env.with_ne hne] at h1
      exact absurd (h.inj _ _ _ _ _ hq hb h1 hB) hnb
    · rw [Env.with_ne hne] at h1; rw [Env.with_ne hne'] at h2
      exact h.inj _ _ _ _ _ hq hq' h1 h2
  · intro i j B2 hi h1
    rcases old i j hi with ⟨rfl, rfl⟩ | ⟨hne, hnb, hi⟩
    · rw [Env.with_bl] at h1; cases h1; exact .inr hbase
    · rw [Env.with_ne hne] at h1; exact h.own _ _ _ hi h1
  · intro i hi
    have hi : H.next + 1 ≤ i := hi
    rw [Env.with_ne (by omega)]; exact h.fresh i (by omega)
  · intro i j B2 hi h1
    rcases old i j hi with ⟨rfl, rfl⟩ | ⟨hne, hnb, hi⟩
    · rw [Env.with_bl] at h1; cases h1; exact h.far _ _ _ hb hB
    · rw [Env.with_ne hne] at h1; exact h.far _ _ _ hi h1

/-- a block goes -/
theorem Rep.drop (h : Rep P w0 E H w) (b : Nat) : Rep P w0 E ⟨H.next, H.tr.put b none⟩ w := by
  have old : ∀ i j, (H.tr.put b none).get i = some j → H.tr.get i = some j := fun i j hi => by
    rcases BT.get_put _ _ _ _ _ hi with ⟨h1, h2⟩ | ⟨h1, h2⟩
    · cases h2
    · exact h2
  exact ⟨h.stays, fun i j hi => h.blk i j (old i j hi), fun i i' k1 k2 B hi hi' => h.inj i i' k1 k2 B (old _ _ hi) (old _ _ hi'), fun i j B hi => h.own i j B (old _ _ hi), h.fresh, fun i j B hi => h.far i j B (old _ _ hi)⟩
end
end Go.Proofs.YthgjjogleklmcaaGreatDoor.Ev
