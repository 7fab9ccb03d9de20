/- Whether a node fits its types. -/
import Derived.Test.YtefklmckkigllaaCkM
namespace Go.Proofs.Ytefklmckkigllaa
open Go.RowKit
set_option linter.unusedVariables false

/-- The types behind some instructions. -/
def stS (locals shared : List Vl) (stk : Int) (S : List Nat) (l : List Ir) : List Nat := l.foldl (fun S x => (stepT locals shared stk S x).1) S
/-- The types behind all instructions, if each may. -/
def runT (locals shared : List Vl) (stk : Int) : List Nat → List Ir → Option (List Nat)
  | S, [] => some S
  | S, x :: r => if (stepT locals shared stk S x).2 = true then runT locals shared stk (stepT locals shared stk S x).1 r else none
/-- Whether a node fits. -/
def fitsN (locals shared : List Vl) (stk : Int) (x : Nd) : Bool := decide (runT locals shared stk [] x.code = some (wantT locals shared x))

theorem runT_all (locals shared : List Vl) (stk : Int) : ∀ (ks : List Ir) (S : List Nat), (∀ (i : Nat) (k : Ir), ks[i]? = some k → (stepT locals shared stk (stS locals shared stk S (ks.take i)) k).2 = true) → runT locals shared stk S ks = some (stS locals shared stk S ks)
  | [], S, _ => rfl
  | x :: r, S, h => by
    have h0 : (stepT locals shared stk S x).2 = true := h 0 x rfl
    rw [runT, if_pos h0]
    exact runT_all locals shared stk r _ fun i k hk => h (i + 1) k hk
theorem runT_no (locals shared : List Vl) (stk : Int) : ∀ (ks : List Ir) (S : List Nat), (∃ (i : Nat) (k : Ir), ks[i]? = some k ∧ (stepT locals shared stk (stS locals shared stk S (ks.take i)) k).2 = false) → runT locals shared stk S ks = none
  | [], S, ⟨i, k, hk, _⟩ => by simp at hk
  | x :: r, S, ⟨i, k, hk, hf⟩ => by
    rw [runT]
    split
    · next hc =>
      cases i with
      | zero =>
        simp at hk
        subst hk
        have : (stepT locals shared stk S x).2 = false := hf
        rw [this] at hc
        cases hc
      | succ i => exact runT_no locals shared stk r _ ⟨i, k, hk, hf⟩
    · rfl
theorem stS_snoc (locals shared : List Vl) (stk : Int) (ks : List Ir) (i : Nat) (k : Ir) (hk : ks[i]? = some k) : stS locals shared stk [] (ks.take (i + 1)) = (stepT locals shared stk (stS locals shared stk [] (ks.take i)) k).1 := by
  unfold stS
  rw [List.take_add_one, hk]
  simp
theorem step_len (locals shared : List Vl) (stk : Int) (S : List Nat) (x : Ir) : (stepT locals shared stk S x).1.length ≤ S.length + 1 := by
  unfold stepT putT operT
  repeat' split
  all_goals simp
  all_goals omega
theorem stS_len (locals shared : List Vl) (stk : Int) (ks : List Ir) (i : Nat) : (stS locals shared stk [] (ks.take i)).length ≤ i := by
  induction i with
  | zero => simp [stS]
  | succ i ih =>
    cases hk : ks[i]? with
    | none =>
      have e : ks.take (i + 1) = ks.take i := by rw [List.take_add_one, hk]; simp
      rw [e]
      omega
    | some k =>
      rw [stS_snoc _ _ _ _ _ _ hk]
      have := step_len locals shared stk (stS locals shared stk [] (ks.take i)) k
      omega
theorem mayV_le {v : Vl} (h : mayV v = true) : v.t ≤ 3 := by
  unfold mayV at h
  simp at h
  omega
theorem getD_le {l : List Vl} (h : ∀ v ∈ l, mayV v = true) (i : Nat) : (l.getD i ⟨0, 0⟩).t ≤ 3 := by
  rw [List.getD]
  cases hk : l[i]? with
  | none => exact Nat.zero_le _
  | some v => exact mayV_le (h v (List.mem_of_getElem? hk))
theorem step_le (locals shared : List Vl) (hL : ∀ v ∈ locals, mayV v = true) (hS : ∀ v ∈ shared, mayV v = true) (stk : Int) (S : List Nat) (h3 : ∀ t ∈ S, t ≤ 3) (nl ns : Nat) (x : Ir) (hx : mayI nl ns x = true) : ∀ t ∈ (stepT locals shared stk S x).1, t ≤ 3 := by
  intro t ht
  unfold stepT at ht
  split at ht
  · next h1 =>
    unfold putT at ht
    rcases List.mem_append.1 ht with h | h
    · exact h3 t h
    · rw [List.mem_singleton.1 h]
      unfold mayI at hx
      rw [if_pos h1, Bool.and_eq_true] at hx
      exact mayV_le hx.2
  · split at ht
    · unfold putT at ht
      rcases List.mem_append.1 ht with h | h
      · exact h3 t h
      · rw [List.mem_singleton.1 h]; exact getD_le hL _
    · split at ht
      · unfold putT at ht
        rcases List.mem_append.1 ht with h | h
        · exact h3 t h
        · rw [List.mem_singleton.1 h]; exact getD_le hS _
      · unfold operT at ht
        split at ht
        · exact h3 t ht
        · rcases List.mem_append.1 ht with h | h
          · exact h3 t (List.mem_of_mem_take h)
          · rw [List.mem_singleton.1 h]; exact makes_lt _ _
theorem stS_le (locals shared : List Vl) (hL : ∀ v ∈ locals, mayV v = true) (hS : ∀ v ∈ shared, mayV v = true) (stk : Int) (nl ns : Nat) (ks : List Ir) (hm : ∀ x ∈ ks, mayI nl ns x = true) (i : Nat) : ∀ t ∈ stS locals shared stk [] (ks.take i), t ≤ 3 := by
  induction i with
  | zero => intro t ht; simp [stS] at ht
  | succ i ih =>
    cases hk : ks[i]? with
    | none =>
      have e : ks.take (i + 1) = ks.take i := by rw [List.take_add_one, hk]; simp
      rw [e]
      exact ih
    | some k =>
      rw [stS_snoc _ _ _ _ _ _ hk]
      exact step_le locals shared hL hS stk _ ih nl ns k (hm k (List.mem_of_getElem? hk))

/-- All instructions work, one behind the other. -/
theorem allRun_any (A g B : Nat) (a1 : Option Addr) (c1 : Nat) (mu : Int) (s2 : Value) (a3 : Option Addr) (c3 : Nat) (stk : Int) (a4 : Option Addr) (nn c4 : Nat) (shared locals : List Vl) (ks : List Ir) (hL : ∀ v ∈ locals, mayV v = true) (hSh : ∀ v ∈ shared, mayV v = true) (hm : ∀ x ∈ ks, mayI locals.length shared.length x = true) (a : Option Addr) (c : Nat) (v : Value) (w : World) (hT : Ty A w g (pre6 a1 shared.length c1 mu s2 a3 locals.length c3 stk a4 nn c4) v []) (hAw : A ≤ w.heap.size)
    (hBA : B ≤ A) (hR : RowIr B w a c ks) (hR1 : RowVl B w a1 c1 shared) (hR3 : RowVl B w a3 c3 locals) :
    Calls Try.prog 70 #[.slice a ks.length c, .func (.func 71) #[.pointer (some ⟨g, 0, none⟩)] #[]] w fun e w' => e = .returned (.bool (runT locals shared stk [] ks).isSome) ∧ (∃ v S, Ty A w' g (pre6 a1 shared.length c1 mu s2 a3 locals.length c3 stk a4 nn c4) v S ∧ (∀ T, runT locals shared stk [] ks = some T → S = T ∧ T.length ≤ 1048576)) ∧ Fw A g w w' := by
  have hg := hT.low
  refine (all70_71 Ir.cells Ir.len4 Ir.one (.pointer (some ⟨g, 0, none⟩)) ks a c hR.1 hR.2.1 w (fun i x => (stepT locals shared stk (stS locals shared stk [] (ks.take i)) x).2)
    (fun i u => ∃ v, Ty A u g (pre6 a1 shared.length c1 mu s2 a3 locals.length c3 stk a4 nn c4) v (stS locals shared stk [] (ks.take i)) ∧ Fw A g w u) (fun u => ∃ v S, Ty A u g (pre6 a1 shared.length c1 mu s2 a3 locals.length c3 stk a4 nn c4) v S ∧ Fw A g w u) ?_ ?_ ?_ ⟨v, hT, Fw.refl _ _ _⟩).mono ?_
  · rintro i u u' ⟨v, h1, h2⟩ hb
    exact ⟨v, h1.below hb, h2.trans (Fw.of_below hb)⟩
  · rintro i k u hk ⟨v, h1, h2⟩
    obtain ⟨gr, oo, ha, hlt, hr, _⟩ := hR.at i k hk
    exact ⟨gr, oo, ha, (h2.old hg hAw hBA).range hlt hr⟩
  · rintro i k u hk ⟨v, h1, h2⟩
    have hO := h2.old hg hAw hBA
    refine (run_any A g B a1 c1 mu s2 a3 c3 stk a4 nn c4 shared locals v _ (stS_le locals shared hL hSh stk _ _ ks hm i) k (hR.all k (List.mem_of_getElem? hk)) (hm k (List.mem_of_getElem? hk)) u h1 ?_ (Nat.le_trans hAw h2.size) hBA (hR1.old hO) (hR3.old hO)).mono ?_
    · have := stS_len locals shared stk ks i
      have hi := (List.getElem?_eq_some_iff.1 hk).1
      have := hR.1
      omega
    · rintro e u' ⟨v', rfl, h3, h4⟩
      refine ⟨rfl, fun _ => ⟨v', ?_, h2.trans h4⟩, fun _ => ⟨v', _, h3, h2.trans h4⟩⟩
      rw [stS_snoc _ _ _ _ _ _ hk]
      exact h3
  · rintro e w' (⟨rfl, hall, v', h1, h2⟩ | ⟨rfl, hno, v', S', h1, h2⟩)
    · have hr := runT_all locals shared stk ks [] hall
      refine ⟨by rw [hr]; rfl, ⟨v', _, h1, fun T hT => ?_⟩, h2⟩
      rw [hr] at hT
      cases hT
      rw [List.take_length]
      refine ⟨rfl, ?_⟩
      have := stS_len locals shared stk ks ks.length
      rw [List.take_length] at this
      have := hR.1
      omega
    · have hr := runT_no locals shared stk ks [] hno
      exact ⟨by rw [hr]; rfl, ⟨v', S', h1, fun T hT => by rw [hr] at hT; cases hT⟩, h2⟩

theorem own_empty {A n : Nat} {w : World} {a : Option Addr} {c : Nat} {S : List Nat} (h : w.ownsRow A 32 1 (.slice a n c) S.length (S.map tyC)) : w.ownsRow A 32 1 (.slice a 0 c) ([] : List Nat).length (([] : List Nat).map tyC) := by
  cases a with
  | none =>
    obtain ⟨_, ⟨h2, h3⟩ | ⟨b', cap', cur, hv, _⟩⟩ := h
    · cases h2; exact World.ownsRow_nil _ _ _ _
    · cases hv
  | some p =>
    obtain ⟨b, rfl⟩ : ∃ b, p = ⟨b, 0, none⟩ := by
      obtain ⟨_, ⟨h2, _⟩ | ⟨b', cap', cur, hv, _⟩⟩ := h
      · cases h2
      · cases hv; exact ⟨_, rfl⟩
    have := own_take h (Nat.zero_le _)
    simpa using this

end Go.Proofs.Ytefklmckkigllaa
