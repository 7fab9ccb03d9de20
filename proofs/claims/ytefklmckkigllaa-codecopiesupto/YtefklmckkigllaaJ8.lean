/- Joined texts of the proof. -/
import Derived.Test.YtefklmckkigllaaJ7
import Derived.Test.YtefklmckkigllaaJ1

/- Whether a node fits its types. -/
namespace Go.Proofs.Ytefklmckkigllaa
open Go.RowKit
set_option linter.unusedVariables false

/-- The types behind some instructions. -/
def stS (locals shared : List Vl) (stk : Int) (S : List Nat) (l : List Ir) : List Nat := l.foldl (fun S x => (stepT locals shared stk S x).1) S
/-- The types behind all instructions, if each may. -/
def runT (locals shared : List Vl) (stk : Int) : List Nat → List Ir → Option (List Nat)
  | S, [] => some S
  | S, x :: r => if (stepT locals shared stk S x).2 = true then runT locals shared stk (stepT locals shared stk S x).1 r else none
/-- Whether a node fits. -/
def fitsN (locals shared : List Vl) (stk : Int) (x : Nd) : Bool := decide (runT locals shared stk [] x.code = some (wantT locals shared x))

theorem runT_all (locals shared : List Vl) (stk : Int) : ∀ (ks : List Ir) (S : List Nat), (∀ (i : Nat) (k : Ir), ks[i]? = some k → (stepT locals shared stk (stS locals shared stk S (ks.take i)) k).2 = true) → runT locals shared stk S ks = some (stS locals shared stk S ks)
  | [], S, _ => rfl
  | x :: r, S, h => by
    have h0 : (stepT locals shared stk S x).2 = true := h 0 x rfl
    rw [runT, if_pos h0]
    exact runT_all locals shared stk r _ fun i k hk => h (i + 1) k hk
theorem runT_no (locals shared : List Vl) (stk : Int) : ∀ (ks : List Ir) (S : List Nat), (∃ (i : Nat) (k : Ir), ks[i]? = some k ∧ (stepT locals shared stk (stS locals shared stk S (ks.take i)) k).2 = false) → runT locals shared stk S ks = none
  | [], S, ⟨i, k, hk, _⟩ => by simp at hk
  | x :: r, S, ⟨i, k, hk, hf⟩ => by
    rw [runT]
    split
    · next hc =>
      cases i with
      | zero =>
        simp at hk
        subst hk
        have : (stepT locals shared stk S x).2 = false := hf
        rw [this] at hc
        cases hc
      | succ i => exact runT_no locals shared stk r _ ⟨i, k, hk, hf⟩
    · rfl
theorem stS_snoc (locals shared : List Vl) (stk : Int) (ks : List Ir) (i : Nat) (k : Ir) (hk : ks[i]? = some k) : stS locals shared stk [] (ks.take (i + 1)) = (stepT locals shared stk (stS locals shared stk [] (ks.take i)) k).1 := by
  unfold stS
  rw [List.take_add_one, hk]
  simp
theorem step_len (locals shared : List Vl) (stk : Int) (S : List Nat) (x : Ir) : (stepT locals shared stk S x).1.length ≤ S.length + 1 := by
  unfold stepT putT operT
  repeat' split
  all_goals simp
  all_goals omega
theorem stS_len (locals shared : List Vl) (stk : Int) (ks : List Ir) (i : Nat) : (stS locals shared stk [] (ks.take i)).length ≤ i := by
  induction i with
  | zero => simp [stS]
  | succ i ih =>
    cases hk : ks[i]? with
    | none =>
      have e : ks.take (i + 1) = ks.take i := by rw [List.take_add_one, hk]; simp
      rw [e]
      omega
    | some k =>
      rw [stS_snoc _ _ _ _ _ _ hk]
      have := step_len locals shared stk (stS locals shared stk [] (ks.take i)) k
      omega
theorem mayV_le {v : Vl} (h : mayV v = true) : v.t ≤ 3 := by
  unfold mayV at h
  simp at h
  omega
theorem getD_le {l : List Vl} (h : ∀ v ∈ l, mayV v = true) (i : Nat) : (l.getD i ⟨0, 0⟩).t ≤ 3 := by
  rw [List.getD]
  cases hk : l[i]? with
  | none => exact Nat.zero_le _
  | some v => exact mayV_le (h v (List.mem_of_getElem? hk))
theorem step_le (locals shared : List Vl) (hL : ∀ v ∈ locals, mayV v = true) (hS : ∀ v ∈ shared, mayV v = true) (stk : Int) (S : List Nat) (h3 : ∀ t ∈ S, t ≤ 3) (nl ns : Nat) (x : Ir) (hx : mayI nl ns x = true) : ∀ t ∈ (stepT locals shared stk S x).1, t ≤ 3 := by
  intro t ht
  unfold stepT at ht
  split at ht
  · next h1 =>
    unfold putT at ht
    rcases List.mem_append.1 ht with h | h
    · exact h3 t h
    · rw [List.mem_singleton.1 h]
      unfold mayI at hx
      rw [if_pos h1, Bool.and_eq_true] at hx
      exact mayV_le hx.2
  · split at ht
    · unfold putT at ht
      rcases List.mem_append.1 ht with h | h
      · exact h3 t h
      · rw [List.mem_singleton.1 h]; exact getD_le hL _
    · split at ht
      · unfold putT at ht
        rcases List.mem_append.1 ht with h | h
        · exact h3 t h
        · rw [List.mem_singleton.1 h]; exact getD_le hS _
      · unfold operT at ht
        split at ht
        · exact h3 t ht
        · rcases List.mem_append.1 ht with h | h
          · exact h3 t (List.mem_of_mem_take h)
          · rw [List.mem_singleton.1 h]; exact makes_lt _ _
theorem stS_le (locals shared : List Vl) (hL : ∀ v ∈ locals, mayV v = true) (hS : ∀ v ∈ shared, mayV v = true) (stk : Int) (nl ns : Nat) (ks : List Ir) (hm : ∀ x ∈ ks, mayI nl ns x = true) (i : Nat) : ∀ t ∈ stS locals shared stk [] (ks.take i), t ≤ 3 := by
  induction i with
  | zero => intro t ht; simp [stS] at ht
  | succ i ih =>
    cases hk : ks[i]? with
    | none =>
      have e : ks.take (i + 1) = ks.take i := by rw [List.take_add_one, hk]; simp
      rw [e]
      exact ih
    | some k =>
      rw [stS_snoc _ _ _ _ _ _ hk]
      exact step_le locals shared hL hS stk _ ih nl ns k (hm k (List.mem_of_getElem? hk))

/-- All instructions work, one behind the other. -/
theorem allRun_any (A g B : Nat) (a1 : Option Addr) (c1 : Nat) (mu : Int) (s2 : Value) (a3 : Option Addr) (c3 : Nat) (stk : Int) (a4 : Option Addr) (nn c4 : Nat) (shared locals : List Vl) (ks : List Ir) (hL : ∀ v ∈ locals, mayV v = true) (hSh : ∀ v ∈ shared, mayV v = true) (hm : ∀ x ∈ ks, mayI locals.length shared.length x = true) (a : Option Addr) (c : Nat) (v : Value) (w : World) (hT : Ty A w g (pre6 a1 shared.length c1 mu s2 a3 locals.length c3 stk a4 nn c4) v []) (hAw : A ≤ w.heap.size)
    (hBA : B ≤ A) (hR : RowIr B w a c ks) (hR1 : RowVl B w a1 c1 shared) (hR3 : RowVl B w a3 c3 locals) :
    Calls Try.prog 70 #[.slice a ks.length c, .func (.func 71) #[.pointer (some ⟨g, 0, none⟩)] #[]] w fun e w' => e = .returned (.bool (runT locals shared stk [] ks).isSome) ∧ (∃ v S, Ty A w' g (pre6 a1 shared.length c1 mu s2 a3 locals.length c3 stk a4 nn c4) v S ∧ (∀ T, runT locals shared stk [] ks = some T → S = T ∧ T.length ≤ 1048576)) ∧ Fw A g w w' := by
  have hg := hT.low
  refine (all70_71 Ir.cells Ir.len4 Ir.one (.pointer (some ⟨g, 0, none⟩)) ks a c hR.1 hR.2.1 w (fun i x => (stepT locals shared stk (stS locals shared stk [] (ks.take i)) x).2)
    (fun i u => ∃ v, Ty A u g (pre6 a1 shared.length c1 mu s2 a3 locals.length c3 stk a4 nn c4) v (stS locals shared stk [] (ks.take i)) ∧ Fw A g w u) (fun u => ∃ v S, Ty A u g (pre6 a1 shared.length c1 mu s2 a3 locals.length c3 stk a4 nn c4) v S ∧ Fw A g w u) ?_ ?_ ?_ ⟨v, hT, Fw.refl _ _ _⟩).mono ?_
  · rintro i u u' ⟨v, h1, h2⟩ hb
    exact ⟨v, h1.below hb, h2.trans (Fw.of_below hb)⟩
  · rintro i k u hk ⟨v, h1, h2⟩
    obtain ⟨gr, oo, ha, hlt, hr, _⟩ := hR.at i k hk
    exact ⟨gr, oo, ha, (h2.old hg hAw hBA).range hlt hr⟩
  · rintro i k u hk ⟨v, h1, h2⟩
    have hO := h2.old hg hAw hBA
    refine (run_any A g B a1 c1 mu s2 a3 c3 stk a4 nn c4 shared locals v _ (stS_le locals shared hL hSh stk _ _ ks hm i) k (hR.all k (List.mem_of_getElem? hk)) (hm k (List.mem_of_getElem? hk)) u h1 ?_ (Nat.le_trans hAw h2.size) hBA (hR1.old hO) (hR3.old hO)).mono ?_
    · have := stS_len locals shared stk ks i
      have hi := (List.getElem?_eq_some_iff.1 hk).1
      have := hR.1
      omega
    · rintro e u' ⟨v', rfl, h3, h4⟩
      refine ⟨rfl, fun _ => ⟨v', ?_, h2.trans h4⟩, fun _ => ⟨v', _, h3, h2.trans h4⟩⟩
      rw [stS_snoc _ _ _ _ _ _ hk]
      exact h3
  · rintro e w' (⟨rfl, hall, v', h1, h2⟩ | ⟨rfl, hno, v', S', h1, h2⟩)
    · have hr := runT_all locals shared stk ks [] hall
      refine ⟨by rw [hr]; rfl, ⟨v', _, h1, fun T hT => ?_⟩, h2⟩
      rw [hr] at hT
      cases hT
      rw [List.take_length]
      refine ⟨rfl, ?_⟩
      have := stS_len locals shared stk ks ks.length
      rw [List.take_length] at this
      have := hR.1
      omega
    · have hr := runT_no locals shared stk ks [] hno
      exact ⟨by rw [hr]; rfl, ⟨v', S', h1, fun T hT => by rw [hr] at hT; cases hT⟩, h2⟩

theorem own_empty {A n : Nat} {w : World} {a : Option Addr} {c : Nat} {S : List Nat} (h : w.ownsRow A 32 1 (.slice a n c) S.length (S.map tyC)) : w.ownsRow A 32 1 (.slice a 0 c) ([] : List Nat).length (([] : List Nat).map tyC) := by
  cases a with
  | none =>
    obtain ⟨_, ⟨h2, h3⟩ | ⟨b', cap', cur, hv, _⟩⟩ := h
    · cases h2; exact World.ownsRow_nil _ _ _ _
    · cases hv
  | some p =>
    obtain ⟨b, rfl⟩ : ∃ b, p = ⟨b, 0, none⟩ := by
      obtain ⟨_, ⟨h2, _⟩ | ⟨b', cap', cur, hv, _⟩⟩ := h
      · cases h2
      · cases hv; exact ⟨_, rfl⟩
    have := own_take h (Nat.zero_le _)
    simpa using this

end Go.Proofs.Ytefklmckkigllaa

/- Single cells stored, two structs handed back. -/
namespace Go.Proofs.Ytefklmckkigllaa
open Go.RowKit
set_option linter.unusedVariables false

theorem run_storeVar_cell {P : Program} (w : World) (b o : Nat) (ty : TypeId) (v : Value) (ht : w.there b o 1) (hi : (P.info? ty).map (·.size) = some 1) (hc : v.cells = #[v]) (h1 : v.oneCell' = true) :
    (storeVar ty ⟨b, o, none⟩ v).run P w = .ok () (w.setCell ⟨b, o, none⟩ v) := by
  have := run_storeCells_cells (P := P) b o [v] 0 w (fun j hj => by simpa using (ht j (by simpa using hj)).1) (fun j hj => by simpa using (ht j (by simpa using hj)).2) (fun u hu => by simp at hu; subst hu; exact h1)
  cases hq : P.info? ty with
  | none => simp [hq] at hi
  | some i =>
    have hs : i.size = 1 := by simp [hq] at hi; omega
    simp only [Nat.add_zero] at this
    simp [storeVar, sizeOf, typeInfo, hq, hc, hs, this, World.setCells]

/-- One cell is stored into a block that is known. -/
theorem wpList_store_one {P : Program} {ops : Array Oper} {rest : List Oper} {o : Oper} {a : Act} {w : World} {Q : Exit → Act → World → Prop} (hgd : o.guard = none) (ty : TypeId) (x y : Operand) (ho : o.op = .store ty x y)
    (g off : Nat) (v : Value) (hx : a.eval x = .pointer (some ⟨g, off, none⟩)) (hy : a.eval y = v)
    (t : TypeId) (old : List Value) (hg : At t w g old) (hold : off + 1 ≤ old.length) (hi : (P.info? ty).map (·.size) = some 1) (hc : v.cells = #[v]) (h1 : v.oneCell' = true)
    (h : ∀ w', At t w' g (old.set off v) → But g w w' → w'.heap.size = w.heap.size → wpList P ops Q rest (a.put o.dst undef) w') : wpList P ops Q (o :: rest) a w := by
  refine wpList_plain hgd fun K hK => ?_
  have := hK _ _ (h _ (hg.set off v) ((But.refl g w).setCell off v) (by simp))
  unfold Oper.wp execOp
  simp only [ho, hx, hy, Instr.storeAt, Instr.sureAddr, Sem.run_bind, Sem.run_pure, Result.andThen_ok, run_storeVar_cell w g off ty v (hg.there off 1 hold) hi hc h1]
  exact this

end Go.Proofs.Ytefklmckkigllaa

/- Whether a node fits its types: the typer's own walk. -/
namespace Go.Proofs.Ytefklmckkigllaa
open Go.RowKit
set_option linter.unusedVariables false

theorem i97 : (Try.prog.info? 97).map (·.size) = some 1 := by kernel_rfl
theorem node_box {w1 : World} {gb : Nat} {a : Option Addr} {n c : Nat} {kind arg next alt : Int} (h : At 49 w1 gb [.slice a n c, .int .i64 kind, .int .i64 arg, .int .i64 next, .int .i64 alt]) : w1.cell? ⟨gb, 0, none⟩ = some (.slice a n c) ∧ w1.cell? ⟨gb, 1, none⟩ = some (.int .i64 kind) ∧ w1.cell? ⟨gb, 2, none⟩ = some (.int .i64 arg) ∧ w1.cell? ⟨gb, 3, none⟩ = some (.int .i64 next) ∧ w1.cell? ⟨gb, 4, none⟩ = some (.int .i64 alt) := by
  refine ⟨?_, ?_, ?_, ?_, ?_⟩ <;> (rw [h.cell]; rfl)

set_option maxRecDepth 100000 in
set_option maxHeartbeats 6400000 in
theorem fits_any (A g B : Nat) (a1 : Option Addr) (c1 : Nat) (mu : Int) (s2 : Value) (a3 : Option Addr) (c3 : Nat) (stk : Int) (a4 : Option Addr) (nn c4 : Nat) (shared locals : List Vl) (hL : ∀ v ∈ locals, mayV v = true) (hSh : ∀ v ∈ shared, mayV v = true) (x : NT) (hm : mayN locals.length shared.length mu nn x.nd = true) (v : Value) (S : List Nat) (w : World) (hx : x.In B w) (hT : Ty A w g (pre6 a1 shared.length c1 mu s2 a3 locals.length c3 stk a4 nn c4) v S) (hAw : A ≤ w.heap.size)
    (hBA : B ≤ A) (hR1 : RowVl B w a1 c1 shared) (hR3 : RowVl B w a3 c3 locals) :
    Calls Try.prog 54 #[.pointer (some ⟨g, 0, none⟩), .agg x.cells.toArray] w fun e w' => e = .returned (.bool (fitsN locals shared stk x.nd)) ∧ (∃ v S, Ty A w' g (pre6 a1 shared.length c1 mu s2 a3 locals.length c3 stk a4 nn c4) v S) ∧ Fw A g w w' := by
  obtain ⟨a, c, ⟨code, kind, arg, next, alt⟩⟩ := x
  have hgw : w.heap.size ≠ g := by have := hT.lt; omega
  have hg := hT.low
  have hp : (pre6 a1 shared.length c1 mu s2 a3 locals.length c3 stk a4 nn c4).length = 6 := rfl
  have hRc : RowIr B w a c code := hx.1
  unfold mayN at hm
  rw [Bool.and_eq_true, Bool.and_eq_true] at hm
  have hmI : ∀ x ∈ code, mayI locals.length shared.length x = true := List.all_eq_true.1 hm.1
  have hmA := hm.2.1
  have Q1 : Hid (∀ u v', Fw A g w u → Ty A u g (pre6 a1 shared.length c1 mu s2 a3 locals.length c3 stk a4 nn c4) v' [] → Calls Try.prog 70 #[.slice a code.length c, .func (.func 71) #[.pointer (some ⟨g, 0, none⟩)] #[]] u fun e w' => e = .returned (.bool (runT locals shared stk [] code).isSome) ∧ (∃ v S, Ty A w' g (pre6 a1 shared.length c1 mu s2 a3 locals.length c3 stk a4 nn c4) v S ∧ (∀ T, runT locals shared stk [] code = some T → S = T ∧ T.length ≤ 1048576)) ∧ Fw A g u w') := fun u v' hu hTu => by
    have hO := hu.old hg hAw hBA
    exact allRun_any A g B a1 c1 mu s2 a3 c3 stk a4 nn c4 shared locals code hL hSh hmI a c v' u hTu (Nat.le_trans hAw hu.size) hBA (hRc.old hO) (hR1.old hO) (hR3.old hO)
  have Q2 : Hid (∀ u v' S', Fw A g w u → Ty A u g (pre6 a1 shared.length c1 mu s2 a3 locals.length c3 stk a4 nn c4) v' S' → Calls Try.prog 73 #[.pointer (some ⟨g, 0, none⟩), .agg #[.slice a code.length c, .int .i64 kind, .int .i64 arg, .int .i64 next, .int .i64 alt]] u fun e w' => ∃ ar cr, e = .returned (.slice ar (wantT locals shared ⟨code, kind, arg, next, alt⟩).length cr) ∧ TyRow w' ar (wantT locals shared ⟨code, kind, arg, next, alt⟩) ∧ Below u.heap.size u w') := fun u v' S' hu hTu => by
    have hO := hu.old hg hAw hBA
    exact wanted_any A g B a1 c1 mu s2 a3 c3 stk a4 nn c4 shared locals v' S' a code.length c code kind arg next alt hmA u hTu (Nat.le_trans hAw hu.size) hBA (hR1.old hO) (hR3.old hO)
  have hWl : (wantT locals shared ⟨code, kind, arg, next, alt⟩).length ≤ 1 := by
    unfold wantT
    repeat' split
    all_goals simp
  have hcl : code.length ≤ 1048576 := hRc.1
  unfold fitsN
  simp only [NT.cells]
  generalize wantT locals shared ⟨code, kind, arg, next, alt⟩ = W at *
  generalize runT locals shared stk [] code = RT at *
  generalize code.length = n at *
  generalize (pre6 a1 shared.length c1 mu s2 a3 locals.length c3 stk a4 nn c4) = pre at *
  have HT : Hid (Ty A w g pre v S) := hT
  obtain ⟨va, vn, vc, rfl⟩ : ∃ a n c, v = .slice a n c := by obtain ⟨x, y, z⟩ := own_len hT.own; exact ⟨_, _, _, z⟩
  have hsl := fun u => run_slice97 u va vn vc 0 0 rfl (Nat.zero_le _)
  clear hT hx hRc hm hmI hmA hR1 hR3 hL hSh
  go_enter Try.func54, Try.ntmps54
  go_wp2_with (first
    | ((with_reducible show wpList _ _ _ _ _ _); refine wpList_box_at rfl 49 (.tmp 1) rfl [.slice a n c, .int .i64 kind, .int .i64 arg, .int .i64 next, .int .i64 alt] rfl ?_; intro w1 hA1 hb1 hs1; clear hs1; refine Hid.out ?_))
  refine hidU ?_
  have hT1 := HT.out.below hb1
  have q1 : w1.cell? ⟨g, 106, none⟩ = some (.slice va vn vc) := hT1.head hp
  have k2 : w1.frozen? ⟨g, 106, none⟩ = false := hT1.cell.frozen 106
  go_wp2_with (first
    | ((with_reducible show wpList _ _ _ _ _ _); refine wpList_store_one (P := Try.prog) rfl 97 (.tmp 12) (.tmp 10) rfl g 106 (.slice va 0 vc) rfl rfl 99 _ hT1.cell (show 106 + 1 ≤ _ by simp [hp, opsC_len]) i97 rfl rfl ?_; intro w2 hA2 hb2 hs2; clear hs2; refine Hid.out ?_))
  refine hidU ?_
  have hT2 : Ty A w2 g pre (.slice va 0 vc) [] := by
    have hl : (pre ++ opsC).length = 106 := by rw [List.length_append, hp, opsC_len]
    refine ⟨?_, ?_, hg⟩
    · have e : (pre ++ opsC ++ [Value.slice va vn vc]).set 106 (.slice va 0 vc) = pre ++ opsC ++ [.slice va 0 vc] := by rw [← hl, set_last]
      rw [← e]
      exact hA2
    · have h0 := own_empty hT1.own
      obtain ⟨h1, h2 | ⟨b, cap, cur, hv, hb, hcur, h3⟩⟩ := h0
      · exact ⟨h1, .inl h2⟩
      · refine ⟨h1, .inr ⟨b, cap, cur, hv, hb, ?_, h3⟩⟩
        have hbl : b < w1.heap.size := by
          rcases Nat.lt_or_ge b w1.heap.size with q | q
          · exact q
          · rw [Array.getElem?_eq_none q] at hcur; cases hcur
        rw [hb2.block b hbl (by
          rintro rfl
          have := hT1.cell
          unfold At at this
          rw [hcur] at this
          cases this)]
        exact hcur
  have hF2 : Fw A g w w2 := (Fw.of_below hb1).trans (Fw.of_but hb2)
  have hB2 : At 49 w2 w.heap.size [.slice a n c, .int .i64 kind, .int .i64 arg, .int .i64 next, .int .i64 alt] := hb2.at hA1 hgw
  clear hT1 q1 k2 hA1 hb1 hb2 hA2 HT hsl
  go_wp2_with fail
  have hS0 : Fw A g w2 w2.drew := Fw.of_below (Below.drew (Below.refl _ _))
  refine wp_region_held_drew (S := fun x => Fw A g w2 x) (by kernel_rfl) hS0 (fun _ => ?_)
  refine wpAnyH_take (i := 0) (oi := { dst := some 13, op := .fieldAddr 49 (.tmp 3) 0, type := _, pos := _, after := _, guard := none }) (v := .pointer (some ⟨w.heap.size, 0, none⟩)) rfl (by kernel_rfl) (by kernel_rfl) (by kernel_rfl) (fun _ _ _ h => h) (Or.inl ⟨by rfl, ?_⟩) hS0 ?_
  · intro wS hSw
    go_simp
  simp only [Act.put, List.setIfInBounds_toArray, List.set_cons_zero, List.set_cons_succ]
  refine wpAnyH_take (i := 1) (oi := { dst := some 14, op := .load 38 (.tmp 13), type := _, pos := _, after := _, guard := none }) (v := .slice a n c) rfl (by kernel_rfl) (by kernel_rfl) (by kernel_rfl) (fun _ _ _ h => h) (Or.inl ⟨by rfl, ?_⟩) hS0 ?_
  · intro wS hSw
    obtain ⟨z0, z1, z2, z3, z4⟩ := node_box (hSw.at hB2 hgw (by decide))
    go_simp
  simp only [Act.put, List.setIfInBounds_toArray, List.set_cons_zero, List.set_cons_succ]
  refine wpAnyH_take (i := 2) (oi := { dst := some 15, op := .move (.tmp 0), type := _, pos := _, after := _, guard := none }) (v := .pointer (some ⟨g, 0, none⟩)) rfl (by kernel_rfl) (by kernel_rfl) (by kernel_rfl) (fun _ _ _ h => h) (Or.inl ⟨by rfl, ?_⟩) hS0 ?_
  · intro wS hSw
    go_simp
  simp only [Act.put, List.setIfInBounds_toArray, List.set_cons_zero, List.set_cons_succ]
  refine wpAnyH_take (i := 3) (oi := { dst := some 16, op := .makeFunc (.func 71) #[.tmp 15] #[], type := _, pos := _, after := _, guard := none }) (v := .func (.func 71) #[.pointer (some ⟨g, 0, none⟩)] #[]) rfl (by kernel_rfl) (by kernel_rfl) (by kernel_rfl) (fun _ _ _ h => h) (Or.inl ⟨by rfl, ?_⟩) hS0 ?_
  · intro wS hSw
    go_simp
  simp only [Act.put, List.setIfInBounds_toArray, List.set_cons_zero, List.set_cons_succ]
  refine wpAnyH_ready (rs := [4]) (by kernel_rfl) (by simp) ?_
  refine AllReadyH.cons (o := { dst := some 17, op := .call { callee := .value (.func 70), args := #[.tmp 14, .tmp 16], argTypes := #[38, 112] }, type := _, pos := _, after := _, guard := none }) rfl (fun K hK => ?_) AllReadyH.nil
  rw [if_pos (by rfl)]
  go_wp2_with (go_at_call 70; refine (Q1.out _ _ (hF2.trans hS0) (hT2.below (Below.drew (Below.refl _ _)))).mono ?_; rintro e x1 ⟨rfl, ⟨v3, S3, hT3, hS3⟩, hF3⟩)
  have hS1 : Fw A g w2 x1 := hS0.trans hF3
  refine hK.out _ _ hS1 (fun _ => ?_)
  clear hK K
  obtain ⟨v3a, v3n, v3c, rfl⟩ : ∃ a n c, v3 = .slice a n c := by obtain ⟨x, y, z⟩ := own_len hT3.own; exact ⟨_, _, _, z⟩
  obtain rfl : v3n = S3.length := by obtain ⟨x, y, z⟩ := own_len hT3.own; cases z; rfl
  cases RT with
  | none =>
    refine wpAnyH_take (i := 5) (oi := { dst := some 18, op := .move (.tmp 17), type := _, pos := _, after := _, guard := none }) (v := .bool false) rfl (by kernel_rfl) (by kernel_rfl) (by kernel_rfl) (fun _ _ _ h => h) (Or.inl ⟨by rfl, ?_⟩) hS1 ?_
    · intro wS hSw
      go_simp
    simp only [Act.put, List.setIfInBounds_toArray, List.set_cons_zero, List.set_cons_succ]
    refine wpAnyH_take (i := 6) (oi := { dst := some 19, op := .move (.tmp 0), type := _, pos := _, after := _, guard := some (5, true) }) (v := undef) rfl (by kernel_rfl) (by kernel_rfl) (by kernel_rfl) (fun _ _ _ h => h) (Or.inr ⟨by rfl, rfl⟩) hS1 ?_
    simp only [Act.put, List.setIfInBounds_toArray, List.set_cons_zero, List.set_cons_succ]
    refine wpAnyH_take (i := 7) (oi := { dst := some 20, op := .nilCheck (.tmp 19), type := _, pos := _, after := _, guard := some (5, true) }) (v := undef) rfl (by kernel_rfl) (by kernel_rfl) (by kernel_rfl) (fun _ _ _ h => h) (Or.inr ⟨by rfl, rfl⟩) hS1 ?_
    simp only [Act.put, List.setIfInBounds_toArray, List.set_cons_zero, List.set_cons_succ]
    refine wpAnyH_take (i := 8) (oi := { dst := some 21, op := .fieldAddr 99 (.tmp 20) 2, type := _, pos := _, after := _, guard := some (5, true) }) (v := undef) rfl (by kernel_rfl) (by kernel_rfl) (by kernel_rfl) (fun _ _ _ h => h) (Or.inr ⟨by rfl, rfl⟩) hS1 ?_
    simp only [Act.put, List.setIfInBounds_toArray, List.set_cons_zero, List.set_cons_succ]
    refine wpAnyH_take (i := 9) (oi := { dst := some 22, op := .load 97 (.tmp 21), type := _, pos := _, after := _, guard := some (5, true) }) (v := undef) rfl (by kernel_rfl) (by kernel_rfl) (by kernel_rfl) (fun _ _ _ h => h) (Or.inr ⟨by rfl, rfl⟩) hS1 ?_
    simp only [Act.put, List.setIfInBounds_toArray, List.set_cons_zero, List.set_cons_succ]
    refine wpAnyH_take (i := 10) (oi := { dst := some 23, op := .move (.tmp 0), type := _, pos := _, after := _, guard := some (5, true) }) (v := undef) rfl (by kernel_rfl) (by kernel_rfl) (by kernel_rfl) (fun _ _ _ h => h) (Or.inr ⟨by rfl, rfl⟩) hS1 ?_
    simp only [Act.put, List.setIfInBounds_toArray, List.set_cons_zero, List.set_cons_succ]
    refine wpAnyH_take (i := 11) (oi := { dst := some 24, op := .load 49 (.tmp 3), type := _, pos := _, after := _, guard := some (5, true) }) (v := undef) rfl (by kernel_rfl) (by kernel_rfl) (by kernel_rfl) (fun _ _ _ h => h) (Or.inr ⟨by rfl, rfl⟩) hS1 ?_
    simp only [Act.put, List.setIfInBounds_toArray, List.set_cons_zero, List.set_cons_succ]
    refine wpAnyH_take (i := 12) (oi := { dst := some 25, op := .call { callee := .value (.func 73), args := #[.tmp 23, .tmp 24], argTypes := #[90, 49] }, type := _, pos := _, after := _, guard := some (5, true) }) (v := undef) rfl (by kernel_rfl) (by kernel_rfl) (by kernel_rfl) (fun _ _ _ h => h) (Or.inr ⟨by rfl, rfl⟩) hS1 ?_
    simp only [Act.put, List.setIfInBounds_toArray, List.set_cons_zero, List.set_cons_succ]
    refine wpAnyH_take (i := 13) (oi := { dst := some 26, op := .call { callee := .value (.func 72), args := #[.tmp 22, .tmp 25], argTypes := #[97, 97] }, type := _, pos := _, after := _, guard := some (5, true) }) (v := undef) rfl (by kernel_rfl) (by kernel_rfl) (by kernel_rfl) (fun _ _ _ h => h) (Or.inr ⟨by rfl, rfl⟩) hS1 ?_
    simp only [Act.put, List.setIfInBounds_toArray, List.set_cons_zero, List.set_cons_succ]
    refine wpAnyH_take (i := 14) (oi := { dst := some 27, op := .pick (.tmp 18) (.tmp 26) (.const (.bool false)), type := _, pos := _, after := _, guard := none }) (v := .bool false) rfl (by kernel_rfl) (by kernel_rfl) (by kernel_rfl) (fun _ _ _ h => h) (Or.inl ⟨by rfl, ?_⟩) hS1 ?_
    · intro wS hSw
      go_simp
    simp only [Act.put, List.setIfInBounds_toArray, List.set_cons_zero, List.set_cons_succ]
    refine wpAnyH_take (i := 15) (oi := { dst := some 4, op := .assign (.tmp 27), type := _, pos := _, after := _, guard := none }) (v := .bool false) rfl (by kernel_rfl) (by kernel_rfl) (by kernel_rfl) (fun _ _ _ h => h) (Or.inl ⟨by rfl, ?_⟩) hS1 ?_
    · intro wS hSw
      go_simp
    simp only [Act.put, List.setIfInBounds_toArray, List.set_cons_zero, List.set_cons_succ]
    refine wpAnyH_done (by kernel_rfl) ?_ _
    have HT3 : Hid (Ty A x1 g pre _ S3) := hT3
    have HF3 : Hid (Fw A g w x1) := hF2.trans hS1
    clear hT3 hF3 hS1 hS0 hS3 Q1 Q2 hB2 hF2 hT2
    go_wp2
    go_ret
    exact ⟨rfl, ⟨_, _, HT3.out⟩, HF3.out⟩
  | some T =>
    obtain ⟨hSe, hTl⟩ := hS3 T rfl
    subst hSe
    refine wpAnyH_take (i := 5) (oi := { dst := some 18, op := .move (.tmp 17), type := _, pos := _, after := _, guard := none }) (v := .bool true) rfl (by kernel_rfl) (by kernel_rfl) (by kernel_rfl) (fun _ _ _ h => h) (Or.inl ⟨by rfl, ?_⟩) hS1 ?_
    · intro wS hSw
      go_simp
    simp only [Act.put, List.setIfInBounds_toArray, List.set_cons_zero, List.set_cons_succ]
    refine wpAnyH_take (i := 6) (oi := { dst := some 19, op := .move (.tmp 0), type := _, pos := _, after := _, guard := some (5, true) }) (v := .pointer (some ⟨g, 0, none⟩)) rfl (by kernel_rfl) (by kernel_rfl) (by kernel_rfl) (fun _ _ _ h => h) (Or.inl ⟨by rfl, ?_⟩) hS1 ?_
    · intro wS hSw
      go_simp
    simp only [Act.put, List.setIfInBounds_toArray, List.set_cons_zero, List.set_cons_succ]
    refine wpAnyH_take (i := 7) (oi := { dst := some 20, op := .nilCheck (.tmp 19), type := _, pos := _, after := _, guard := some (5, true) }) (v := .pointer (some ⟨g, 0, none⟩)) rfl (by kernel_rfl) (by kernel_rfl) (by kernel_rfl) (fun _ _ _ h => h) (Or.inl ⟨by rfl, ?_⟩) hS1 ?_
    · intro wS hSw
      go_simp
    simp only [Act.put, List.setIfInBounds_toArray, List.set_cons_zero, List.set_cons_succ]
    refine wpAnyH_take (i := 8) (oi := { dst := some 21, op := .fieldAddr 99 (.tmp 20) 2, type := _, pos := _, after := _, guard := some (5, true) }) (v := .pointer (some ⟨g, 106, none⟩)) rfl (by kernel_rfl) (by kernel_rfl) (by kernel_rfl) (fun _ _ _ h => h) (Or.inl ⟨by rfl, ?_⟩) hS1 ?_
    · intro wS hSw
      go_simp
    simp only [Act.put, List.setIfInBounds_toArray, List.set_cons_zero, List.set_cons_succ]
    refine wpAnyH_take (i := 10) (oi := { dst := some 23, op := .move (.tmp 0), type := _, pos := _, after := _, guard := some (5, true) }) (v := .pointer (some ⟨g, 0, none⟩)) rfl (by kernel_rfl) (by kernel_rfl) (by kernel_rfl) (fun _ _ _ h => h) (Or.inl ⟨by rfl, ?_⟩) hS1 ?_
    · intro wS hSw
      go_simp
    simp only [Act.put, List.setIfInBounds_toArray, List.set_cons_zero, List.set_cons_succ]
    refine wpAnyH_take (i := 11) (oi := { dst := some 24, op := .load 49 (.tmp 3), type := _, pos := _, after := _, guard := some (5, true) }) (v := .agg #[.slice a n c, .int .i64 kind, .int .i64 arg, .int .i64 next, .int .i64 alt]) rfl (by kernel_rfl) (by kernel_rfl) (by kernel_rfl) (fun _ _ _ h => h) (Or.inl ⟨by rfl, ?_⟩) hS1 ?_
    · intro wS hSw
      obtain ⟨z0, z1, z2, z3, z4⟩ := node_box (hSw.at hB2 hgw (by decide))
      go_simp
    simp only [Act.put, List.setIfInBounds_toArray, List.set_cons_zero, List.set_cons_succ]
    refine wpAnyH_ready (rs := [9, 12]) (by kernel_rfl) (by simp) ?_
    refine AllReadyH.cons (o := { dst := some 22, op := .load 97 (.tmp 21), type := _, pos := _, after := _, guard := some (5, true) }) rfl (fun K hK => ?_) (AllReadyH.cons (o := { dst := some 25, op := .call { callee := .value (.func 73), args := #[.tmp 23, .tmp 24], argTypes := #[90, 49] }, type := _, pos := _, after := _, guard := some (5, true) }) rfl (fun K hK => ?_) AllReadyH.nil)
    · rw [if_pos (by rfl)]
      have k0 : x1.cell? ⟨g, 106, none⟩ = some (.slice v3a S3.length v3c) := hT3.head hp
      go_simp
      refine hK.out _ _ hS1 (fun _ => ?_)
      clear hK K k0
      try simp only [Act.put, List.setIfInBounds_toArray, List.set_cons_zero, List.set_cons_succ]
      refine wpAnyH_ready (rs := [12]) (by kernel_rfl) (by simp) ?_
      refine AllReadyH.cons (o := { dst := some 25, op := .call { callee := .value (.func 73), args := #[.tmp 23, .tmp 24], argTypes := #[90, 49] }, type := _, pos := _, after := _, guard := some (5, true) }) rfl (fun K hK => ?_) AllReadyH.nil
      rw [if_pos (by rfl)]
      go_wp2_with (go_at_call 73; refine (Q2.out _ _ _ (hF2.trans hS1) hT3).mono ?_; rintro e x2 ⟨ar, cr, rfl, hRow, hb2⟩)
      have hS2 : Fw A g w2 x2 := hS1.trans (Fw.of_below hb2)
      refine hK.out _ _ hS2 (fun _ => ?_)
      clear hK K
      have hT4 := hT3.below hb2
      refine wpAnyH_ready (rs := [13]) (by kernel_rfl) (by simp) ?_
      refine AllReadyH.cons (o := { dst := some 26, op := .call { callee := .value (.func 72), args := #[.tmp 22, .tmp 25], argTypes := #[97, 97] }, type := _, pos := _, after := _, guard := some (5, true) }) rfl (fun K hK => ?_) AllReadyH.nil
      rw [if_pos (by rfl)]
      go_wp2_with (go_at_call 72; refine (sameTypes_any v3a ar v3c cr S3 W (TyRow.of_own hT4.own) hRow hTl (by omega)).mono ?_; rintro e x3 ⟨rfl, hb3⟩)
      have hS3' : Fw A g w2 x3 := hS2.trans (Fw.of_below hb3)
      refine hK.out _ _ hS3' (fun _ => ?_)
      clear hK K
      refine wpAnyH_take (i := 14) (oi := { dst := some 27, op := .pick (.tmp 18) (.tmp 26) (.const (.bool false)), type := _, pos := _, after := _, guard := none }) (v := .bool (decide (S3 = W))) rfl (by kernel_rfl) (by kernel_rfl) (by kernel_rfl) (fun _ _ _ h => h) (Or.inl ⟨by rfl, ?_⟩) hS3' ?_
      · intro wS hSw
        go_simp
      simp only [Act.put, List.setIfInBounds_toArray, List.set_cons_zero, List.set_cons_succ]
      refine wpAnyH_take (i := 15) (oi := { dst := some 4, op := .assign (.tmp 27), type := _, pos := _, after := _, guard := none }) (v := .bool (decide (S3 = W))) rfl (by kernel_rfl) (by kernel_rfl) (by kernel_rfl) (fun _ _ _ h => h) (Or.inl ⟨by rfl, ?_⟩) hS3' ?_
      · intro wS hSw
        go_simp
      simp only [Act.put, List.setIfInBounds_toArray, List.set_cons_zero, List.set_cons_succ]
      refine wpAnyH_done (by kernel_rfl) ?_ _
      have HT3 : Hid (Ty A x3 g pre _ S3) := hT4.below hb3
      have HF3 : Hid (Fw A g w x3) := hF2.trans hS3'
      clear hT3 hF3 hS1 hS0 hS3 Q1 Q2 hB2 hF2 hT2 hT4 hb3 hS3' hS2 hRow hb2
      go_wp2
      go_ret
      refine ⟨?_, ⟨_, _, HT3.out⟩, HF3.out⟩
      show Ending.returned (.bool (decide (S3 = W))) = _
      congr 2
      rw [Bool.eq_iff_iff, decide_eq_true_iff, decide_eq_true_iff]
      exact ⟨fun h => by rw [h], fun h => Option.some.inj h⟩
    · rw [if_pos (by rfl)]
      go_wp2_with (go_at_call 73; refine (Q2.out _ _ _ (hF2.trans hS1) hT3).mono ?_; rintro e x2 ⟨ar, cr, rfl, hRow, hb2⟩)
      have hS2 : Fw A g w2 x2 := hS1.trans (Fw.of_below hb2)
      refine hK.out _ _ hS2 (fun _ => ?_)
      clear hK K
      have hT4 := hT3.below hb2
      refine wpAnyH_ready (rs := [9]) (by kernel_rfl) (by simp) ?_
      refine AllReadyH.cons (o := { dst := some 22, op := .load 97 (.tmp 21), type := _, pos := _, after := _, guard := some (5, true) }) rfl (fun K hK => ?_) AllReadyH.nil
      rw [if_pos (by rfl)]
      have k0 : x2.cell? ⟨g, 106, none⟩ = some (.slice v3a S3.length v3c) := hT4.head hp
      go_simp
      refine hK.out _ _ hS2 (fun _ => ?_)
      clear hK K k0
      try simp only [Act.put, List.setIfInBounds_toArray, List.set_cons_zero, List.set_cons_succ]
      refine wpAnyH_ready (rs := [13]) (by kernel_rfl) (by simp) ?_
      refine AllReadyH.cons (o := { dst := some 26, op := .call { callee := .value (.func 72), args := #[.tmp 22, .tmp 25], argTypes := #[97, 97] }, type := _, pos := _, after := _, guard := some (5, true) }) rfl (fun K hK => ?_) AllReadyH.nil
      rw [if_pos (by rfl)]
      go_wp2_with (go_at_call 72; refine (sameTypes_any v3a ar v3c cr S3 W (TyRow.of_own hT4.own) hRow hTl (by omega)).mono ?_; rintro e x3 ⟨rfl, hb3⟩)
      have hS3' : Fw A g w2 x3 := hS2.trans (Fw.of_below hb3)
      refine hK.out _ _ hS3' (fun _ => ?_)
      clear hK K
      refine wpAnyH_take (i := 14) (oi := { dst := some 27, op := .pick (.tmp 18) (.tmp 26) (.const (.bool false)), type := _, pos := _, after := _, guard := none }) (v := .bool (decide (S3 = W))) rfl (by kernel_rfl) (by kernel_rfl) (by kernel_rfl) (fun _ _ _ h => h) (Or.inl ⟨by rfl, ?_⟩) hS3' ?_
      · intro wS hSw
        go_simp
      simp only [Act.put, List.setIfInBounds_toArray, List.set_cons_zero, List.set_cons_succ]
      refine wpAnyH_take (i := 15) (oi := { dst := some 4, op := .assign (.tmp 27), type := _, pos := _, after := _, guard := none }) (v := .bool (decide (S3 = W))) rfl (by kernel_rfl) (by kernel_rfl) (by kernel_rfl) (fun _ _ _ h => h) (Or.inl ⟨by rfl, ?_⟩) hS3' ?_
      · intro wS hSw
        go_simp
      simp only [Act.put, List.setIfInBounds_toArray, List.set_cons_zero, List.set_cons_succ]
      refine wpAnyH_done (by kernel_rfl) ?_ _
      have HT3 : Hid (Ty A x3 g pre _ S3) := hT4.below hb3
      have HF3 : Hid (Fw A g w x3) := hF2.trans hS3'
      clear hT3 hF3 hS1 hS0 hS3 Q1 Q2 hB2 hF2 hT2 hT4 hb3 hS3' hS2 hRow hb2
      go_wp2
      go_ret
      refine ⟨?_, ⟨_, _, HT3.out⟩, HF3.out⟩
      show Ending.returned (.bool (decide (S3 = W))) = _
      congr 2
      rw [Bool.eq_iff_iff, decide_eq_true_iff, decide_eq_true_iff]
      exact ⟨fun h => by rw [h], fun h => Option.some.inj h⟩

end Go.Proofs.Ytefklmckkigllaa

/- Types of a body and of a code; Check. -/
namespace Go.Proofs.Ytefklmckkigllaa
open Go.RowKit
set_option linter.unusedVariables false

theorem built99 (a1 : Option Addr) (n1 c1 : Nat) (mu : Int) (a2 : Option Addr) (n2 c2 : Nat) (a3 : Option Addr) (n3 c3 : Nat) (stack : Int) (s6 : Value) : Try.prog.built 99 [(0, .agg #[.slice a1 n1 c1, .int .i64 mu, .slice a2 n2 c2, .slice a3 n3 c3, .int .i64 stack, s6]), (1, .agg opsC.toArray)] = some (([.slice a1 n1 c1, .int .i64 mu, .slice a2 n2 c2, .slice a3 n3 c3, .int .i64 stack, s6] : List Value) ++ opsC ++ ([.slice none 0 0] : List Value)).toArray := by kernel_rfl
theorem wp_build_at {P : Program} {o : Oper} {a : Act} {w : World} {K : Act → World → Prop} {Q : Exit → Act → World → Prop} (t : TypeId) (ps : List (Nat × Operand)) (ho : o.op = .build t ps.toArray) (cs : List Value)
    (hb : P.built t (ps.map fun (i, x) => (i, a.eval x)) = some cs.toArray) (h : K (a.put o.dst (.agg cs.toArray)) w) : Oper.wp P o a w K Q := by
  have e : (ps.toArray.map fun (i, x) => (i, a.eval x)).toList = ps.map fun (i, x) => (i, a.eval x) := by simp
  exact wp_build t ps.toArray ho (by rw [e, hb]; rfl) (by rw [e, hb]; exact h)
theorem wp_box_at {P : Program} {o : Oper} {a : Act} {w : World} {K : Act → World → Prop} {Q : Exit → Act → World → Prop} (t : TypeId) (x : Operand) (ho : o.op = .box t x) (cs : List Value) (hx : a.eval x = .agg cs.toArray)
    (h : ∀ w', At t w' w.heap.size cs → Below w.heap.size w w' → K (a.put o.dst (.pointer (some ⟨w.heap.size, 0, none⟩))) w') : Oper.wp P o a w K Q := by
  have := h (w.alloc (.cells cs.toArray t)) (_root_.Go.heap_alloc_new w _) ((Below.refl _ w).alloc (Nat.le_refl _) _)
  unfold Oper.wp execOp
  simp only [ho, hx, Instr.box, Sem.run_bind]
  simpa [newVar, go_sem, Value.cells] using this

/-- All nodes fit. -/
theorem allFit_any (A g B : Nat) (a1 : Option Addr) (c1 : Nat) (mu : Int) (s2 : Value) (a3 : Option Addr) (c3 : Nat) (stk : Int) (a4 : Option Addr) (c4 : Nat) (shared locals : List Vl) (ks : List NT) (hL : ∀ v ∈ locals, mayV v = true) (hSh : ∀ v ∈ shared, mayV v = true) (hm : ∀ x ∈ ks, mayN locals.length shared.length mu ks.length x.nd = true) (v : Value) (S : List Nat) (w : World) (hT : Ty A w g (pre6 a1 shared.length c1 mu s2 a3 locals.length c3 stk a4 ks.length c4) v S) (hAw : A ≤ w.heap.size)
    (hBA : B ≤ A) (hR : RowNT B w a4 c4 ks) (hR1 : RowVl B w a1 c1 shared) (hR3 : RowVl B w a3 c3 locals) :
    Calls Try.prog 53 #[.slice a4 ks.length c4, .func (.func 54) #[.pointer (some ⟨g, 0, none⟩)] #[]] w fun e w' => e = .returned (.bool (ks.all fun x => fitsN locals shared stk x.nd)) ∧ Fw A g w w' := by
  have hg := hT.low
  refine (all53_54 NT.cells NT.len5 NT.one (.pointer (some ⟨g, 0, none⟩)) ks a4 c4 hR.1 hR.2.1 w (fun _ x => fitsN locals shared stk x.nd)
    (fun i u => (∃ v S, Ty A u g (pre6 a1 shared.length c1 mu s2 a3 locals.length c3 stk a4 ks.length c4) v S) ∧ Fw A g w u) (fun u => (∃ v S, Ty A u g (pre6 a1 shared.length c1 mu s2 a3 locals.length c3 stk a4 ks.length c4) v S) ∧ Fw A g w u) ?_ ?_ ?_ ⟨⟨v, S, hT⟩, Fw.refl _ _ _⟩).mono ?_
  · rintro i u u' ⟨⟨v, S, h1⟩, h2⟩ hb
    exact ⟨⟨v, S, h1.below hb⟩, h2.trans (Fw.of_below hb)⟩
  · rintro i k u hk ⟨_, h2⟩
    obtain ⟨gr, oo, ha, hlt, hr, _⟩ := hR.at i k hk
    exact ⟨gr, oo, ha, (h2.old hg hAw hBA).range hlt hr⟩
  · rintro i k u hk ⟨⟨v, S, h1⟩, h2⟩
    have hO := h2.old hg hAw hBA
    refine (fits_any A g B a1 c1 mu s2 a3 c3 stk a4 ks.length c4 shared locals hL hSh k (hm k (List.mem_of_getElem? hk)) v S u (NT.In.old (hR.all k (List.mem_of_getElem? hk)) hO) h1 (Nat.le_trans hAw h2.size) hBA (hR1.old hO) (hR3.old hO)).mono ?_
    rintro e u' ⟨rfl, h3, h4⟩
    exact ⟨rfl, fun _ => ⟨h3, h2.trans h4⟩, fun _ => ⟨h3, h2.trans h4⟩⟩
  · intro e w' he
    obtain ⟨he, hx⟩ := all_of he
    exact ⟨he, hx.2⟩

/-- Whether all nodes of a body fit. -/
def typeB (shared : List Vl) (b : Bd) : Bool := b.nodes.all (fitsN b.locals shared b.stack)

set_option maxRecDepth 100000 in
set_option maxHeartbeats 6400000 in
theorem typeBody_any (B gc : Nat) (x : CT) (y : BT) (w : World) (hy : y.In B w) (hR1 : RowVl B w x.a1 x.c1 x.shared) (hB : B ≤ w.heap.size) (h : At 25 w gc x.cells) (hSh : ∀ v ∈ x.shared, mayV v = true) (hmB : mayB x.shared.length x.mutexes y.bd = true) :
    Calls Try.prog 51 #[.agg y.cells.toArray, .pointer (some ⟨gc, 0, none⟩)] w fun e w' => e = .returned (.bool (typeB x.shared y.bd)) ∧ Below w.heap.size w w' := by
  unfold mayB at hmB
  rw [Bool.and_eq_true, Bool.and_eq_true] at hmB
  have hL : ∀ v ∈ y.locals, mayV v = true := List.all_eq_true.1 hmB.1
  have hmN : ∀ n ∈ y.nodes, mayN y.locals.length x.shared.length x.mutexes y.nodes.length n.nd = true := fun n hn => by
    have := List.all_eq_true.1 hmB.2.2 n.nd (List.mem_map_of_mem hn)
    have e : y.bd.nodes.length = y.nodes.length := List.length_map ..
    rw [e] at this
    exact this
  have Q1 : Hid (∀ u v S g, Fw w.heap.size g w u → Ty w.heap.size u g (x.cells ++ y.cells) v S → Calls Try.prog 53 #[.slice y.a2 y.nodes.length y.c2, .func (.func 54) #[.pointer (some ⟨g, 0, none⟩)] #[]] u fun e w' => e = .returned (.bool (typeB x.shared y.bd)) ∧ Fw w.heap.size g u w') := fun u v S g hu hT => by
    have hO := hu.old hT.low (Nat.le_refl _) hB
    have := allFit_any w.heap.size g B x.a1 x.c1 x.mutexes (.slice x.a2 x.bodies.length x.c2) y.a1 y.c1 y.stack y.a2 y.c2 x.shared y.locals y.nodes hL hSh hmN v S u hT hu.size hB (RowNT.old hy.2.2 hO) (RowVl.old hR1 hO) (RowVl.old hy.1 hO)
    have e : typeB x.shared y.bd = y.nodes.all fun n => fitsN y.locals x.shared y.stack n.nd := by unfold typeB BT.bd; rw [List.all_map]; rfl
    rw [e]
    exact this
  obtain ⟨a1, c1, shared, mu, a2, c2, bodies⟩ := x
  obtain ⟨a3, c3, locals, stack, a4, c4, nodes⟩ := y
  clear hL hmN hmB hSh hy hR1
  dsimp only at Q1
  generalize typeB shared (BT.bd ⟨a3, c3, locals, stack, a4, c4, nodes⟩) = R at *
  simp only [BT.cells, CT.cells] at *
  generalize shared.length = n1 at *
  generalize bodies.length = n2 at *
  generalize locals.length = n3 at *
  generalize nodes.length = n4 at *
  have hlg := h.lt
  obtain ⟨O, hO⟩ : ∃ O, Hid (O = opsC) := ⟨_, (rfl : opsC = _)⟩
  obtain ⟨Bg, hBg⟩ : ∃ Bg, Hid (Bg = (([.slice a1 n1 c1, .int .i64 mu, .slice a2 n2 c2, .slice a3 n3 c3, .int .i64 stack, .slice a4 n4 c4] : List Value) ++ opsC ++ ([.slice none 0 0] : List Value))) := ⟨_, (rfl : (([.slice a1 n1 c1, .int .i64 mu, .slice a2 n2 c2, .slice a3 n3 c3, .int .i64 stack, .slice a4 n4 c4] : List Value) ++ opsC ++ ([.slice none 0 0] : List Value)) = _)⟩
  have HBt : Hid (Try.prog.built 99 [(0, .agg #[.slice a1 n1 c1, .int .i64 mu, .slice a2 n2 c2, .slice a3 n3 c3, .int .i64 stack, .slice a4 n4 c4]), (1, .agg O.toArray)] = some Bg.toArray) := by show _ = _; rw [hO.out, hBg.out]; exact built99 a1 n1 c1 mu a2 n2 c2 a3 n3 c3 stack (.slice a4 n4 c4)
  have hops : ∀ u, Calls Try.prog 52 #[] u fun e w' => e = .returned (.agg O.toArray) ∧ Below u.heap.size u w' := by rw [hO.out]; exact operators_any
  clear hO
  go_enter Try.func51, Try.ntmps51
  go_wp2_with (first
    | ((with_reducible show wpList _ _ _ _ _ _); refine wpList_box_at rfl 45 (.tmp 0) rfl [.slice a3 n3 c3, .int .i64 stack, .slice a4 n4 c4] rfl ?_; intro w1 hA1 hb1 hs1; clear hs1; refine Hid.out ?_))
  refine hidU ?_
  have h1 := h.below hb1
  have e0 : w1.cell? ⟨gc, 0, none⟩ = some (.slice a1 n1 c1) := by rw [h1.cell]; rfl
  have e1 : w1.cell? ⟨gc, 1, none⟩ = some (.int .i64 mu) := by rw [h1.cell]; rfl
  have e2 : w1.cell? ⟨gc, 2, none⟩ = some (.slice a2 n2 c2) := by rw [h1.cell]; rfl
  have f0 : w1.cell? ⟨w.heap.size, 0, none⟩ = some (.slice a3 n3 c3) := by rw [hA1.cell]; rfl
  have f1 : w1.cell? ⟨w.heap.size, 1, none⟩ = some (.int .i64 stack) := by rw [hA1.cell]; rfl
  have f2 : w1.cell? ⟨w.heap.size, 2, none⟩ = some (.slice a4 n4 c4) := by rw [hA1.cell]; rfl
  have l1 := hA1.lt
  go_wp2_with fail
  have hS0 : Below w1.heap.size w1 w1.drew := Below.drew (Below.refl _ _)
  refine wp_region_held_drew (S := fun x => Below w1.heap.size w1 x) (by kernel_rfl) hS0 (fun _ => ?_)
  refine wpAnyH_take (i := 0) (oi := { dst := some 5, op := .load 25 (.tmp 1), type := _, pos := _, after := _, guard := none }) (v := .agg #[.slice a1 n1 c1, .int .i64 mu, .slice a2 n2 c2]) rfl (by kernel_rfl) (by kernel_rfl) (by kernel_rfl) (fun _ _ _ h => h) (Or.inl ⟨by rfl, ?_⟩) hS0 ?_
  · intro wS hSw
    have z0 := (hSw.cell (lt_of_cell e0)).trans e0
    have z1 := (hSw.cell (lt_of_cell e1)).trans e1
    have z2 := (hSw.cell (lt_of_cell e2)).trans e2
    go_simp
  simp only [Act.put, List.setIfInBounds_toArray, List.set_cons_zero, List.set_cons_succ]
  refine wpAnyH_take (i := 1) (oi := { dst := some 6, op := .load 45 (.tmp 2), type := _, pos := _, after := _, guard := none }) (v := .agg #[.slice a3 n3 c3, .int .i64 stack, .slice a4 n4 c4]) rfl (by kernel_rfl) (by kernel_rfl) (by kernel_rfl) (fun _ _ _ h => h) (Or.inl ⟨by rfl, ?_⟩) hS0 ?_
  · intro wS hSw
    have z0 := (hSw.cell (lt_of_cell f0)).trans f0
    have z1 := (hSw.cell (lt_of_cell f1)).trans f1
    have z2 := (hSw.cell (lt_of_cell f2)).trans f2
    go_simp
  simp only [Act.put, List.setIfInBounds_toArray, List.set_cons_zero, List.set_cons_succ]
  refine wpAnyH_take (i := 2) (oi := { dst := some 7, op := .build 89 #[(0, .tmp 5), (1, .tmp 6)], type := _, pos := _, after := _, guard := none }) (v := .agg #[.slice a1 n1 c1, .int .i64 mu, .slice a2 n2 c2, .slice a3 n3 c3, .int .i64 stack, .slice a4 n4 c4]) rfl (by kernel_rfl) (by kernel_rfl) (by kernel_rfl) (fun _ _ _ h => h) (Or.inl ⟨by rfl, ?_⟩) hS0 ?_
  · intro wS hSw
    go_simp
  simp only [Act.put, List.setIfInBounds_toArray, List.set_cons_zero, List.set_cons_succ]
  refine wpAnyH_ready (rs := [3]) (by kernel_rfl) (by simp) ?_
  refine AllReadyH.cons (o := { dst := some 8, op := .call { callee := .value (.func 52), args := #[], argTypes := #[] }, type := _, pos := _, after := _, guard := none }) rfl (fun K hK => ?_) AllReadyH.nil
  rw [if_pos (by rfl)]
  go_wp2_with (go_at_call 52; refine (hops _).mono ?_; rintro e x1 ⟨rfl, hbo1⟩)
  have hS1 := hS0.trans (hbo1.mono hS0.size)
  refine hK.out _ _ hS1 (fun _ => ?_)
  clear hK K
  refine wpAnyH_ready (rs := [4]) (by kernel_rfl) (by simp) ?_
  refine AllReadyH.cons (o := { dst := some 9, op := .build 99 #[(0, .tmp 7), (1, .tmp 8)], type := _, pos := _, after := _, guard := none }) rfl (fun K hK => ?_) AllReadyH.nil
  rw [if_pos (by rfl)]
  refine wp_build_at (P := Try.prog) 99 [(0, .tmp 7), (1, .tmp 8)] rfl Bg HBt.out ?_
  refine hK.out _ _ hS1 (fun _ => ?_)
  clear hK K
  try simp only [Act.put, List.setIfInBounds_toArray, List.set_cons_zero, List.set_cons_succ]
  refine wpAnyH_ready (rs := [5]) (by kernel_rfl) (by simp) ?_
  refine AllReadyH.cons (o := { dst := some 10, op := .box 99 (.tmp 9), type := _, pos := _, after := _, guard := none }) rfl (fun K hK => ?_) AllReadyH.nil
  rw [if_pos (by rfl)]
  refine wp_box_at (P := Try.prog) 99 (.tmp 9) rfl Bg rfl ?_
  intro wb hAb hbb
  have hSb : Below w1.heap.size w1 wb := hS1.trans (hbb.mono hS1.size)
  refine hK.out _ _ hSb (fun _ => ?_)
  clear hK K
  try simp only [Act.put, List.setIfInBounds_toArray, List.set_cons_zero, List.set_cons_succ]
  refine wpAnyH_take (i := 6) (oi := { dst := some 4, op := .assign (.tmp 10), type := _, pos := _, after := _, guard := none }) (v := .pointer (some ⟨x1.heap.size, 0, none⟩)) rfl (by kernel_rfl) (by kernel_rfl) (by kernel_rfl) (fun _ _ _ h => h) (Or.inl ⟨by rfl, ?_⟩) hSb ?_
  · intro wS hSw
    go_simp
  simp only [Act.put, List.setIfInBounds_toArray, List.set_cons_zero, List.set_cons_succ]
  refine wpAnyH_done (by kernel_rfl) ?_ _
  have hTy : Ty w.heap.size wb x1.heap.size ([.slice a1 n1 c1, .int .i64 mu, .slice a2 n2 c2] ++ [.slice a3 n3 c3, .int .i64 stack, .slice a4 n4 c4]) (.slice none 0 0) [] := by
    rw [hBg.out] at hAb
    refine ⟨hAb, World.ownsRow_nil _ _ _ _, ?_⟩
    have := hS1.size
    omega
  have hbw : Below w.heap.size w wb := hb1.trans (hSb.mono hb1.size)
  have hlw : w.heap.size ≤ x1.heap.size := by have := hS1.size; omega
  have g2 : wb.cell? ⟨w.heap.size, 2, none⟩ = some (.slice a4 n4 c4) := (hSb.cell l1).trans f2
  clear e0 e1 e2 f0 f1 f2 hA1 h1 hAb hbb hbo1 hS1 hSb hS0 hb1 h hops HBt hBg
  generalize x1.heap.size = g at *
  go_wp2_with (first
    | (go_at_call 53; refine (Q1.out _ _ _ _ (Fw.of_below hbw) hTy).mono ?_; rintro _ w9 ⟨rfl, hF9⟩))
  go_ret
  exact ⟨rfl, ((Fw.of_below hbw).trans hF9).below hlw (Nat.le_refl _)⟩

end Go.Proofs.Ytefklmckkigllaa

/- Check: which is the first error of a code. -/
namespace Go.Proofs.Ytefklmckkigllaa
open Go.RowKit
set_option linter.unusedVariables false

/-- Whether a node of a code does not fit. -/
def typeC (c : Cd) : Bool := !c.bodies.all (typeB c.shared)

theorem allTypes_any (B gc : Nat) (x : CT) (w : World) (hx : x.In B w) (hB : B ≤ w.heap.size) (hS : At 25 w gc x.cells) (hSh : ∀ v ∈ x.shared, mayV v = true) (hmB : ∀ y ∈ x.bodies, mayB x.shared.length x.mutexes y.bd = true) :
    Calls Try.prog 48 #[.slice x.a2 x.bodies.length x.c2, .func (.func 51) #[] #[.pointer (some ⟨gc, 0, none⟩)]] w fun e w' => e = .returned (.bool (x.bodies.all fun y => typeB x.shared y.bd)) ∧ Below w.heap.size w w' :=
  (all48_51 BT.cells BT.len3 BT.one (.pointer (some ⟨gc, 0, none⟩)) x.bodies x.a2 x.c2 hx.2.2.1 hx.2.2.2.1 w (fun _ y => typeB x.shared y.bd) (fun _ u => Below w.heap.size w u) (fun u => Below w.heap.size w u)
    (fun i u u' h1 h2 => h1.trans (h2.mono h1.size)) (fun i k u hk hu => RowG.see hx.2.2 hB i k u hk hu)
    (fun i k u hk hu => (typeBody_any B gc x k u (BT.In.old (RowG.all hx.2.2 k (List.mem_of_getElem? hk)) (Old.of_below hu hB)) (RowVl.old hx.1 (Old.of_below hu hB)) (by have := hu.size; omega) (hS.below hu) hSh (hmB k (List.mem_of_getElem? hk))).mono (by
      rintro e u' ⟨rfl, hb⟩
      exact ⟨rfl, fun _ => hu.trans (hb.mono hu.size), fun _ => hu.trans (hb.mono hu.size)⟩)) (Below.refl _ _)).mono fun e w' he => all_of he

theorem part_ok {x : CT} (h : partC x.cd = false) : (∀ v ∈ x.shared, mayV v = true) ∧ ∀ y ∈ x.bodies, mayB x.shared.length x.mutexes y.bd = true := by
  unfold partC at h
  rw [Bool.or_eq_false_iff, Bool.or_eq_false_iff] at h
  obtain ⟨_, h1, h2⟩ := h
  refine ⟨fun v hv => ?_, fun y hy => ?_⟩
  · have := List.all_eq_true.1 (by simpa using h1 : x.cd.shared.all mayV = true)
    exact this v hv
  · have := List.all_eq_true.1 (by simpa using h2 : x.cd.bodies.all (mayB x.cd.shared.length x.cd.mutexes) = true)
    exact this y.bd (List.mem_map_of_mem hy)

set_option maxRecDepth 100000 in
set_option maxHeartbeats 3200000 in
theorem wrongType_any (B : Nat) (x : CT) (w : World) (hx : x.In B w) (hB : B ≤ w.heap.size) (hp : partC x.cd = false) :
    Calls Try.prog 33 #[.agg x.cells.toArray] w fun e w' => e = .returned (.bool (typeC x.cd)) ∧ Below w.heap.size w w' := by
  have Q3 : Hid (∀ u g, Below w.heap.size w u → At 25 u g x.cells → Calls Try.prog 48 #[.slice x.a2 x.bodies.length x.c2, .func (.func 51) #[] #[.pointer (some ⟨g, 0, none⟩)]] u fun e w' => e = .returned (.bool (x.bodies.all fun y => typeB x.shared y.bd)) ∧ Below u.heap.size u w') := fun u g hu hA => allTypes_any B g x u (hx.old (Old.of_below hu hB)) (by have := hu.size; omega) hA (part_ok hp).1 (part_ok hp).2
  obtain ⟨a1, c1, shared, mu, a2, c2, bodies⟩ := x
  have e : typeC (CT.cd ⟨a1, c1, shared, mu, a2, c2, bodies⟩) = !bodies.all fun y => typeB shared y.bd := by
    unfold typeC CT.cd; simp only [List.all_map]; rfl
  rw [e]
  clear e hx hp
  simp only [CT.cells] at *
  generalize (bodies.all fun y => typeB shared y.bd) = b3 at *
  generalize shared.length = n1 at *
  generalize bodies.length = n2 at *
  go_enter Try.func33, Try.ntmps33
  go_wp2_with (first
    | ((with_reducible show wpList _ _ _ _ _ _); refine wpList_box_at rfl 25 (.tmp 0) rfl [.slice a1 n1 c1, .int .i64 mu, .slice a2 n2 c2] rfl ?_; intro w1 hA1 hb1 hs1; clear hs1; refine Hid.out ?_))
  refine hidU ?_
  have d2 : w1.cell? ⟨w.heap.size, 2, none⟩ = some (.slice a2 n2 c2) := by rw [hA1.cell]; rfl
  go_wp2_with (first
    | (go_at_call 48; refine (Q3.out _ _ hb1 hA1).mono ?_; rintro r w5 ⟨rfl, hb5⟩))
  go_ret
  exact ⟨rfl, hb1.trans (hb5.mono hb1.size)⟩

/-- Which is the first error of a code. -/
def checkC (c : Cd) : Nat := if longC c then 3 else if partC c then 2 else if typeC c then 9 else if touchC c then 190 else 0

set_option maxRecDepth 100000 in
set_option maxHeartbeats 3200000 in
theorem check_any (B : Nat) (x : CT) (w : World) (hx : x.In B w) (hB : B ≤ w.heap.size) :
    Calls Try.prog 14 #[.agg x.cells.toArray] w fun e w' => e = .returned (.int .i64 (checkC x.cd : Int)) ∧ Below w.heap.size w w' := by
  have Q1 : Hid (∀ u, Below w.heap.size w u → Calls Try.prog 31 #[.agg x.cells.toArray] u fun e w' => e = .returned (.bool (longC x.cd)) ∧ Below u.heap.size u w') := fun u hu => tooLong_any B x u (hx.old (Old.of_below hu hB)) (by have := hu.size; omega)
  have Q2 : Hid (∀ u, Below w.heap.size w u → Calls Try.prog 32 #[.agg x.cells.toArray] u fun e w' => e = .returned (.bool (partC x.cd)) ∧ Below u.heap.size u w') := fun u hu => wrongPart_any B x u (hx.old (Old.of_below hu hB)) (by have := hu.size; omega)
  have Q3 : Hid (∀ u, Below w.heap.size w u → partC x.cd = false → Calls Try.prog 33 #[.agg x.cells.toArray] u fun e w' => e = .returned (.bool (typeC x.cd)) ∧ Below u.heap.size u w') := fun u hu hp => wrongType_any B x u (hx.old (Old.of_below hu hB)) (by have := hu.size; omega) hp
  have Q4 : Hid (∀ u, Below w.heap.size w u → Calls Try.prog 34 #[.agg x.cells.toArray] u fun e w' => e = .returned (.bool (touchC x.cd)) ∧ Below u.heap.size u w') := fun u hu => touchesTwo_any B x u (hx.old (Old.of_below hu hB)) (by have := hu.size; omega)
  unfold checkC
  generalize longC x.cd = b1 at *
  generalize partC x.cd = b2 at *
  generalize typeC x.cd = b3 at *
  generalize touchC x.cd = b4 at *
  have hone := x.one
  have hlen : x.cells.length = 3 := rfl
  generalize x.cells = cs at *
  clear hx
  have hi : (Try.prog.info? 25).map (·.size) = some cs.length := by rw [hlen]; exact i25
  cases b1 with
  | true =>
    rw [if_pos rfl]
    go_enter Try.func14, Try.ntmps14
    go_wp2_with (first
      | ((with_reducible show wpList _ _ _ _ _ _); refine wpList_box_at rfl 25 (.tmp 0) rfl cs rfl ?_; intro w1 hA1 hb1 hs1; clear hs1; refine Hid.out ?_))
    refine hidU ?_
    go_wp2_with (first
      | ((with_reducible show wpList _ _ _ _ _ _); refine wpList_load_at (P := Try.prog) rfl 25 (.tmp 1) rfl w.heap.size rfl 25 cs hA1 _ Try.underlying25 rfl hi ?_)
      | (go_at_call 31; refine (Q1.out _ hb1).mono ?_; rintro r w2 ⟨rfl, hb2⟩))
    go_ret
    exact ⟨rfl, hb1.trans (hb2.mono hb1.size)⟩
  | false =>
    rw [if_neg (by decide)]
    cases b2 with
    | true =>
      rw [if_pos rfl]
      go_enter Try.func14, Try.ntmps14
      go_wp2_with (first
        | ((with_reducible show wpList _ _ _ _ _ _); refine wpList_box_at rfl 25 (.tmp 0) rfl cs rfl ?_; intro w1 hA1 hb1 hs1; clear hs1; refine Hid.out ?_))
      refine hidU ?_
      go_wp2_with (first
        | ((with_reducible show wpList _ _ _ _ _ _); refine wpList_load_at (P := Try.prog) rfl 25 (.tmp 1) rfl w.heap.size rfl 25 cs (by first | exact hA1 | exact hA2) _ Try.underlying25 rfl hi ?_)
        | (go_at_call 31; refine (Q1.out _ hb1).mono ?_; rintro r w2 ⟨rfl, hb2⟩; have hA2 := hA1.below hb2; have hb12 := hb1.trans (hb2.mono hb1.size); clear hA1 hb2)
        | (go_at_call 32; refine (Q2.out _ hb12).mono ?_; rintro r w3 ⟨rfl, hb3⟩))
      go_ret
      exact ⟨rfl, hb12.trans (hb3.mono hb12.size)⟩
    | false =>
      rw [if_neg (by decide)]
      have Q3b : Hid (∀ u, Below w.heap.size w u → Calls Try.prog 33 #[.agg cs.toArray] u fun e w' => e = .returned (.bool b3) ∧ Below u.heap.size u w') := fun u hu => Q3.out u hu rfl
      clear Q3
      cases b3 with
      | true =>
        rw [if_pos rfl]
        go_enter Try.func14, Try.ntmps14
        go_wp2_with (first
          | ((with_reducible show wpList _ _ _ _ _ _); refine wpList_box_at rfl 25 (.tmp 0) rfl cs rfl ?_; intro w1 hA1 hb1 hs1; clear hs1; refine Hid.out ?_))
        refine hidU ?_
        go_wp2_with (first
          | ((with_reducible show wpList _ _ _ _ _ _); refine wpList_load_at (P := Try.prog) rfl 25 (.tmp 1) rfl w.heap.size rfl 25 cs (by first | exact hA1 | exact hA2 | exact hA3) _ Try.underlying25 rfl hi ?_)
          | (go_at_call 31; refine (Q1.out _ hb1).mono ?_; rintro r w2 ⟨rfl, hb2⟩; have hA2 := hA1.below hb2; have hb12 := hb1.trans (hb2.mono hb1.size); clear hA1 hb2)
          | (go_at_call 32; refine (Q2.out _ hb12).mono ?_; rintro r w3 ⟨rfl, hb3⟩; have hA3 := hA2.below hb3; have hb13 := hb12.trans (hb3.mono hb12.size); clear hA2 hb3)
          | (go_at_call 33; refine (Q3b.out _ hb13).mono ?_; rintro r w4 ⟨rfl, hb4⟩))
        go_ret
        exact ⟨rfl, hb13.trans (hb4.mono hb13.size)⟩
      | false =>
        rw [if_neg (by decide)]
        cases b4 with
        | true =>
          rw [if_pos rfl]
          go_enter Try.func14, Try.ntmps14
          go_wp2_with (first
            | ((with_reducible show wpList _ _ _ _ _ _); refine wpList_box_at rfl 25 (.tmp 0) rfl cs rfl ?_; intro w1 hA1 hb1 hs1; clear hs1; refine Hid.out ?_))
          refine hidU ?_
          go_wp2_with (first
            | ((with_reducible show wpList _ _ _ _ _ _); refine wpList_load_at (P := Try.prog) rfl 25 (.tmp 1) rfl w.heap.size rfl 25 cs (by first | exact hA1 | exact hA2 | exact hA3 | exact hA4) _ Try.underlying25 rfl hi ?_)
            | (go_at_call 31; refine (Q1.out _ hb1).mono ?_; rintro r w2 ⟨rfl, hb2⟩; have hA2 := hA1.below hb2; have hb12 := hb1.trans (hb2.mono hb1.size); clear hA1 hb2)
            | (go_at_call 32; refine (Q2.out _ hb12).mono ?_; rintro r w3 ⟨rfl, hb3⟩; have hA3 := hA2.below hb3; have hb13 := hb12.trans (hb3.mono hb12.size); clear hA2 hb3)
            | (go_at_call 33; refine (Q3b.out _ hb13).mono ?_; rintro r w4 ⟨rfl, hb4⟩; have hA4 := hA3.below hb4; have hb14 := hb13.trans (hb4.mono hb13.size); clear hA3 hb4)
            | (go_at_call 34; refine (Q4.out _ hb14).mono ?_; rintro r w5 ⟨rfl, hb5⟩))
          go_ret
          exact ⟨rfl, hb14.trans (hb5.mono hb14.size)⟩
        | false =>
          rw [if_neg (by decide)]
          go_enter Try.func14, Try.ntmps14
          go_wp2_with (first
            | ((with_reducible show wpList _ _ _ _ _ _); refine wpList_box_at rfl 25 (.tmp 0) rfl cs rfl ?_; intro w1 hA1 hb1 hs1; clear hs1; refine Hid.out ?_))
          refine hidU ?_
          go_wp2_with (first
            | ((with_reducible show wpList _ _ _ _ _ _); refine wpList_load_at (P := Try.prog) rfl 25 (.tmp 1) rfl w.heap.size rfl 25 cs (by first | exact hA1 | exact hA2 | exact hA3 | exact hA4) _ Try.underlying25 rfl hi ?_)
            | (go_at_call 31; refine (Q1.out _ hb1).mono ?_; rintro r w2 ⟨rfl, hb2⟩; have hA2 := hA1.below hb2; have hb12 := hb1.trans (hb2.mono hb1.size); clear hA1 hb2)
            | (go_at_call 32; refine (Q2.out _ hb12).mono ?_; rintro r w3 ⟨rfl, hb3⟩; have hA3 := hA2.below hb3; have hb13 := hb12.trans (hb3.mono hb12.size); clear hA2 hb3)
            | (go_at_call 33; refine (Q3b.out _ hb13).mono ?_; rintro r w4 ⟨rfl, hb4⟩; have hA4 := hA3.below hb4; have hb14 := hb13.trans (hb4.mono hb13.size); clear hA3 hb4)
            | (go_at_call 34; refine (Q4.out _ hb14).mono ?_; rintro r w5 ⟨rfl, hb5⟩))
          go_ret
          exact ⟨rfl, hb14.trans (hb5.mono hb14.size)⟩
end Go.Proofs.Ytefklmckkigllaa
