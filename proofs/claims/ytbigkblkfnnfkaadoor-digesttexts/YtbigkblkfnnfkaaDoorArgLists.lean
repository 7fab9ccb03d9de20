/- What a slice of slices of bytes that came in is known by: its lists, how they lie, and that each takes no more than an address's reach. -/
import Derived.Test.YtbigkblkfnnfkaaDoorArg
import Derived.Test.YtbigkblkfnnfkaaDoorJoin
import Derived.Deep.Matrix
import Derived.SizedLaws
namespace Go.Proofs.YtbigkblkfnnfkaaDoor
open Go.ChangeShapes Go.WideShapes Go.ChangeAt Go.RowKit
set_option linter.unusedVariables false

theorem weights_mem_all {H : Type} {P : Program} {e : TypeId} : ∀ {ds : List (DataW H)} {d : DataW H}, d ∈ ds → ∀ n ∈ d.weights P e, n ∈ DataW.weightsAll P e ds
  | d0 :: ds, d, hd, n, hn => by
    simp only [DataW.weightsAll, List.mem_append]
    rcases List.mem_cons.1 hd with rfl | h
    · exact .inl hn
    · exact .inr (weights_mem_all h n hn)

/-- A slice of slices of bytes that came in. -/
theorem rows_bytes {w : World} {a : Addr} {len cap : Nat} {A : Nat → Option Addr} {L C : Nat → Nat} {Z : Nat → List Int} (hl : len ≤ cap) (hC : ∀ r, r < len → C r ≤ reachBytes)
    (hrows : ∀ r, r < cap → w.cell? (a.add r) = some (.slice (A r) (L r) (C r)) ∧ L r ≤ C r ∧ C r ≤ maxLen ∧ (Z r).length = C r ∧ (∀ n ∈ Z r, (Lit.int .u8 n).wf = true) ∧ (A r = none → C r = 0) ∧
        ∀ a', A r = some a' → 0 ≤ a'.block ∧ ∀ c, c < C r → w.cell? (a'.add c) = some (.int .u8 ((Z r).getD c 0))) :
    ∃ fs : List (List UInt8), fs.length = len ∧ RowL w (some a) fs ∧ ∀ j, j < fs.length → (fs.getD j []).length ≤ reachBytes := by
  have each : ∀ r, r < len → ∃ f : List UInt8, f.length = L r ∧ f.length ≤ C r ∧ Row w (A r) f := fun r hr => by
    obtain ⟨h1, h2, h3, h4, h5, h6, h7⟩ := hrows r (by omega)
    refine isRow_bytes (cap := C r) (zs := Z r) ?_
    cases hA : A r with
    | none =>
      have hC := h6 hA
      exact .inl ⟨rfl, by omega, hC, List.eq_nil_of_length_eq_zero (by omega)⟩
    | some a' => exact .inr ⟨a', rfl, h2, h3, h4, fun i hi => (h7 a' hA).2 i (by omega), h5⟩
  obtain ⟨f, hf⟩ := Go.Deep.choose_lt each
  have hlen : ((List.range len).map f).length = len := by simp
  have hget : ∀ j, j < len → ((List.range len).map f).getD j [] = f j := fun j hj => by simp [List.getD, hj]
  refine ⟨(List.range len).map f, hlen, ?_, fun j hj => ?_⟩
  · by_cases h0 : len = 0
    · left; subst h0; rfl
    · right
      obtain ⟨b, off, spot⟩ := a
      have hspot : spot = none := by
        have := (hrows 0 (by omega)).1
        simpa [Addr.add] using World.cell?_spot this
      subst hspot
      refine ⟨b, off, rfl, fun j hj => ?_⟩
      rw [hlen] at hj
      rw [hget j hj]
      obtain ⟨h1, h2, h3, h4, h5, h6, h7⟩ := hrows j (by omega)
      obtain ⟨g1, g2, g3⟩ := hf j hj
      have e2 : (⟨b, off, none⟩ : Addr).add j = ⟨b, off + j, none⟩ := by unfold Addr.add; split <;> simp_all
      rw [e2] at h1
      exact ⟨A j, C j, by rw [g1]; exact h1, g3, g2, h6⟩
  · rw [hlen] at hj
    rw [hget j hj]
    obtain ⟨g1, g2, g3⟩ := hf j hj
    exact Nat.le_trans g2 (hC j hj)

/-- What the walk is told of a slice of slices of bytes that came in. -/
def IsRows (w : World) (v : Value) : Prop := ∃ (a : Option Addr) (cap : Nat) (fs : List (List UInt8)), v = .slice a fs.length cap ∧ RowL w a fs ∧ fs.length ≤ maxLen ∧ ∀ j, j < fs.length → (fs.getD j []).length ≤ reachBytes

theorem open_lists {H : Type} {enc : TypeId × Value → H} {w : World} {d : DataW H} {ps : List MemPlace} {a : Option Addr} {len cap : Nat} {ts : List TypeId} {ds : List (DataW H)} {j : Nat}
    (hwt : (DataW.weightsEach Tryd.prog ts ds).all (· ≤ reachBytes) = true) (ht : ts[j]? = some 29) (hdj : ds[j]? = some d)
    (hd : DataW.Trod enc Tryd.prog w 0 (fun _ => true) true 29 (.slice a len cap) d ps) : IsRows w (.slice a len cap) := by
  obtain ⟨fuel, hf⟩ := hd
  rcases Go.Deep.open_int_rows Tryd.underlying29 Tryd.underlying22 Tryd.underlying5 (by kernel_rfl) (by kernel_rfl) hf with ⟨hcs, _⟩ | ⟨x, l, c, A, L, C, Z, hcs, _, hl, hm, hx, hrows⟩
  · simp [Value.cells] at hcs
    obtain ⟨rfl, rfl, rfl⟩ := hcs
    exact ⟨none, 0, [], rfl, .inl rfl, Nat.zero_le _, fun j hj => by simp at hj⟩
  · simp [Value.cells] at hcs
    obtain ⟨rfl, rfl, rfl⟩ := hcs
    have hb5 : Tryd.prog.bytesOf 5 = 1 := by kernel_rfl
    have hC : ∀ r, r < len → C r ≤ reachBytes := by
      intro r hr
      obtain ⟨h1, h2, h3, h4, h5, h6, h7⟩ := hrows r (by omega)
      cases hA : A r with
      | none => rw [h6 hA]; exact Nat.zero_le _
      | some a' =>
        have hde : d = .slice ((List.range len).map fun r => Go.Deep.intRow .u8 (A r) (L r) (Z r)) ((List.range (cap - len)).map fun j => Go.Deep.intRow .u8 (A (len + j)) (L (len + j)) (Z (len + j))) := congrArg Prod.fst hx
        have hmem : C r ∈ d.weights Tryd.prog 29 := by
          rw [hde]
          simp only [DataW.weights, Tryd.underlying29]
          refine List.mem_cons_of_mem _ (List.mem_append.2 (.inl ?_))
          refine weights_mem_all (d := Go.Deep.intRow .u8 (A r) (L r) (Z r)) (List.mem_map.2 ⟨r, by simpa using hr, rfl⟩) _ ?_
          rw [hA]
          simp only [Go.Deep.intRow, DataW.weights, Tryd.underlying22, hb5]
          refine List.mem_cons.2 (.inl ?_)
          simp [lits]
          omega
        have := List.all_eq_true.1 hwt _ (DataW.weights_mem_each ht hdj (C r) hmem)
        simpa using this
    obtain ⟨fs, g1, g2, g3⟩ := rows_bytes hl hC hrows
    exact ⟨some x, cap, fs, by rw [g1], g2, by rw [g1]; exact Nat.le_trans hl hm, g3⟩

end Go.Proofs.YtbigkblkfnnfkaaDoor
