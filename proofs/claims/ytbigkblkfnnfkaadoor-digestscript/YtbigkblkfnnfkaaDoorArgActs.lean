/- What a script that came in is known by: its calls, each by its kind and its bytes, and how they lie. -/
import Derived.Test.YtbigkblkfnnfkaaDoorArg
import Derived.Test.YtbigkblkfnnfkaaDoorScript
import Derived.Deep.SlicePairs
namespace Go.Proofs.YtbigkblkfnnfkaaDoor
open Go.ChangeShapes Go.WideShapes Go.ChangeAt Go.RowKit
set_option linter.unusedVariables false

theorem open_acts {H : Type} {enc : TypeId × Value → H} {w : World} {d : DataW H} {ps : List MemPlace} {a : Option Addr} {len cap : Nat}
    (hd : DataW.Trod enc Tryd.prog w 0 (fun _ => true) true 43 (.slice a len cap) d ps) : ∃ xs : List (Nat × List UInt8), xs.length = len ∧ ActRow w a xs := by
  obtain ⟨fuel, hf⟩ := hd
  rcases Go.Deep.open_slice_pairs Tryd.underlying43 Tryd.underlying48 (by kernel_rfl) rfl rfl (by kernel_rfl) (by kernel_rfl) hf with ⟨hcs, _⟩ | ⟨x, l, c, m, n, V0, V1, D0, D1, P0, P1, hcs, _, hl, hm, hmm, hx, hcell⟩
  · simp [Value.cells] at hcs
    obtain ⟨rfl, rfl, rfl⟩ := hcs
    exact ⟨[], rfl, .inl rfl⟩
  · simp [Value.cells] at hcs
    obtain ⟨rfl, rfl, rfl⟩ := hcs
    simp only [if_true] at hmm
    subst hmm
    have each : ∀ r, r < len → ∃ q : Nat × List UInt8, q.1 < 256 ∧ w.cell? (x.add (r * 2)) = some (.int .u8 (q.1 : Int)) ∧
        ∃ fa fc, w.cell? (x.add (r * 2 + 1)) = some (.slice fa q.2.length fc) ∧ Row w fa q.2 ∧ q.2.length ≤ fc ∧ (fa = none → fc = 0) := by
      intro r hr
      obtain ⟨h0, h1, t0, t1⟩ := hcell r (by omega)
      obtain ⟨k, e1, e2, hw⟩ := DataW.trod_int Tryd.underlying5 t0
      have e1' : V0 r = .int .u8 k := by simpa using e1
      have hb : 0 ≤ k ∧ k ≤ 255 := by simpa [Lit.wf, IntKind.min, IntKind.max, IntKind.signed, IntKind.bits] using hw
      have hk : ((k.toNat : Nat) : Int) = k := by omega
      rcases open_ints Tryd.underlying22 Tryd.underlying5 (by kernel_rfl) t1 with ⟨hc, _⟩ | ⟨y, l', c', zs, hc, _, hl', hm', hz, _, hcl, hwz⟩
      · have e : V1 r = .slice none 0 0 := by simpa using hc
        exact ⟨(k.toNat, []), by show k.toNat < 256; omega, by rw [h0, e1', hk], none, 0, by rw [h1, e]; rfl, .inl rfl, Nat.le_refl _, fun _ => rfl⟩
      · have e : V1 r = .slice (some y) l' c' := by simpa using hc
        obtain ⟨f, g1, g2, g3⟩ := isRow_bytes (w := w) (a := some y) (len := l') (cap := c') (zs := zs) (.inr ⟨y, rfl, hl', hm', by simpa using hz, hcl, hwz⟩)
        exact ⟨(k.toNat, f), by show k.toNat < 256; omega, by rw [h0, e1', hk], some y, c', by rw [h1, e, g1], g3, g2, fun h => by cases h⟩
    obtain ⟨q, hq⟩ := Go.Deep.choose_lt each
    have hlen : ((List.range len).map q).length = len := by simp
    have hget : ∀ j, j < len → ((List.range len).map q).getD j (0, []) = q j := fun j hj => by simp [List.getD, hj]
    refine ⟨(List.range len).map q, hlen, ?_⟩
    by_cases h0 : len = 0
    · left; subst h0; rfl
    · right
      obtain ⟨b, off, spot⟩ := x
      have hspot : spot = none := by
        have := (hq 0 (by omega)).2.1
        simpa [Addr.add] using World.cell?_spot this
      subst hspot
      refine ⟨b, off, rfl, fun j hj => ?_⟩
      rw [hlen] at hj
      rw [hget j hj]
      have e2 : ∀ k, (⟨b, off, none⟩ : Addr).add k = ⟨b, off + k, none⟩ := fun k => by unfold Addr.add; split <;> simp_all
      obtain ⟨g1, g2, fa, fc, g3, g4⟩ := hq j hj
      rw [e2] at g2 g3
      exact ⟨g1, g2, fa, fc, g3, g4⟩

set_option maxRecDepth 100000 in
theorem script_long (a : Option Addr) (cap n : Nat) (w : World) (h : 40 < n) :
    Calls Tryd.prog 6 #[.slice a n cap] w fun e w' => e = .returned (.bool true) ∧ Below w.heap.size w w' := by
  have d1 : decide (40 < (n : Int)) = true := by simp; omega
  go_enter Tryd.func6, Tryd.ntmps6
  go_wp2
  go_ret
  exact ⟨rfl, Below.refl _ _⟩

end Go.Proofs.YtbigkblkfnnfkaaDoor
