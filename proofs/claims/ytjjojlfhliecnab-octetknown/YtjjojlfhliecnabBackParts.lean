/- What the walk of OctetBack takes: contracts with lengths of their own, and plain facts. -/
import Derived.Test.YtjjojlfhliecnabReadFields
namespace Go.Proofs.Ytjjojlfhliecnab
open Go.RowKit
set_option linter.unusedVariables false

theorem number_bytesOf (s : Nat) : ∀ n, number (bytesOf s n) = n % 256 ^ s := by
  have key : ∀ (s n acc : Nat), (bytesOf s n).foldl (fun n b => n * 256 + b.toNat) acc = acc * 256 ^ s + n % 256 ^ s := by
    intro s
    induction s with
    | zero => intro n acc; simp [bytesOf, Nat.mod_one]
    | succ s ih =>
      intro n acc
      have hlt : n / 256 ^ s % 256 < 256 := Nat.mod_lt _ (by omega)
      rw [bytesOf, List.foldl_cons, ih, ub_toNat _ hlt]
      have h1 : n % 256 ^ (s + 1) = n % 256 ^ s + 256 ^ s * (n / 256 ^ s % 256) := by
        rw [Nat.pow_succ, Nat.mod_mul]
      rw [h1, Nat.pow_succ, Nat.add_mul, Nat.mul_assoc, Nat.mul_comm 256 (256 ^ s), Nat.mul_comm (n / 256 ^ s % 256) (256 ^ s)]
      omega
  intro n
  have := key s n 0
  simpa [number] using this

theorem number_back {s n : Nat} (h : n / 256 ^ s = 0) : number (bytesOf s n) = n := by
  rw [number_bytesOf]
  apply Nat.mod_eq_of_lt
  rcases Nat.lt_or_ge n (256 ^ s) with h1 | h1
  · exact h1
  · have := Nat.div_pos h1 (Nat.pow_pos (by omega : 0 < 256))
    omega

theorem number_len (a : Option Addr) (n cap : Nat) (bs : List UInt8) (w : World) (hrow : Row w a bs) (hn : bs.length = n) (h1 : 1 ≤ n) (h8 : n ≤ 8) :
    Calls Try.prog 5 #[.slice a n cap] w fun e w' => e = .returned (.tuple #[.int .u64 (number bs), .int .i64 0]) ∧ w' = w := by
  subst hn
  exact number_ok a cap bs w hrow h1 h8

theorem enc_bound (fs : List (List UInt8)) (h : ∀ j, j < fs.length → (fs.getD j []).length ≤ 300) : ∀ k, k ≤ fs.length → (enc (fs.take k)).length ≤ 310 * k := by
  intro k
  induction k with
  | zero => intro _; simp [enc]
  | succ k ih =>
    intro hk
    have h1 := ih (by omega)
    have h2 := h k (by omega)
    have h3 := short_length 9 (fs.getD k []).length
    rw [enc_take_succ fs k (by omega)]
    simp only [List.length_append]
    omega

theorem fits_small (fs : List (List UInt8)) (hl : fs.length ≤ 40) (h : ∀ j, j < fs.length → (fs.getD j []).length ≤ 300) : FitsF fs := by
  refine ⟨by omega, ?_⟩
  have h1 := enc_bound fs h fs.length (Nat.le_refl _)
  rw [List.take_length] at h1
  have h3 := short_length 9 fs.length
  unfold fieldsText
  rw [List.length_append]
  omega

theorem rowL_of {base : Nat} {w : World} {v : Value} {L : List (Nat × Nat × List UInt8)} (hown : OwnL base w v (L.map valOf)) (hin : InL base w L) : ∃ a cap, v = .slice a (L.map fldOf).length cap ∧ (L.map fldOf).length ≤ cap ∧ RowL w a (L.map fldOf) := by
  obtain ⟨h1, ⟨rfl, h0⟩ | ⟨g, cap, cur, rfl, hg, hh, hc, hm, hs, ht⟩⟩ := hown
  · have : L = [] := by
      apply List.eq_nil_of_length_eq_zero
      rw [List.length_map] at h0
      exact h0
    subst this
    exact ⟨none, 0, rfl, Nat.le_refl _, .inl rfl⟩
  · refine ⟨_, cap, by simp, by simpa using hc, .inr ⟨g, 0, rfl, fun j hj => ?_⟩⟩
    rw [List.length_map] at hj
    have hx := hin.1 L[j] (List.getElem_mem hj)
    have e0 : (L.map fldOf).getD j [] = fldOf L[j] := by simp [List.getD, List.getElem?_eq_getElem hj]
    rw [e0, fldOf_length hx.2.1]
    refine ⟨some ⟨L[j].1, 0, none⟩, L[j].2.2.length, ?_, hx.row, hx.2.1, fun h => by cases h⟩
    simp only [World.cell?, hh, Nat.zero_add]
    have e1 : (cur.toList.take ((L.map valOf).length * 1))[j]? = some (valOf L[j]) := by
      rw [ht]
      simp [List.getElem?_map, List.getElem?_eq_getElem hj]
    rw [List.getElem?_take_of_lt (by rw [List.length_map]; omega)] at e1
    simpa [valOf] using e1

set_option maxRecDepth 100000 in
set_option maxHeartbeats 800000 in
theorem readFields_none (a : Option Addr) (cap : Nat) (w : World) :
    Calls Try.prog 11 #[.slice a 0 cap] w fun e w' => e = .returned (.tuple #[.slice none 0 0, .int .i64 4]) ∧ w' = w := by
  go_enter Try.func11, Try.ntmps11
  go_wp2_with fail
  refine (readShort_row a 0 cap [] _ (.inl rfl) rfl (by omega)).mono ?_
  rintro e w1 ⟨⟨count, size, g, rfl, hK⟩, rfl⟩
  rcases hK.out with ⟨rfl, hr⟩ | ⟨rfl, rfl, rfl, hno⟩
  · exact absurd hr (no_end (fun j hj => by simp at hj))
  · clear hK hno
    go_wp2
    go_ret2
    exact ⟨rfl, rfl⟩

/-- octet.ReadFields, whatever it reads. -/
theorem readFields_any (a : Option Addr) (n cap : Nat) (bs : List UInt8) (w : World) (hrow : Row w a bs) (hn : bs.length = n) (hcap : n ≤ cap) (hmax : n ≤ 1048576) :
    Calls Try.prog 11 #[.slice a n cap] w fun e w' => ∃ (L : List (Nat × Nat × List UInt8)) (v : Value) (E : Int), e = .returned (.tuple #[v, .int .i64 E]) ∧ OwnL w.heap.size w' v (L.map valOf) ∧ InL w.heap.size w' L ∧ Below w.heap.size w w' ∧ Hid ((E = 0 ∧ ReadsF bs (L.map fldOf)) ∨ (E = 4 ∧ L = [] ∧ ∀ fs, ¬ ReadsF bs fs)) := by
  subst hn
  have none_case : ∀ a, Calls Try.prog 11 #[.slice a 0 cap] w fun e w' => ∃ (L : List (Nat × Nat × List UInt8)) (v : Value) (E : Int), e = .returned (.tuple #[v, .int .i64 E]) ∧ OwnL w.heap.size w' v (L.map valOf) ∧ InL w.heap.size w' L ∧ Below w.heap.size w w' ∧ Hid ((E = 0 ∧ ReadsF [] (L.map fldOf)) ∨ (E = 4 ∧ L = [] ∧ ∀ fs, ¬ ReadsF [] fs)) := fun a => by
    refine (readFields_none a cap w).mono ?_
    rintro e w' ⟨rfl, rfl⟩
    refine ⟨[], _, 4, rfl, World.ownsRow_nil _ _ _ _, InL.nil _ _, Below.refl _ _, .inr ⟨rfl, rfl, fun fs h => ?_⟩⟩
    have := short_pos 9 fs.length
    have h1 := congrArg List.length h.1
    simp [fieldsText] at h1
    rw [h1.1] at this
    simp at this
  have hrow' := hrow
  rcases hrow with rfl | ⟨b, off, rfl, _⟩
  · exact none_case a
  · rcases Nat.eq_zero_or_pos bs.length with h0 | h0
    · have : bs = [] := List.eq_nil_of_length_eq_zero h0
      subst this
      exact none_case _
    · refine (readFields_full b off cap bs w hrow' hcap hmax).mono ?_
      rintro e w' (⟨v, L, h1, rfl, h2, h3, h4⟩ | ⟨h1, rfl, h2⟩)
      · exact ⟨L, v, 0, rfl, h2, h3, h4, .inl ⟨rfl, h1⟩⟩
      · exact ⟨[], _, 4, rfl, World.ownsRow_nil _ _ _ _, InL.nil _ _, h2, .inr ⟨rfl, rfl, h1⟩⟩

theorem fields_len (a : Option Addr) (n cap : Nat) (fs : List (List UInt8)) (w : World) (hrow : RowL w a fs) (hn : fs.length = n) (hfit : FitsF fs) :
    Calls Try.prog 10 #[.slice a n cap] w fun e w' => ∃ (ax : Option Addr) (lx cx : Nat), e = .returned (.tuple #[.slice ax lx cx, .int .i64 0]) ∧ Hid ((fieldsText fs).length = lx) ∧ lx ≤ cx ∧ Row w' ax (fieldsText fs) ∧ Below w.heap.size w w' := by
  subst hn
  have hfl : ∀ j, j < fs.length → (fs.getD j []).length ≤ 549755813888 := fun j hj => by
    have h1 := enc_part fs j hj
    have h2 := hfit.2
    unfold fieldsText at h2
    rw [List.length_append] at h2
    omega
  refine (fields_any a cap fs w hrow (by have := hfit.1; omega) hfl).mono ?_
  rintro e w' (⟨v, _, rfl, hown, hb⟩ | ⟨h, _⟩)
  · obtain ⟨ax, cx, rfl, hle, _, hr⟩ := hown.row
    exact ⟨ax, _, cx, rfl, rfl, hle, hr, hb⟩
  · exact absurd hfit h

theorem Row.drewN {w : World} {a : Option Addr} {bs : List UInt8} (h : Row w a bs) (n : Nat) : Row (w.drewN n) a bs := h

/-- octet.ReadFields, the new slice written out. -/
theorem readFields_sl (a : Option Addr) (n cap : Nat) (bs : List UInt8) (w : World) (hrow : Row w a bs) (hn : bs.length = n) (hcap : n ≤ cap) (hmax : n ≤ 1048576) :
    Calls Try.prog 11 #[.slice a n cap] w fun e w' => ∃ (L : List (Nat × Nat × List UInt8)) (az : Option Addr) (ls cs : Nat) (E : Int), e = .returned (.tuple #[.slice az ls cs, .int .i64 E]) ∧ Hid ((L.map fldOf).length = ls) ∧ RowL w' az (L.map fldOf) ∧ Below w.heap.size w w' ∧ Hid ((E = 0 ∧ ReadsF bs (L.map fldOf)) ∨ (E = 4 ∧ L = [] ∧ ∀ fs, ¬ ReadsF bs fs)) := by
  refine (readFields_any a n cap bs w hrow hn hcap hmax).mono ?_
  rintro e w' ⟨L, v, E, rfl, hown, hin, hb, hX⟩
  obtain ⟨az, cs, rfl, _, hr⟩ := rowL_of hown hin
  exact ⟨L, az, _, cs, E, rfl, rfl, hr, hb, hX⟩

/-- ReadHex of what Hex told. -/
theorem readHex_back (bs : List UInt8) (w : World) (hbl : bs.length ≤ 300) :
    Calls Try.prog 8 #[.string ⟨(hexOf bs).toArray⟩] w fun e w' => ∃ (ax : Option Addr) (lx cx : Nat), e = .returned (.tuple #[.slice ax lx cx, .int .i64 0]) ∧ Hid (bs.length = lx) ∧ Row w' ax bs ∧ Below w.heap.size w w' := by
  refine (readHex_all ⟨(hexOf bs).toArray⟩ w (by rw [size_mk, hexOf_length]; omega)).mono ?_
  rintro e w' ⟨ax, lx, cx, E, xs, rfl, hxl, hrow, hb, hX⟩
  have hu : unhex (bytes ⟨(hexOf bs).toArray⟩) = some bs := unhex_hex bs
  rcases hX.out with ⟨h1, rfl⟩ | ⟨h1, _⟩
  · rw [hu] at h1
    cases h1
    exact ⟨ax, lx, cx, rfl, hxl, hrow, hb⟩
  · rw [hu] at h1
    cases h1

/-- ReadFields of what Fields told. -/
theorem readFields_back (a : Option Addr) (n cap : Nat) (fs : List (List UInt8)) (w : World) (hrow : Row w a (fieldsText fs)) (hn : (fieldsText fs).length = n) (hcap : n ≤ cap) (hfit : FitsF fs) :
    Calls Try.prog 11 #[.slice a n cap] w fun e w' => ∃ (ag : Option Addr) (cg : Nat), e = .returned (.tuple #[.slice ag fs.length cg, .int .i64 0]) ∧ RowL w' ag fs ∧ Below w.heap.size w w' := by
  refine (readFields_any a n cap (fieldsText fs) w hrow hn hcap (by rw [← hn]; exact hfit.2)).mono ?_
  rintro e w' ⟨L, v, E, rfl, hown, hin, hb, hX⟩
  rcases hX.out with ⟨rfl, h1⟩ | ⟨_, _, h1⟩
  · have e : L.map fldOf = fs := fieldsText_inj (by rw [h1.1]; exact hfit.2) h1.1
    obtain ⟨ag, cg, rfl, _, hr⟩ := rowL_of hown hin
    rw [e] at hr ⊢
    exact ⟨ag, cg, rfl, hr, hb⟩
  · exact absurd ⟨rfl, hfit.1, hfit.2⟩ (h1 fs)

/-- Two slices of the same bytes. -/
theorem same_true (a1 a2 : Option Addr) (n1 n2 c1 c2 : Nat) (bs : List UInt8) (w : World) (h1 : Row w a1 bs) (h2 : Row w a2 bs) (e1 : bs.length = n1) (e2 : bs.length = n2) :
    Calls Try.prog 14 #[.slice a1 n1 c1, .slice a2 n2 c2] w fun e w' => e = .returned (.bool true) ∧ w' = w := by
  have := same_len a1 a2 n1 n2 c1 c2 bs bs w h1 h2 e1 e2
  rwa [beq_self_eq_true] at this

/-- Fields of what ReadFields read. -/
theorem fields_again (bs : List UInt8) (L : List (Nat × Nat × List UInt8)) (E : Int) (a : Option Addr) (n cap : Nat) (w : World) (hrow : RowL w a (L.map fldOf)) (hn : (L.map fldOf).length = n) (hX : Hid ((E = 0 ∧ ReadsF bs (L.map fldOf)) ∨ (E = 4 ∧ L = [] ∧ ∀ fs, ¬ ReadsF bs fs))) :
    Calls Try.prog 10 #[.slice a n cap] w fun e w' => ∃ (ax : Option Addr) (lx cx : Nat) (T : List UInt8), e = .returned (.tuple #[.slice ax lx cx, .int .i64 0]) ∧ Hid (T.length = lx) ∧ Row w' ax T ∧ Below w.heap.size w w' ∧ Hid ((E = 0 ∧ T = bs) ∨ E = 4) := by
  have hfit : FitsF (L.map fldOf) := by
    rcases hX.out with ⟨_, h⟩ | ⟨_, rfl, _⟩
    · exact ⟨h.2.1, by rw [h.1]; exact h.2.2⟩
    · exact ⟨by decide, by decide⟩
  refine (fields_len a n cap (L.map fldOf) w hrow hn hfit).mono ?_
  rintro e w' ⟨ax, lx, cx, rfl, hl, hle, hr, hb⟩
  refine ⟨ax, lx, cx, _, rfl, hl, hr, hb, ?_⟩
  rcases hX.out with ⟨h0, h⟩ | ⟨h4, _⟩
  · exact .inl ⟨h0, h.1⟩
  · exact .inr h4

end Go.Proofs.Ytjjojlfhliecnab
