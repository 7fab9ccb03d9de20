/- octet.Words: the words of a line. -/
import Derived.Test.YtjjojlfhliecnabTexts
namespace Go.Proofs.Ytjjojlfhliecnab
open Go.RowKit
set_option linter.unusedVariables false

/-- How long a slice in a slot is. -/
def restLen : Value → Nat | .slice _ n _ => n | _ => 0
/-- A truth in a slot as a number. -/
def moreN : Value → Nat | .bool true => 1 | _ => 0

theorem cut_len (b off cap g2 n : Nat) (bs : List UInt8) (w : World) (hn : bs.length = n) (hc : ∀ j, j < bs.length → w.cell? ⟨b, off + j, none⟩ = some (.int .u8 ((bs.getD j 0).toNat : Int))) (h2 : w.cell? ⟨g2, 0, none⟩ = some (.int .u8 32)) (hcap : n ≤ cap) (hmax : n ≤ 1099511627776) :
    Calls Try.prog 22 #[.slice (some ⟨b, off, none⟩) n cap, .slice (some ⟨g2, 0, none⟩) 1 1] w fun e w' =>
      ((e = .returned (.tuple #[.slice (some ⟨b, off, none⟩) n cap, .slice none 0 0, .bool false]) ∧ Hid (splitB bs = [bs])) ∨
       ∃ (i off' : Nat), e = .returned (.tuple #[.slice (some ⟨b, off, none⟩) i cap, .slice (some ⟨b, off', none⟩) (n - (i + 1)) (cap - (i + 1)), .bool true]) ∧ i < n ∧ (i + 1 < n → off' = off + (i + 1)) ∧ Hid (splitB bs = bs.take i :: splitB (bs.drop (i + 1)))) ∧ Below w.heap.size w w' := by
  subst hn
  refine (cut_any b off cap g2 bs w hc h2 hcap hmax).mono ?_
  rintro e w' ⟨h, q, rfl⟩
  exact ⟨h, drewN_below0 _ _ _⟩

theorem owns_base {w : World} {base base' : Nat} {e : TypeId} {size : Nat} {v : Value} {n : Nat} {xs : List Value} (h : w.ownsRow base e size v n xs) (hb : base' ≤ base) : w.ownsRow base' e size v n xs := by
  obtain ⟨h1, h2⟩ := h
  refine ⟨h1, ?_⟩
  rcases h2 with h2 | ⟨g, cap, cur, e1, e2, e3⟩
  · exact .inl h2
  · exact .inr ⟨g, cap, cur, e1, by omega, e3⟩

theorem take_getD (R : List UInt8) (i j : Nat) : (R.drop i).getD j 0 = R.getD (i + j) 0 := by simp [List.getD]

/-- What Words answers. -/
def WordsIs (l : List UInt8) (ws : List (List UInt8)) (E : Int) : Prop :=
  (lineOk true l = false ∧ ws = [] ∧ E = 4) ∨ (lineOk true l = true ∧ 64 < (splitB l).length ∧ ws = [] ∧ E = 3) ∨ (lineOk true l = true ∧ (splitB l).length ≤ 64 ∧ ws = splitB l ∧ E = 0)

theorem WordsIs.one {l : List UInt8} {ws ws' : List (List UInt8)} {E E' : Int} (a : WordsIs l ws E) (b : WordsIs l ws' E') : ws = ws' ∧ E = E' := by
  rcases a with ⟨a1, rfl, rfl⟩ | ⟨a1, a2, rfl, rfl⟩ | ⟨a1, a2, rfl, rfl⟩ <;> rcases b with ⟨b1, rfl, rfl⟩ | ⟨b1, b2, rfl, rfl⟩ | ⟨b1, b2, rfl, rfl⟩ <;>
  first
    | exact ⟨rfl, rfl⟩
    | (exfalso; omega)
    | (exfalso; rw [a1] at b1; cases b1)

set_option maxRecDepth 100000 in
set_option maxHeartbeats 3200000 in
theorem words_any (s : ByteArray) (w : World) (hs : s.size ≤ 268435456) :
    Calls Try.prog 9 #[.string s] w fun e w' => ∃ (ws : List (List UInt8)) (v : Value) (E : Int), e = .returned (.tuple #[v, .int .i64 E]) ∧ WordsIs (bytes s) ws E ∧ OwnS w.heap.size w' v ws ∧ Below w.heap.size w w' := by
  cases hline : lineOk true (bytes s) with
  | false =>
    have HL : Hid (lineOk true (bytes s) = false) := hline
    clear hline
    go_enter Try.func9, Try.ntmps9
    go_wp2_with fail
    refine (isLine_any s _ (by omega)).mono ?_
    rintro e w1 ⟨rfl, rfl⟩
    rw [HL.out]
    go_wp2
    go_ret2
    exact ⟨[], _, 4, rfl, .inl ⟨HL.out, rfl, rfl⟩, OwnS.nil _ _, Below.refl _ _⟩
  | true =>
    have HL : Hid (lineOk true (bytes s) = true) := hline
    clear hline
    obtain ⟨N, hN⟩ : ∃ N, N = (bytes s).count 32 := ⟨_, rfl⟩
    have HN : Hid (N = (bytes s).count 32) := hN
    clear hN
    by_cases h64 : 64 ≤ N
    · go_enter Try.func9, Try.ntmps9
      go_wp2_with fail
      refine (isLine_any s _ (by omega)).mono ?_
      rintro e w1 ⟨rfl, rfl⟩
      rw [HL.out]
      go_wp2_with fail
      refine (count_any s _).mono ?_
      rintro e w2 ⟨rfl, rfl⟩
      rw [← HN.out]
      go_wp2
      go_ret2
      exact ⟨[], _, 3, rfl, .inr (.inl ⟨HL.out, by rw [count_words, ← HN.out]; omega, rfl, rfl⟩), OwnS.nil _ _, Below.refl _ _⟩
    · obtain ⟨W1, cap1, hrun, hcap1, hcells, hb1, hlt1⟩ := conv_bytes s w
      have HCELLS : Hid (∀ j, j < (bytes s).length → W1.cell? ⟨w.heap.size, 0 + j, none⟩ = some (.int .u8 (((bytes s).getD j 0).toNat : Int))) := hcells
      clear hcells
      have HLS : Hid ((bytes s).length = s.size) := bytes_length s
      go_enter Try.func9, Try.ntmps9
      go_wp2_with fail
      refine (isLine_any s _ (by omega)).mono ?_
      rintro e w1 ⟨rfl, rfl⟩
      rw [HL.out]
      go_wp2_with fail
      refine (count_any s _).mono ?_
      rintro e w2 ⟨rfl, rfl⟩
      rw [← HN.out]
      go_wp2
      go_loopw [4, 5, 6] (fun v t m wr => ∃ (ws : List (List UInt8)) (b : Bool), m = .bool b ∧ OwnS W1.heap.size wr v ws ∧ Below W1.heap.size W1 wr ∧ Hid (b = false → ws = splitB (bytes s)) ∧
          Hid (b = true → ∃ (R : List UInt8) (off n cap : Nat), t = .slice (some ⟨w2.heap.size, off, none⟩) n cap ∧ R.length = n ∧ n ≤ cap ∧ n ≤ s.size ∧ ws.length + n ≤ s.size ∧ (∀ j, j < R.length → W1.cell? ⟨w2.heap.size, off + j, none⟩ = some (.int .u8 ((R.getD j 0).toNat : Int))) ∧ ws ++ splitB R = splitB (bytes s)))
        (fun _ t m _ => restLen t + moreN m)
      case atStart => exact ⟨[], true, rfl, OwnS.nil _ _, Below.refl _ _, (fun h => by cases h), (fun _ => ⟨bytes s, 0, s.size, cap1, rfl, HLS.out, hcap1, Nat.le_refl _, by simp, HCELLS.out, by simp⟩)⟩
      case round =>
        obtain ⟨ws, b, rfl, hown, hbel, hf, ht⟩ := hrel
        cases b with
        | false =>
          have HW : Hid (ws = splitB (bytes s)) := hf.out rfl
          clear hf ht
          go_wp2
          go_ret2
          exact ⟨ws, _, 0, rfl, .inr (.inr ⟨HL.out, by rw [count_words, ← HN.out]; omega, HW.out, rfl⟩), owns_base hown (Nat.le_of_lt hlt1), hb1.trans (hbel.mono hb1.size)⟩
        | true =>
          obtain ⟨R, off, n, cap, rfl, hRn, hnc, hns, hwn, hcl, hsp⟩ := ht.out rfl
          have hbX : Below W1.heap.size W1 (wr.alloc (.cells #[.int .u8 32] 5)) := hbel.alloc hbel.size _
          have hcX : ∀ j, j < R.length → (wr.alloc (.cells #[.int .u8 32] 5)).cell? ⟨w2.heap.size, off + j, none⟩ = some (.int .u8 ((R.getD j 0).toNat : Int)) := fun j hj => by
            rw [hbX.cell (by exact hlt1)]; exact hcl j hj
          have h2X : (wr.alloc (.cells #[.int .u8 32] 5)).cell? ⟨wr.heap.size, 0, none⟩ = some (.int .u8 32) := by simp
          have HSP : Hid (ws ++ splitB R = splitB (bytes s)) := hsp
          have HRN : Hid (R.length = n) := hRn
          have HCL : Hid (∀ j, j < R.length → W1.cell? ⟨w2.heap.size, off + j, none⟩ = some (.int .u8 ((R.getD j 0).toNat : Int))) := hcl
          have HCX : Hid (∀ j, j < R.length → (wr.alloc (.cells #[.int .u8 32] 5)).cell? ⟨w2.heap.size, off + j, none⟩ = some (.int .u8 ((R.getD j 0).toNat : Int))) := hcX
          have hownX : OwnS W1.heap.size (wr.alloc (.cells #[.int .u8 32] 5)) u4 ws := World.ownsRow.alloc hown _
          clear ht hf hsp hRn hcl hcX
          go_wp2_with fail
          refine (cut_len w2.heap.size off cap wr.heap.size n R _ HRN.out HCX.out h2X hnc (by omega)).mono ?_
          rintro e w3 ⟨⟨rfl, HS⟩ | ⟨i, off', rfl, hin, hoff, HS⟩, hb3⟩
          · have hW3 : Below W1.heap.size W1 w3 := hbX.trans (hb3.mono hbX.size)
            have hown3 := hownX.below hb3
            have hcv : (convert 22 9 (.slice (some ⟨w2.heap.size, off, none⟩) n cap)).run Try.prog w3 = .ok (.string ⟨R.toArray⟩) w3 := conv_len (Row.below (.inr ⟨w2.heap.size, off, rfl, HCL.out⟩ : Row W1 _ R) hW3) n cap HRN.out
            have HF : Hid (ws ++ [R] = splitB (bytes s)) := by show _ = _; rw [← HSP.out, HS.out]
            clear hownX hb3 hbX h2X hown
            go_wp2_with (at_builtin; refine appS (.tmp 24) (.tmp 27) _ R W1.heap.size _ ws rfl rfl rfl rfl hown3 rfl (by omega) hW3.size ?_)
            intro v' w4 hown4 hb4
            have hW4 := hW3.trans hb4
            clear hown3 hW3 hb4 hcv
            go_wp2
            go_roundw
            case rel => exact ⟨_, false, rfl, hown4, hW4, fun _ => HF.out, fun h => by cases h⟩
            case measure => simp [restLen, moreN]
          · have hW3 : Below W1.heap.size W1 w3 := hbX.trans (hb3.mono hbX.size)
            have hown3 := hownX.below hb3
            have hcv : (convert 22 9 (.slice (some ⟨w2.heap.size, off, none⟩) i cap)).run Try.prog w3 = .ok (.string ⟨(R.take i).toArray⟩) w3 := conv_len ((Row.below (.inr ⟨w2.heap.size, off, rfl, HCL.out⟩ : Row W1 _ R) hW3).take i) i cap (by rw [List.length_take, HRN.out]; omega)
            obtain ⟨T, hT⟩ : ∃ T, T = R.take i := ⟨_, rfl⟩
            rw [← hT] at hcv
            have HF : Hid ((ws ++ [T]) ++ splitB (R.drop (i + 1)) = splitB (bytes s)) := by show _ = _; rw [← HSP.out, HS.out, hT]; simp
            have HOFF : Hid (i + 1 < n → off' = off + (i + 1)) := hoff
            clear hownX hb3 hbX h2X hown hT hoff
            go_wp2_with (at_builtin; refine appS (.tmp 24) (.tmp 27) _ T W1.heap.size _ ws rfl rfl rfl rfl hown3 rfl (by omega) hW3.size ?_)
            intro v' w4 hown4 hb4
            have hW4 := hW3.trans hb4
            clear hown3 hW3 hb4 hcv
            go_wp2
            go_roundw
            case rel => exact ⟨_, true, rfl, hown4, hW4, (fun h => by cases h), fun _ => ⟨R.drop (i + 1), off', n - (i + 1), cap - (i + 1), rfl, by rw [List.length_drop, HRN.out], by omega, by omega, by simp; omega, fun j hj => by
              have hj' : i + 1 + j < R.length := by rw [List.length_drop] at hj; omega
              have hRl := HRN.out
              rw [HOFF.out (by omega), take_getD, Nat.add_assoc]
              exact HCL.out (i + 1 + j) hj', HF.out⟩⟩
            case measure => simp [restLen, moreN]; omega
end Go.Proofs.Ytjjojlfhliecnab
