/- J -/
import Derived.Test.YtjgggmjjikopeaaGreatDoorJ19
set_option linter.unusedVariables false
set_option maxRecDepth 100000
set_option maxHeartbeats 6400000
open Go.RowKit
namespace Go.Proofs.YtjgggmjjikopeaaGreatDoor
theorem zgX : zbS 0 /\ za1 0 /\ zf4 0 :=
 ⟨fun n d l R _ _ _ h => by simp [y6] at h, fun d l R _ h => by simp [operF] at h, fun d l R _ h => by simp [brkF] at h⟩
theorem zg3 (f : Nat) : ∀ k, k <= f -> zbS k /\ za1 k /\ zf4 k := by
 induction f with
 | zero =>
  intro k hk; obtain rfl : k = 0 := by omega
  exact zgX
 | succ f ih =>
  intro k hk
  by_cases e : k = f + 1
  ·subst e
   exact ⟨zgm f (ih f (zj _)).2.1 fun j hj => (ih j (by omega)).1, zbr f (ih f (zj _)).2.1 (ih f (zj _)).2.2, zbK f (ih f (zj _)).1⟩
  ·exact ih k (by omega)
theorem jE (d : Nat) (l : List Tk) (R : Rs Ex) (hd : d <= 32) (h : ∃ f, y6 f 1 d l = some R) (B g : Nat) (w : World) (hr : Rd B w g l) (hB : B <= w.heap.size) :
  Calls Tryz.prog 38 #[.pointer (some ⟨g, 0, none⟩), .int .i64 (d : Int)] w fun r w' => YE B g w R r w' := by
 obtain ⟨f, h⟩ := h
 exact zch f (zg3 f f (zj _)).1 d l R hd h B g w hr hB
def Zc (l : List Tk) : Rs Unit := if 1 < l.length then .bad 4 (hdT l).place else .ok () l
theorem zci {B : Nat} (g : Nat) (l : List Tk) (w : World) (h : Rd B w g l) :
  Calls Tryz.prog 27 #[.pointer (some ⟨g, 0, none⟩)] w fun r w' => KM B g w (Zc l) r w' := by
 obtain ⟨a, c, hc⟩ : ∃ a c, w.cell? ⟨g, 0, none⟩ = some (.slice a l.length c) := by
  obtain ⟨gt, o, c, h, _⟩ := h
  exact ⟨_, _, h.cell.cell 0⟩
 have hN := Zi g l w h
 have HR : Hid (Rd B w g l) := h
 have hlg := h.lt
 clear h
 by_cases hl : 1 < l.length
 ·have e : Zc l = .bad 4 (hdT l).place := by unfold Zc; rw [zi hl]
  rw [e]
  generalize l.length = n at hc hl
  generalize (hdT l).place = p at hN ⊢
  go_enter Tryz.func27, Tryz.ntmps27
  go_wp2_with (first
   | (go_at_call 60; refine hN.mono ?_; rintro r w3 ⟨hr, hb3⟩; unfold zV at hr; subst hr))
  exact ⟨rfl, rfl, But.of_below hb3⟩
 ·have e : Zc l = .ok () l := by unfold Zc; rw [ze hl]
  rw [e]
  generalize hn : l.length = n at hc hl
  clear hn
  go_enter Tryz.func27, Tryz.ntmps27
  go_wp2
  go_end0
  exact ⟨rfl, HR.out, But.refl _ _⟩
def Zd (t : Tk) : Prop := t.bits < 18446744073709551616 /\ (t.kind = 2 \/ t.kind = 3 -> 48 <= (t.text.getD 0 0).toNat /\ (t.text.getD 0 0).toNat <= 57)
theorem zbR (x : List UInt8) (h : 1 <= (zw x).length) : (zw x).getD 0 0 = x.getD 0 0 := by
 cases x with
 | nil => simp [zw] at h
 | cons c r =>
  unfold zw at h ⊢
  rw [List.takeWhile_cons] at h ⊢
  split at h
  ·next hc => rw [zi hc]; rfl
  ·simp at h
theorem zfd (K : Nat) (x : List UInt8) (p : Nat) (h : zG K x = 0) : Zd (Xn K x p) := by
 unfold zG at h
 unfold Zd Xn ZT
 dsimp only
 by_cases k1 : K = 1
 ·subst k1
  refine ⟨by rw [ze (by decide), ze (by decide)]; decide, fun q => by omega⟩
 rw [ze k1] at h
 by_cases k2 : K = 2
 ·subst k2
  rw [zi rfl] at h ⊢
  by_cases hg : zO x
  ·exact ⟨by have := hg.2.2.2; omega, fun _ => hg.2.2.1 0 hg.1⟩
  ·rw [ze hg] at h
   omega
 rw [ze k2] at h ⊢
 by_cases k3 : K = 3
 ·subst k3
  rw [zi rfl] at h ⊢
  by_cases hg : yO x
  ·refine ⟨zgo _ _, fun _ => ?_⟩
   rw [<- zbR x hg.2.2.2.1.1]
   exact hg.2.2.2.1.2.2.1 0 hg.2.2.2.1.1
  ·rw [ze hg] at h
   omega
 rw [ze k3]
 exact ⟨by decide, fun q => by omega⟩
theorem zeY {a : List Tk} {r : Out} (ha : ∀ t ∈ a, Zd t) (hr : ∀ t ∈ r.toks, Zd t) : ∀ t ∈ (r.ahead a).toks, Zd t := by
 unfold Out.ahead
 split
 ·intro t ht
  rcases List.mem_append.1 ht with h | h
  ·exact ha t h
  ·exact hr t h
 ·exact hr
theorem zdx {t : Tk} {r : Out} {n : Nat} (hr : r.toks.length <= n) : (r.ahead [t]).toks.length <= n + 1 := by
 unfold Out.ahead
 split
 ·simp; omega
 ·omega
theorem zcb (l : List UInt8) (f : Nat) : ∀ p, (∀ t ∈ (ZR l f p).toks, Zd t) /\ (ZR l f p).toks.length <= f := by
 induction f with
 | zero => intro p; exact ⟨fun t ht => by simp [ZR] at ht, by simp [ZR]⟩
 | succ f ih =>
  intro p
  rw [ZR]
  dsimp only
  split
  ·exact ⟨fun t ht => by simp at ht, by simp⟩
  ·split
   ·exact ⟨fun t ht => by simp at ht, by simp⟩
   ·next he =>
    split
    ·exact ⟨fun t ht => by simp at ht, by simp⟩
    ·refine ⟨zeY (fun t ht => ?_) (ih _).1, zdx (ih _).2⟩
     rw [List.mem_singleton.1 ht]
     exact zfd _ _ _ (by simpa using he)
theorem qm (l : List UInt8) : (∀ t ∈ (y9 l).toks, Zd t) /\ (y9 l).toks.length <= 16385 := by
 unfold y9
 split
 ·exact ⟨fun t ht => by simp at ht, by simp⟩
 ·exact ⟨(zcb l _ _).1, by have := (zcb l (l.length + 1) (skN l)).2; omega⟩
def yK (l : List UInt8) : List Tk := (y9 l).toks ++ [⟨0, [], l.length, 0⟩]
def KO (w : World) (l : List UInt8) (r : Ending) (w' : World) : Prop :=
 if (y9 l).err = 0 then ∃ g, r = .returned (.pointer (some ⟨g, 0, none⟩)) /\ Rd w'.heap.size w' g (yK l) /\ w.heap.size <= g /\ Below w.heap.size w w'
 else r = zV (y9 l).err (y9 l).place /\ Below w.heap.size w w'
theorem KB {w : World} {g : Nat} {L : List Tk} (h : ∀ i t, L[i]? = some t -> w.rangeAt g (i * 5) t.cells) : w.rangeAt g 0 (Yp L) := by
 intro j v hj
 have hjl : j < L.length * 5 := by rw [<- zaP]; exact (List.getElem?_eq_some_iff.1 hj).1
 obtain ⟨t, ht⟩ : ∃ t, L[j / 5]? = some t := ⟨L[j / 5]'(by omega), by rw [yD]⟩
 have e := qv L (j / 5) t ht
 have := h (j / 5) t ht (j % 5) v (by
  rw [<- e, List.getElem?_take, zi (by omega), List.getElem?_drop, show j / 5 * 5 + j % 5 = j by omega]
  exact hj)
 rwa [show j / 5 * 5 + j % 5 = 0 + j by omega] at this
theorem y8 {w : World} {g e p : Nat} (h : At 29 w g (fa2 e p)) : w.cell? ⟨g, 0, none⟩ = some (.int .i64 (e : Int)) /\ w.cell? ⟨g, 1, none⟩ = some (.int .i64 (p : Int)) := by
 refine ⟨?_, ?_⟩ <;> (rw [h.cell]; rfl)
theorem zat (s : ByteArray) (w : World) (hmax : s.size <= 9223372036854775807) (hE : ErrR w) :
  Calls Tryz.prog 25 #[.string s] w fun r w' => KO w (bytes s) r w' := by
 have hL := zfA s w hmax hE
 have hok := qm (bytes s)
 have hsz : (bytes s).length = s.size := zc s
 have HP : Hid (∀ r w', KO w (bytes s) r w' = if (y9 (bytes s)).err = 0 then ∃ g, r = .returned (.pointer (some ⟨g, 0, none⟩)) /\ Rd w'.heap.size w' g ((y9 (bytes s)).toks ++ [⟨0, [], s.size, 0⟩]) /\ w.heap.size <= g /\ Below w.heap.size w w' else r = zV (y9 (bytes s)).err (y9 (bytes s)).place /\ Below w.heap.size w w') := fun r w' => by
  unfold KO yK
  rw [hsz]
 unfold Y6 at hL
 generalize y9 (bytes s) = O at *
 obtain ⟨ts, er, pl⟩ := O
 dsimp only at hL HP hok
 by_cases hc : er = 0
 ·subst hc
  refine Calls.mono (R := fun r w' => ∃ g, r = .returned (.pointer (some ⟨g, 0, none⟩)) /\ Rd w'.heap.size w' g (ts ++ [⟨0, [], s.size, 0⟩]) /\ w.heap.size <= g /\ Below w.heap.size w w') ?_ (fun r w' h => by rw [HP.out, zi rfl]; exact h)
  clear HP
  go_enter Tryz.func25, Tryz.ntmps25
  go_wp2_with (first
   | (go_at_call 22; refine hL.mono ?_; rintro r w1 ⟨v, rfl, hTk, hb1⟩)
   | (refine aL (o := { dst := some 4, .. }) rfl rfl z25 ?_; intro w2 hA2 hb2)
   | (refine sL rfl rfl hA2 (fa2 0 pl) rfl rfl i25 rfl (yq _ _) ?_; intro w3 hA3 hb3; refine zb ?_))
  refine zd ?_
  have l1 := hb1.size
  have l2 := hb2.size
  have l3 := hb3.size
  have hB3 : Below w.heap.size w w3 := hb3.below (hb1.trans (hb2.mono hb1.size)) hb1.size (zQ hb1.size hb2.size)
  obtain ⟨c0, c1⟩ := y8 hA3
  have hTk3 : Toks w.heap.size w3 v ts := hTk.keep fun g _ hlt => by rw [hb3.block g (by omega) (by omega), hb2.block g hlt]
  clear hL hTk hA2 hb1 hb2 hb3 hA3
  go_wp2_with (first
   | (refine zg rfl 64 _ rfl (zm 0 ⟨#[]⟩ s.size 0 0) (by kernel_rfl) ?_)
   | (refine Y7 rfl (.tmp 21) rfl 0 ⟨#[]⟩ s.size 0 0 rfl ?_; intro w4 hA4 hb4 hs4; clear hs4)
   | (refine Jp rfl (.tmp 18) (.tmp 22) rfl w.heap.size w3.heap.size v ts ⟨0, [], s.size, 0⟩ rfl rfl (hTk3.below hb4) hA4 (by omega) (zQ hB3.size hb4.size) ?_; intro v5 w5 hTk5 hb5; refine zb ?_))
  refine zd ?_
  rcases hTk5.open with ⟨_, h0⟩ | ⟨gt, cap, rfl, g1, g2, g3, g4, g5, g6⟩
  ·simp at h0
  have hB5 : Below w.heap.size w w5 := (hB3.trans (hb4.mono hB3.size)).trans hb5
  have HR : Hid (∀ w6, At 97 w6 w5.heap.size [.slice (some ⟨gt, 0, none⟩) (ts ++ [(⟨0, [], s.size, 0⟩ : Tk)]).length cap] -> Below w5.heap.size w5 w6 -> Rd w6.heap.size w6 w5.heap.size (ts ++ [⟨0, [], s.size, 0⟩])) := fun w6 h1 h2 =>
   ⟨gt, 0, cap, ⟨h1, by omega, g3, fun j v hj => by rw [World.cell?_of_block (w := w5) (h2.block gt g2)]; exact KB g5 j v hj, ⟨ts, s.size, rfl⟩, fun t ht => by
    rcases List.mem_append.1 ht with q | q
    ·exact (hok.1 t q).1
    ·rw [List.mem_singleton.1 q]
     exact (by omega : 0 < 18446744073709551616)⟩, Zy g2 h2.size, h1.lt⟩
  generalize (ts ++ [(⟨0, [], s.size, 0⟩ : Tk)]).length = n at *
  clear hTk5 hTk3 hb4 hb5 hA4 g5 g6 hB3
  go_wp2_with (first
   | (refine zg rfl 97 _ rfl [.slice (some ⟨gt, 0, none⟩) n cap] (by kernel_rfl) ?_)
   | (refine yF rfl rfl [.slice (some ⟨gt, 0, none⟩) n cap] rfl ?_; intro w6 hA6 hb6))
  go_ret
  exact ⟨w5.heap.size, rfl, HR.out w6 hA6 hb6, hB5.size, hB5.trans (hb6.mono hB5.size)⟩
 ·refine Calls.mono (R := fun r w' => r = zV er pl /\ Below w.heap.size w w') ?_ (fun r w' h => by rw [HP.out, ze hc]; exact h)
  clear HP
  go_enter Tryz.func25, Tryz.ntmps25
  go_wp2_with (first
   | (go_at_call 22; refine hL.mono ?_; rintro r w1 ⟨v, rfl, hTk, hb1⟩)
   | (refine aL (o := { dst := some 4, .. }) rfl rfl z25 ?_; intro w2 hA2 hb2)
   | (refine sL rfl rfl hA2 (fa2 er pl) rfl rfl i25 rfl (yq _ _) ?_; intro w3 hA3 hb3; refine zb ?_))
  refine zd ?_
  have hB3 : Below w.heap.size w w3 := hb3.below (hb1.trans (hb2.mono hb1.size)) hb1.size (zQ hb1.size hb2.size)
  obtain ⟨c0, c1⟩ := y8 hA3
  clear hL hTk hA2 hb1 hb2 hb3
  go_wp2_with (first
   | (go_at_call 54; refine (ZX er pl _).mono ?_; rintro r u ⟨hr, rfl⟩; unfold zV at hr; subst hr))
  exact ⟨rfl, rfl, hB3⟩
