/- What is put is read as it was, and what is read has those bytes: prefixes, actions, events. -/
import Derived.Test.YtopabkkapbaibaaGreatMsgPut2
import Derived.Test.YtopabkkapbaibaaGreatMsgEv
set_option linter.unusedVariables false
namespace Go.Proofs.YtopabkkapbaibaaGreat.Msg
open Go.Proofs.YtopabkkapbaibaaGreat.Addr (Pf okP checkP wideN firstN kP hiN loN)

theorem fI_put (n : Nat) (m : List UInt8) (h : n ≤ 9223372036854775807) : fI (putL n ++ m) = some ((n : Int), m) := by
  unfold fI
  rw [rdN_put n m (by omega)]
  simp only
  rw [if_pos h]
theorem fI_back {l r : List UInt8} {v : Int} (h : fI l = some (v, r)) : 0 ≤ v ∧ l = putL v.toNat ++ r := by
  unfold fI at h
  cases hr : rdN l with
  | none => rw [hr] at h; simp at h
  | some p =>
    obtain ⟨n, q⟩ := p
    rw [hr] at h
    simp only at h
    split at h
    · simp at h
      obtain ⟨rfl, rfl⟩ := h
      exact ⟨by omega, by rw [Int.toNat_natCast]; exact (rdN_back hr).2⟩
    · cases h
/-- a part that was there -/
theorem part_inv {α : Type} {z : α} {f : List UInt8 → Option (α × List UInt8)} {st : Option (List UInt8)} {r : List UInt8} (h : (part z f st).2 = some r) : ∃ l, st = some l ∧ f l = some ((part z f st).1, r) := by
  cases st with
  | none => simp [part] at h
  | some l =>
    cases hs : f l with
    | none => rw [part_no hs] at h; cases h
    | some p =>
      obtain ⟨v, q⟩ := p
      rw [part_yes hs] at h ⊢
      simp at h
      subst h
      exact ⟨l, rfl, hs⟩
theorem ofNat_byte (k : Nat) (h : k ≤ 255) : (UInt8.ofNat k).toNat = k := UInt8.toNat_ofNat_of_lt' (by show k < 256; omega)
theorem f1_put (k : Nat) (m : List UInt8) (h : k ≤ 255) : part (0 : Nat) f1 (some (UInt8.ofNat k :: m)) = (k, some m) := by
  show ((UInt8.ofNat k).toNat, some m) = _
  rw [ofNat_byte k h]
theorem f1_back {l r : List UInt8} {v : Nat} (h : f1 l = some (v, r)) : l = UInt8.ofNat v :: r := by
  cases l with
  | nil => simp [f1] at h
  | cons b t =>
    simp [f1] at h
    obtain ⟨rfl, rfl⟩ := h
    simp
theorem rdA_put (a : Ac) (m : List UInt8) (h : okA a = true) : rdA (some (actB a ++ m)) = (a, some m) := by
  obtain ⟨⟨h1, h2⟩, ⟨h3, h4⟩, h5⟩ := okA_bd h
  obtain ⟨k, i⟩ := a
  simp only at *
  unfold actB
  simp only
  by_cases hk : k = 1
  · subst hk
    rw [if_pos rfl]
    have e1 := f1_put 1 (putL i.toNat ++ m) (by omega)
    have e2 : part (0 : Int) fI (some (putL i.toNat ++ m)) = (i, some m) := by rw [part_yes (fI_put i.toNat m (by omega)), Int.toNat_of_nonneg h3]
    unfold rdA
    simp only [List.cons_append, e1, e2, if_true]
  · rw [if_neg hk]
    have e1 := f1_put k m (by omega)
    have hi : i = 0 := by rcases h5 with h | h; exact absurd h hk; exact h
    subst hi
    unfold rdA
    simp only [List.cons_append, List.nil_append, e1, hk, if_false]
theorem rdA_back {st : Option (List UInt8)} {r : List UInt8} (h : (rdA st).2 = some r) (ho : okA (rdA st).1 = true) : ∃ l, st = some l ∧ l = actB (rdA st).1 ++ r := by
  unfold rdA at h ho ⊢
  by_cases hk : (part (0 : Nat) f1 st).1 = 1
  · rw [if_pos hk] at h ho ⊢
    simp only at h ho ⊢
    obtain ⟨l1, e1, e2⟩ := part_inv h
    obtain ⟨l0, e3, e4⟩ := part_inv e1
    refine ⟨l0, e3, ?_⟩
    rw [hk] at e4
    rw [f1_back e4, (fI_back e2).2]
    rfl
  · rw [if_neg hk] at h ho ⊢
    simp only at h ho ⊢
    obtain ⟨l0, e3, e4⟩ := part_inv h
    refine ⟨l0, e3, ?_⟩
    unfold actB
    simp only
    rw [if_neg hk, f1_back e4]
    rfl
theorem rdP_inv {st : Option (List UInt8)} {r : List UInt8} (h : (rdP st).2 = some r) (ho : okP (rdP st).1 = true) : ∃ l, st = some l ∧ l = prefB (rdP st).1 ++ r := by
  have h1 : (part 0 (fAd (part false fSix st).1 (manyN (part 0 f1 (part false fSix st).2).1)) (part 0 f1 (part false fSix st).2).2).2 = some r := h
  obtain ⟨l2, e2, _⟩ := part_inv h1
  obtain ⟨l1, e1, _⟩ := part_inv e2
  obtain ⟨l0, e0, _⟩ := part_inv e1
  refine ⟨l0, e0, ?_⟩
  subst e0
  exact rdP_back (Prod.ext rfl h) ho
theorem un_zero {e : Ev} (h : unN e = zeroE) : (¬ (e.kind = 3 ∨ e.kind = 4) → e.pf = zeroPf) ∧ (¬ e.kind = 3 → e.act = zeroA) ∧ (¬ (e.kind = 5 ∨ e.kind = 6) → e.iface = 0) ∧ (¬ e.kind = 5 → e.peer = 0) := by
  unfold unN zeroE at h
  injection h with _ _ _ _ h1 h2 h3 h4
  refine ⟨fun hk => ?_, fun hk => ?_, fun hk => ?_, fun hk => ?_⟩
  · rw [if_neg hk] at h1; exact h1
  · rw [if_neg hk] at h2; exact h2
  · rw [if_neg hk] at h3; exact h3
  · rw [if_neg hk] at h4; exact h4
theorem rdE_put (e : Ev) (m : List UInt8) (h : okE e = true) : rdE (some (evB e ++ m)) = (e, some m) := by
  obtain ⟨⟨hk, hr, hs, ht⟩, ⟨hp, hi, hj, ha⟩, hu⟩ := okE_bd h
  obtain ⟨u1, u2, u3, u4⟩ := un_zero hu
  obtain ⟨k, a, b, c, pf, ac, i, p⟩ := e
  simp only at *
  have e0 : evB ⟨k, a, b, c, pf, ac, i, p⟩ ++ m = UInt8.ofNat k :: (putL a.toNat ++ (putL b ++ (putL c.toNat ++ (restB ⟨k, a, b, c, pf, ac, i, p⟩ ++ m)))) := by
    unfold evB; simp
  rw [e0]
  unfold rdE
  have e1 := f1_put k (putL a.toNat ++ (putL b ++ (putL c.toNat ++ (restB ⟨k, a, b, c, pf, ac, i, p⟩ ++ m)))) (by omega)
  have e2 : part (0 : Int) fI (some (putL a.toNat ++ (putL b ++ (putL c.toNat ++ (restB ⟨k, a, b, c, pf, ac, i, p⟩ ++ m))))) = (a, some (putL b ++ (putL c.toNat ++ (restB ⟨k, a, b, c, pf, ac, i, p⟩ ++ m)))) := by rw [part_yes (fI_put a.toNat _ (by omega)), Int.toNat_of_nonneg hr.1]
  have e3 : part (0 : Nat) rdN (some (putL b ++ (putL c.toNat ++ (restB ⟨k, a, b, c, pf, ac, i, p⟩ ++ m)))) = (b, some (putL c.toNat ++ (restB ⟨k, a, b, c, pf, ac, i, p⟩ ++ m))) := part_yes (rdN_put b _ (by omega))
  have e4 : part (0 : Int) fI (some (putL c.toNat ++ (restB ⟨k, a, b, c, pf, ac, i, p⟩ ++ m))) = (c, some (restB ⟨k, a, b, c, pf, ac, i, p⟩ ++ m)) := by rw [part_yes (fI_put c.toNat _ (by omega)), Int.toNat_of_nonneg ht.1]
  simp only [e1, e2, e3, e4]
  unfold rdRest restB
  simp only
  by_cases h3 : k = 3
  · subst h3
    simp only [if_true]
    have q1 := rdP_put pf (actB ac ++ m) hp
    have q2 := rdA_put ac m (ha rfl)
    rw [List.append_assoc]
    simp only [q1, q2]
    rw [u3 (by decide), u4 (by decide)]
  · rw [if_neg h3, if_neg h3]
    by_cases h4 : k = 4
    · subst h4
      simp only [if_true]
      have q1 := rdP_put pf m hp
      simp only [q1]
      rw [u2 (by decide), u3 (by decide), u4 (by decide)]
    · rw [if_neg h4, if_neg h4]
      by_cases h5 : k = 5
      · subst h5
        simp only [if_true]
        have q1 : part (0 : Int) fI (some (putL i.toNat ++ (putL p.toNat ++ m))) = (i, some (putL p.toNat ++ m)) := by rw [part_yes (fI_put i.toNat _ (by omega)), Int.toNat_of_nonneg hi.1]
        have q2 : part (0 : Int) fI (some (putL p.toNat ++ m)) = (p, some m) := by rw [part_yes (fI_put p.toNat _ (by omega)), Int.toNat_of_nonneg hj.1]
        rw [List.append_assoc]
        simp only [q1, q2]
        rw [u1 (by decide), u2 (by decide)]
      · rw [if_neg h5, if_neg h5]
        by_cases h6 : k = 6
        · subst h6
          simp only [if_true]
          have q1 : part (0 : Int) fI (some (putL i.toNat ++ m)) = (i, some m) := by rw [part_yes (fI_put i.toNat _ (by omega)), Int.toNat_of_nonneg hi.1]
          simp only [q1]
          rw [u1 (by decide), u2 (by decide), u4 (by decide)]
        · rw [if_neg h6, if_neg h6, u1 (by omega), u2 h3, u3 (by omega), u4 h5]
          rfl
theorem rdE_back {l r : List UInt8} (h : (rdE (some l)).2 = some r) (ho : okE (rdE (some l)).1 = true) : l = evB (rdE (some l)).1 ++ r := by
  obtain ⟨⟨hk, hr, hs, ht⟩, ⟨hp, hi, hj, ha⟩, hu⟩ := okE_bd ho
  unfold rdE at h ho hp ha ⊢
  generalize hP1 : part (0 : Nat) f1 (some l) = P1 at *
  obtain ⟨k, s1⟩ := P1
  simp only at *
  generalize hP2 : part (0 : Int) fI s1 = P2 at *
  obtain ⟨a, s2⟩ := P2
  simp only at *
  generalize hP3 : part (0 : Nat) rdN s2 = P3 at *
  obtain ⟨b, s3⟩ := P3
  simp only at *
  generalize hP4 : part (0 : Int) fI s3 = P4 at *
  obtain ⟨c, s4⟩ := P4
  simp only at *
  have key : ∃ l4, s4 = some l4 ∧ l4 = restB (rdRest k a b c s4).1 ++ r ∧ (rdRest k a b c s4).1.kind = k ∧ (rdRest k a b c s4).1.router = a ∧ (rdRest k a b c s4).1.seq = b ∧ (rdRest k a b c s4).1.time = c := by
    clear hP1 hP2 hP3 hP4 hi hj hk hr hs ht hu ho
    unfold rdRest restB at *
    by_cases h3 : k = 3
    · simp only [h3, if_true] at h hp ha ⊢
      obtain ⟨l5, e5, e6⟩ := rdA_back h (ha (by trivial))
      obtain ⟨l4, e7, e8⟩ := rdP_inv e5 hp
      exact ⟨l4, e7, by rw [e8, e6, List.append_assoc], by trivial, by trivial, by trivial, by trivial⟩
    · simp only [h3, if_false] at h hp ha ⊢
      by_cases h4 : k = 4
      · simp only [h4, if_true] at h hp ha ⊢
        obtain ⟨l4, e7, e8⟩ := rdP_inv h hp
        exact ⟨l4, e7, e8, by trivial, by trivial, by trivial, by trivial⟩
      · simp only [h4, if_false] at h hp ha ⊢
        by_cases h5 : k = 5
        · simp only [h5, if_true] at h hp ha ⊢
          obtain ⟨l5, e5, e6⟩ := part_inv h
          obtain ⟨l4, e7, e8⟩ := part_inv e5
          exact ⟨l4, e7, by rw [(fI_back e8).2, (fI_back e6).2]; simp, by trivial, by trivial, by trivial, by trivial⟩
        · simp only [h5, if_false] at h hp ha ⊢
          by_cases h6 : k = 6
          · simp only [h6, if_true] at h hp ha ⊢
            obtain ⟨l4, e7, e8⟩ := part_inv h
            exact ⟨l4, e7, by rw [(fI_back e8).2]; simp, by trivial, by trivial, by trivial, by trivial⟩
          · simp only [h6, if_false] at h hp ha ⊢
            exact ⟨r, h, by simp [h3, h4, h5], by trivial, by trivial, by trivial, by trivial⟩
  obtain ⟨l4, e4, er, k1, k2, k3, k4⟩ := key
  obtain ⟨l3, e3, f4⟩ := part_inv (z := (0 : Int)) (f := fI) (st := s3) (r := l4) (by rw [hP4]; exact e4)
  obtain ⟨l2, e2, f3⟩ := part_inv (z := (0 : Nat)) (f := rdN) (st := s2) (r := l3) (by rw [hP3]; exact e3)
  obtain ⟨l1, e1, f2⟩ := part_inv (z := (0 : Int)) (f := fI) (st := s1) (r := l2) (by rw [hP2]; exact e2)
  obtain ⟨l0, e0, f1'⟩ := part_inv (z := (0 : Nat)) (f := f1) (st := some l) (r := l1) (by rw [hP1]; exact e1)
  rw [hP4] at f4
  rw [hP3] at f3
  rw [hP2] at f2
  rw [hP1] at f1'
  injection e0 with e0
  subst e0
  simp only at f4 f3 f2 f1'
  unfold evB
  rw [k1, k2, k3, k4, f1_back f1', (fI_back f2).2, (rdN_back f3).2, (fI_back f4).2, er]
  simp
end Go.Proofs.YtopabkkapbaibaaGreat.Msg
