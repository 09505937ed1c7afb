/- The disk as plain data: what stays, what waits, when the power is to go; what each call answers and leaves. No program in it. -/
namespace Go.Proofs.Ytkdonicegffcbaa.DiskM
structure St where
  dur : List (List UInt8)
  pend : List (Nat × List UInt8)
  fl : Option (Nat × Nat × Int)
  dead : Bool
def k65 (c : Int) : Nat := (c % 65).toNat
theorem k65_lt (c : Int) : k65 c < 65 := by unfold k65; omega
def tornS (old new : List UInt8) (k : Nat) : List UInt8 := new.take k ++ old.drop k
theorem tornS_length {old new : List UInt8} (k : Nat) (ho : old.length = 64) (hn : new.length = 64) (hk : k ≤ 64) : (tornS old new k).length = 64 := by simp [tornS, ho, hn]; omega
/-- Does write i stay? -/
def stays (bits i : Nat) : Bool := bits / 2 ^ (i % 64) % 2 == 1
def fallStep (bits : Nat) (cut : Int) (n : Nat) (dur : List (List UInt8)) (i : Nat) (p : Nat × List UInt8) : List (List UInt8) :=
  if stays bits i then dur.set p.1 (if i + 1 = n then tornS (dur.getD p.1 []) p.2 (k65 cut) else p.2) else dur
def fallTo (dur : List (List UInt8)) (pend : List (Nat × List UInt8)) (bits : Nat) (cut : Int) : Nat → List (List UInt8)
  | 0 => dur
  | j + 1 => match pend[j]? with
    | some p => fallStep bits cut pend.length (fallTo dur pend bits cut j) j p
    | none => fallTo dur pend bits cut j
def lose (S : St) (bits : Nat) (cut : Int) : St := ⟨fallTo S.dur S.pend bits cut S.pend.length, [], none, true⟩
def tick (S : St) : Bool × St := match S.fl with
  | none => (false, S)
  | some (0, b, c) => (true, lose S b c)
  | some (n + 1, b, c) => (false, { S with fl := some (n, b, c) })
def lastW : List (Nat × List UInt8) → Nat → Option (List UInt8)
  | [], _ => none
  | p :: l, k => match lastW l k with
    | some s => some s
    | none => if p.1 = k then some p.2 else none
theorem lastW_snoc (p : Nat × List UInt8) (k : Nat) : ∀ l, lastW (l ++ [p]) k = if p.1 = k then some p.2 else lastW l k
  | [] => by simp [lastW]
  | q :: l => by
    simp only [List.cons_append, lastW, lastW_snoc p k l]
    by_cases h : p.1 = k
    · simp [h]
    · simp [h]
theorem lastW_mem {k : Nat} {s : List UInt8} : ∀ {l : List (Nat × List UInt8)}, lastW l k = some s → (k, s) ∈ l
  | [], h => by simp [lastW] at h
  | p :: l, h => by
    unfold lastW at h
    cases e : lastW l k with
    | some u => rw [e] at h; simp at h; subst h; exact List.mem_cons_of_mem _ (lastW_mem e)
    | none =>
      rw [e] at h; simp at h
      obtain ⟨rfl, rfl⟩ := h
      exact List.mem_cons_self
def flushAll : List (List UInt8) → List (Nat × List UInt8) → List (List UInt8)
  | dur, [] => dur
  | dur, p :: l => flushAll (dur.set p.1 p.2) l
theorem flushAll_length : ∀ (l : List (Nat × List UInt8)) (dur : List (List UInt8)), (flushAll dur l).length = dur.length
  | [], _ => rfl
  | p :: l, dur => by unfold flushAll; rw [flushAll_length l]; simp
theorem flushAll_at (k : Nat) : ∀ (l : List (Nat × List UInt8)) (dur : List (List UInt8)), k < dur.length → (flushAll dur l)[k]? = match lastW l k with | some s => some s | none => dur[k]?
  | [], _, _ => rfl
  | p :: l, dur, h => by
    unfold flushAll
    rw [flushAll_at k l _ (by simpa using h)]
    simp only [lastW]
    cases lastW l k with
    | some s => rfl
    | none =>
      simp only
      by_cases e : p.1 = k
      · subst e; simp [h]
      · rw [if_neg e, List.getElem?_set_ne e]
def cur (S : St) (k : Nat) : List UInt8 := (lastW S.pend k).getD (S.dur.getD k [])
/-- The calls: what each answers, and what it leaves. -/
def wr (S : St) (at_ : Int) (l : List UInt8) : Nat × St :=
  if S.dead then (30, S) else if at_ < 0 ∨ (S.dur.length : Int) ≤ at_ then (9, S) else if l.length ≠ 64 then (2, S)
  else if (tick S).1 then (30, (tick S).2) else (0, { (tick S).2 with pend := (tick S).2.pend ++ [(at_.toNat, l)] })
def rdE (S : St) (at_ : Int) : Nat := if S.dead then 30 else if at_ < 0 ∨ (S.dur.length : Int) ≤ at_ then 9 else 0
def rdB (S : St) (at_ : Int) : List UInt8 := if rdE S at_ = 0 then cur S at_.toNat else []
def flu (S : St) : Nat × St := if S.dead then (30, S) else if (tick S).1 then (30, (tick S).2) else (0, { (tick S).2 with dur := flushAll (tick S).2.dur (tick S).2.pend, pend := [] })
def fai (S : St) (n : Int) (bits : Nat) (cut : Int) : Nat × St := if S.dead then (30, S) else (0, { S with fl := if n < 0 then none else some (n.toNat, bits, cut) })
def cra (S : St) (bits : Nat) (cut : Int) : Nat × St := if S.dead then (30, S) else (0, lose S bits cut)
def boo (S : St) : St := { S with dead := false, fl := none }
/-- A state that a disk may be in. -/
structure OK (S : St) : Prop where
  some_ : 1 ≤ S.dur.length
  few : S.dur.length ≤ 512
  secs : ∀ s ∈ S.dur, s.length = 64
  waits : ∀ p ∈ S.pend, p.1 < S.dur.length ∧ p.2.length = 64
  sched : ∀ n b c, S.fl = some (n, b, c) → n ≤ 9223372036854775807 ∧ b < 18446744073709551616 ∧ -9223372036854775808 ≤ c ∧ c ≤ 9223372036854775807
theorem mem_set_secs {l : List (List UInt8)} {i : Nat} {s : List UInt8} (h : ∀ s ∈ l, s.length = 64) (hs : s.length = 64) : ∀ x ∈ l.set i s, x.length = 64 := fun x hx => by
  rcases List.mem_or_eq_of_mem_set hx with h1 | h1
  · exact h x h1
  · rw [h1]; exact hs
theorem getD_secs {l : List (List UInt8)} {i : Nat} (h : ∀ s ∈ l, s.length = 64) (hi : i < l.length) : (l.getD i []).length = 64 := by
  simp only [List.getD, List.getElem?_eq_getElem hi, Option.getD_some]; exact h _ (List.getElem_mem hi)
theorem fallStep_ok {bits n i : Nat} {cut : Int} {dur : List (List UInt8)} {p : Nat × List UInt8} (h : ∀ s ∈ dur, s.length = 64) (hp : p.1 < dur.length) (hl : p.2.length = 64) : (fallStep bits cut n dur i p).length = dur.length ∧ ∀ s ∈ fallStep bits cut n dur i p, s.length = 64 := by
  unfold fallStep
  split
  · refine ⟨by simp, mem_set_secs h ?_⟩
    split
    · exact tornS_length _ (getD_secs h hp) hl (by have := k65_lt cut; omega)
    · exact hl
  · exact ⟨rfl, h⟩
theorem fallTo_ok {bits : Nat} {cut : Int} {dur : List (List UInt8)} {pend : List (Nat × List UInt8)} (h : ∀ s ∈ dur, s.length = 64) (hp : ∀ p ∈ pend, p.1 < dur.length ∧ p.2.length = 64) : ∀ j, (fallTo dur pend bits cut j).length = dur.length ∧ ∀ s ∈ fallTo dur pend bits cut j, s.length = 64
  | 0 => ⟨rfl, h⟩
  | j + 1 => by
    obtain ⟨h1, h2⟩ := fallTo_ok h hp j (bits := bits) (cut := cut)
    unfold fallTo
    cases e : pend[j]? with
    | none => exact ⟨h1, h2⟩
    | some p =>
      have hm := hp p (List.mem_of_getElem? e)
      have := fallStep_ok (bits := bits) (n := pend.length) (i := j) (cut := cut) h2 (by rw [h1]; exact hm.1) hm.2
      exact ⟨this.1.trans h1, this.2⟩
theorem OK.lose {S : St} (h : OK S) (bits : Nat) (cut : Int) : OK (lose S bits cut) := by
  obtain ⟨h1, h2⟩ := fallTo_ok (bits := bits) (cut := cut) h.secs h.waits S.pend.length
  exact ⟨by rw [DiskM.lose, h1]; exact h.some_, by rw [DiskM.lose, h1]; exact h.few, h2, by simp [DiskM.lose], by simp [DiskM.lose]⟩
theorem OK.tick {S : St} (h : OK S) : OK (tick S).2 := by
  unfold DiskM.tick
  split
  · exact h
  · exact h.lose _ _
  · rename_i n b c e
    have := h.sched _ _ _ e
    exact ⟨h.some_, h.few, h.secs, h.waits, fun n' b' c' e' => by
      injection e' with e'
      simp only [Prod.mk.injEq] at e'
      obtain ⟨rfl, rfl, rfl⟩ := e'
      omega⟩
theorem lose_dur_length {S : St} (h : OK S) (bits : Nat) (cut : Int) : (DiskM.lose S bits cut).dur.length = S.dur.length := (fallTo_ok (bits := bits) (cut := cut) h.secs h.waits S.pend.length).1
theorem tick_length {S : St} (h : OK S) : (DiskM.tick S).2.dur.length = S.dur.length := by
  unfold DiskM.tick
  split
  · rfl
  · exact lose_dur_length h _ _
  · rfl
theorem OK.wr {S : St} (h : OK S) (at_ : Int) (l : List UInt8) : OK (wr S at_ l).2 := by
  unfold DiskM.wr
  split
  · exact h
  split
  · exact h
  split
  · exact h
  rename_i ha hl
  have ht := h.tick
  split
  · exact ht
  · refine ⟨ht.some_, ht.few, ht.secs, fun p hp => ?_, ht.sched⟩
    rcases List.mem_append.1 hp with hp | hp
    · exact ht.waits p hp
    · simp only [List.mem_singleton] at hp; subst hp
      have := tick_length h
      simp only; omega
theorem flushAll_secs : ∀ (l : List (Nat × List UInt8)) (dur : List (List UInt8)), (∀ s ∈ dur, s.length = 64) → (∀ p ∈ l, p.2.length = 64) → ∀ s ∈ flushAll dur l, s.length = 64
  | [], _, h, _ => h
  | p :: l, dur, h, hp => by
    unfold flushAll
    exact flushAll_secs l _ (mem_set_secs h (hp p (by simp))) (fun q hq => hp q (by simp [hq]))
theorem OK.flu {S : St} (h : OK S) : OK (flu S).2 := by
  unfold DiskM.flu
  split
  · exact h
  have ht := h.tick
  split
  · exact ht
  · exact ⟨by simpa [flushAll_length] using ht.some_, by simpa [flushAll_length] using ht.few, flushAll_secs _ _ ht.secs (fun p hp => (ht.waits p hp).2), by simp, ht.sched⟩
theorem OK.fai {S : St} (h : OK S) {n : Int} {bits : Nat} {cut : Int} (hn : n ≤ 9223372036854775807) (hb : bits < 18446744073709551616) (hc : -9223372036854775808 ≤ cut ∧ cut ≤ 9223372036854775807) : OK (fai S n bits cut).2 := by
  unfold DiskM.fai
  split
  · exact h
  · refine ⟨h.some_, h.few, h.secs, h.waits, fun n' b' c' e => ?_⟩
    simp only at e
    split at e
    · cases e
    · injection e with e
      simp only [Prod.mk.injEq] at e
      obtain ⟨rfl, rfl, rfl⟩ := e
      omega
theorem OK.cra {S : St} (h : OK S) (bits : Nat) (cut : Int) : OK (cra S bits cut).2 := by
  unfold DiskM.cra
  split
  · exact h
  · exact h.lose _ _
theorem OK.boo {S : St} (h : OK S) : OK (boo S) := ⟨h.some_, h.few, h.secs, h.waits, by simp [DiskM.boo]⟩
def fresh (n : Nat) : St := ⟨List.replicate n (List.replicate 64 0), [], none, false⟩
theorem OK.fresh {n : Nat} (h : 1 ≤ n) (h2 : n ≤ 512) : OK (fresh n) :=
  ⟨by simpa [DiskM.fresh] using h, by simpa [DiskM.fresh] using h2, fun s hs => by simp only [DiskM.fresh] at hs; rw [(List.mem_replicate.1 hs).2]; simp, by simp [DiskM.fresh], by simp [DiskM.fresh]⟩
theorem cur_length {S : St} (h : OK S) {k : Nat} (hk : k < S.dur.length) : (cur S k).length = 64 := by
  unfold cur
  cases e : lastW S.pend k with
  | none => exact getD_secs h.secs hk
  | some s => exact (h.waits _ (lastW_mem e)).2
end Go.Proofs.Ytkdonicegffcbaa.DiskM
