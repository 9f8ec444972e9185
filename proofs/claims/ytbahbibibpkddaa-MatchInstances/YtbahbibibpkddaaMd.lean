/-
  The mathematics of layer 11: a body's facts have as many constants as its literals have terms.
-/
import Derived.Test.YtbahbibibpkddaaMb
namespace Go.Proofs.Ytbahbibibpkddaa
namespace Mt
theorem vals_len {e : Env} {ts : List Tm} {ks : List K} (h : vals e ts = some ks) : ks.length = ts.length := (vals_val h).1.symm
theorem body_ks {home : Tm} {d : Env} : ∀ {ls : List Lt} {fs : List F}, body home d ls = some fs → ∀ i (h1 : i < ls.length) (h2 : i < fs.length), fs[i].ks.length = ls[i].args.length
  | [], fs, h, i, h1, h2 => by simp at h1
  | l :: ls, fs, h, i, h1, h2 => by
    rw [body] at h
    obtain ⟨f, hf, h⟩ := Option.bind_eq_some_iff.1 h
    obtain ⟨fs', hfs, rfl⟩ := Option.map_eq_some_iff.1 h
    match i with
    | 0 => exact vals_len (fact_parts hf).2.2.2
    | i + 1 => exact body_ks hfs i (by simpa using h1) (by simpa using h2)
end Mt
end Go.Proofs.Ytbahbibibpkddaa
