"""Planes of finitely many points; the calls stand in finiteplanes.planes."""
