"""What builds upon what: which copies a copy needs."""
